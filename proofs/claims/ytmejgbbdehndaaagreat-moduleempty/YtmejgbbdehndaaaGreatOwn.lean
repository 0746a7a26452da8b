/-
  Instructions in memory that a call has made: rows of its own, and that they read as instructions; what stays of them behind what leaves their blocks alone; no condition.
-/
import Derived.Test.YtmejgbbdehndaaaGreatPlace
import Derived.Test.YtmejgbbdehndaaaGreatParts
namespace Go.Proofs.YtmejgbbdehndaaaGreat
open Go.RowKit
theorem ownsRow_agree {w w' : World} {b e s n : Nat} {v : Value} {xs : List Value} (h : w.ownsRow b e s v n xs) (ha : ∀ g, v.ownBlock = some g → w'.heap[g]? = w.heap[g]?) : w'.ownsRow b e s v n xs := by
  refine ⟨h.1, ?_⟩
  rcases h.2 with hn | ⟨g, cap, cur, rfl, hb, hgg, rest⟩
  · exact .inl hn
  · exact .inr ⟨g, cap, cur, rfl, hb, by rw [ha g rfl]; exact hgg, rest⟩
theorem ownsRow_base {w : World} {b c e s n : Nat} {v : Value} {xs : List Value} (h : w.ownsRow b e s v n xs) (hc : ∀ g, v.ownBlock = some g → c ≤ g) : w.ownsRow c e s v n xs := by
  refine ⟨h.1, ?_⟩
  rcases h.2 with hn | ⟨g, cap, cur, rfl, hb, rest⟩
  · exact .inl hn
  · exact .inr ⟨g, cap, cur, rfl, hc g rfl, rest⟩
/-- Numbers in a row of one's own, in a block of S. -/
structure OwnN (w : World) (S : Nat → Prop) (v : Value) (xs : List Int) : Prop where
  row : w.ownsRow 0 3 1 v xs.length (nvals xs)
  blk : ∀ g, v.ownBlock = some g → S g
  len : xs.length ≤ 100000
  rng : ∀ x ∈ xs, -9223372036854775808 ≤ x ∧ x ≤ 9223372036854775807
def item9 (h : M.Hd) (vL vB vE : Value) : List Value := [.int .i64 h.op, .int .i64 h.ty, .int .i64 h.ix, .int .i64 h.al, .int .i64 h.ofs, .int .i64 h.val, vL, vB, vE]
/-- A row's cells are these instructions. -/
def Items (w : World) (S : Nat → Prop) : M.L → List Value → Prop
  | .nil, xs => xs = []
  | .cons h b e r, xs => ∃ vL vB vE ys, xs = item9 h vL vB vE ++ ys ∧ Rng h ∧ OwnN w S vL h.labels ∧
      (∃ xb, w.ownsRow 0 68 9 vB b.len xb ∧ (∀ g, vB.ownBlock = some g → S g) ∧ b.len ≤ 100000 ∧ Items w S b xb) ∧
      (∃ xe, w.ownsRow 0 68 9 vE e.len xe ∧ (∀ g, vE.ownBlock = some g → S g) ∧ e.len ≤ 100000 ∧ Items w S e xe) ∧ Items w S r ys
/-- Instructions in rows of one's own, in blocks of S. -/
def OwnL (w : World) (S : Nat → Prop) (v : Value) (l : M.L) : Prop :=
  ∃ xs, w.ownsRow 0 68 9 v l.len xs ∧ (∀ g, v.ownBlock = some g → S g) ∧ l.len ≤ 100000 ∧ Items w S l xs
theorem OwnN.agree {w w' : World} {S U : Nat → Prop} {v : Value} {xs : List Int} (h : OwnN w S v xs) (ha : Agree S w w') (hu : ∀ k, S k → U k) : OwnN w' U v xs :=
  ⟨ownsRow_agree h.row fun g hg => ha g (h.blk g hg), fun g hg => hu g (h.blk g hg), h.len, h.rng⟩
theorem Items.agree {w w' : World} {S U : Nat → Prop} (ha : Agree S w w') (hu : ∀ k, S k → U k) (l : M.L) : ∀ xs, Items w S l xs → Items w' U l xs := by
  induction l with
  | nil => intro xs h; exact h
  | cons h b e r ihb ihe ihr =>
    rintro xs ⟨vL, vB, vE, ys, h1, h2, h3, ⟨xb, b1, b2, b3, b4⟩, ⟨xe, e1, e2, e3, e4⟩, h6⟩
    exact ⟨vL, vB, vE, ys, h1, h2, h3.agree ha hu, ⟨xb, ownsRow_agree b1 fun g hg => ha g (b2 g hg), fun g hg => hu g (b2 g hg), b3, ihb xb b4⟩,
      ⟨xe, ownsRow_agree e1 fun g hg => ha g (e2 g hg), fun g hg => hu g (e2 g hg), e3, ihe xe e4⟩, ihr ys h6⟩
theorem OwnL.agree {w w' : World} {S U : Nat → Prop} {v : Value} {l : M.L} (h : OwnL w S v l) (ha : Agree S w w') (hu : ∀ k, S k → U k) : OwnL w' U v l := by
  obtain ⟨xs, h1, h2, h3, h4⟩ := h
  exact ⟨xs, ownsRow_agree h1 fun g hg => ha g (h2 g hg), fun g hg => hu g (h2 g hg), h3, h4.agree ha hu l⟩
theorem OwnL.nil (w : World) (S : Nat → Prop) : OwnL w S (.slice none 0 0) .nil := ⟨[], World.ownsRow_nil _ _ _ _, (fun g hg => by cases hg), by simp [M.L.len], rfl⟩
theorem OwnN.nil (w : World) (S : Nat → Prop) : OwnN w S (.slice none 0 0) [] := ⟨World.ownsRow_nil _ _ _ _, (fun g hg => by cases hg), by simp, fun x hx => by cases hx⟩
theorem Items.app {w : World} {S : Nat → Prop} {h : M.Hd} {b e : M.L} {vL vB vE : Value} (h2 : Rng h) (h3 : OwnN w S vL h.labels) (h4 : OwnL w S vB b) (h5 : OwnL w S vE e) (l : M.L) : ∀ xs, Items w S l xs → Items w S (l.app (.cons h b e .nil)) (xs ++ item9 h vL vB vE) := by
  induction l with
  | nil =>
    intro xs hx
    have hx : xs = [] := hx
    subst hx
    exact ⟨vL, vB, vE, [], by simp, h2, h3, h4, h5, rfl⟩
  | cons h' b' e' r _ _ ihr =>
    rintro xs ⟨vL', vB', vE', ys, h1, hh⟩
    obtain ⟨q2, q3, q4, q5, q6⟩ := hh
    exact ⟨vL', vB', vE', ys ++ item9 h vL vB vE, by rw [h1, List.append_assoc], q2, q3, q4, q5, ihr ys q6⟩
theorem getD_nvals (xs : List Int) (i : Nat) (h : i < xs.length) : (nvals xs)[i]? = some (.int .i64 (xs.getD i 0)) := by
  unfold nvals
  rw [List.getElem?_map, List.getElem?_eq_getElem h, List.getD_eq_getElem?_getD, List.getElem?_eq_getElem h]
  rfl
theorem OwnN.read {w : World} {S : Nat → Prop} {v : Value} {xs : List Int} (h : OwnN w S v xs) : NS w S v xs := by
  obtain ⟨h1, h2, h3, h4⟩ := h
  rcases h1.2 with ⟨rfl, h0⟩ | ⟨g, cap, cur, rfl, _, hc, hn, hm, _⟩
  · exact ⟨none, 0, by rw [h0], ⟨by omega, by omega, by unfold maxLen; omega⟩, fun i hi => by omega⟩
  · refine ⟨_, _, rfl, ⟨by omega, hn, hm⟩, fun i hi => ⟨⟨g, 0, none⟩, rfl, h2 g rfl, h4 _ (getD_mem hi), ?_⟩⟩
    exact h1.cells (g := g) rfl i _ (getD_nvals xs i hi)
theorem Sl_of_row {w : World} {S : Nat → Prop} {v : Value} {n : Nat} {xs : List Value} {P : Nat → Nat → Prop} (h : w.ownsRow 0 68 9 v n xs) (hb : ∀ g, v.ownBlock = some g → S g) (hn : n ≤ 100000)
    (hP : ∀ g, v.ownBlock = some g → (∀ j u, xs[j]? = some u → w.cell? ⟨g, 0 + j, none⟩ = some u) → P g 0) : Sl S P n v := by
  rcases h.2 with ⟨rfl, h0⟩ | ⟨g, cap, cur, rfl, _, hc, hn', hm, _⟩
  · exact ⟨none, 0, by rw [h0], ⟨by omega, by omega, by unfold maxLen; omega⟩, .inl h0⟩
  · refine ⟨_, _, rfl, ⟨by omega, hn', hm⟩, .inr ⟨g, 0, rfl, hb g rfl, hP g rfl fun j u hu => ?_⟩⟩
    have := h.cells (g := g) rfl j u hu
    rwa [add_none] at this
theorem Items.read {w : World} {S : Nat → Prop} (l : M.L) : ∀ xs g o, Items w S l xs → (∀ j u, xs[j]? = some u → w.cell? ⟨g, o + j, none⟩ = some u) → LA w S l g o := by
  induction l with
  | nil => intro _ _ _ _ _; trivial
  | cons h b e r ihb ihe ihr =>
    rintro xs g o ⟨vL, vB, vE, ys, h1, h2, h3, ⟨xb, b1, b2, b3, b4⟩, ⟨xe, e1, e2, e3, e4⟩, h6⟩ hc
    subst h1
    refine ⟨vL, vB, vE, ⟨hc 0 _ rfl, hc 1 _ rfl, hc 2 _ rfl, hc 3 _ rfl, hc 4 _ rfl, hc 5 _ rfl, hc 6 _ rfl, hc 7 _ rfl, hc 8 _ rfl⟩, h2, h3.read, Sl_of_row b1 b2 b3 fun g' _ hc' => ihb xb g' 0 b4 hc', Sl_of_row e1 e2 e3 fun g' _ hc' => ihe xe g' 0 e4 hc', ihr ys g (o + 9) h6 fun j u hu => ?_⟩
    have := hc (9 + j) u (by rw [List.getElem?_append_right (by simp [item9])]; simpa [item9] using hu)
    rwa [← Nat.add_assoc] at this
theorem OwnL.read {w : World} {S : Nat → Prop} {v : Value} {l : M.L} (h : OwnL w S v l) : LS w S v l := by
  obtain ⟨xs, h1, h2, h3, h4⟩ := h
  exact Sl_of_row h1 h2 h3 fun g _ hc => h4.read l xs g 0 hc
/-- The block of an array of instructions. -/
def Blk (w : World) (g : Nat) (cur : Array Value) : Prop := w.heap[g]? = some (.cells cur 68 (0, 0))
theorem Blk.frozen {w : World} {g : Nat} {cur : Array Value} (h : Blk w g cur) (j : Nat) : w.frozen? ⟨g, j, none⟩ = false := by
  unfold Blk at h
  simp [World.frozen?, h]
theorem Blk.cell {w : World} {g : Nat} {cur : Array Value} (h : Blk w g cur) (j : Nat) : w.cell? ⟨g, j, none⟩ = cur[j]? := by
  unfold Blk at h
  simp [World.cell?, h]
/-- What reading a part of the instruction at o in block g may change: the place, and that instruction's own cells. -/
structure Step (P g o : Nat) (w w' : World) : Prop where
  kb : Kb (fun k => k = P ∨ k = g) w w'
  blk : ∀ cur, Blk w g cur → ∃ cur', Blk w' g cur' ∧ cur'.size = cur.size ∧ ∀ j, (j < o ∨ o + 9 ≤ j) → cur'[j]? = cur[j]?
theorem Step.refl (P g o : Nat) (w : World) : Step P g o w w := ⟨Kb.refl _ _, fun cur h => ⟨cur, h, rfl, fun _ _ => rfl⟩⟩
theorem Step.trans {P g o : Nat} {a b c : World} (h : Step P g o a b) (k : Step P g o b c) : Step P g o a c :=
  ⟨h.kb.trans k.kb, fun cur hc => by
    obtain ⟨c1, h1, h2, h3⟩ := h.blk cur hc
    obtain ⟨c2, k1, k2, k3⟩ := k.blk c1 h1
    exact ⟨c2, k1, k2.trans h2, fun j hj => (k3 j hj).trans (h3 j hj)⟩⟩
theorem Step.of_kb {P g o : Nat} {a b : World} (h : Kb (· = P) a b) (hg : g < a.heap.size) (hgP : g ≠ P) : Step P g o a b :=
  ⟨h.mono fun _ hk => .inl hk, fun cur hc => ⟨cur, by unfold Blk at *; rw [h.block g hg hgP]; exact hc, rfl, fun _ _ => rfl⟩⟩
theorem heap_setCell_row {w : World} {g j : Nat} {cur : Array Value} (h : Blk w g cur) (u : Value) : Blk (w.setCell ⟨g, j, none⟩ u) g (cur.setIfInBounds j u) := by
  have hg : g < w.heap.size := (Array.getElem?_eq_some_iff.1 h).1
  unfold Blk at *
  have e : w.heap[g] = .cells cur 68 (0, 0) := by
    rw [Array.getElem?_eq_getElem hg] at h
    exact Option.some.inj h
  simp [World.setCell, hg, Array.getElem_modify, e]
theorem Step.set {P g o : Nat} (w : World) (j : Nat) (u : Value) (hj : j < 9) : Step P g o w (w.setCell ⟨g, o + j, none⟩ u) :=
  ⟨Kb.setCell (T := fun k => k = P ∨ k = g) (Kb.refl _ _) (p := ⟨g, o + j, none⟩) (.inr rfl) u, fun cur hc => ⟨cur.setIfInBounds (o + j) u, heap_setCell_row hc u, by simp, fun i hi => by rw [Array.getElem?_setIfInBounds]; rw [if_neg (by omega)]⟩⟩
end Go.Proofs.YtmejgbbdehndaaaGreat
