/-
  The ground of the proofs of this seat, put together: Own, Readers, MMem, MReadA, MReadB, XMark. No condition beyond what each text names.
-/
import Derived.Deep.DeepCutAuto
import Derived.Test.YtilaheifccjjeaaGreatXGC
import Derived.Test.YtilaheifccjjeaaGreatXGD
import Derived.Test.YtilaheifccjjeaaGreatXGB
import Derived.Test.YtilaheifccjjeaaGreatXGA
namespace Go.Proofs.YtilaheifccjjeaaGreat
open Go.RowKit
theorem ownsRow_agree {w w' : World} {b e s n : Nat} {v : Value} {xs : List Value} (h : w.ownsRow b e s v n xs) (ha : ∀ g, v.ownBlock = some g → w'.heap[g]? = w.heap[g]?) : w'.ownsRow b e s v n xs := by
  refine ⟨h.1, ?_⟩
  rcases h.2 with hn | ⟨g, cap, cur, rfl, hb, hgg, rest⟩
  · exact .inl hn
  · exact .inr ⟨g, cap, cur, rfl, hb, by rw [ha g rfl]; exact hgg, rest⟩
theorem ownsRow_base {w : World} {b c e s n : Nat} {v : Value} {xs : List Value} (h : w.ownsRow b e s v n xs) (hc : ∀ g, v.ownBlock = some g → c ≤ g) : w.ownsRow c e s v n xs := by
  refine ⟨h.1, ?_⟩
  rcases h.2 with hn | ⟨g, cap, cur, rfl, hb, rest⟩
  · exact .inl hn
  · exact .inr ⟨g, cap, cur, rfl, hc g rfl, rest⟩
/-- Numbers in a row of one's own, in a block of S. -/
structure OwnN (w : World) (S : Nat → Prop) (v : Value) (xs : List Int) : Prop where
  row : w.ownsRow 0 3 1 v xs.length (nvals xs)
  blk : ∀ g, v.ownBlock = some g → S g
  len : xs.length ≤ 100000
  rng : ∀ x ∈ xs, -9223372036854775808 ≤ x ∧ x ≤ 9223372036854775807
def item9 (h : M.Hd) (vL vB vE : Value) : List Value := [.int .i64 h.op, .int .i64 h.ty, .int .i64 h.ix, .int .i64 h.al, .int .i64 h.ofs, .int .i64 h.val, vL, vB, vE]
/-- A row's cells are these instructions. -/
def Items (w : World) (S : Nat → Prop) : M.L → List Value → Prop
  | .nil, xs => xs = []
  | .cons h b e r, xs => ∃ vL vB vE ys, xs = item9 h vL vB vE ++ ys ∧ Rng h ∧ OwnN w S vL h.labels ∧
      (∃ xb, w.ownsRow 0 68 9 vB b.len xb ∧ (∀ g, vB.ownBlock = some g → S g) ∧ b.len ≤ 100000 ∧ Items w S b xb) ∧
      (∃ xe, w.ownsRow 0 68 9 vE e.len xe ∧ (∀ g, vE.ownBlock = some g → S g) ∧ e.len ≤ 100000 ∧ Items w S e xe) ∧ Items w S r ys
/-- Instructions in rows of one's own, in blocks of S. -/
def OwnL (w : World) (S : Nat → Prop) (v : Value) (l : M.L) : Prop :=
  ∃ xs, w.ownsRow 0 68 9 v l.len xs ∧ (∀ g, v.ownBlock = some g → S g) ∧ l.len ≤ 100000 ∧ Items w S l xs
theorem OwnN.agree {w w' : World} {S U : Nat → Prop} {v : Value} {xs : List Int} (h : OwnN w S v xs) (ha : Agree S w w') (hu : ∀ k, S k → U k) : OwnN w' U v xs :=
  ⟨ownsRow_agree h.row fun g hg => ha g (h.blk g hg), fun g hg => hu g (h.blk g hg), h.len, h.rng⟩
theorem Items.agree {w w' : World} {S U : Nat → Prop} (ha : Agree S w w') (hu : ∀ k, S k → U k) (l : M.L) : ∀ xs, Items w S l xs → Items w' U l xs := by
  induction l with
  | nil => intro xs h; exact h
  | cons h b e r ihb ihe ihr =>
    rintro xs ⟨vL, vB, vE, ys, h1, h2, h3, ⟨xb, b1, b2, b3, b4⟩, ⟨xe, e1, e2, e3, e4⟩, h6⟩
    exact ⟨vL, vB, vE, ys, h1, h2, h3.agree ha hu, ⟨xb, ownsRow_agree b1 fun g hg => ha g (b2 g hg), fun g hg => hu g (b2 g hg), b3, ihb xb b4⟩,
      ⟨xe, ownsRow_agree e1 fun g hg => ha g (e2 g hg), fun g hg => hu g (e2 g hg), e3, ihe xe e4⟩, ihr ys h6⟩
theorem OwnL.agree {w w' : World} {S U : Nat → Prop} {v : Value} {l : M.L} (h : OwnL w S v l) (ha : Agree S w w') (hu : ∀ k, S k → U k) : OwnL w' U v l := by
  obtain ⟨xs, h1, h2, h3, h4⟩ := h
  exact ⟨xs, ownsRow_agree h1 fun g hg => ha g (h2 g hg), fun g hg => hu g (h2 g hg), h3, h4.agree ha hu l⟩
theorem OwnL.nil (w : World) (S : Nat → Prop) : OwnL w S (.slice none 0 0) .nil := ⟨[], World.ownsRow_nil _ _ _ _, (fun g hg => by cases hg), by simp [M.L.len], rfl⟩
theorem OwnN.nil (w : World) (S : Nat → Prop) : OwnN w S (.slice none 0 0) [] := ⟨World.ownsRow_nil _ _ _ _, (fun g hg => by cases hg), by simp, fun x hx => by cases hx⟩
theorem Items.app {w : World} {S : Nat → Prop} {h : M.Hd} {b e : M.L} {vL vB vE : Value} (h2 : Rng h) (h3 : OwnN w S vL h.labels) (h4 : OwnL w S vB b) (h5 : OwnL w S vE e) (l : M.L) : ∀ xs, Items w S l xs → Items w S (l.app (.cons h b e .nil)) (xs ++ item9 h vL vB vE) := by
  induction l with
  | nil =>
    intro xs hx
    have hx : xs = [] := hx
    subst hx
    exact ⟨vL, vB, vE, [], by simp, h2, h3, h4, h5, rfl⟩
  | cons h' b' e' r _ _ ihr =>
    rintro xs ⟨vL', vB', vE', ys, h1, hh⟩
    obtain ⟨q2, q3, q4, q5, q6⟩ := hh
    exact ⟨vL', vB', vE', ys ++ item9 h vL vB vE, by rw [h1, List.append_assoc], q2, q3, q4, q5, ihr ys q6⟩
theorem getD_nvals (xs : List Int) (i : Nat) (h : i < xs.length) : (nvals xs)[i]? = some (.int .i64 (xs.getD i 0)) := by
  unfold nvals
  rw [List.getElem?_map, List.getElem?_eq_getElem h, List.getD_eq_getElem?_getD, List.getElem?_eq_getElem h]
  rfl
theorem OwnN.read {w : World} {S : Nat → Prop} {v : Value} {xs : List Int} (h : OwnN w S v xs) : NS w S v xs := by
  obtain ⟨h1, h2, h3, h4⟩ := h
  rcases h1.2 with ⟨rfl, h0⟩ | ⟨g, cap, cur, rfl, _, hc, hn, hm, _⟩
  · exact ⟨none, 0, by rw [h0], ⟨by omega, by omega, by unfold maxLen; omega⟩, fun i hi => by omega⟩
  · refine ⟨_, _, rfl, ⟨by omega, hn, hm⟩, fun i hi => ⟨⟨g, 0, none⟩, rfl, h2 g rfl, h4 _ (getD_mem hi), ?_⟩⟩
    exact h1.cells (g := g) rfl i _ (getD_nvals xs i hi)
theorem Sl_of_row {w : World} {S : Nat → Prop} {v : Value} {n : Nat} {xs : List Value} {P : Nat → Nat → Prop} (h : w.ownsRow 0 68 9 v n xs) (hb : ∀ g, v.ownBlock = some g → S g) (hn : n ≤ 100000)
    (hP : ∀ g, v.ownBlock = some g → (∀ j u, xs[j]? = some u → w.cell? ⟨g, 0 + j, none⟩ = some u) → P g 0) : Sl S P n v := by
  rcases h.2 with ⟨rfl, h0⟩ | ⟨g, cap, cur, rfl, _, hc, hn', hm, _⟩
  · exact ⟨none, 0, by rw [h0], ⟨by omega, by omega, by unfold maxLen; omega⟩, .inl h0⟩
  · refine ⟨_, _, rfl, ⟨by omega, hn', hm⟩, .inr ⟨g, 0, rfl, hb g rfl, hP g rfl fun j u hu => ?_⟩⟩
    have := h.cells (g := g) rfl j u hu
    rwa [add_none] at this
theorem Items.read {w : World} {S : Nat → Prop} (l : M.L) : ∀ xs g o, Items w S l xs → (∀ j u, xs[j]? = some u → w.cell? ⟨g, o + j, none⟩ = some u) → LA w S l g o := by
  induction l with
  | nil => intro _ _ _ _ _; trivial
  | cons h b e r ihb ihe ihr =>
    rintro xs g o ⟨vL, vB, vE, ys, h1, h2, h3, ⟨xb, b1, b2, b3, b4⟩, ⟨xe, e1, e2, e3, e4⟩, h6⟩ hc
    subst h1
    refine ⟨vL, vB, vE, ⟨hc 0 _ rfl, hc 1 _ rfl, hc 2 _ rfl, hc 3 _ rfl, hc 4 _ rfl, hc 5 _ rfl, hc 6 _ rfl, hc 7 _ rfl, hc 8 _ rfl⟩, h2, h3.read, Sl_of_row b1 b2 b3 fun g' _ hc' => ihb xb g' 0 b4 hc', Sl_of_row e1 e2 e3 fun g' _ hc' => ihe xe g' 0 e4 hc', ihr ys g (o + 9) h6 fun j u hu => ?_⟩
    have := hc (9 + j) u (by rw [List.getElem?_append_right (by simp [item9])]; simpa [item9] using hu)
    rwa [← Nat.add_assoc] at this
theorem OwnL.read {w : World} {S : Nat → Prop} {v : Value} {l : M.L} (h : OwnL w S v l) : LS w S v l := by
  obtain ⟨xs, h1, h2, h3, h4⟩ := h
  exact Sl_of_row h1 h2 h3 fun g _ hc => h4.read l xs g 0 hc
/-- The block of an array of instructions. -/
def Blk (w : World) (g : Nat) (cur : Array Value) : Prop := w.heap[g]? = some (.cells cur 68 (0, 0))
theorem Blk.frozen {w : World} {g : Nat} {cur : Array Value} (h : Blk w g cur) (j : Nat) : w.frozen? ⟨g, j, none⟩ = false := by
  unfold Blk at h
  simp [World.frozen?, h]
theorem Blk.cell {w : World} {g : Nat} {cur : Array Value} (h : Blk w g cur) (j : Nat) : w.cell? ⟨g, j, none⟩ = cur[j]? := by
  unfold Blk at h
  simp [World.cell?, h]
/-- What reading a part of the instruction at o in block g may change: the place, and that instruction's own cells. -/
structure Step (P g o : Nat) (w w' : World) : Prop where
  kb : Kb (fun k => k = P ∨ k = g) w w'
  blk : ∀ cur, Blk w g cur → ∃ cur', Blk w' g cur' ∧ cur'.size = cur.size ∧ ∀ j, (j < o ∨ o + 9 ≤ j) → cur'[j]? = cur[j]?
theorem Step.refl (P g o : Nat) (w : World) : Step P g o w w := ⟨Kb.refl _ _, fun cur h => ⟨cur, h, rfl, fun _ _ => rfl⟩⟩
theorem Step.trans {P g o : Nat} {a b c : World} (h : Step P g o a b) (k : Step P g o b c) : Step P g o a c :=
  ⟨h.kb.trans k.kb, fun cur hc => by
    obtain ⟨c1, h1, h2, h3⟩ := h.blk cur hc
    obtain ⟨c2, k1, k2, k3⟩ := k.blk c1 h1
    exact ⟨c2, k1, k2.trans h2, fun j hj => (k3 j hj).trans (h3 j hj)⟩⟩
theorem Step.of_kb {P g o : Nat} {a b : World} (h : Kb (· = P) a b) (hg : g < a.heap.size) (hgP : g ≠ P) : Step P g o a b :=
  ⟨h.mono fun _ hk => .inl hk, fun cur hc => ⟨cur, by unfold Blk at *; rw [h.block g hg hgP]; exact hc, rfl, fun _ _ => rfl⟩⟩
theorem heap_setCell_row {w : World} {g j : Nat} {cur : Array Value} (h : Blk w g cur) (u : Value) : Blk (w.setCell ⟨g, j, none⟩ u) g (cur.setIfInBounds j u) := by
  have hg : g < w.heap.size := (Array.getElem?_eq_some_iff.1 h).1
  unfold Blk at *
  have e : w.heap[g] = .cells cur 68 (0, 0) := by
    rw [Array.getElem?_eq_getElem hg] at h
    exact Option.some.inj h
  simp [World.setCell, hg, Array.getElem_modify, e]
theorem Step.set {P g o : Nat} (w : World) (j : Nat) (u : Value) (hj : j < 9) : Step P g o w (w.setCell ⟨g, o + j, none⟩ u) :=
  ⟨Kb.setCell (T := fun k => k = P ∨ k = g) (Kb.refl _ _) (p := ⟨g, o + j, none⟩) (.inr rfl) u, fun cur hc => ⟨cur.setIfInBounds (o + j) u, heap_setCell_row hc u, by simp, fun i hi => by rw [Array.getElem?_setIfInBounds]; rw [if_neg (by omega)]⟩⟩
end Go.Proofs.YtilaheifccjjeaaGreat
namespace Go.Proofs.YtilaheifccjjeaaGreat
open Go.RowKit
theorem off_ne {w : World} {g i j : Nat} {v : Value} (h : i ≠ j) : (w.setCell ⟨g, i, none⟩ v).cell? ⟨g, j, none⟩ = w.cell? ⟨g, j, none⟩ := World.cell?_setCell_other _ _ _ _ (by intro e; cases e; exact h rfl)
theorem ItemAt.put0 {w : World} {g o : Nat} {h : M.Hd} {vL vB vE : Value} (hi : ItemAt w g o h vL vB vE) (u : Int) : ItemAt (w.setCell ⟨g, o, none⟩ (.int .i64 u)) g o { h with op := u } vL vB vE := by
  obtain ⟨c0, c1, c2, c3, c4, c5, c6, c7, c8⟩ := hi
  exact ⟨World.cell?_setCell_same _ _ _ c0, (off_ne (by omega)).trans c1, (off_ne (by omega)).trans c2, (off_ne (by omega)).trans c3, (off_ne (by omega)).trans c4, (off_ne (by omega)).trans c5, (off_ne (by omega)).trans c6, (off_ne (by omega)).trans c7, (off_ne (by omega)).trans c8⟩
theorem ItemAt.put1 {w : World} {g o : Nat} {h : M.Hd} {vL vB vE : Value} (hi : ItemAt w g o h vL vB vE) (u : Int) : ItemAt (w.setCell ⟨g, o + 1, none⟩ (.int .i64 u)) g o { h with ty := u } vL vB vE := by
  obtain ⟨c0, c1, c2, c3, c4, c5, c6, c7, c8⟩ := hi
  exact ⟨(off_ne (by omega)).trans c0, World.cell?_setCell_same _ _ _ c1, (off_ne (by omega)).trans c2, (off_ne (by omega)).trans c3, (off_ne (by omega)).trans c4, (off_ne (by omega)).trans c5, (off_ne (by omega)).trans c6, (off_ne (by omega)).trans c7, (off_ne (by omega)).trans c8⟩
theorem ItemAt.put2 {w : World} {g o : Nat} {h : M.Hd} {vL vB vE : Value} (hi : ItemAt w g o h vL vB vE) (u : Int) : ItemAt (w.setCell ⟨g, o + 2, none⟩ (.int .i64 u)) g o { h with ix := u } vL vB vE := by
  obtain ⟨c0, c1, c2, c3, c4, c5, c6, c7, c8⟩ := hi
  exact ⟨(off_ne (by omega)).trans c0, (off_ne (by omega)).trans c1, World.cell?_setCell_same _ _ _ c2, (off_ne (by omega)).trans c3, (off_ne (by omega)).trans c4, (off_ne (by omega)).trans c5, (off_ne (by omega)).trans c6, (off_ne (by omega)).trans c7, (off_ne (by omega)).trans c8⟩
theorem ItemAt.put3 {w : World} {g o : Nat} {h : M.Hd} {vL vB vE : Value} (hi : ItemAt w g o h vL vB vE) (u : Int) : ItemAt (w.setCell ⟨g, o + 3, none⟩ (.int .i64 u)) g o { h with al := u } vL vB vE := by
  obtain ⟨c0, c1, c2, c3, c4, c5, c6, c7, c8⟩ := hi
  exact ⟨(off_ne (by omega)).trans c0, (off_ne (by omega)).trans c1, (off_ne (by omega)).trans c2, World.cell?_setCell_same _ _ _ c3, (off_ne (by omega)).trans c4, (off_ne (by omega)).trans c5, (off_ne (by omega)).trans c6, (off_ne (by omega)).trans c7, (off_ne (by omega)).trans c8⟩
theorem ItemAt.put4 {w : World} {g o : Nat} {h : M.Hd} {vL vB vE : Value} (hi : ItemAt w g o h vL vB vE) (u : Int) : ItemAt (w.setCell ⟨g, o + 4, none⟩ (.int .i64 u)) g o { h with ofs := u } vL vB vE := by
  obtain ⟨c0, c1, c2, c3, c4, c5, c6, c7, c8⟩ := hi
  exact ⟨(off_ne (by omega)).trans c0, (off_ne (by omega)).trans c1, (off_ne (by omega)).trans c2, (off_ne (by omega)).trans c3, World.cell?_setCell_same _ _ _ c4, (off_ne (by omega)).trans c5, (off_ne (by omega)).trans c6, (off_ne (by omega)).trans c7, (off_ne (by omega)).trans c8⟩
theorem ItemAt.put5 {w : World} {g o : Nat} {h : M.Hd} {vL vB vE : Value} (hi : ItemAt w g o h vL vB vE) (u : Int) : ItemAt (w.setCell ⟨g, o + 5, none⟩ (.int .i64 u)) g o { h with val := u } vL vB vE := by
  obtain ⟨c0, c1, c2, c3, c4, c5, c6, c7, c8⟩ := hi
  exact ⟨(off_ne (by omega)).trans c0, (off_ne (by omega)).trans c1, (off_ne (by omega)).trans c2, (off_ne (by omega)).trans c3, (off_ne (by omega)).trans c4, World.cell?_setCell_same _ _ _ c5, (off_ne (by omega)).trans c6, (off_ne (by omega)).trans c7, (off_ne (by omega)).trans c8⟩
theorem ItemAt.put6 {w : World} {g o : Nat} {h : M.Hd} {vL vB vE : Value} (hi : ItemAt w g o h vL vB vE) (u : Value) : ItemAt (w.setCell ⟨g, o + 6, none⟩ u) g o h u vB vE := by
  obtain ⟨c0, c1, c2, c3, c4, c5, c6, c7, c8⟩ := hi
  exact ⟨(off_ne (by omega)).trans c0, (off_ne (by omega)).trans c1, (off_ne (by omega)).trans c2, (off_ne (by omega)).trans c3, (off_ne (by omega)).trans c4, (off_ne (by omega)).trans c5, World.cell?_setCell_same _ _ _ c6, (off_ne (by omega)).trans c7, (off_ne (by omega)).trans c8⟩
theorem ItemAt.put7 {w : World} {g o : Nat} {h : M.Hd} {vL vB vE : Value} (hi : ItemAt w g o h vL vB vE) (u : Value) : ItemAt (w.setCell ⟨g, o + 7, none⟩ u) g o h vL u vE := by
  obtain ⟨c0, c1, c2, c3, c4, c5, c6, c7, c8⟩ := hi
  exact ⟨(off_ne (by omega)).trans c0, (off_ne (by omega)).trans c1, (off_ne (by omega)).trans c2, (off_ne (by omega)).trans c3, (off_ne (by omega)).trans c4, (off_ne (by omega)).trans c5, (off_ne (by omega)).trans c6, World.cell?_setCell_same _ _ _ c7, (off_ne (by omega)).trans c8⟩
theorem ItemAt.put8 {w : World} {g o : Nat} {h : M.Hd} {vL vB vE : Value} (hi : ItemAt w g o h vL vB vE) (u : Value) : ItemAt (w.setCell ⟨g, o + 8, none⟩ u) g o h vL vB u := by
  obtain ⟨c0, c1, c2, c3, c4, c5, c6, c7, c8⟩ := hi
  exact ⟨(off_ne (by omega)).trans c0, (off_ne (by omega)).trans c1, (off_ne (by omega)).trans c2, (off_ne (by omega)).trans c3, (off_ne (by omega)).trans c4, (off_ne (by omega)).trans c5, (off_ne (by omega)).trans c6, (off_ne (by omega)).trans c7, World.cell?_setCell_same _ _ _ c8⟩
theorem ItemAt.far {w : World} {g o : Nat} {h : M.Hd} {vL vB vE : Value} (hi : ItemAt w g o h vL vB vE) {p : Addr} (hp : g ≠ p.block) (u : Value) : ItemAt (w.setCell p u) g o h vL vB vE :=
  hi.agree (Below.heap_setCell w p u g hp)
/-- The blocks that were made since. -/
def Since (base : Nat) (w : World) : Nat → Prop := fun k => base ≤ k ∧ k < w.heap.size
/-- Where reading an instruction's parts has come to. -/
structure RS (P : Nat) (A : Option Addr) (c : Nat) (bs : List Nat) (d g o base : Nat) (s : M.Stt) (w : World) (p : Nat) (vL vB vE : Value) : Prop where
  place : PlaceAt w P A c bs p d
  rest : s.r = bs.drop p
  item : ItemAt w g o s.h vL vB vE
  blk : ∃ cur, Blk w g cur
  apart : P < g
  old : P < base ∧ g < base ∧ base ≤ w.heap.size
  rng : Rng s.h
  own : OwnN w (Since base w) vL s.h.labels
  ownB : OwnL w (Since base w) vB s.b
  ownE : OwnL w (Since base w) vE s.e
/-- What a reader leaves. -/
def RdPost (P : Nat) (A : Option Addr) (c : Nat) (bs : List Nat) (d g o base : Nat) (w : World) (res : Option M.Stt) (e : Ending) (w' : World) : Prop :=
  (∃ s' p' vL vB vE, res = some s' ∧ e = .returned (.bool true) ∧ RS P A c bs d g o base s' w' p' vL vB vE ∧ Step P g o w w') ∨
  (res = none ∧ e = .returned (.bool false) ∧ (∃ p', PlaceAt w' P A c bs p' d) ∧ Step P g o w w')
theorem Since.agree {P g base : Nat} {w w' : World} (h : Kb (fun k => k = P ∨ k = g) w w') (h1 : P < base) (h2 : g < base) : Agree (Since base w) w w' := fun k hk => h.block k hk.2 (by have := hk.1; omega)
theorem Since.mono {base : Nat} {w w' : World} (h : w.heap.size ≤ w'.heap.size) : ∀ k, Since base w k → Since base w' k := fun _ hk => ⟨hk.1, Nat.lt_of_lt_of_le hk.2 h⟩
/-- Behind a step the rest stands as it stood. -/
theorem RS.step {P : Nat} {A : Option Addr} {c : Nat} {bs : List Nat} {d g o base : Nat} {s s' : M.Stt} {w w' : World} {p p' : Nat} {vL vB vE : Value} (h : RS P A c bs d g o base s w p vL vB vE) (hs : Step P g o w w')
    (hp : PlaceAt w' P A c bs p' d) (hr : s'.r = bs.drop p') (hi : ItemAt w' g o s'.h vL vB vE) (hR : Rng s'.h) (hl : s'.h.labels = s.h.labels) (hb : s'.b = s.b) (he : s'.e = s.e) : RS P A c bs d g o base s' w' p' vL vB vE := by
  obtain ⟨cur, hc⟩ := h.blk
  obtain ⟨cur', hc', _⟩ := hs.blk cur hc
  have ha := Since.agree hs.kb h.old.1 h.old.2.1
  have hm := Since.mono (base := base) hs.kb.size
  exact ⟨hp, hr, hi, ⟨cur', hc'⟩, h.apart, ⟨h.old.1, h.old.2.1, Nat.le_trans h.old.2.2 hs.kb.size⟩, hR, by rw [hl]; exact h.own.agree ha hm, by rw [hb]; exact h.ownB.agree ha hm, by rw [he]; exact h.ownE.agree ha hm⟩
theorem RS.lt {P : Nat} {A : Option Addr} {c : Nat} {bs : List Nat} {d g o base : Nat} {s : M.Stt} {w : World} {p : Nat} {vL vB vE : Value} (h : RS P A c bs d g o base s w p vL vB vE) : g < w.heap.size := Nat.lt_of_lt_of_le h.old.2.1 h.old.2.2
/-- A number is read into a cell of the instruction. -/
theorem RS.num {P : Nat} {A : Option Addr} {c : Nat} {bs : List Nat} {d g o base : Nat} {s : M.Stt} {w w1 : World} {p q j : Nat} {vL vB vE : Value} {v : Int} (h : RS P A c bs d g o base s w p vL vB vE) (hb : Below w.heap.size w w1) (hq : q ≤ bs.length) (hj : j < 9) :
    Step P g o w ((w1.setCell ⟨g, o + j, none⟩ (.int .i64 v)).setCell ⟨P, 1, none⟩ (.int .i64 (q : Nat))) ∧ PlaceAt ((w1.setCell ⟨g, o + j, none⟩ (.int .i64 v)).setCell ⟨P, 1, none⟩ (.int .i64 (q : Nat))) P A c bs q d ∧
      (∀ h' : M.Hd, ItemAt (w1.setCell ⟨g, o + j, none⟩ (.int .i64 v)) g o h' vL vB vE → ItemAt ((w1.setCell ⟨g, o + j, none⟩ (.int .i64 v)).setCell ⟨P, 1, none⟩ (.int .i64 (q : Nat))) g o h' vL vB vE) ∧ ItemAt w1 g o s.h vL vB vE := by
  have hPg := h.apart
  have hgP : g ≠ P := by omega
  have hPs : P < w.heap.size := Nat.lt_of_lt_of_le h.old.1 h.old.2.2
  have s1 : Step P g o w w1 := Step.of_kb (.of_below hb) h.lt hgP
  have s2 : Step P g o w1 (w1.setCell ⟨g, o + j, none⟩ (.int .i64 v)) := Step.set w1 j _ hj
  have s3 : Step P g o (w1.setCell ⟨g, o + j, none⟩ (.int .i64 v)) ((w1.setCell ⟨g, o + j, none⟩ (.int .i64 v)).setCell ⟨P, 1, none⟩ (.int .i64 (q : Nat))) :=
    Step.of_kb (Kb.setCell (T := (· = P)) (Kb.refl _ _) (p := ⟨P, 1, none⟩) rfl _) (by simpa using Nat.lt_of_lt_of_le h.lt hb.size) hgP
  refine ⟨(s1.trans s2).trans s3, ?_, fun h' hi => hi.far (p := ⟨P, 1, none⟩) hgP _, h.item.agree (hb.block g h.lt)⟩
  have p1 : PlaceAt w1 P A c bs p d := h.place.agree (fun k hk => hb.block k (by omega)) hb.size
  have p2 : PlaceAt (w1.setCell ⟨g, o + j, none⟩ (.int .i64 v)) P A c bs p d := p1.agree (fun k hk => Below.heap_setCell _ _ _ _ (by show k ≠ g; omega)) (by simp)
  exact p2.move q hq

theorem index_any (P : Nat) (ad : Addr) (c : Nat) (bs : List Nat) (d g o base : Nat) (sub : M.Rd) (s : M.Stt) (w : World) (p : Nat) (vL vB vE : Value) (h : RS P (some ad) c bs d g o base s w p vL vB vE) :
    Calls Tryz.prog 248 #[.pointer (some ⟨P, 0, none⟩), .pointer (some ⟨g, o, none⟩)] w (RdPost P (some ad) c bs d g o base w (M.rdPart sub 2 s)) := by
  have h0 := Lib.hid h
  have hc := h.item.c2
  obtain ⟨cur, hcur⟩ := h.blk
  have hf := hcur.frozen (o + 2)
  have hPg := h.apart
  have hr := h.rest
  have hpl := Lib.hid h.place
  clear h hcur
  cases hn : M.num (bs.drop p) with
  | none =>
    have hres := Lib.hid (show M.rdPart sub 2 s = none by simp only [M.rdPart, hr, hn]; rfl)
    replace hn := Lib.hid hn
    replace hr := Lib.hid hr
    go_enter Tryz.func248, Tryz.ntmps248
    go_wp2_with fail
    refine (number_no _ P ad c bs p d _ hpl.out hn.out).mono ?_
    rintro e1 w1 ⟨rfl, b1⟩
    replace b1 := Lib.hid b1
    go_wp2_with fail
    go_ret
    exact .inr ⟨hres.out, rfl, ⟨p, hpl.out.agree (fun k hk => b1.out.block k (by have := hpl.out.size; omega)) b1.out.size⟩, Step.of_kb (.of_below b1.out) h0.out.lt (by omega)⟩
  | some x =>
    obtain ⟨v, r⟩ := x
    have hres := Lib.hid (show M.rdPart sub 2 s = some { s with r := r, h := { s.h with ix := v } } by simp only [M.rdPart, hr, hn]; rfl)
    have hv := Lib.hid (M.num_short hn).1
    replace hn := Lib.hid hn
    replace hr := Lib.hid hr
    go_enter Tryz.func248, Tryz.ntmps248
    go_wp2_with fail
    refine (number_yes _ P (some ad) c bs p d g (o + 2) _ v r hpl.out (by omega) hc hf hn.out).mono ?_
    rintro e1 w2 ⟨rfl, q, w1, hq, hrq, b1, rfl⟩
    obtain ⟨st, pl, it, it1⟩ := h0.out.num (j := 2) (v := v) b1 hq (by decide)
    replace hrq := Lib.hid hrq
    replace st := Lib.hid st
    replace pl := Lib.hid pl
    have it2 := Lib.hid (it _ (it1.put2 v))
    clear it it1 b1
    go_wp2_with fail
    go_ret
    have hR := h0.out.rng
    have hv' := hv.out
    unfold M.inR at hv'
    exact .inl ⟨_, q, vL, vB, vE, hres.out, rfl, h0.out.step st.out pl.out hrq.out it2.out ⟨hR.r0, hR.r1, by simp only; omega, hR.r3, hR.r4, hR.r5⟩ rfl rfl rfl, st.out⟩
theorem align_any (P : Nat) (ad : Addr) (c : Nat) (bs : List Nat) (d g o base : Nat) (sub : M.Rd) (s : M.Stt) (w : World) (p : Nat) (vL vB vE : Value) (h : RS P (some ad) c bs d g o base s w p vL vB vE) :
    Calls Tryz.prog 249 #[.pointer (some ⟨P, 0, none⟩), .pointer (some ⟨g, o, none⟩)] w (RdPost P (some ad) c bs d g o base w (M.rdPart sub 3 s)) := by
  have h0 := Lib.hid h
  have hc := h.item.c3
  obtain ⟨cur, hcur⟩ := h.blk
  have hf := hcur.frozen (o + 3)
  have hPg := h.apart
  have hr := h.rest
  have hpl := Lib.hid h.place
  clear h hcur
  cases hn : M.num (bs.drop p) with
  | none =>
    have hres := Lib.hid (show M.rdPart sub 3 s = none by simp only [M.rdPart, hr, hn]; rfl)
    replace hn := Lib.hid hn
    replace hr := Lib.hid hr
    go_enter Tryz.func249, Tryz.ntmps249
    go_wp2_with fail
    refine (number_no _ P ad c bs p d _ hpl.out hn.out).mono ?_
    rintro e1 w1 ⟨rfl, b1⟩
    replace b1 := Lib.hid b1
    go_wp2_with fail
    go_ret
    exact .inr ⟨hres.out, rfl, ⟨p, hpl.out.agree (fun k hk => b1.out.block k (by have := hpl.out.size; omega)) b1.out.size⟩, Step.of_kb (.of_below b1.out) h0.out.lt (by omega)⟩
  | some x =>
    obtain ⟨v, r⟩ := x
    have hres := Lib.hid (show M.rdPart sub 3 s = some { s with r := r, h := { s.h with al := v } } by simp only [M.rdPart, hr, hn]; rfl)
    have hv := Lib.hid (M.num_short hn).1
    replace hn := Lib.hid hn
    replace hr := Lib.hid hr
    go_enter Tryz.func249, Tryz.ntmps249
    go_wp2_with fail
    refine (number_yes _ P (some ad) c bs p d g (o + 3) _ v r hpl.out (by omega) hc hf hn.out).mono ?_
    rintro e1 w2 ⟨rfl, q, w1, hq, hrq, b1, rfl⟩
    obtain ⟨st, pl, it, it1⟩ := h0.out.num (j := 3) (v := v) b1 hq (by decide)
    replace hrq := Lib.hid hrq
    replace st := Lib.hid st
    replace pl := Lib.hid pl
    have it2 := Lib.hid (it _ (it1.put3 v))
    clear it it1 b1
    go_wp2_with fail
    go_ret
    have hR := h0.out.rng
    have hv' := hv.out
    unfold M.inR at hv'
    exact .inl ⟨_, q, vL, vB, vE, hres.out, rfl, h0.out.step st.out pl.out hrq.out it2.out ⟨hR.r0, hR.r1, hR.r2, by simp only; omega, hR.r4, hR.r5⟩ rfl rfl rfl, st.out⟩
theorem offset_any (P : Nat) (ad : Addr) (c : Nat) (bs : List Nat) (d g o base : Nat) (sub : M.Rd) (s : M.Stt) (w : World) (p : Nat) (vL vB vE : Value) (h : RS P (some ad) c bs d g o base s w p vL vB vE) :
    Calls Tryz.prog 250 #[.pointer (some ⟨P, 0, none⟩), .pointer (some ⟨g, o, none⟩)] w (RdPost P (some ad) c bs d g o base w (M.rdPart sub 4 s)) := by
  have h0 := Lib.hid h
  have hc := h.item.c4
  obtain ⟨cur, hcur⟩ := h.blk
  have hf := hcur.frozen (o + 4)
  have hPg := h.apart
  have hr := h.rest
  have hpl := Lib.hid h.place
  clear h hcur
  cases hn : M.num (bs.drop p) with
  | none =>
    have hres := Lib.hid (show M.rdPart sub 4 s = none by simp only [M.rdPart, hr, hn]; rfl)
    replace hn := Lib.hid hn
    replace hr := Lib.hid hr
    go_enter Tryz.func250, Tryz.ntmps250
    go_wp2_with fail
    refine (number_no _ P ad c bs p d _ hpl.out hn.out).mono ?_
    rintro e1 w1 ⟨rfl, b1⟩
    replace b1 := Lib.hid b1
    go_wp2_with fail
    go_ret
    exact .inr ⟨hres.out, rfl, ⟨p, hpl.out.agree (fun k hk => b1.out.block k (by have := hpl.out.size; omega)) b1.out.size⟩, Step.of_kb (.of_below b1.out) h0.out.lt (by omega)⟩
  | some x =>
    obtain ⟨v, r⟩ := x
    have hres := Lib.hid (show M.rdPart sub 4 s = some { s with r := r, h := { s.h with ofs := v } } by simp only [M.rdPart, hr, hn]; rfl)
    have hv := Lib.hid (M.num_short hn).1
    replace hn := Lib.hid hn
    replace hr := Lib.hid hr
    go_enter Tryz.func250, Tryz.ntmps250
    go_wp2_with fail
    refine (number_yes _ P (some ad) c bs p d g (o + 4) _ v r hpl.out (by omega) hc hf hn.out).mono ?_
    rintro e1 w2 ⟨rfl, q, w1, hq, hrq, b1, rfl⟩
    obtain ⟨st, pl, it, it1⟩ := h0.out.num (j := 4) (v := v) b1 hq (by decide)
    replace hrq := Lib.hid hrq
    replace st := Lib.hid st
    replace pl := Lib.hid pl
    have it2 := Lib.hid (it _ (it1.put4 v))
    clear it it1 b1
    go_wp2_with fail
    go_ret
    have hR := h0.out.rng
    have hv' := hv.out
    unfold M.inR at hv'
    exact .inl ⟨_, q, vL, vB, vE, hres.out, rfl, h0.out.step st.out pl.out hrq.out it2.out ⟨hR.r0, hR.r1, hR.r2, hR.r3, by simp only; omega, hR.r5⟩ rfl rfl rfl, st.out⟩
theorem nought_any (P : Nat) (ad : Addr) (c : Nat) (bs : List Nat) (d g o base : Nat) (sub : M.Rd) (s : M.Stt) (w : World) (p : Nat) (vL vB vE : Value) (h : RS P (some ad) c bs d g o base s w p vL vB vE) :
    Calls Tryz.prog 251 #[.pointer (some ⟨P, 0, none⟩), .pointer (some ⟨g, o, none⟩)] w (RdPost P (some ad) c bs d g o base w (M.rdPart sub 5 s)) := by
  have h0 := Lib.hid h
  have hPg := h.apart
  have hr := h.rest
  have hpl := Lib.hid h.place
  clear h
  replace hr := Lib.hid hr
  go_enter Tryz.func251, Tryz.ntmps251
  go_wp2_with fail
  refine (fixed_any _ P (some ad) c bs p d 0 hpl.out (by omega)).mono ?_
  rintro e1 w1 (⟨hb, rfl, pl, kb⟩ | ⟨hb, rfl, pl, kb⟩)
  · replace hb := Lib.hid hb
    replace pl := Lib.hid pl
    replace kb := Lib.hid kb
    go_wp2_with fail
    go_ret
    have hd := (nextB_lt hb.out).2
    have st : Step P g o w w1 := Step.of_kb kb.out h0.out.lt (by omega)
    have hres : M.rdPart sub 5 s = some { s with r := bs.drop (p + 1) } := by simp only [M.rdPart, hr.out, hd, M.zeroB, if_true]; rfl
    exact .inl ⟨_, p + 1, vL, vB, vE, hres, rfl, h0.out.step st pl.out rfl (h0.out.item.agree (kb.out.block g h0.out.lt (by omega))) h0.out.rng rfl rfl rfl, st⟩
  · replace hb := Lib.hid hb
    replace pl := Lib.hid pl
    replace kb := Lib.hid kb
    go_wp2_with fail
    go_ret
    have st : Step P g o w w1 := Step.of_kb kb.out h0.out.lt (by omega)
    have hres : M.rdPart sub 5 s = none := by
      simp only [M.rdPart, hr.out]
      have hb' := hb.out
      unfold nextB at hb'
      cases hd : bs.drop p with
      | nil => rfl
      | cons y t =>
        rw [hd] at hb'
        have : ¬ y = 0 := fun e => by subst e; simp at hb'
        simp only [M.zeroB, if_neg this]; rfl
    exact .inr ⟨hres, rfl, ⟨p, pl.out⟩, st⟩
theorem end_any (P : Nat) (ad : Addr) (c : Nat) (bs : List Nat) (d g o base : Nat) (sub : M.Rd) (s : M.Stt) (w : World) (p : Nat) (vL vB vE : Value) (h : RS P (some ad) c bs d g o base s w p vL vB vE) :
    Calls Tryz.prog 255 #[.pointer (some ⟨P, 0, none⟩), .pointer (some ⟨g, o, none⟩)] w (RdPost P (some ad) c bs d g o base w (M.rdPart sub 9 s)) := by
  have h0 := Lib.hid h
  have hPg := h.apart
  have hr := h.rest
  have hpl := Lib.hid h.place
  clear h
  replace hr := Lib.hid hr
  go_enter Tryz.func255, Tryz.ntmps255
  go_wp2_with fail
  refine (fixed_any _ P (some ad) c bs p d 11 hpl.out (by omega)).mono ?_
  rintro e1 w1 (⟨hb, rfl, pl, kb⟩ | ⟨hb, rfl, pl, kb⟩)
  · replace hb := Lib.hid hb
    replace pl := Lib.hid pl
    replace kb := Lib.hid kb
    go_wp2_with fail
    go_ret
    have hd := (nextB_lt hb.out).2
    have st : Step P g o w w1 := Step.of_kb kb.out h0.out.lt (by omega)
    have hres : M.rdPart sub 9 s = some { s with r := bs.drop (p + 1) } := by simp only [M.rdPart, hr.out, hd, M.endB, if_true]; rfl
    exact .inl ⟨_, p + 1, vL, vB, vE, hres, rfl, h0.out.step st pl.out rfl (h0.out.item.agree (kb.out.block g h0.out.lt (by omega))) h0.out.rng rfl rfl rfl, st⟩
  · replace hb := Lib.hid hb
    replace pl := Lib.hid pl
    replace kb := Lib.hid kb
    go_wp2_with fail
    go_ret
    have st : Step P g o w w1 := Step.of_kb kb.out h0.out.lt (by omega)
    have hres : M.rdPart sub 9 s = none := by
      simp only [M.rdPart, hr.out]
      have hb' := hb.out
      unfold nextB at hb'
      cases hd : bs.drop p with
      | nil => rfl
      | cons y t =>
        rw [hd] at hb'
        have : ¬ y = 11 := fun e => by subst e; simp at hb'
        simp only [M.endB, if_neg this]; rfl
    exact .inr ⟨hres, rfl, ⟨p, pl.out⟩, st⟩
set_option maxRecDepth 100000 in
theorem blockType_any (P : Nat) (ad : Addr) (c : Nat) (bs : List Nat) (d g o base : Nat) (sub : M.Rd) (s : M.Stt) (w : World) (p : Nat) (vL vB vE : Value) (h : RS P (some ad) c bs d g o base s w p vL vB vE) :
    Calls Tryz.prog 246 #[.pointer (some ⟨P, 0, none⟩), .pointer (some ⟨g, o, none⟩)] w (RdPost P (some ad) c bs d g o base w (M.rdPart sub 0 s)) := by
  have h0 := Lib.hid h
  have hc1 := h.item.c1
  obtain ⟨cur, hcur⟩ := h.blk
  have hf := hcur.frozen (o + 1)
  have hPg := h.apart
  have hr := h.rest
  have hpl := Lib.hid h.place
  have hglt := h.lt
  clear hcur
  obtain ⟨c0, c1, c2, c3, c4, c5, c6, c7, c8, c9, c10, c11, c12, f1, f2, le, cap, small, deep, bytes, size⟩ := h.place
  clear c2 c3 c4 c5 c6 c7 c8 c9 c10 c11 c12 f2 bytes
  obtain ⟨cap1, cap2⟩ := cap
  unfold maxLen at cap2
  clear h
  by_cases hp : p < bs.length
  · obtain ⟨ad', y, ea, hd, hy, q⟩ := hpl.out.byte hp
    injection ea with ea
    subst ea
    rw [hd] at hr
    replace hr := Lib.hid hr
    replace hd := Lib.hid hd
    have t0 : (0 : Int) ≤ (p : Int) := by omega
    have t1 : (p : Int) < (bs.length : Int) := by omega
    have t2 : ((p : Int) == (bs.length : Int)) = false := by rw [beq_eq_false_iff_ne]; omega
    have t3 : (p == bs.length) = false := by rw [beq_eq_false_iff_ne]; omega
    by_cases ty : M.tyOk (y : Int)
    · have hres := Lib.hid (show M.rdPart sub 0 s = some { s with r := bs.drop (p + 1), h := { s.h with ty := (y : Int) } } by simp only [M.rdPart, hr.out, if_pos ty])
      replace ty := Lib.hid ty
      go_enter Tryz.func246, Tryz.ntmps246
      go_wp2_with fail
      go_quiet ((go_at_call 243; exact Calls.quiet_of_same ((isType_yes _ _ ty.out).mono fun _ _ ⟨a, b⟩ => ⟨a, b.symm⟩)))
      go_wp2_with fail
      have hbd := Lib.hid (below_drewN (Below.refl w.heap.size w) nq)
      replace hc1 : (w.drewN nq).cell? ⟨g, o + 1, none⟩ = some (.int .i64 s.h.ty) := hc1
      replace hf : (w.drewN nq).frozen? ⟨g, o + 1, none⟩ = false := hf
      replace c1 : (w.drewN nq).cell? ⟨P, 1, none⟩ = some (.int .i64 (p : Nat)) := c1
      replace c0 : (w.drewN nq).cell? ⟨P, 0, none⟩ = some (.slice (some ad) bs.length c) := c0
      replace q : (w.drewN nq).cell? (ad.add p) = some (.int .u8 (y : Nat)) := q
      replace f1 : (w.drewN nq).frozen? ⟨P, 1, none⟩ = false := f1
      have hgP : ¬ g = P := by omega
      generalize w.drewN nq = w1 at hc1 hf c1 f1 c0 q hbd ⊢
      go_still_tail 14, (by kernel_rfl)
      change wpList _ _ _ _ _ w1.drew
      replace hbd := Lib.hid hbd.out.drew
      replace hc1 : w1.drew.cell? ⟨g, o + 1, none⟩ = some (.int .i64 s.h.ty) := hc1
      replace hf : w1.drew.frozen? ⟨g, o + 1, none⟩ = false := hf
      replace c1 : w1.drew.cell? ⟨P, 1, none⟩ = some (.int .i64 (p : Nat)) := c1
      replace f1 : w1.drew.frozen? ⟨P, 1, none⟩ = false := f1
      clear c0 q
      generalize w1.drew = w2 at hc1 hf c1 f1 hbd ⊢
      go_wp2_with fail
      go_ret
      obtain ⟨st, pl, it, it1⟩ := h0.out.num (j := 1) (v := (y : Int)) (q := p + 1) hbd.out (by omega) (by decide)
      have hR := h0.out.rng
      exact .inl ⟨_, p + 1, vL, vB, vE, hres.out, rfl, h0.out.step st pl rfl (it _ (it1.put1 _)) ⟨hR.r0, by simp only; omega, hR.r2, hR.r3, hR.r4, hR.r5⟩ rfl rfl rfl, st⟩
    · have hres := Lib.hid (show M.rdPart sub 0 s = none by simp only [M.rdPart, hr.out, if_neg ty])
      replace ty := Lib.hid ty
      go_enter Tryz.func246, Tryz.ntmps246
      go_wp2_with fail
      go_quiet ((go_at_call 243; exact Calls.quiet_of_same ((isType_no _ _ ty.out).mono fun _ _ ⟨a, b⟩ => ⟨a, b.symm⟩)))
      go_wp2_with fail
      go_ret
      exact .inr ⟨hres.out, rfl, ⟨p, drewN_place hpl.out nq⟩, Step.of_kb (.of_below (below_drewN (Below.refl _ _) _)) hglt (by omega)⟩
  · have hd : bs.drop p = [] := List.drop_eq_nil_of_le (by omega)
    rw [hd] at hr
    have hres := Lib.hid (show M.rdPart sub 0 s = none by simp only [M.rdPart, hr])
    have t2 : ((p : Int) == (bs.length : Int)) = true := by rw [beq_iff_eq]; omega
    have t3 : (p == bs.length) = true := by rw [beq_iff_eq]; omega
    clear hd hr
    go_enter Tryz.func246, Tryz.ntmps246
    go_wp2_with fail
    go_quiet (fail)
    go_wp2_with fail
    go_ret
    exact .inr ⟨hres.out, rfl, ⟨p, drewN_place hpl.out nq⟩, Step.of_kb (.of_below (below_drewN (Below.refl _ _) _)) hglt (by omega)⟩
end Go.Proofs.YtilaheifccjjeaaGreat
namespace Go.Proofs.YtilaheifccjjeaaGreat
open Go.RowKit
/-- How a datum lies in so many cells, what it points to in blocks of S. -/
structure Rep (α : Type) where
  sz : Nat
  is : World → (Nat → Prop) → α → List Value → Prop
  len : ∀ {w : World} {S : Nat → Prop} {x : α} {cs : List Value}, is w S x cs → cs.length = sz
  one : ∀ {w : World} {S : Nat → Prop} {x : α} {cs : List Value}, is w S x cs → ∀ u ∈ cs, u.oneCell' = true
  agree : ∀ {w w' : World} {S T : Nat → Prop} {x : α} {cs : List Value}, is w S x cs → Agree S w w' → (∀ k, S k → T k) → is w' T x cs
/-- A row of them. -/
def RowOf {α : Type} (R : Rep α) (w : World) (S : Nat → Prop) : List α → List Value → Prop
  | [], cs => cs = []
  | x :: t, cs => ∃ c d, cs = c ++ d ∧ R.is w S x c ∧ RowOf R w S t d
theorem RowOf.agree {α : Type} {R : Rep α} {w w' : World} {S T : Nat → Prop} (ha : Agree S w w') (hT : ∀ k, S k → T k) : ∀ {xs : List α} {cs : List Value}, RowOf R w S xs cs → RowOf R w' T xs cs
  | [], _, h => h
  | _ :: _, _, ⟨c, d, h1, h2, h3⟩ => ⟨c, d, h1, R.agree h2 ha hT, RowOf.agree ha hT h3⟩
theorem RowOf.snoc {α : Type} {R : Rep α} {w : World} {S : Nat → Prop} {x : α} {c : List Value} (hx : R.is w S x c) : ∀ {xs : List α} {cs : List Value}, RowOf R w S xs cs → RowOf R w S (xs ++ [x]) (cs ++ c)
  | [], _, h => by
    have h : _ = [] := h
    subst h
    exact ⟨c, [], by simp, hx, rfl⟩
  | _ :: _, _, ⟨c1, d1, h1, h2, h3⟩ => ⟨c1, d1 ++ c, by rw [h1, List.append_assoc], h2, h3.snoc hx⟩
theorem RowOf.nth {α : Type} {R : Rep α} {w : World} {S : Nat → Prop} : ∀ {xs : List α} {cs : List Value} {k : Nat} {x : α}, RowOf R w S xs cs → xs[k]? = some x → ∃ c, R.is w S x c ∧ ∀ j u, c[j]? = some u → cs[k * R.sz + j]? = some u
  | [], _, _, _, _, h => by cases h
  | y :: t, cs, 0, x, ⟨c, d, h1, h2, h3⟩, h => by
    obtain rfl : y = x := by simpa using h
    refine ⟨c, h2, fun j u hu => ?_⟩
    rw [h1, Nat.zero_mul, Nat.zero_add, List.getElem?_append_left (List.getElem?_eq_some_iff.1 hu).1]
    exact hu
  | y :: t, cs, k + 1, x, ⟨c, d, h1, h2, h3⟩, h => by
    obtain ⟨c', h4, h5⟩ := h3.nth (k := k) (by simpa using h)
    refine ⟨c', h4, fun j u hu => ?_⟩
    have hl := R.len h2
    rw [h1, List.getElem?_append_right (by rw [hl, Nat.succ_mul]; omega), hl, show (k + 1) * R.sz + j - R.sz = k * R.sz + j by rw [Nat.succ_mul]; omega]
    exact h5 j u hu
/-- The value is a slice of these, all in blocks of S. -/
def Lst {α : Type} (R : Rep α) (w : World) (S : Nat → Prop) (v : Value) (xs : List α) : Prop :=
  ∃ A c, v = .slice A xs.length c ∧ (xs.length ≤ 1000000000 ∧ xs.length ≤ c ∧ c ≤ maxLen) ∧ (xs = [] ∨ ∃ g o cs, A = some ⟨g, o, none⟩ ∧ S g ∧ RowOf R w S xs cs ∧ ∀ j u, cs[j]? = some u → w.cell? ⟨g, o + j, none⟩ = some u)
theorem Lst.agree {α : Type} {R : Rep α} {w w' : World} {S T : Nat → Prop} {v : Value} {xs : List α} (h : Lst R w S v xs) (ha : Agree S w w') (hT : ∀ k, S k → T k) : Lst R w' T v xs := by
  obtain ⟨A, c, e, h1, h2⟩ := h
  refine ⟨A, c, e, h1, ?_⟩
  rcases h2 with h2 | ⟨g, o, cs, h3, h4, h5, h6⟩
  · exact .inl h2
  · exact .inr ⟨g, o, cs, h3, hT g h4, h5.agree ha hT, fun j u hu => by rw [ha.cell (a := ⟨g, o + j, none⟩) h4]; exact h6 j u hu⟩
theorem Lst.form {α : Type} {R : Rep α} {w : World} {S : Nat → Prop} {v : Value} {xs : List α} (h : Lst R w S v xs) : ∃ A c, v = .slice A xs.length c ∧ (xs.length ≤ 1000000000 ∧ xs.length ≤ c ∧ c ≤ maxLen) := by
  obtain ⟨A, c, e, h1, h2⟩ := h
  exact ⟨A, c, e, h1⟩
theorem Lst.nth {α : Type} {R : Rep α} {w : World} {S : Nat → Prop} {A : Option Addr} {n c : Nat} {xs : List α} (h : Lst R w S (.slice A n c) xs) {k : Nat} {x : α} (hk : xs[k]? = some x) :
    ∃ g o cs, A = some ⟨g, o, none⟩ ∧ S g ∧ R.is w S x cs ∧ ∀ j u, cs[j]? = some u → w.cell? ⟨g, o + k * R.sz + j, none⟩ = some u := by
  obtain ⟨A', c', e, h1, h2⟩ := h
  injection e with e1 e2 e3
  subst e1
  rcases h2 with rfl | ⟨g, o, cs, h3, h4, h5, h6⟩
  · cases hk
  · obtain ⟨c1, h7, h8⟩ := h5.nth hk
    exact ⟨g, o, c1, h3, h4, h7, fun j u hu => by rw [Nat.add_assoc]; exact h6 _ _ (h8 j u hu)⟩
theorem Lst.nil {α : Type} (R : Rep α) (w : World) (S : Nat → Prop) : Lst R w S (.slice none 0 0) [] := ⟨none, 0, rfl, ⟨by simp, by simp, by unfold maxLen; omega⟩, .inl rfl⟩
/-- A row of one's own reads as a slice. -/
theorem Lst.of_row {α : Type} {R : Rep α} {w : World} {S : Nat → Prop} {b t : Nat} {v : Value} {xs : List α} {cs : List Value} (h : w.ownsRow b t R.sz v xs.length cs) (hb : ∀ g, v.ownBlock = some g → S g) (hn : xs.length ≤ 100000) (hr : RowOf R w S xs cs) : Lst R w S v xs := by
  rcases h.2 with ⟨rfl, h0⟩ | ⟨g, cap, cur, rfl, _, hc, hn', hm, _⟩
  · exact ⟨none, 0, by rw [h0], ⟨by omega, by omega, by unfold maxLen; omega⟩, .inl (List.eq_nil_of_length_eq_zero h0)⟩
  · refine ⟨_, _, rfl, ⟨by omega, hn', hm⟩, .inr ⟨g, 0, cs, rfl, hb g rfl, hr, fun j u hu => ?_⟩⟩
    have := h.cells (g := g) rfl j u hu
    rwa [add_none] at this
/-- What reading into the cells j .. of block g may change: the place, and these cells. -/
structure Fr (P g j s : Nat) (w w' : World) : Prop where
  kb : Kb (fun k => k = P ∨ k = g) w w'
  row : ∀ cur t, w.heap[g]? = some (.cells cur t (0, 0)) → ∃ cur', w'.heap[g]? = some (.cells cur' t (0, 0)) ∧ cur'.size = cur.size ∧ ∀ i, (i < j ∨ j + s ≤ i) → cur'[i]? = cur[i]?
theorem Fr.refl (P g j s : Nat) (w : World) : Fr P g j s w w := ⟨Kb.refl _ _, fun cur _ h => ⟨cur, h, rfl, fun _ _ => rfl⟩⟩
theorem Fr.trans {P g j s : Nat} {a b c : World} (h : Fr P g j s a b) (k : Fr P g j s b c) : Fr P g j s a c :=
  ⟨h.kb.trans k.kb, fun cur t hc => by
    obtain ⟨c1, h1, h2, h3⟩ := h.row cur t hc
    obtain ⟨c2, k1, k2, k3⟩ := k.row c1 t h1
    exact ⟨c2, k1, k2.trans h2, fun i hi => (k3 i hi).trans (h3 i hi)⟩⟩
theorem Fr.wide {P g j s j' s' : Nat} {a b : World} (h : Fr P g j s a b) (h1 : j' ≤ j) (h2 : j + s ≤ j' + s') : Fr P g j' s' a b :=
  ⟨h.kb, fun cur t hc => by
    obtain ⟨c1, q1, q2, q3⟩ := h.row cur t hc
    exact ⟨c1, q1, q2, fun i hi => q3 i (by omega)⟩⟩
theorem Fr.of_kb {P g j s : Nat} {a b : World} (h : Kb (· = P) a b) (hg : g < a.heap.size) (hgP : g ≠ P) : Fr P g j s a b :=
  ⟨h.mono fun _ hk => .inl hk, fun cur t hc => ⟨cur, by rw [h.block g hg hgP]; exact hc, rfl, fun _ _ => rfl⟩⟩
theorem Fr.of_below {P g j s : Nat} {a b : World} (h : Below a.heap.size a b) (hg : g < a.heap.size) (hgP : g ≠ P) : Fr P g j s a b := Fr.of_kb (.of_below h) hg hgP
theorem row_set {w : World} {g j t : Nat} {cur : Array Value} (h : w.heap[g]? = some (.cells cur t (0, 0))) (u : Value) : (w.setCell ⟨g, j, none⟩ u).heap[g]? = some (.cells (cur.setIfInBounds j u) t (0, 0)) := by
  have hg : g < w.heap.size := (Array.getElem?_eq_some_iff.1 h).1
  have e : w.heap[g] = .cells cur t (0, 0) := by
    rw [Array.getElem?_eq_getElem hg] at h
    exact Option.some.inj h
  simp [World.setCell, hg, Array.getElem_modify, e]
theorem Fr.set {P g j s : Nat} (w : World) (i : Nat) (u : Value) (h1 : j ≤ i) (h2 : i < j + s) : Fr P g j s w (w.setCell ⟨g, i, none⟩ u) :=
  ⟨Kb.setCell (T := fun k => k = P ∨ k = g) (Kb.refl _ _) (p := ⟨g, i, none⟩) (.inr rfl) u, fun cur t hc => ⟨cur.setIfInBounds i u, row_set hc u, by simp, fun k hk => by rw [Array.getElem?_setIfInBounds]; rw [if_neg (by omega)]⟩⟩
theorem Fr.setP {P g j s : Nat} (w : World) (i : Nat) (u : Value) (hgP : g ≠ P) : Fr P g j s w (w.setCell ⟨P, i, none⟩ u) :=
  ⟨Kb.setCell (T := fun k => k = P ∨ k = g) (Kb.refl _ _) (p := ⟨P, i, none⟩) (.inl rfl) u, fun cur t hc => ⟨cur, by rw [Below.heap_setCell _ _ _ _ (by show g ≠ P; exact hgP)]; exact hc, rfl, fun _ _ => rfl⟩⟩
theorem cell_row {w : World} {g t : Nat} {cur : Array Value} (h : w.heap[g]? = some (.cells cur t (0, 0))) (j : Nat) : w.cell? ⟨g, j, none⟩ = cur[j]? := by simp [World.cell?, h]
theorem frozen_row {w : World} {g t : Nat} {cur : Array Value} (h : w.heap[g]? = some (.cells cur t (0, 0))) (j : Nat) : w.frozen? ⟨g, j, none⟩ = false := by simp [World.frozen?, h]
theorem lt_row {w : World} {g t : Nat} {cur : Array Value} (h : w.heap[g]? = some (.cells cur t (0, 0))) : g < w.heap.size := (Array.getElem?_eq_some_iff.1 h).1
/-- Where reading has come to: the place's one cell is the slice of what is left, in blocks below B. -/
structure PAt (B : Nat) (w : World) (P : Nat) (bs : List Nat) : Prop where
  ex : ∃ A c, w.heap[P]? = some (.cells #[.slice A bs.length c] 105 (0, 0)) ∧ bs.length ≤ c ∧ c ≤ maxLen ∧ Bytes w B A bs.length (M.bf bs)
  lo : B ≤ P
  small : bs.length ≤ 65536
theorem PAt.lt {B : Nat} {w : World} {P : Nat} {bs : List Nat} (h : PAt B w P bs) : P < w.heap.size := by
  obtain ⟨A, c, h1, _⟩ := h.ex
  exact lt_row h1
theorem PAt.agree {B : Nat} {w w' : World} {P : Nat} {bs : List Nat} (h : PAt B w P bs) (ha : ∀ k, (k < B ∨ k = P) → w'.heap[k]? = w.heap[k]?) : PAt B w' P bs := by
  obtain ⟨A, c, h1, h2, h3, h4⟩ := h.ex
  refine ⟨⟨A, c, by rw [ha P (.inr rfl)]; exact h1, h2, h3, fun i hi => ?_⟩, h.lo, h.small⟩
  obtain ⟨ad, e1, q1, q2, q3⟩ := h4 i hi
  exact ⟨ad, e1, q1, q2, by rw [World.cell?_of_block (w := w) (ha _ (.inl (by rw [addr_block]; omega)))]; exact q3⟩
theorem PAt.below {B C : Nat} {w w' : World} {P : Nat} {bs : List Nat} (h : PAt B w P bs) (hb : Below C w w') (hC : P < C) : PAt B w' P bs := h.agree fun k hk => hb.block k (by have := h.lo; omega)
theorem PAt.later {B : Nat} {w w' : World} {P : Nat} {bs : List Nat} (h : PAt B w P bs) (hb : Below w.heap.size w w') : PAt B w' P bs := h.below hb h.lt
theorem PAt.set {B : Nat} {w : World} {P g j : Nat} {bs : List Nat} (h : PAt B w P bs) (hg : g ≠ P) (hB : B ≤ g) (u : Value) : PAt B (w.setCell ⟨g, j, none⟩ u) P bs :=
  h.agree fun k hk => Below.heap_setCell _ _ _ _ (by show k ≠ g; rcases hk with hk | rfl <;> omega)
/-- The place goes on behind the first n. -/
theorem PAt.move {B : Nat} {w : World} {P : Nat} {A : Option Addr} {c : Nat} {bs : List Nat} (h : PAt B w P bs) {r : List Nat} (hr : r.length ≤ bs.length) (hc : r.length ≤ c ∧ c ≤ maxLen) (hb : Bytes w B A r.length (M.bf r)) : PAt B (w.setCell ⟨P, 0, none⟩ (.slice A r.length c)) P r := by
  obtain ⟨A0, c0, h1, h2, h3, h4⟩ := h.ex
  refine ⟨⟨A, c, ?_, hc.1, hc.2, fun i hi => ?_⟩, h.lo, by have := h.small; omega⟩
  · rw [row_set h1]; rfl
  · obtain ⟨ad, e1, q1, q2, q3⟩ := hb i hi
    exact ⟨ad, e1, q1, q2, by rw [World.cell?_of_block (w := w) (Below.heap_setCell _ _ _ _ (by rw [addr_block]; have := h.lo; show ad.block ≠ P; omega))]; exact q3⟩
/-- What a reader leaves. -/
def MdPost {α : Type} (R : Rep α) (rd : List Nat → Option (α × List Nat)) (B P g j : Nat) (bs : List Nat) (w : World) (e : Ending) (w' : World) : Prop :=
  (∃ x r cs, rd bs = some (x, r) ∧ e = .returned (.bool true) ∧ PAt B w' P r ∧ R.is w' (Since w.heap.size w') x cs ∧ (∀ i u, cs[i]? = some u → w'.cell? ⟨g, j + i, none⟩ = some u) ∧ Fr P g j R.sz w w') ∨
  (rd bs = none ∧ e = .returned (.bool false) ∧ Kb (fun k => k = P ∨ k = g) w w')
/-- The function reads so. -/
def MdOk {α : Type} (f : Nat) (R : Rep α) (z : List Value) (rd : List Nat → Option (α × List Nat)) : Prop :=
  ∀ (B P g j t : Nat) (cur : Array Value) (bs : List Nat) (w : World), PAt B w P bs → w.heap[g]? = some (.cells cur t (0, 0)) → (∀ i u, z[i]? = some u → cur[j + i]? = some u) → g ≠ P → B ≤ g →
    Calls Tryz.prog f #[.pointer (some ⟨P, 0, none⟩), .pointer (some ⟨g, j, none⟩)] w (MdPost R rd B P g j bs w)
def i64R (x : Int) : Prop := -9223372036854775808 ≤ x ∧ x ≤ 9223372036854775807
def rInt : Rep Int where
  sz := 1
  is := fun _ _ x cs => cs = [.int .i64 x] ∧ i64R x
  len := fun h => by rw [h.1]; rfl
  one := fun h u hu => by rw [h.1] at hu; simp at hu; subst hu; rfl
  agree := fun h _ _ => h
def rBool : Rep Bool where
  sz := 1
  is := fun _ _ x cs => cs = [.bool x]
  len := fun h => by rw [h]; rfl
  one := fun h u hu => by rw [h] at hu; simp at hu; subst hu; rfl
  agree := fun h _ _ => h
/-- A string of these bytes. -/
def str (bs : List Nat) : Value := .string (bs.foldl (fun r n => r.push (UInt8.ofNat n)) ByteArray.empty)
def rStr : Rep (List Nat) where
  sz := 1
  is := fun _ _ x cs => cs = [str x] ∧ (∀ b ∈ x, b < 256) ∧ x.length ≤ 1000000000
  len := fun h => by rw [h.1]; rfl
  one := fun h u hu => by rw [h.1] at hu; simp at hu; subst hu; rfl
  agree := fun h _ _ => h
/-- The value is a slice of these bytes, in blocks of S. -/
def BSS (w : World) (S : Nat → Prop) (v : Value) (bs : List Nat) : Prop :=
  ∃ A c, v = .slice A bs.length c ∧ (bs.length ≤ 1000000000 ∧ bs.length ≤ c ∧ c ≤ maxLen) ∧ ∀ i, i < bs.length → ∃ ad, A = some ad ∧ S ad.block ∧ bs.getD i 0 < 256 ∧ w.cell? (ad.add i) = some (.int .u8 ((bs.getD i 0 : Nat) : Int))
theorem BSS.agree {w w' : World} {S T : Nat → Prop} {v : Value} {bs : List Nat} (h : BSS w S v bs) (ha : Agree S w w') (hT : ∀ k, S k → T k) : BSS w' T v bs := by
  obtain ⟨A, c, e, h1, h3⟩ := h
  refine ⟨A, c, e, h1, fun i hi => ?_⟩
  obtain ⟨ad, e1, h4, h5, h6⟩ := h3 i hi
  exact ⟨ad, e1, hT _ h4, h5, by rw [ha.cell (by rw [addr_block]; exact h4)]; exact h6⟩
def rBytes : Rep (List Nat) where
  sz := 1
  is := fun w S x cs => ∃ v, cs = [v] ∧ BSS w S v x
  len := fun ⟨v, h, _⟩ => by rw [h]; rfl
  one := fun ⟨v, h, A, c, e, _⟩ u hu => by rw [h] at hu; simp at hu; subst hu; subst e; rfl
  agree := fun ⟨v, h, h2⟩ ha hT => ⟨v, h, h2.agree ha hT⟩
def rNums : Rep (List Int) where
  sz := 1
  is := fun w S x cs => ∃ v, cs = [v] ∧ NS w S v x
  len := fun ⟨v, h, _⟩ => by rw [h]; rfl
  one := fun ⟨v, h, A, c, e, _⟩ u hu => by rw [h] at hu; simp at hu; subst hu; subst e; rfl
  agree := fun ⟨v, h, h2⟩ ha hT => ⟨v, h, h2.agree ha hT⟩
def rL : Rep M.L where
  sz := 1
  is := fun w S x cs => ∃ v, cs = [v] ∧ LS w S v x
  len := fun ⟨v, h, _⟩ => by rw [h]; rfl
  one := fun ⟨v, h, A, c, e, _⟩ u hu => by rw [h] at hu; simp at hu; subst hu; subst e; rfl
  agree := fun ⟨v, h, h2⟩ ha hT => ⟨v, h, h2.agree ha hT⟩
/-- One instruction, in its nine cells. -/
def rIns : Rep M.L where
  sz := 9
  is := fun w S x cs => ∃ h b e vL vB vE, x = .cons h b e .nil ∧ cs = item9 h vL vB vE ∧ Rng h ∧ NS w S vL h.labels ∧ LS w S vB b ∧ LS w S vE e
  len := fun ⟨h, b, e, vL, vB, vE, _, h2, _⟩ => by rw [h2]; rfl
  one := fun ⟨h, b, e, vL, vB, vE, _, h2, _, ⟨_, _, e1, _⟩, ⟨_, _, e2, _⟩, ⟨_, _, e3, _⟩⟩ u hu => by
    rw [h2] at hu
    simp only [item9, List.mem_cons, List.not_mem_nil, or_false] at hu
    rcases hu with rfl | rfl | rfl | rfl | rfl | rfl | rfl | rfl | rfl
    all_goals first | rfl | (rw [e1]; rfl) | (rw [e2]; rfl) | (rw [e3]; rfl)
  agree := fun ⟨h, b, e, vL, vB, vE, h1, h2, h3, h4, h5, h6⟩ ha hT => ⟨h, b, e, vL, vB, vE, h1, h2, h3, h4.agree ha hT, h5.agree ha hT, h6.agree ha hT⟩
/-- Two data side by side, said as one. -/
def rPair {α β γ : Type} (R : Rep α) (Q : Rep β) (f : γ → α) (g : γ → β) : Rep γ where
  sz := R.sz + Q.sz
  is := fun w S x cs => ∃ c d, cs = c ++ d ∧ R.is w S (f x) c ∧ Q.is w S (g x) d
  len := fun ⟨c, d, h, h1, h2⟩ => by rw [h, List.length_append, R.len h1, Q.len h2]
  one := fun ⟨c, d, h, h1, h2⟩ u hu => by
    rw [h] at hu
    rcases List.mem_append.1 hu with hu | hu
    · exact R.one h1 u hu
    · exact Q.one h2 u hu
  agree := fun ⟨c, d, h, h1, h2⟩ ha hT => ⟨c, d, h, R.agree h1 ha hT, Q.agree h2 ha hT⟩
def rP2 {α β : Type} (R : Rep α) (Q : Rep β) : Rep (α × β) := rPair R Q Prod.fst Prod.snd
def rFT : Rep M.FT := rPair rNums rNums (·.ps) (·.rs)
def rLim : Rep M.Lim := rPair rInt rInt (·.mn) (·.mx)
def rImp : Rep M.Imp := rPair (rP2 (rP2 (rP2 (rP2 rStr rStr) rInt) rInt) rBool) rLim (fun y => ((((y.mo, y.na), y.kd), y.ty), y.mu)) (·.lim)
def rFn : Rep M.Fn := rPair (rP2 rInt rNums) rL (fun y => (y.ty, y.lo)) (·.bo)
def rGlo : Rep M.Glo := rPair (rP2 rInt rBool) rIns (fun y => (y.ty, y.mu)) (·.ini)
def rExp : Rep M.Exp := rPair (rP2 rStr rInt) rInt (fun y => (y.na, y.kd)) (·.ix)
def rElm : Rep M.Elm := rPair (rP2 rInt rIns) rNums (fun y => (y.ta, y.off)) (·.fs)
def rDat : Rep M.Dat := rPair (rP2 rInt rIns) rBytes (fun y => (y.me, y.off)) (·.bs)
end Go.Proofs.YtilaheifccjjeaaGreat
namespace Go.Proofs.YtilaheifccjjeaaGreat
open Go.RowKit
theorem bytes_tail {w : World} {B : Nat} {ad : Addr} {b : Nat} {r : List Nat} (h : Bytes w B (some ad) (b :: r).length (M.bf (b :: r))) : Bytes w B (some ⟨ad.block, ad.off + 1, none⟩) r.length (M.bf r) := by
  intro i hi
  obtain ⟨ad', e, q1, q2, q3⟩ := h (1 + i) (by simp; omega)
  injection e with e
  subst e
  have e : M.bf (b :: r) (1 + i) = M.bf r i := by simp [M.bf, Nat.add_comm 1 i]
  rw [e] at q2 q3
  refine ⟨_, rfl, q1, q2, ?_⟩
  have e2 : (⟨ad.block, ad.off + 1, none⟩ : Addr) = ad.add 1 := by simp [Addr.add]
  rw [e2, add_add]; exact q3
/-- A number has been read into a cell, and the place gone on. -/
theorem put_int {rd : List Nat → Option (Int × List Nat)} {B P g j t c : Nat} {cur : Array Value} {bs r : List Nat} {w w1 : World} {u : Value} {A : Option Addr} {x : Int} (h : PAt B w P bs) (b1 : Below w.heap.size w w1) (hg : w.heap[g]? = some (.cells cur t (0, 0))) (hu : cur[j]? = some u) (hne : g ≠ P) (hB : B ≤ g) (hx : i64R x)
    (hrd : rd bs = some (x, r)) (hl : r.length ≤ bs.length) (hc : r.length ≤ c ∧ c ≤ maxLen) (hb : Bytes w B A r.length (M.bf r)) :
    MdPost rInt rd B P g j bs w (.returned (.bool true)) ((w1.setCell ⟨g, j, none⟩ (.int .i64 x)).setCell ⟨P, 0, none⟩ (.slice A r.length c)) := by
  have hgl := lt_row hg
  have hPl := h.lt
  have hPlo := h.lo
  have p1 := h.later b1
  have p2 := p1.set (j := j) hne hB (.int .i64 x)
  have b2 : Below B w (w1.setCell ⟨g, j, none⟩ (.int .i64 x)) := (b1.mono (by omega)).setCell (p := ⟨g, j, none⟩) hB _
  have hb2 := hb.below b2 (Nat.le_refl _)
  have p3 := p2.move hl hc hb2
  have hg1 : w1.heap[g]? = some (.cells cur t (0, 0)) := by rw [b1.block g hgl]; exact hg
  refine .inl ⟨x, r, [.int .i64 x], hrd, rfl, p3, ⟨rfl, hx⟩, fun i v hi => ?_, ?_⟩
  · cases i with
    | zero =>
      cases hi
      rw [Nat.add_zero, World.cell?_of_block (w := w1.setCell ⟨g, j, none⟩ (.int .i64 x)) (Below.heap_setCell _ _ _ _ (by show g ≠ P; exact hne))]
      exact World.cell?_setCell_same _ _ _ ((cell_row hg1 j).trans hu)
    | succ i => cases hi
  · exact ((Fr.of_below b1 hgl hne).trans (Fr.set w1 j _ (Nat.le_refl _) (by show j < j + 1; omega))).trans (Fr.setP _ 0 _ hne)
set_option maxRecDepth 100000 in
theorem mbyte_ok (u : Value) : MdOk 97 rInt [u] (M.cByteI fun _ => true).rd := by
  intro B P g j t cur bs w h hg hz hne hB
  have hpl := Lib.hid h
  obtain ⟨A, c, hP, h1, h2, h3⟩ := h.ex
  unfold maxLen at h2
  have c0 := cell_row hP 0
  have f0 := frozen_row hP 0
  have cj : w.cell? ⟨g, j, none⟩ = some u := (cell_row hg j).trans (hz 0 u rfl)
  have fj := frozen_row hg j
  simp only [List.size_toArray, List.length_cons, List.length_nil, Nat.lt_irrefl, List.getElem?_toArray, List.getElem?_cons_zero] at c0
  clear h
  replace hP := Lib.hid hP
  replace hg := Lib.hid hg
  replace hz := Lib.hid hz
  cases bs with
  | nil =>
    simp only [List.length_nil] at c0
    go_enter Tryz.func97, Tryz.ntmps97
    go_wp2_with fail
    go_ret
    exact .inr ⟨rfl, rfl, Kb.refl _ _⟩
  | cons b r =>
    obtain ⟨ad, rfl, q1, q2, q3⟩ := h3 0 (by simp)
    have hb0 : M.bf (b :: r) 0 = b := rfl
    rw [hb0] at q2 q3
    replace q3 : w.cell? ad = some (.int .u8 (b : Int)) := by simpa only [Addr.add, if_true] using q3
    simp only [List.length_cons] at c0 h1
    obtain ⟨n, hn⟩ : ∃ n, n = r.length := ⟨_, rfl⟩
    rw [← hn] at c0 h1
    replace hn := Lib.hid hn
    replace h3 := Lib.hid h3
    clear hb0
    have hPg : ¬ P = g := fun e => hne e.symm
    by_cases hc : c = 1
    · have hr : r.length = 0 := by have := hn.out; omega
      replace hr := Lib.hid hr
      go_enter Tryz.func97, Tryz.ntmps97
      go_wp2_with fail
      go_ret
      rw [hn.out]
      exact put_int hpl.out (Below.refl _ _) hg.out (hz.out 0 u rfl) hne hB ⟨by omega, by omega⟩ rfl (by simp) ⟨by have := hr.out; omega, by unfold maxLen; omega⟩ (fun i hi => by have := hr.out; omega)
    · go_enter Tryz.func97, Tryz.ntmps97
      go_wp2_with fail
      go_ret
      rw [hn.out]
      exact put_int hpl.out (Below.refl _ _) hg.out (hz.out 0 u rfl) hne hB ⟨by omega, by omega⟩ rfl (by simp) ⟨by have := hn.out; omega, by unfold maxLen; omega⟩ (bytes_tail h3.out)

set_option maxRecDepth 100000 in
theorem mnum_ok (u : Value) : MdOk 170 rInt [u] M.num := by
  intro B P g j t cur bs w h hg hz hne hB
  have hpl := Lib.hid h
  have hPl := h.lt
  have hPlo := h.lo
  have hsm := h.small
  obtain ⟨A, c, hP, h1, h2, h3⟩ := h.ex
  unfold maxLen at h2
  have c0 := cell_row hP 0
  simp only [List.size_toArray, List.length_cons, List.length_nil, Nat.lt_irrefl, List.getElem?_toArray, List.getElem?_cons_zero] at c0
  have f0 := frozen_row hP 0
  have cj : w.cell? ⟨g, j, none⟩ = some u := (cell_row hg j).trans (hz 0 u rfl)
  have fj := frozen_row hg j
  have hgl := lt_row hg
  have hB3 := Lib.hid (h3.below (C := w.heap.size) (Below.refl _ _) (by omega))
  replace h3 := Lib.hid h3
  clear h
  replace hP := Lib.hid hP
  replace hg := Lib.hid hg
  replace hz := Lib.hid hz
  have hPg : ¬ P = g := fun e => hne e.symm
  cases hnum : M.num bs with
  | none =>
    have hU := Lib.hid (num_none hnum)
    replace hnum := Lib.hid hnum
    go_enter Tryz.func170, Tryz.ntmps170
    go_wp2_with fail
    refine (Uint_no A bs.length c (M.bf bs) 32 _ hB3.out (by unfold maxLen; omega) (by omega) (by omega) hU.out).mono ?_
    rintro e1 w1 ⟨rfl, b1⟩
    replace b1 := Lib.hid b1
    go_wp2_with fail
    go_ret
    exact .inr ⟨hnum.out, rfl, .of_below b1.out⟩
  | some p =>
    obtain ⟨x, r⟩ := p
    obtain ⟨n, hU, hv, hr, n1, n2, n5, v0, v1⟩ := num_of hnum
    obtain ⟨ad, rfl, _⟩ := h3.out 0 (by omega)
    obtain ⟨m, hm⟩ : ∃ m, m = M.low (M.bf bs) n := ⟨_, rfl⟩
    rw [← hm] at hv
    subst hv
    replace hm := Lib.hid hm
    have hrl : r.length = bs.length - n := by rw [hr, List.length_drop]
    have hbr := Lib.hid (show Bytes w B (some (ad.add n)) r.length (M.bf r) by rw [hr]; exact rest_bytes n h3.out)
    replace hU := Lib.hid hU
    replace hr := Lib.hid hr
    replace hnum := Lib.hid hnum
    replace hrl := Lib.hid hrl
    by_cases hc : c = n
    all_goals
      go_enter Tryz.func170, Tryz.ntmps170
      go_wp2_with fail
      refine (Uint_yes (some ad) bs.length _ (M.bf bs) 32 n _ hB3.out (by unfold maxLen; omega) (by omega) (by omega) hU.out).mono ?_
      rintro e1 w1 ⟨rfl, b1⟩
      rw [← hm.out]
      have c01 : w1.cell? ⟨P, 0, none⟩ = _ := (b1.cell (p := ⟨P, 0, none⟩) hPl).trans c0
      have f01 : w1.frozen? ⟨P, 0, none⟩ = _ := (b1.frozen (p := ⟨P, 0, none⟩) hPl).trans f0
      have cj1 : w1.cell? ⟨g, j, none⟩ = _ := (b1.cell (p := ⟨g, j, none⟩) hgl).trans cj
      have fj1 : w1.frozen? ⟨g, j, none⟩ = _ := (b1.frozen (p := ⟨g, j, none⟩) hgl).trans fj
      replace b1 := Lib.hid b1
      clear c0 f0 cj fj
      go_wp2_with fail
      go_ret
      rw [← hrl.out]
      first
        | exact put_int hpl.out b1.out hg.out (hz.out 0 u rfl) hne hB ⟨by omega, by omega⟩ hnum.out (by rw [hrl.out]; omega) ⟨by rw [hrl.out]; omega, by unfold maxLen; omega⟩ hbr.out
        | exact put_int hpl.out b1.out hg.out (hz.out 0 u rfl) hne hB ⟨by omega, by omega⟩ hnum.out (by rw [hrl.out]; omega) ⟨by rw [hrl.out]; omega, by unfold maxLen; omega⟩ (fun i hi => by rw [hrl.out] at hi; omega)
theorem kb_new {P : Nat} {w w' : World} {o : Obj} (h : Kb (fun k => k = P ∨ k = w.heap.size) (w.alloc o) w') : Kb (· = P) w w' :=
  ⟨h.os, h.tape, h.output, by have := h.size; simp at this; omega, fun k hk hne => by
    rw [h.block k (by simp; omega) (by omega)]
    exact Below.heap_alloc _ _ _ hk⟩
theorem PAt.alloc {B : Nat} {w : World} {P : Nat} {bs : List Nat} (h : PAt B w P bs) (o : Obj) : PAt B (w.alloc o) P bs := h.later ((Below.refl _ _).alloc (Nat.le_refl _) o)
/-- What reading a byte that must be x leaves. -/
def FxPost (x B P : Nat) (bs : List Nat) (w : World) (e : Ending) (w' : World) : Prop :=
  (∃ r, (M.cFix x).rd bs = some ((), r) ∧ e = .returned (.bool true) ∧ PAt B w' P r ∧ Kb (· = P) w w') ∨ ((M.cFix x).rd bs = none ∧ e = .returned (.bool false) ∧ Kb (· = P) w w')
theorem fix_byte (x : Nat) (bs : List Nat) : (M.cFix x).rd bs = ((M.cByteI fun _ => true).rd bs).bind fun p => if p.1 = (x : Int) then some ((), p.2) else none := by
  cases bs with
  | nil => rfl
  | cons b r =>
    by_cases h : b = x
    · subst h; simp [M.cFix, M.cByteI]
    · have h' : ¬ (b : Int) = (x : Int) := by omega
      simp [M.cFix, M.cByteI, h, h']
set_option maxRecDepth 100000 in
theorem mfixed_any (x B P : Nat) (bs : List Nat) (w : World) (h : PAt B w P bs) (hx : x < 256) : Calls Tryz.prog 71 #[.pointer (some ⟨P, 0, none⟩), .int .i64 (x : Nat)] w (FxPost x B P bs w) := by
  have hPl := h.lt
  have hPlo := h.lo
  have ha := Lib.hid (h.alloc (.cells #[.int .i64 0] 3))
  have hfx := Lib.hid (fix_byte x bs)
  replace h := Lib.hid h
  go_enter Tryz.func71, Tryz.ntmps71
  go_wp2_with fail
  refine (mbyte_ok (.int .i64 0) B P w.heap.size 0 3 #[.int .i64 0] bs _ ha.out (heap_alloc_new w _) (fun i u hu => by simpa using hu) (by omega) (by omega)).mono ?_
  rintro e1 w1 (⟨y, r, cs, hrd, rfl, p1, ⟨rfl, hy⟩, hc, fr⟩ | ⟨hrd, rfl, kb⟩)
  · have c1 : w1.cell? ⟨w.heap.size, 0, none⟩ = some (.int .i64 y) := hc 0 _ rfl
    rw [hrd] at hfx
    replace hrd := Lib.hid hrd
    replace p1 := Lib.hid p1
    replace fr := Lib.hid (kb_new fr.kb)
    clear hc
    by_cases hyx : y = (x : Int)
    · have t1 : (y == (x : Int)) = true := by rw [beq_iff_eq]; exact hyx
      replace hyx := Lib.hid hyx
      go_wp2_with fail
      go_ret
      exact .inl ⟨r, by rw [hfx.out, Option.bind_some, if_pos hyx.out], rfl, p1.out, fr.out⟩
    · have t1 : (y == (x : Int)) = false := by rw [beq_eq_false_iff_ne]; exact hyx
      replace hyx := Lib.hid hyx
      go_wp2_with fail
      go_ret
      exact .inr ⟨by rw [hfx.out, Option.bind_some, if_neg hyx.out], rfl, fr.out⟩
  · rw [hrd] at hfx
    replace kb := Lib.hid (kb_new kb)
    go_wp2_with fail
    go_ret
    exact .inr ⟨hfx.out, rfl, kb.out⟩
/-- What reading a piece leaves: it stays where it is. -/
def PcPost (B P g j : Nat) (bs : List Nat) (w : World) (e : Ending) (w' : World) : Prop :=
  (∃ x r A c, M.cPiece.rd bs = some (x, r) ∧ e = .returned (.bool true) ∧ PAt B w' P r ∧ w'.cell? ⟨g, j, none⟩ = some (.slice A x.length c) ∧ (x.length ≤ c ∧ c ≤ maxLen) ∧ Bytes w' B A x.length (M.bf x) ∧ x.length ≤ 65536 ∧ Fr P g j 1 w w') ∨
  (M.cPiece.rd bs = none ∧ e = .returned (.bool false) ∧ Kb (fun k => k = P ∨ k = g) w w')
theorem Fr.new {P g j s : Nat} {w w' : World} {o : Obj} (hg : g < w.heap.size) (hgP : g ≠ P) (h : Kb (fun k => k = P ∨ k = w.heap.size) (w.alloc o) w') : Fr P g j s w w' := Fr.of_kb (kb_new h) hg hgP
theorem bytes_take {w : World} {B : Nat} {A : Option Addr} {bs : List Nat} (n : Nat) (hn : n ≤ bs.length) (h : Bytes w B A bs.length (M.bf bs)) : Bytes w B A (bs.take n).length (M.bf (bs.take n)) := by
  intro i hi
  have hi' : i < n := by simp at hi; omega
  obtain ⟨ad, e, q1, q2, q3⟩ := h i (by omega)
  have e2 : M.bf (bs.take n) i = M.bf bs i := by simp [M.bf, List.getD_eq_getElem?_getD, List.getElem?_take_of_lt hi']
  rw [e2]
  exact ⟨ad, e, q1, q2, q3⟩
/-- What a reader leaves where it reads. -/
def YesPost {α : Type} (R : Rep α) (x : α) (r : List Nat) (B P g j : Nat) (w : World) (e : Ending) (w' : World) : Prop :=
  e = .returned (.bool true) ∧ PAt B w' P r ∧ (∃ cs, R.is w' (Since w.heap.size w') x cs ∧ (∀ i u, cs[i]? = some u → w'.cell? ⟨g, j + i, none⟩ = some u)) ∧ Fr P g j R.sz w w'
/-- The same memory. -/
structure Same (w W : World) : Prop where
  heap : W.heap = w.heap
  os : W.os = w.os
  tape : W.tape = w.tape
  output : W.output = w.output
theorem Same.kb {T : Nat → Prop} {w W w' : World} (s : Same w W) (h : Kb T W w') : Kb T w w' := ⟨h.os.trans s.os, h.tape.trans s.tape, h.output.trans s.output, by have := h.size; rw [s.heap] at this; exact this, fun k hk ht => by rw [h.block k (by rw [s.heap]; exact hk) ht, s.heap]⟩
theorem Same.fr {P g j n : Nat} {w W w' : World} (s : Same w W) (h : Fr P g j n W w') : Fr P g j n w w' := ⟨s.kb h.kb, fun cur t hc => h.row cur t (by rw [s.heap]; exact hc)⟩
theorem Same.pat {B P : Nat} {bs : List Nat} {w W : World} (s : Same w W) (h : PAt B w P bs) : PAt B W P bs := h.agree fun k _ => by rw [s.heap]
theorem Same.below {B : Nat} {w W w' : World} (s : Same w W) (h : Below B W w') : Below B w w' := ⟨h.os.trans s.os, h.tape.trans s.tape, h.output.trans s.output, by have := h.size; rw [s.heap] at this; exact this, fun k hk => by rw [h.block k hk, s.heap]⟩
theorem MdOk.at {α : Type} {f : Nat} {R : Rep α} {z : List Value} {rd : List Nat → Option (α × List Nat)} (h : MdOk f R z rd) {B P g j t : Nat} {cur : Array Value} {bs : List Nat} {w W : World} (s : Same w W) (h1 : PAt B w P bs) (h2 : w.heap[g]? = some (.cells cur t (0, 0))) (h3 : ∀ i u, z[i]? = some u → cur[j + i]? = some u) (h4 : g ≠ P) (h5 : B ≤ g) :
    Calls Tryz.prog f #[.pointer (some ⟨P, 0, none⟩), .pointer (some ⟨g, j, none⟩)] W (MdPost R rd B P g j bs w) :=
  (h B P g j t cur bs W (s.pat h1) (by rw [s.heap]; exact h2) h3 h4 h5).mono fun e w' hp => by
    rcases hp with ⟨x', r', cs, q1, q2, q3, q4, q5, q6⟩ | ⟨q1, q2, q3⟩
    · exact .inl ⟨x', r', cs, q1, q2, q3, by rw [← s.heap]; exact q4, q5, s.fr q6⟩
    · exact .inr ⟨q1, q2, s.kb q3⟩
theorem MdOk.yes {α : Type} {f : Nat} {R : Rep α} {z : List Value} {rd : List Nat → Option (α × List Nat)} (h : MdOk f R z rd) {B P g j t : Nat} {cur : Array Value} {bs : List Nat} {w W : World} {x : α} {r : List Nat} (hrd : rd bs = some (x, r)) (h1 : PAt B w P bs) (h2 : w.heap[g]? = some (.cells cur t (0, 0))) (h3 : ∀ i u, z[i]? = some u → cur[j + i]? = some u) (h4 : g ≠ P) (h5 : B ≤ g) (s : Same w W) :
    Calls Tryz.prog f #[.pointer (some ⟨P, 0, none⟩), .pointer (some ⟨g, j, none⟩)] W (YesPost R x r B P g j w) :=
  (h.at s h1 h2 h3 h4 h5).mono fun e w' hp => by
    rcases hp with ⟨x', r', cs, q1, q2, q3, q4, q5, q6⟩ | ⟨q1, _⟩
    · rw [hrd] at q1; cases q1; exact ⟨q2, q3, ⟨cs, q4, q5⟩, q6⟩
    · rw [hrd] at q1; cases q1
theorem MdOk.no {α : Type} {f : Nat} {R : Rep α} {z : List Value} {rd : List Nat → Option (α × List Nat)} (h : MdOk f R z rd) {B P g j t : Nat} {cur : Array Value} {bs : List Nat} {w W : World} (hrd : rd bs = none) (h1 : PAt B w P bs) (h2 : w.heap[g]? = some (.cells cur t (0, 0))) (h3 : ∀ i u, z[i]? = some u → cur[j + i]? = some u) (h4 : g ≠ P) (h5 : B ≤ g) (s : Same w W) :
    Calls Tryz.prog f #[.pointer (some ⟨P, 0, none⟩), .pointer (some ⟨g, j, none⟩)] W fun e w' => e = .returned (.bool false) ∧ Kb (fun k => k = P ∨ k = g) w w' :=
  (h.at s h1 h2 h3 h4 h5).mono fun e w' hp => by
    rcases hp with ⟨x', r', cs, q1, _⟩ | ⟨_, q2, q3⟩
    · rw [hrd] at q1; cases q1
    · exact ⟨q2, q3⟩
theorem one_row (v : Value) : ∀ i y, [v][i]? = some y → #[v][0 + i]? = some y := fun i y h => by simpa using h
theorem Same.pcell {w W : World} (s : Same w W) (a : Addr) : W.cell? a = w.cell? a := World.cell?_of_block (by rw [s.heap])
theorem same_drew (w : World) : Same w w.drew := ⟨rfl, rfl, rfl, rfl⟩
theorem Fr.after {P g j s : Nat} {w w1 W : World} (h : Fr P g j s w w1) (q : Same w1 W) : Fr P g j s w W :=
  ⟨⟨q.os.trans h.kb.os, q.tape.trans h.kb.tape, q.output.trans h.kb.output, by rw [q.heap]; exact h.kb.size, fun k hk ht => by rw [q.heap]; exact h.kb.block k hk ht⟩, fun cur t hc => by
    obtain ⟨c1, h1, h2⟩ := h.row cur t hc
    exact ⟨c1, by rw [q.heap]; exact h1, h2⟩⟩
/-- Something has been read into the cells j .. of block g; behind it these values lie. -/
structure Prog {α : Type} (R : Rep α) (x : α) (z : List Value) (B P g j t : Nat) (r : List Nat) (w0 w : World) : Prop where
  pat : PAt B w P r
  cells : ∃ cs cur, R.is w (Since w0.heap.size w) x cs ∧ w.heap[g]? = some (.cells cur t (0, 0)) ∧ (∀ i u, cs[i]? = some u → cur[j + i]? = some u) ∧ (∀ i u, z[i]? = some u → cur[j + R.sz + i]? = some u)
  fr : Fr P g j R.sz w0 w
  hg : g < w0.heap.size
  ne : g ≠ P
  hP : P < w0.heap.size
  hB : B ≤ g
theorem Prog.start {α : Type} {R : Rep α} {x : α} {zR z : List Value} {B P g j t : Nat} {cur : Array Value} {bs r : List Nat} {w w' : World} (h : PAt B w P bs) (hg : w.heap[g]? = some (.cells cur t (0, 0))) (hz : ∀ i u, (zR ++ z)[i]? = some u → cur[j + i]? = some u) (hl : zR.length = R.sz) (hne : g ≠ P) (hB : B ≤ g) (hy : YesPost R x r B P g j w (.returned (.bool true)) w') : Prog R x z B P g j t r w w' := by
  obtain ⟨_, p1, ⟨cs, hi, hc⟩, fr⟩ := hy
  obtain ⟨cur', h1, h2, h3⟩ := fr.row cur t hg
  refine ⟨p1, ⟨cs, cur', hi, h1, fun i u hu => ?_, fun i u hu => ?_⟩, fr, lt_row hg, hne, h.lt, hB⟩
  · rw [← cell_row h1]; exact hc i u hu
  · rw [h3 _ (.inr (by omega)), Nat.add_assoc]
    refine hz _ _ ?_
    rw [List.getElem?_append_right (by omega), hl, Nat.add_sub_cancel_left]
    exact hu
theorem Prog.row {α : Type} {R : Rep α} {x : α} {z : List Value} {B P g j t : Nat} {r : List Nat} {w0 w : World} (h : Prog R x z B P g j t r w0 w) : ∃ cur, w.heap[g]? = some (.cells cur t (0, 0)) ∧ ∀ i u, z[i]? = some u → cur[j + R.sz + i]? = some u := by
  obtain ⟨cs, cur, h1, h2, h3, h4⟩ := h.cells
  exact ⟨cur, h2, h4⟩
theorem Prog.step {α β : Type} {R : Rep α} {Q : Rep β} {x : α} {y : β} {zQ z : List Value} {B P g j t : Nat} {r r' : List Nat} {w0 w w' : World} (h : Prog R x (zQ ++ z) B P g j t r w0 w) (hl : zQ.length = Q.sz) (hy : YesPost Q y r' B P g (j + R.sz) w (.returned (.bool true)) w') : Prog (rP2 R Q) (x, y) z B P g j t r' w0 w' := by
  obtain ⟨_, p1, ⟨ds, hi, hc⟩, fr⟩ := hy
  obtain ⟨cs, cur, h1, h2, h3, h4⟩ := h.cells
  obtain ⟨cur', k1, k2, k3⟩ := fr.row cur t h2
  have hs0 := h.fr.kb.size
  have hs1 := fr.kb.size
  have hlen := R.len h1
  have hg0 := h.hg
  have hP0 := h.hP
  have ag : Agree (Since w0.heap.size w) w w' := fun k hk => fr.kb.block k hk.2 (by have := hk.1; omega)
  refine ⟨p1, ⟨cs ++ ds, cur', ⟨cs, ds, rfl, R.agree h1 ag (fun k hk => ⟨hk.1, by have := hk.2; omega⟩), Q.agree hi (fun _ _ => rfl) (fun k hk => ⟨by have := hk.1; omega, hk.2⟩)⟩, k1, fun i u hu => ?_, fun i u hu => ?_⟩, ?_, h.hg, h.ne, h.hP, h.hB⟩
  · by_cases hi : i < cs.length
    · rw [List.getElem?_append_left hi] at hu
      rw [k3 _ (.inl (by omega))]
      exact h3 i u hu
    · rw [List.getElem?_append_right (by omega), hlen] at hu
      have := hc _ _ hu
      rw [cell_row k1, show j + R.sz + (i - R.sz) = j + i by omega] at this
      exact this
  · show cur'[j + (R.sz + Q.sz) + i]? = some u
    rw [k3 _ (.inr (by omega)), show j + (R.sz + Q.sz) + i = j + R.sz + (Q.sz + i) by omega]
    refine h4 _ _ ?_
    rw [List.getElem?_append_right (by omega), hl, Nat.add_sub_cancel_left]
    exact hu
  · exact (h.fr.wide (Nat.le_refl _) (show j + R.sz ≤ j + (R.sz + Q.sz) by omega)).trans (fr.wide (by omega) (show j + R.sz + Q.sz ≤ j + (R.sz + Q.sz) by omega))
/-- Nothing but the place has changed. -/
theorem Prog.skip {α : Type} {R : Rep α} {x : α} {z : List Value} {B P g j t : Nat} {r r' : List Nat} {w0 w w' : World} (h : Prog R x z B P g j t r w0 w) (p1 : PAt B w' P r') (kb : Kb (· = P) w w') : Prog R x z B P g j t r' w0 w' := by
  obtain ⟨cs, cur, h1, h2, h3, h4⟩ := h.cells
  have hs0 := h.fr.kb.size
  have hs1 := kb.size
  have hg0 := h.hg
  have hP0 := h.hP
  exact ⟨p1, ⟨cs, cur, R.agree h1 (fun k hk => kb.block k hk.2 (by have := hk.1; omega)) (fun k hk => ⟨hk.1, by have := hk.2; omega⟩), by rw [kb.block g (by omega) h.ne]; exact h2, h3, h4⟩, h.fr.trans (Fr.of_kb kb (by omega) h.ne), h.hg, h.ne, h.hP, h.hB⟩
theorem Prog.fin {α β : Type} {R : Rep α} {R2 : Rep β} {x : α} {y : β} {z : List Value} {B P g j t : Nat} {bs r : List Nat} {w0 w : World} {rd : List Nat → Option (β × List Nat)} (h : Prog R x z B P g j t r w0 w) (hrd : rd bs = some (y, r)) (hs : R2.sz = R.sz) (hi : ∀ cs, R.is w (Since w0.heap.size w) x cs → R2.is w (Since w0.heap.size w) y cs) : MdPost R2 rd B P g j bs w0 (.returned (.bool true)) w := by
  obtain ⟨cs, cur, h1, h2, h3, h4⟩ := h.cells
  exact .inl ⟨y, r, cs, hrd, rfl, h.pat, hi cs h1, fun i u hu => by rw [cell_row h2]; exact h3 i u hu, by rw [hs]; exact h.fr⟩
theorem Prog.bad {α : Type} {R : Rep α} {x : α} {z : List Value} {B P g j t : Nat} {r : List Nat} {w0 w w' : World} (h : Prog R x z B P g j t r w0 w) (kb : Kb (fun k => k = P ∨ k = g) w w') : Kb (fun k => k = P ∨ k = g) w0 w' := h.fr.kb.trans kb
theorem kb_g {P g : Nat} {w w' : World} (h : Kb (· = P) w w') : Kb (fun k => k = P ∨ k = g) w w' := h.mono fun _ hk => .inl hk
end Go.Proofs.YtilaheifccjjeaaGreat
namespace Go.Proofs.YtilaheifccjjeaaGreat
open Go.RowKit
theorem isValueType_any (y : Int) (w : World) : Calls Tryz.prog 178 #[.int .i64 y] w fun e w' => e = .returned (.bool (y == 127 || y == 126)) ∧ w = w' := by
  by_cases h1 : y = 127
  · subst h1
    go_enter Tryz.func178, Tryz.ntmps178
    go_wp2
    go_ret
    exact ⟨rfl, rfl⟩
  · have t1 : (y == 127) = false := by rw [beq_eq_false_iff_ne]; exact h1
    go_enter Tryz.func178, Tryz.ntmps178
    go_wp2
    go_ret
    exact ⟨ret_bool (by rw [t1, Bool.false_or]), rfl⟩
theorem val_byte (bs : List Nat) : M.cVal.rd bs = ((M.cByteI fun _ => true).rd bs).bind fun p => if (p.1 == 127 || p.1 == 126) = true then some p else none := by
  cases bs with
  | nil => rfl
  | cons b r =>
    have e : M.isVal b = ((b : Int) == 127 || (b : Int) == 126) := by
      unfold M.isVal
      by_cases h1 : b = 127
      · subst h1; rfl
      · by_cases h2 : b = 126
        · subst h2; rfl
        · have a1 : ((b : Int) == 127) = false := by rw [beq_eq_false_iff_ne]; omega
          have a2 : ((b : Int) == 126) = false := by rw [beq_eq_false_iff_ne]; omega
          have a3 : (b == 127) = false := by rw [beq_eq_false_iff_ne]; omega
          have a4 : (b == 126) = false := by rw [beq_eq_false_iff_ne]; omega
          rw [a1, a2, a3, a4]
    simp [M.cVal, M.cByteI, e]
set_option maxRecDepth 100000 in
theorem mval_ok (u : Value) : MdOk 194 rInt [u] M.cVal.rd := by
  intro B P g j t cur bs w h hg hz hne hB
  have hv := Lib.hid (val_byte bs)
  have cN := Lib.hid (mbyte_ok u B P g j t cur bs w h hg hz hne hB)
  clear h hg hz
  go_enter Tryz.func194, Tryz.ntmps194
  go_wp2_with fail
  refine cN.out.mono ?_
  rintro e1 w1 (⟨y, r, cs, hrd, rfl, p1, ⟨rfl, hy⟩, hc, fr⟩ | ⟨hrd, rfl, kb⟩)
  · rw [hrd] at hv
    simp only [Option.bind_some] at hv
    have c1 : w1.cell? ⟨g, j, none⟩ = some (.int .i64 y) := hc 0 _ rfl
    have fin := Lib.hid (show ∀ b, (y == 127 || y == 126) = b → MdPost rInt M.cVal.rd B P g j bs w (.returned (.bool b)) w1 from fun b hb => by
      cases b with
      | true => exact .inl ⟨y, r, _, by rw [hv.out, if_pos hb], rfl, p1, ⟨rfl, hy⟩, hc, fr⟩
      | false => exact .inr ⟨by rw [hv.out, if_neg (by rw [hb]; exact Bool.false_ne_true)], rfl, fr.kb⟩)
    clear hc fr p1
    go_wp2_with fail
    refine (isValueType_any y _).mono ?_
    rintro e2 w2 ⟨rfl, rfl⟩
    obtain ⟨b, hb⟩ : ∃ b, (y == 127 || y == 126) = b := ⟨_, rfl⟩
    rw [hb]
    have fb := Lib.hid (fin.out b hb)
    clear hb fin
    go_wp2_with fail
    all_goals go_ret
    all_goals first | exact fb.out | (rename_i hq; cases hq; exact fb.out) | (simp_all; done)
  · rw [hrd] at hv
    replace kb := Lib.hid kb
    go_wp2_with fail
    go_ret
    exact .inr ⟨hv.out, rfl, kb.out⟩
theorem flag_byte (bs : List Nat) : M.cFlag.rd bs = ((M.cByteI fun _ => true).rd bs).bind fun p => if p.1 ≤ 1 then some (p.1 == 1, p.2) else none := by
  cases bs with
  | nil => rfl
  | cons b r =>
    by_cases h : b ≤ 1
    · have h' : (b : Int) ≤ 1 := by omega
      have e : (b == 1) = ((b : Int) == 1) := by
        by_cases h1 : b = 1
        · subst h1; rfl
        · have a1 : ((b : Int) == 1) = false := by rw [beq_eq_false_iff_ne]; omega
          rw [a1, beq_eq_false_iff_ne]; exact h1
      simp [M.cFlag, M.cByteI, h, h', e]
    · have h' : ¬ (b : Int) ≤ 1 := by omega
      simp [M.cFlag, M.cByteI, h, h']
theorem byte_rng {bs r : List Nat} {y : Int} (h : (M.cByteI fun _ => true).rd bs = some (y, r)) : 0 ≤ y := by
  cases bs with
  | nil => cases h
  | cons b s => simp [M.cByteI] at h; omega
set_option maxRecDepth 100000 in
theorem mflag_ok (u : Value) : MdOk 195 rBool [u] M.cFlag.rd := by
  intro B P g j t cur bs w h hg hz hne hB
  have hv := Lib.hid (flag_byte bs)
  have hPl := h.lt
  have hPlo := h.lo
  have hgl := lt_row hg
  have ha := Lib.hid (h.alloc (.cells #[.int .i64 0] 3))
  have hPg : ¬ P = g := fun e => hne e.symm
  replace hg := Lib.hid hg
  replace hz := Lib.hid hz
  clear h
  go_enter Tryz.func195, Tryz.ntmps195
  go_wp2_with fail
  refine (mbyte_ok (.int .i64 0) B P w.heap.size 0 3 #[.int .i64 0] bs _ ha.out (heap_alloc_new w _) (one_row _) (by omega) (by omega)).mono ?_
  rintro e1 w1 (⟨y, r, cs, hrd, rfl, p1, ⟨rfl, hy⟩, hc, fr⟩ | ⟨hrd, rfl, kb⟩)
  · have y0 := byte_rng hrd
    rw [hrd] at hv
    simp only [Option.bind_some] at hv
    have c1 : w1.cell? ⟨w.heap.size, 0, none⟩ = some (.int .i64 y) := hc 0 _ rfl
    have kb := kb_new fr.kb
    have hg1 : w1.heap[g]? = some (.cells cur t (0, 0)) := by rw [kb.block g hgl hne]; exact hg.out
    have cj : w1.cell? ⟨g, j, none⟩ = some u := (cell_row hg1 j).trans (hz.out 0 u rfl)
    have fj := frozen_row hg1 j
    replace hg1 := Lib.hid hg1
    replace kb := Lib.hid kb
    replace p1 := Lib.hid p1
    clear hc fr
    by_cases h1 : y ≤ 1
    · have fin := Lib.hid (show MdPost rBool M.cFlag.rd B P g j bs w (.returned (.bool true)) (w1.setCell ⟨g, j, none⟩ (.bool (y == 1))) from
        .inl ⟨y == 1, r, [.bool (y == 1)], by rw [hv.out, if_pos h1], rfl, p1.out.set hne hB _, rfl, fun i v hi => (by
          cases i with
          | zero => cases hi; exact World.cell?_setCell_same _ _ _ cj
          | succ i => cases hi), (Fr.of_kb kb.out hgl hne).trans (Fr.set w1 j _ (Nat.le_refl _) (by show j < j + 1; omega))⟩)
      go_wp2_with fail
      go_ret
      exact fin.out
    · go_wp2_with fail
      go_ret
      exact .inr ⟨by rw [hv.out, if_neg (by omega)], rfl, kb_g kb.out⟩
  · rw [hrd] at hv
    replace kb := Lib.hid (kb_new kb)
    go_wp2_with fail
    go_ret
    exact .inr ⟨hv.out, rfl, kb_g kb.out⟩
end Go.Proofs.YtilaheifccjjeaaGreat
namespace Go.Proofs.YtilaheifccjjeaaGreat
open Go.RowKit
theorem one_BS (w : World) (b : Nat) (x : Int) (hx : x = (b : Nat)) (hb : b < 256) : BS (w.alloc (.cells #[.int .u8 x] 5)) (w.alloc (.cells #[.int .u8 x] 5)).heap.size (.slice (some ⟨w.heap.size, 0, none⟩) 1 1) [b] := by
  subst hx
  refine ⟨_, 1, rfl, by simp, by unfold maxLen; omega, fun i hi => ⟨_, rfl, by simp, ?_, ?_⟩⟩
  all_goals
    have hi2 : i < 1 := hi
    obtain rfl : i = 0 := by omega
    first | exact hb | simp [Addr.add]
theorem tone_any (B : Nat) (w : World) (P : Nat) (out : List Nat) (b : Nat) (x : Int) (h : MTx B w P out) (hx : x = (b : Nat)) (hb : b < 256) :
    Calls Tryz.prog 64 #[.pointer (some ⟨P, 0, none⟩), .slice (some ⟨w.heap.size, 0, none⟩) 1 1] (w.alloc (.cells #[.int .u8 x] 5)) (WrPost B P out True [b] w) := by
  have b1 : Below w.heap.size w (w.alloc (.cells #[.int .u8 x] 5)) := (Below.refl _ _).alloc (Nat.le_refl _) _
  exact (tput_any B _ P out [b] _ (h.later b1) (one_BS w b x hx hb) (by simp)).mono fun e w' k => k.pre (.ofBelow h.lt b1)
theorem WrPost.iffI {B P : Nat} {out ys : List Nat} {A C : Prop} {w w1 : World} {e : Ending} (hi : A ↔ C) (h : WrPost B P out A ys w e w1) : WrPost B P out C ys w e w1 := h.iff hi
theorem WrPost.no {B P : Nat} {out ys : List Nat} {C : Prop} {w : World} (h : ¬ C) : WrPost B P out C ys w (.returned (.bool false)) w := .inr ⟨fun hh => h hh.1, rfl, Wro.refl _ _⟩
theorem cVal_ok (x : Int) : M.cVal.ok x ↔ x = 127 ∨ x = 126 := by
  show (0 ≤ x ∧ M.isVal x.toNat = true) ↔ _
  unfold M.isVal
  simp
  omega
set_option maxRecDepth 100000 in
theorem tval2_any (B : Nat) (w : World) (P : Nat) (out : List Nat) (x : Int) (h : MTx B w P out) :
    Calls Tryz.prog 140 #[.pointer (some ⟨P, 0, none⟩), .int .i64 x] w (WrPost B P out (M.cVal.ok x) (M.cVal.wr x) w) := by
  have hok := Lib.hid (cVal_ok x)
  replace h := Lib.hid h
  by_cases hx : x = 127 ∨ x = 126
  · rcases hx with rfl | rfl
    all_goals
      go_enter Tryz.func140, Tryz.ntmps140
      go_wp2_with fail
      refine (isValueType_any _ _).mono ?_
      rintro e1 w1 ⟨rfl, rfl⟩
      go_wp2_with fail
      refine (tone_any B w P out _ _ h.out (by first | exact (show (127 : Int) = ((127 : Nat) : Int) from rfl) | exact (show (126 : Int) = ((126 : Nat) : Int) from rfl)) (by decide)).mono ?_
      intro e2 w2 h2
      have this := Lib.hid (h2.iff (C := _) (show True ↔ _ from ⟨fun _ => hok.out.2 (by decide), fun _ => trivial⟩))
      rcases h2 with ⟨_, _, rfl, _⟩ | ⟨_, rfl, _⟩
      all_goals
        go_wp2_with fail
        go_ret
        exact this.out
  · have hb : (x == 127 || x == 126) = false := by simp; omega
    go_enter Tryz.func140, Tryz.ntmps140
    go_wp2_with fail
    refine (isValueType_any _ _).mono ?_
    rintro e1 w1 ⟨rfl, rfl⟩
    go_wp2_with fail
    go_ret
    exact WrPost.no (fun hh => hx (hok.out.1 hh))
def KindOk (x : Int) : Prop := 0 ≤ x ∧ x ≤ 3
set_option maxRecDepth 100000 in
theorem tkind_any (B : Nat) (w : World) (P : Nat) (out : List Nat) (x : Int) (h : MTx B w P out) :
    Calls Tryz.prog 143 #[.pointer (some ⟨P, 0, none⟩), .int .i64 x] w (WrPost B P out (KindOk x) [x.toNat] w) := by
  replace h := Lib.hid h
  by_cases hx : 0 ≤ x ∧ x ≤ 3
  · rcases (show x = 0 ∨ x = 1 ∨ x = 2 ∨ x = 3 by omega) with rfl | rfl | rfl | rfl
    all_goals
      go_enter Tryz.func143, Tryz.ntmps143
      go_wp2_with fail
      refine (tone_any B w P out _ _ h.out (by first | exact (show (0 : Int) = ((0 : Nat) : Int) from rfl) | exact (show (1 : Int) = ((1 : Nat) : Int) from rfl) | exact (show (2 : Int) = ((2 : Nat) : Int) from rfl) | exact (show (3 : Int) = ((3 : Nat) : Int) from rfl)) (by decide)).mono ?_
      intro e2 w2 h2
      have this := Lib.hid (WrPost.iffI (show True ↔ KindOk _ from ⟨fun _ => hx, fun _ => trivial⟩) h2)
      rcases h2 with ⟨_, _, rfl, _⟩ | ⟨_, rfl, _⟩
      all_goals
        go_wp2_with fail
        go_ret
        exact this.out
  · have hno := Lib.hid hx
    rcases (show x < 0 ∨ (0 ≤ x ∧ 3 < x) by omega) with h1 | ⟨h1, h2⟩
    all_goals
      clear hx
      go_enter Tryz.func143, Tryz.ntmps143
      go_wp2_with fail
      go_ret
      exact WrPost.no hno.out
set_option maxRecDepth 100000 in
theorem tflag_any (B : Nat) (w : World) (P : Nat) (out : List Nat) (t : Bool) (h : MTx B w P out) :
    Calls Tryz.prog 148 #[.pointer (some ⟨P, 0, none⟩), .bool t] w (WrPost B P out True (M.cFlag.wr t) w) := by
  replace h := Lib.hid h
  cases t
  all_goals
    go_enter Tryz.func148, Tryz.ntmps148
    go_wp2_with fail
    refine (tone_any B w P out _ _ h.out (by first | exact (show (0 : Int) = ((0 : Nat) : Int) from rfl) | exact (show (1 : Int) = ((1 : Nat) : Int) from rfl)) (by decide)).mono ?_
    intro e2 w2 h2
    have this := Lib.hid h2
    rcases h2 with ⟨_, _, rfl, _⟩ | ⟨_, rfl, _⟩
    all_goals
      go_wp2_with fail
      go_ret
      exact this.out
/-- A block that is newer than the text stays as it was while the text is written. -/
theorem box_tb {B P g : Nat} {w W0 : World} {out : List Nat} (h : MTx B w P out) (b0 : Below w.heap.size w W0) (hg : w.heap.size ≤ g) : ¬ TB W0 P g := fun e => by
  rcases e with e | ⟨v, h3, h4⟩
  · have := h.lt; omega
  · have := (h.tb _ (.inr ⟨v, (b0.cell (p := ⟨P, 0, none⟩) h.lt).symm.trans h3, h4⟩)).2
    omega
theorem box_keep {B P g : Nat} {w W0 : World} {out : List Nat} (h : MTx B w P out) (b0 : Below w.heap.size w W0) (hg : w.heap.size ≤ g) (hgl : g < W0.heap.size) : ∀ w', Wro P W0 w' → ∀ o : Nat, w'.cell? ⟨g, o, none⟩ = W0.cell? ⟨g, o, none⟩ := fun w' hw o => World.cell?_of_block (hw.kb.block _ hgl (box_tb h b0 hg))
theorem cLim_ok (mn mx : Int) : M.cLim.ok ⟨mn, mx⟩ ↔ True ∧ M.inR mn ∧ (M.cMax (mx != -1)).ok mx := Iff.rfl
theorem cLim_wr (mn mx : Int) : M.cLim.wr ⟨mn, mx⟩ = M.cFlag.wr (mx != -1) ++ (M.U mn ++ (M.cMax (mx != -1)).wr mx) := rfl
set_option maxRecDepth 100000 in
set_option maxHeartbeats 1000000 in
theorem tlimits_any (B : Nat) (w : World) (P : Nat) (out : List Nat) (mn mx : Int) (h : MTx B w P out) (h1 : -9223372036854775808 ≤ mn ∧ mn ≤ 9223372036854775807) (h2 : -9223372036854775808 ≤ mx ∧ mx ≤ 9223372036854775807) :
    Calls Tryz.prog 112 #[.pointer (some ⟨P, 0, none⟩), .agg #[.int .i64 mn, .int .i64 mx]] w (WrPost B P out (M.cLim.ok ⟨mn, mx⟩) (M.cLim.wr ⟨mn, mx⟩) w) := by
  rw [cLim_ok, cLim_wr]
  obtain ⟨W0, hW0⟩ : ∃ W0, W0 = w.alloc (.cells #[.int .i64 mn, .int .i64 mx] 58) := ⟨_, rfl⟩
  have b0 : Below w.heap.size w W0 := by rw [hW0]; exact (Below.refl _ _).alloc (Nat.le_refl _) _
  have q0 : W0.cell? ⟨w.heap.size, 0, none⟩ = some (.int .i64 mn) := by rw [hW0]; simp
  have q1 : W0.cell? ⟨w.heap.size, 1, none⟩ = some (.int .i64 mx) := by rw [hW0]; simp
  have hz : w.heap.size < W0.heap.size := by rw [hW0]; simp
  have ht := Lib.hid (h.later b0)
  have hP := h.lt
  have d0 := Lib.hid (Wro.ofBelow h.lt b0)
  have keep := box_keep h b0 (Nat.le_refl _) hz
  replace keep := Lib.hid keep
  replace hW0 := Lib.hid hW0
  clear b0 h
  by_cases hm : mx = -1
  · subst hm
    have e1 : ((-1 : Int) != -1) = false := rfl
    rw [e1]
    have hc : (M.cMax false).ok (-1) := rfl
    have hcw : (M.cMax false).wr (-1) = [] := rfl
    rw [hcw, List.append_nil]
    go_enter Tryz.func112, Tryz.ntmps112
    go_upto_region 1 with fail
    rw [← hW0.out]
    go_wp2_with fail
    refine (tflag_any B W0 P out false ht.out).mono ?_
    rintro e1 w1 (⟨_, hf, rfl, t1, b1⟩ | ⟨hn, rfl, b1⟩)
    · have c0 := (keep.out w1 b1 0).trans q0
      replace t1 := Lib.hid t1
      replace b1 := Lib.hid b1
      go_wp2_with fail
      refine (tnumb_any B w1 P _ mn t1.out h1).mono ?_
      intro e2 w2 k2
      have this := Lib.hid (((WrPost.then ⟨trivial, hf⟩ b1.out k2).pre d0.out).iff (C := True ∧ M.inR mn ∧ (M.cMax false).ok (-1)) ⟨fun hh => ⟨hh.1, hh.2, hc⟩, fun hh => ⟨hh.1, hh.2.1⟩⟩)
      rcases k2 with ⟨_, _, rfl, _⟩ | ⟨_, rfl, _⟩
      all_goals
        go_wp2_with fail
        go_ret
        exact this.out
    · have this := Lib.hid (((WrPost.stop (B := B) (C := M.inR mn ∧ (M.cMax false).ok (-1)) (yb := M.U mn) hn b1).pre d0.out))
      go_wp2_with fail
      go_ret
      exact this.out
  · have e1 : (mx != -1) = true := by simpa using hm
    rw [e1]
    have e2 : (mx == -1) = false := by simpa using hm
    have hc : (M.cMax true).ok mx ↔ M.inR mx := Iff.rfl
    have hcw : (M.cMax true).wr mx = M.U mx := rfl
    rw [hcw, hc]
    clear hc hcw
    go_enter Tryz.func112, Tryz.ntmps112
    go_upto_region 1 with fail
    rw [← hW0.out]
    go_wp2_with fail
    refine (tflag_any B W0 P out true ht.out).mono ?_
    rintro e1 w1 (⟨_, hf, rfl, t1, b1⟩ | ⟨hn, rfl, b1⟩)
    · have c0 := (keep.out w1 b1 0).trans q0
      replace t1 := Lib.hid t1
      replace b1 := Lib.hid b1
      go_wp2_with fail
      refine (tnumb_any B w1 P _ mn t1.out h1).mono ?_
      rintro e2 w2 (⟨ho2, hf2, rfl, t2, b2⟩ | ⟨hn2, rfl, b2⟩)
      · have c1 := (keep.out w2 (b1.out.trans b2) 1).trans q1
        replace t2 := Lib.hid t2
        replace b2 := Lib.hid b2
        go_wp2_with fail
        refine (tnumb_any B w2 P _ mx t2.out h2).mono ?_
        intro e3 w3 k3
        have this := Lib.hid ((WrPost.then (C := M.inR mn ∧ M.inR mx) ⟨trivial, hf⟩ b1.out (WrPost.then ⟨ho2, hf2⟩ b2.out k3)).pre d0.out)
        rcases k3 with ⟨_, _, rfl, _⟩ | ⟨_, rfl, _⟩
        all_goals
          go_wp2_with fail
          go_ret
          exact this.out
      · have this := Lib.hid ((WrPost.then (C := M.inR mn ∧ M.inR mx) (yb := M.U mn ++ M.U mx) ⟨trivial, hf⟩ b1.out (WrPost.stop (B := B) hn2 b2)).pre d0.out)
        go_wp2_with fail
        go_ret
        exact this.out
    · have this := Lib.hid (((WrPost.stop (B := B) (C := M.inR mn ∧ M.inR mx) (yb := M.U mn ++ M.U mx) hn b1).pre d0.out))
      go_wp2_with fail
      go_ret
      exact this.out
end Go.Proofs.YtilaheifccjjeaaGreat
