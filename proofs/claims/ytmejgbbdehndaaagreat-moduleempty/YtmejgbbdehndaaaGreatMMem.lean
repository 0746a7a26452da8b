/-
  How the parts of a module lie in memory: data in so many cells, rows of them, slices of them; what reading may change; no condition.
-/
import Derived.Test.YtmejgbbdehndaaaGreatReaders
import Derived.Test.YtmejgbbdehndaaaGreatMMath
namespace Go.Proofs.YtmejgbbdehndaaaGreat
open Go.RowKit
/-- How a datum lies in so many cells, what it points to in blocks of S. -/
structure Rep (α : Type) where
  sz : Nat
  is : World → (Nat → Prop) → α → List Value → Prop
  len : ∀ {w : World} {S : Nat → Prop} {x : α} {cs : List Value}, is w S x cs → cs.length = sz
  one : ∀ {w : World} {S : Nat → Prop} {x : α} {cs : List Value}, is w S x cs → ∀ u ∈ cs, u.oneCell' = true
  agree : ∀ {w w' : World} {S T : Nat → Prop} {x : α} {cs : List Value}, is w S x cs → Agree S w w' → (∀ k, S k → T k) → is w' T x cs
/-- A row of them. -/
def RowOf {α : Type} (R : Rep α) (w : World) (S : Nat → Prop) : List α → List Value → Prop
  | [], cs => cs = []
  | x :: t, cs => ∃ c d, cs = c ++ d ∧ R.is w S x c ∧ RowOf R w S t d
theorem RowOf.agree {α : Type} {R : Rep α} {w w' : World} {S T : Nat → Prop} (ha : Agree S w w') (hT : ∀ k, S k → T k) : ∀ {xs : List α} {cs : List Value}, RowOf R w S xs cs → RowOf R w' T xs cs
  | [], _, h => h
  | _ :: _, _, ⟨c, d, h1, h2, h3⟩ => ⟨c, d, h1, R.agree h2 ha hT, RowOf.agree ha hT h3⟩
theorem RowOf.snoc {α : Type} {R : Rep α} {w : World} {S : Nat → Prop} {x : α} {c : List Value} (hx : R.is w S x c) : ∀ {xs : List α} {cs : List Value}, RowOf R w S xs cs → RowOf R w S (xs ++ [x]) (cs ++ c)
  | [], _, h => by
    have h : _ = [] := h
    subst h
    exact ⟨c, [], by simp, hx, rfl⟩
  | _ :: _, _, ⟨c1, d1, h1, h2, h3⟩ => ⟨c1, d1 ++ c, by rw [h1, List.append_assoc], h2, h3.snoc hx⟩
theorem RowOf.nth {α : Type} {R : Rep α} {w : World} {S : Nat → Prop} : ∀ {xs : List α} {cs : List Value} {k : Nat} {x : α}, RowOf R w S xs cs → xs[k]? = some x → ∃ c, R.is w S x c ∧ ∀ j u, c[j]? = some u → cs[k * R.sz + j]? = some u
  | [], _, _, _, _, h => by cases h
  | y :: t, cs, 0, x, ⟨c, d, h1, h2, h3⟩, h => by
    obtain rfl : y = x := by simpa using h
    refine ⟨c, h2, fun j u hu => ?_⟩
    rw [h1, Nat.zero_mul, Nat.zero_add, List.getElem?_append_left (List.getElem?_eq_some_iff.1 hu).1]
    exact hu
  | y :: t, cs, k + 1, x, ⟨c, d, h1, h2, h3⟩, h => by
    obtain ⟨c', h4, h5⟩ := h3.nth (k := k) (by simpa using h)
    refine ⟨c', h4, fun j u hu => ?_⟩
    have hl := R.len h2
    rw [h1, List.getElem?_append_right (by rw [hl, Nat.succ_mul]; omega), hl, show (k + 1) * R.sz + j - R.sz = k * R.sz + j by rw [Nat.succ_mul]; omega]
    exact h5 j u hu
/-- The value is a slice of these, all in blocks of S. -/
def Lst {α : Type} (R : Rep α) (w : World) (S : Nat → Prop) (v : Value) (xs : List α) : Prop :=
  ∃ A c, v = .slice A xs.length c ∧ (xs.length ≤ 1000000000 ∧ xs.length ≤ c ∧ c ≤ maxLen) ∧ (xs = [] ∨ ∃ g o cs, A = some ⟨g, o, none⟩ ∧ S g ∧ RowOf R w S xs cs ∧ ∀ j u, cs[j]? = some u → w.cell? ⟨g, o + j, none⟩ = some u)
theorem Lst.agree {α : Type} {R : Rep α} {w w' : World} {S T : Nat → Prop} {v : Value} {xs : List α} (h : Lst R w S v xs) (ha : Agree S w w') (hT : ∀ k, S k → T k) : Lst R w' T v xs := by
  obtain ⟨A, c, e, h1, h2⟩ := h
  refine ⟨A, c, e, h1, ?_⟩
  rcases h2 with h2 | ⟨g, o, cs, h3, h4, h5, h6⟩
  · exact .inl h2
  · exact .inr ⟨g, o, cs, h3, hT g h4, h5.agree ha hT, fun j u hu => by rw [ha.cell (a := ⟨g, o + j, none⟩) h4]; exact h6 j u hu⟩
theorem Lst.form {α : Type} {R : Rep α} {w : World} {S : Nat → Prop} {v : Value} {xs : List α} (h : Lst R w S v xs) : ∃ A c, v = .slice A xs.length c ∧ (xs.length ≤ 1000000000 ∧ xs.length ≤ c ∧ c ≤ maxLen) := by
  obtain ⟨A, c, e, h1, h2⟩ := h
  exact ⟨A, c, e, h1⟩
theorem Lst.nth {α : Type} {R : Rep α} {w : World} {S : Nat → Prop} {A : Option Addr} {n c : Nat} {xs : List α} (h : Lst R w S (.slice A n c) xs) {k : Nat} {x : α} (hk : xs[k]? = some x) :
    ∃ g o cs, A = some ⟨g, o, none⟩ ∧ S g ∧ R.is w S x cs ∧ ∀ j u, cs[j]? = some u → w.cell? ⟨g, o + k * R.sz + j, none⟩ = some u := by
  obtain ⟨A', c', e, h1, h2⟩ := h
  injection e with e1 e2 e3
  subst e1
  rcases h2 with rfl | ⟨g, o, cs, h3, h4, h5, h6⟩
  · cases hk
  · obtain ⟨c1, h7, h8⟩ := h5.nth hk
    exact ⟨g, o, c1, h3, h4, h7, fun j u hu => by rw [Nat.add_assoc]; exact h6 _ _ (h8 j u hu)⟩
theorem Lst.nil {α : Type} (R : Rep α) (w : World) (S : Nat → Prop) : Lst R w S (.slice none 0 0) [] := ⟨none, 0, rfl, ⟨by simp, by simp, by unfold maxLen; omega⟩, .inl rfl⟩
/-- A row of one's own reads as a slice. -/
theorem Lst.of_row {α : Type} {R : Rep α} {w : World} {S : Nat → Prop} {b t : Nat} {v : Value} {xs : List α} {cs : List Value} (h : w.ownsRow b t R.sz v xs.length cs) (hb : ∀ g, v.ownBlock = some g → S g) (hn : xs.length ≤ 100000) (hr : RowOf R w S xs cs) : Lst R w S v xs := by
  rcases h.2 with ⟨rfl, h0⟩ | ⟨g, cap, cur, rfl, _, hc, hn', hm, _⟩
  · exact ⟨none, 0, by rw [h0], ⟨by omega, by omega, by unfold maxLen; omega⟩, .inl (List.eq_nil_of_length_eq_zero h0)⟩
  · refine ⟨_, _, rfl, ⟨by omega, hn', hm⟩, .inr ⟨g, 0, cs, rfl, hb g rfl, hr, fun j u hu => ?_⟩⟩
    have := h.cells (g := g) rfl j u hu
    rwa [add_none] at this
/-- What reading into the cells j .. of block g may change: the place, and these cells. -/
structure Fr (P g j s : Nat) (w w' : World) : Prop where
  kb : Kb (fun k => k = P ∨ k = g) w w'
  row : ∀ cur t, w.heap[g]? = some (.cells cur t (0, 0)) → ∃ cur', w'.heap[g]? = some (.cells cur' t (0, 0)) ∧ cur'.size = cur.size ∧ ∀ i, (i < j ∨ j + s ≤ i) → cur'[i]? = cur[i]?
theorem Fr.refl (P g j s : Nat) (w : World) : Fr P g j s w w := ⟨Kb.refl _ _, fun cur _ h => ⟨cur, h, rfl, fun _ _ => rfl⟩⟩
theorem Fr.trans {P g j s : Nat} {a b c : World} (h : Fr P g j s a b) (k : Fr P g j s b c) : Fr P g j s a c :=
  ⟨h.kb.trans k.kb, fun cur t hc => by
    obtain ⟨c1, h1, h2, h3⟩ := h.row cur t hc
    obtain ⟨c2, k1, k2, k3⟩ := k.row c1 t h1
    exact ⟨c2, k1, k2.trans h2, fun i hi => (k3 i hi).trans (h3 i hi)⟩⟩
theorem Fr.wide {P g j s j' s' : Nat} {a b : World} (h : Fr P g j s a b) (h1 : j' ≤ j) (h2 : j + s ≤ j' + s') : Fr P g j' s' a b :=
  ⟨h.kb, fun cur t hc => by
    obtain ⟨c1, q1, q2, q3⟩ := h.row cur t hc
    exact ⟨c1, q1, q2, fun i hi => q3 i (by omega)⟩⟩
theorem Fr.of_kb {P g j s : Nat} {a b : World} (h : Kb (· = P) a b) (hg : g < a.heap.size) (hgP : g ≠ P) : Fr P g j s a b :=
  ⟨h.mono fun _ hk => .inl hk, fun cur t hc => ⟨cur, by rw [h.block g hg hgP]; exact hc, rfl, fun _ _ => rfl⟩⟩
theorem Fr.of_below {P g j s : Nat} {a b : World} (h : Below a.heap.size a b) (hg : g < a.heap.size) (hgP : g ≠ P) : Fr P g j s a b := Fr.of_kb (.of_below h) hg hgP
theorem row_set {w : World} {g j t : Nat} {cur : Array Value} (h : w.heap[g]? = some (.cells cur t (0, 0))) (u : Value) : (w.setCell ⟨g, j, none⟩ u).heap[g]? = some (.cells (cur.setIfInBounds j u) t (0, 0)) := by
  have hg : g < w.heap.size := (Array.getElem?_eq_some_iff.1 h).1
  have e : w.heap[g] = .cells cur t (0, 0) := by
    rw [Array.getElem?_eq_getElem hg] at h
    exact Option.some.inj h
  simp [World.setCell, hg, Array.getElem_modify, e]
theorem Fr.set {P g j s : Nat} (w : World) (i : Nat) (u : Value) (h1 : j ≤ i) (h2 : i < j + s) : Fr P g j s w (w.setCell ⟨g, i, none⟩ u) :=
  ⟨Kb.setCell (T := fun k => k = P ∨ k = g) (Kb.refl _ _) (p := ⟨g, i, none⟩) (.inr rfl) u, fun cur t hc => ⟨cur.setIfInBounds i u, row_set hc u, by simp, fun k hk => by rw [Array.getElem?_setIfInBounds]; rw [if_neg (by omega)]⟩⟩
theorem Fr.setP {P g j s : Nat} (w : World) (i : Nat) (u : Value) (hgP : g ≠ P) : Fr P g j s w (w.setCell ⟨P, i, none⟩ u) :=
  ⟨Kb.setCell (T := fun k => k = P ∨ k = g) (Kb.refl _ _) (p := ⟨P, i, none⟩) (.inl rfl) u, fun cur t hc => ⟨cur, by rw [Below.heap_setCell _ _ _ _ (by show g ≠ P; exact hgP)]; exact hc, rfl, fun _ _ => rfl⟩⟩
theorem cell_row {w : World} {g t : Nat} {cur : Array Value} (h : w.heap[g]? = some (.cells cur t (0, 0))) (j : Nat) : w.cell? ⟨g, j, none⟩ = cur[j]? := by simp [World.cell?, h]
theorem frozen_row {w : World} {g t : Nat} {cur : Array Value} (h : w.heap[g]? = some (.cells cur t (0, 0))) (j : Nat) : w.frozen? ⟨g, j, none⟩ = false := by simp [World.frozen?, h]
theorem lt_row {w : World} {g t : Nat} {cur : Array Value} (h : w.heap[g]? = some (.cells cur t (0, 0))) : g < w.heap.size := (Array.getElem?_eq_some_iff.1 h).1
/-- Where reading has come to: the place's one cell is the slice of what is left, in blocks below B. -/
structure PAt (B : Nat) (w : World) (P : Nat) (bs : List Nat) : Prop where
  ex : ∃ A c, w.heap[P]? = some (.cells #[.slice A bs.length c] 105 (0, 0)) ∧ bs.length ≤ c ∧ c ≤ maxLen ∧ Bytes w B A bs.length (M.bf bs)
  lo : B ≤ P
  small : bs.length ≤ 65536
theorem PAt.lt {B : Nat} {w : World} {P : Nat} {bs : List Nat} (h : PAt B w P bs) : P < w.heap.size := by
  obtain ⟨A, c, h1, _⟩ := h.ex
  exact lt_row h1
theorem PAt.agree {B : Nat} {w w' : World} {P : Nat} {bs : List Nat} (h : PAt B w P bs) (ha : ∀ k, (k < B ∨ k = P) → w'.heap[k]? = w.heap[k]?) : PAt B w' P bs := by
  obtain ⟨A, c, h1, h2, h3, h4⟩ := h.ex
  refine ⟨⟨A, c, by rw [ha P (.inr rfl)]; exact h1, h2, h3, fun i hi => ?_⟩, h.lo, h.small⟩
  obtain ⟨ad, e1, q1, q2, q3⟩ := h4 i hi
  exact ⟨ad, e1, q1, q2, by rw [World.cell?_of_block (w := w) (ha _ (.inl (by rw [addr_block]; omega)))]; exact q3⟩
theorem PAt.below {B C : Nat} {w w' : World} {P : Nat} {bs : List Nat} (h : PAt B w P bs) (hb : Below C w w') (hC : P < C) : PAt B w' P bs := h.agree fun k hk => hb.block k (by have := h.lo; omega)
theorem PAt.later {B : Nat} {w w' : World} {P : Nat} {bs : List Nat} (h : PAt B w P bs) (hb : Below w.heap.size w w') : PAt B w' P bs := h.below hb h.lt
theorem PAt.set {B : Nat} {w : World} {P g j : Nat} {bs : List Nat} (h : PAt B w P bs) (hg : g ≠ P) (hB : B ≤ g) (u : Value) : PAt B (w.setCell ⟨g, j, none⟩ u) P bs :=
  h.agree fun k hk => Below.heap_setCell _ _ _ _ (by show k ≠ g; rcases hk with hk | rfl <;> omega)
/-- The place goes on behind the first n. -/
theorem PAt.move {B : Nat} {w : World} {P : Nat} {A : Option Addr} {c : Nat} {bs : List Nat} (h : PAt B w P bs) {r : List Nat} (hr : r.length ≤ bs.length) (hc : r.length ≤ c ∧ c ≤ maxLen) (hb : Bytes w B A r.length (M.bf r)) : PAt B (w.setCell ⟨P, 0, none⟩ (.slice A r.length c)) P r := by
  obtain ⟨A0, c0, h1, h2, h3, h4⟩ := h.ex
  refine ⟨⟨A, c, ?_, hc.1, hc.2, fun i hi => ?_⟩, h.lo, by have := h.small; omega⟩
  · rw [row_set h1]; rfl
  · obtain ⟨ad, e1, q1, q2, q3⟩ := hb i hi
    exact ⟨ad, e1, q1, q2, by rw [World.cell?_of_block (w := w) (Below.heap_setCell _ _ _ _ (by rw [addr_block]; have := h.lo; show ad.block ≠ P; omega))]; exact q3⟩
/-- What a reader leaves. -/
def MdPost {α : Type} (R : Rep α) (rd : List Nat → Option (α × List Nat)) (B P g j : Nat) (bs : List Nat) (w : World) (e : Ending) (w' : World) : Prop :=
  (∃ x r cs, rd bs = some (x, r) ∧ e = .returned (.bool true) ∧ PAt B w' P r ∧ R.is w' (Since w.heap.size w') x cs ∧ (∀ i u, cs[i]? = some u → w'.cell? ⟨g, j + i, none⟩ = some u) ∧ Fr P g j R.sz w w') ∨
  (rd bs = none ∧ e = .returned (.bool false) ∧ Kb (fun k => k = P ∨ k = g) w w')
/-- The function reads so. -/
def MdOk {α : Type} (f : Nat) (R : Rep α) (z : List Value) (rd : List Nat → Option (α × List Nat)) : Prop :=
  ∀ (B P g j t : Nat) (cur : Array Value) (bs : List Nat) (w : World), PAt B w P bs → w.heap[g]? = some (.cells cur t (0, 0)) → (∀ i u, z[i]? = some u → cur[j + i]? = some u) → g ≠ P → B ≤ g →
    Calls Tryz.prog f #[.pointer (some ⟨P, 0, none⟩), .pointer (some ⟨g, j, none⟩)] w (MdPost R rd B P g j bs w)
def i64R (x : Int) : Prop := -9223372036854775808 ≤ x ∧ x ≤ 9223372036854775807
def rInt : Rep Int where
  sz := 1
  is := fun _ _ x cs => cs = [.int .i64 x] ∧ i64R x
  len := fun h => by rw [h.1]; rfl
  one := fun h u hu => by rw [h.1] at hu; simp at hu; subst hu; rfl
  agree := fun h _ _ => h
def rBool : Rep Bool where
  sz := 1
  is := fun _ _ x cs => cs = [.bool x]
  len := fun h => by rw [h]; rfl
  one := fun h u hu => by rw [h] at hu; simp at hu; subst hu; rfl
  agree := fun h _ _ => h
/-- A string of these bytes. -/
def str (bs : List Nat) : Value := .string (bs.foldl (fun r n => r.push (UInt8.ofNat n)) ByteArray.empty)
def rStr : Rep (List Nat) where
  sz := 1
  is := fun _ _ x cs => cs = [str x] ∧ (∀ b ∈ x, b < 256) ∧ x.length ≤ 1000000000
  len := fun h => by rw [h.1]; rfl
  one := fun h u hu => by rw [h.1] at hu; simp at hu; subst hu; rfl
  agree := fun h _ _ => h
/-- The value is a slice of these bytes, in blocks of S. -/
def BSS (w : World) (S : Nat → Prop) (v : Value) (bs : List Nat) : Prop :=
  ∃ A c, v = .slice A bs.length c ∧ (bs.length ≤ 1000000000 ∧ bs.length ≤ c ∧ c ≤ maxLen) ∧ ∀ i, i < bs.length → ∃ ad, A = some ad ∧ S ad.block ∧ bs.getD i 0 < 256 ∧ w.cell? (ad.add i) = some (.int .u8 ((bs.getD i 0 : Nat) : Int))
theorem BSS.agree {w w' : World} {S T : Nat → Prop} {v : Value} {bs : List Nat} (h : BSS w S v bs) (ha : Agree S w w') (hT : ∀ k, S k → T k) : BSS w' T v bs := by
  obtain ⟨A, c, e, h1, h3⟩ := h
  refine ⟨A, c, e, h1, fun i hi => ?_⟩
  obtain ⟨ad, e1, h4, h5, h6⟩ := h3 i hi
  exact ⟨ad, e1, hT _ h4, h5, by rw [ha.cell (by rw [addr_block]; exact h4)]; exact h6⟩
def rBytes : Rep (List Nat) where
  sz := 1
  is := fun w S x cs => ∃ v, cs = [v] ∧ BSS w S v x
  len := fun ⟨v, h, _⟩ => by rw [h]; rfl
  one := fun ⟨v, h, A, c, e, _⟩ u hu => by rw [h] at hu; simp at hu; subst hu; subst e; rfl
  agree := fun ⟨v, h, h2⟩ ha hT => ⟨v, h, h2.agree ha hT⟩
def rNums : Rep (List Int) where
  sz := 1
  is := fun w S x cs => ∃ v, cs = [v] ∧ NS w S v x
  len := fun ⟨v, h, _⟩ => by rw [h]; rfl
  one := fun ⟨v, h, A, c, e, _⟩ u hu => by rw [h] at hu; simp at hu; subst hu; subst e; rfl
  agree := fun ⟨v, h, h2⟩ ha hT => ⟨v, h, h2.agree ha hT⟩
def rL : Rep M.L where
  sz := 1
  is := fun w S x cs => ∃ v, cs = [v] ∧ LS w S v x
  len := fun ⟨v, h, _⟩ => by rw [h]; rfl
  one := fun ⟨v, h, A, c, e, _⟩ u hu => by rw [h] at hu; simp at hu; subst hu; subst e; rfl
  agree := fun ⟨v, h, h2⟩ ha hT => ⟨v, h, h2.agree ha hT⟩
/-- One instruction, in its nine cells. -/
def rIns : Rep M.L where
  sz := 9
  is := fun w S x cs => ∃ h b e vL vB vE, x = .cons h b e .nil ∧ cs = item9 h vL vB vE ∧ Rng h ∧ NS w S vL h.labels ∧ LS w S vB b ∧ LS w S vE e
  len := fun ⟨h, b, e, vL, vB, vE, _, h2, _⟩ => by rw [h2]; rfl
  one := fun ⟨h, b, e, vL, vB, vE, _, h2, _, ⟨_, _, e1, _⟩, ⟨_, _, e2, _⟩, ⟨_, _, e3, _⟩⟩ u hu => by
    rw [h2] at hu
    simp only [item9, List.mem_cons, List.not_mem_nil, or_false] at hu
    rcases hu with rfl | rfl | rfl | rfl | rfl | rfl | rfl | rfl | rfl
    all_goals first | rfl | (rw [e1]; rfl) | (rw [e2]; rfl) | (rw [e3]; rfl)
  agree := fun ⟨h, b, e, vL, vB, vE, h1, h2, h3, h4, h5, h6⟩ ha hT => ⟨h, b, e, vL, vB, vE, h1, h2, h3, h4.agree ha hT, h5.agree ha hT, h6.agree ha hT⟩
/-- Two data side by side, said as one. -/
def rPair {α β γ : Type} (R : Rep α) (Q : Rep β) (f : γ → α) (g : γ → β) : Rep γ where
  sz := R.sz + Q.sz
  is := fun w S x cs => ∃ c d, cs = c ++ d ∧ R.is w S (f x) c ∧ Q.is w S (g x) d
  len := fun ⟨c, d, h, h1, h2⟩ => by rw [h, List.length_append, R.len h1, Q.len h2]
  one := fun ⟨c, d, h, h1, h2⟩ u hu => by
    rw [h] at hu
    rcases List.mem_append.1 hu with hu | hu
    · exact R.one h1 u hu
    · exact Q.one h2 u hu
  agree := fun ⟨c, d, h, h1, h2⟩ ha hT => ⟨c, d, h, R.agree h1 ha hT, Q.agree h2 ha hT⟩
def rP2 {α β : Type} (R : Rep α) (Q : Rep β) : Rep (α × β) := rPair R Q Prod.fst Prod.snd
def rFT : Rep M.FT := rPair rNums rNums (·.ps) (·.rs)
def rLim : Rep M.Lim := rPair rInt rInt (·.mn) (·.mx)
def rImp : Rep M.Imp := rPair (rP2 (rP2 (rP2 (rP2 rStr rStr) rInt) rInt) rBool) rLim (fun y => ((((y.mo, y.na), y.kd), y.ty), y.mu)) (·.lim)
def rFn : Rep M.Fn := rPair (rP2 rInt rNums) rL (fun y => (y.ty, y.lo)) (·.bo)
def rGlo : Rep M.Glo := rPair (rP2 rInt rBool) rIns (fun y => (y.ty, y.mu)) (·.ini)
def rExp : Rep M.Exp := rPair (rP2 rStr rInt) rInt (fun y => (y.na, y.kd)) (·.ix)
def rElm : Rep M.Elm := rPair (rP2 rInt rIns) rNums (fun y => (y.ta, y.off)) (·.fs)
def rDat : Rep M.Dat := rPair (rP2 rInt rIns) rBytes (fun y => (y.me, y.off)) (·.bs)
end Go.Proofs.YtmejgbbdehndaaaGreat
