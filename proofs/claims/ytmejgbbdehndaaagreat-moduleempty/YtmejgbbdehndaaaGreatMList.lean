/-
  Reading a vector into a slice, element by element: what each round keeps up; no condition beyond what is said.
-/
import Derived.Test.YtmejgbbdehndaaaGreatMReadE
import Derived.Test.YtmejgbbdehndaaaGreatAfterNum
namespace Go.Proofs.YtmejgbbdehndaaaGreat
open Go.RowKit
/-- A slice of these, in a row of one's own. -/
def rLst {α : Type} (R : Rep α) : Rep (List α) where
  sz := 1
  is := fun w S x cs => ∃ v ty cc, cs = [v] ∧ w.ownsRow 0 ty R.sz v x.length cc ∧ (∀ g, v.ownBlock = some g → S g) ∧ x.length ≤ 100000 ∧ RowOf R w S x cc
  len := fun ⟨v, _, _, h, _⟩ => by rw [h]; rfl
  one := fun ⟨v, _, _, h, h1, _⟩ u hu => by
    rw [h] at hu; simp at hu; subst hu
    rcases h1.2 with ⟨rfl, _⟩ | ⟨g, cap, cur, rfl, _⟩ <;> rfl
  agree := fun ⟨v, ty, cc, h, h1, h2, h3, h4⟩ ha hT => ⟨v, ty, cc, h, ownsRow_agree h1 fun g hg => ha g (h2 g hg), fun g hg => hT g (h2 g hg), h3, h4.agree ha hT⟩
theorem rLst.lst {α : Type} {R : Rep α} {w : World} {S : Nat → Prop} {x : List α} {v : Value} (h : (rLst R).is w S x [v]) : Lst R w S v x := by
  obtain ⟨v', ty, cc, e, h1, h2, h3, h4⟩ := h
  obtain rfl : v = v' := by simpa using e
  exact Lst.of_row h1 h2 h3 h4
theorem rLst.nil {α : Type} (R : Rep α) (w : World) (S : Nat → Prop) : (rLst R).is w S [] [.slice none 0 0] := ⟨_, 0, [], rfl, World.ownsRow_nil _ _ _ _, (fun g hg => by cases hg), by simp, rfl⟩
/-- What the loop over a vector keeps up. -/
def LRelG {α : Type} (R : Rep α) (ty : Nat) (a : M.Codec α) (B P g j t n : Nat) (r0 : List Nat) (w : World) (i : Value) (w' : World) : Prop :=
  ∃ (k : Nat) (q : List Nat) (done : List α) (v : Value) (cs : List Value) (cur : Array Value), k ≤ n ∧ i = .int .i64 (k : Nat) ∧ PAt B w' P q ∧ w'.heap[g]? = some (.cells cur t (0, 0)) ∧ cur[j]? = some v ∧ w'.ownsRow w.heap.size ty R.sz v done.length cs ∧
    RowOf R w' (fun b => Since w.heap.size w' b ∧ v.ownBlock ≠ some b) done cs ∧ Fr P g j 1 w w' ∧ done.length = k ∧ M.rTimes a n r0 = (M.rTimes a (n - k) q).bind (fun t => some (done ++ t.1, t.2))
/-- One element more. -/
theorem list_step {α : Type} {R : Rep α} {ty : Nat} {a : M.Codec α} {B P g j t n k : Nat} {r0 q r2 : List Nat} {done : List α} {x : α} {v : Value} {cs xs zs : List Value} {cur : Array Value} {w wr w1 w5 : World} {ob : Obj} {gg cap : Nat}
    (hPw : P < w.heap.size) (hgw : g < w.heap.size) (hne : g ≠ P) (hB : B ≤ g) (hk : k < n) (hn : n ≤ 128)
    (hrow : wr.heap[g]? = some (.cells cur t (0, 0))) (hcv : cur[j]? = some v) (own : wr.ownsRow w.heap.size ty R.sz v done.length cs)
    (hro : RowOf R wr (fun b => Since w.heap.size wr b ∧ v.ownBlock ≠ some b) done cs) (fr : Fr P g j 1 w wr) (hdl : done.length = k) (hrt : M.rTimes a n r0 = (M.rTimes a (n - k) q).bind (fun t => some (done ++ t.1, t.2))) (hx : a.rd q = some (x, r2))
    (hy1 : PAt B w1 P r2) (hy2 : R.is w1 (Since (wr.alloc (.cells zs.toArray ty)).heap.size w1) x xs) (hy3 : Fr P wr.heap.size 0 R.sz (wr.alloc (.cells zs.toArray ty)) w1)
    (hown : w5.ownsRow w.heap.size ty R.sz (.slice (some ⟨gg, 0, none⟩) (done.length + 1) cap) (done.length + 1) (cs ++ xs)) (hgr : (w1.alloc ob).grownBy w5 v.ownBlock) (hat : v.ownBlock = some gg ∨ gg = w1.heap.size + 1) (hlt : gg < w5.heap.size) :
    LRelG R ty a B P g j t n r0 w (.int .i64 ((k + 1 : Nat) : Int)) (w5.setCell ⟨g, j, none⟩ (.slice (some ⟨gg, 0, none⟩) (k + 1) cap)) := by
  have hs0 := fr.kb.size
  have hs1 : wr.heap.size < w1.heap.size := by have := hy3.kb.size; simp at this; omega
  have hs5 : w1.heap.size ≤ w5.heap.size := by have := hgr.size; simp at this; omega
  have hvb := fun b hb => own.lt b hb
  have hgg : w.heap.size ≤ gg := by
    rcases hat with h | h
    · exact (hvb gg h).1
    · omega
  have same1 : ∀ b, b < wr.heap.size → b ≠ P → w1.heap[b]? = wr.heap[b]? := fun b hb hne => by
    rw [hy3.kb.block b (by simp; omega) (by omega)]
    exact Below.heap_alloc _ _ _ hb
  have same5 : ∀ b, b < w1.heap.size → v.ownBlock ≠ some b → w5.heap[b]? = w1.heap[b]? := fun b hb hne => by
    rw [hgr.block b (by simp; omega) (fun e => hne e.symm)]
    exact Below.heap_alloc _ _ _ hb
  have vold : ∀ b, b < w.heap.size → v.ownBlock ≠ some b := fun b hb e => by have := (hvb b e).1; omega
  have hr1 : w1.heap[g]? = some (.cells cur t (0, 0)) := by rw [same1 g (by omega) hne]; exact hrow
  have hr5 : w5.heap[g]? = some (.cells cur t (0, 0)) := by rw [same5 g (by omega) (vold g hgw)]; exact hr1
  have hBP := hy1.lo
  have p5 : PAt B w5 P r2 := hy1.agree fun b hb => same5 b (by rcases hb with hb | rfl <;> omega) (vold b (by rcases hb with hb | rfl <;> omega))
  have fr5 : Fr P g j 1 w w5 := by
    refine ⟨⟨((hgr.os.trans hy3.kb.os).trans fr.kb.os), (hgr.tape.trans hy3.kb.tape).trans fr.kb.tape, (hgr.output.trans hy3.kb.output).trans fr.kb.output, by omega, fun b hb ht => ?_⟩, fun cur2 t2 h2 => ?_⟩
    · rw [same5 b (by omega) (vold b hb), same1 b (by omega) (by omega)]
      exact fr.kb.block b hb ht
    · obtain ⟨c3, q1, q2, q3⟩ := fr.row cur2 t2 h2
      rw [hrow] at q1
      cases q1
      exact ⟨cur, hr5, q2, q3⟩
  have hob : ∀ b, (Value.slice (some ⟨gg, 0, none⟩) (k + 1) cap).ownBlock = some b → b = gg := fun b hb => by
    have hb : gg = b := by simpa [Value.ownBlock] using hb
    exact hb.symm
  have set_other : ∀ b, b ≠ g → (w5.setCell ⟨g, j, none⟩ (.slice (some ⟨gg, 0, none⟩) (k + 1) cap)).heap[b]? = w5.heap[b]? := fun b hb => Below.heap_setCell _ _ _ _ (by show b ≠ g; exact hb)
  have hsz6 : (w5.setCell ⟨g, j, none⟩ (.slice (some ⟨gg, 0, none⟩) (k + 1) cap)).heap.size = w5.heap.size := by simp
  have hrow6 : RowOf R (w5.setCell ⟨g, j, none⟩ (.slice (some ⟨gg, 0, none⟩) (k + 1) cap)) (fun b => Since w.heap.size (w5.setCell ⟨g, j, none⟩ (.slice (some ⟨gg, 0, none⟩) (k + 1) cap)) b ∧ (Value.slice (some ⟨gg, 0, none⟩) (k + 1) cap).ownBlock ≠ some b) (done ++ [x]) (cs ++ xs) := by
    refine RowOf.snoc ?_ ?_
    · refine R.agree hy2 (fun b hb => ?_) (fun b hb => ⟨⟨by have := hb.1; simp at this; omega, by rw [hsz6]; have := hb.2; omega⟩, fun e => ?_⟩)
      · have h1 := hb.1
        simp at h1
        rw [set_other b (by omega), same5 b hb.2 (fun e => by have := (hvb b e).2; omega)]
      · have := hob b e
        have h1 := hb.1
        have h2 := hb.2
        simp at h1
        rcases hat with h | h
        · have := (hvb gg h).2; omega
        · omega
    · refine hro.agree (fun b hb => ?_) (fun b hb => ⟨⟨hb.1.1, by rw [hsz6]; have := hb.1.2; omega⟩, fun e => ?_⟩)
      · have h1 := hb.1.1
        have h2 := hb.1.2
        rw [set_other b (by omega), same5 b (by omega) hb.2, same1 b h2 (by omega)]
      · have := hob b e
        have h2 := hb.1.2
        rcases hat with h | h
        · exact hb.2 (by rw [this]; exact h)
        · omega
  refine ⟨k + 1, r2, done ++ [x], _, cs ++ xs, _, by omega, rfl, p5.set hne hB _, row_set hr5 _, ?_, ?_, hrow6, fr5.trans (Fr.set w5 j _ (Nat.le_refl _) (by omega)), by simp [hdl], ?_⟩
  · have := (Array.getElem?_eq_some_iff.1 hcv).1
    simp [Array.getElem?_setIfInBounds, this]
  · have e1 : (done ++ [x]).length = k + 1 := by simp [hdl]
    rw [hdl] at hown
    rw [e1]
    exact ownsRow_agree hown fun b hb => set_other b (by
      have hb : gg = b := by simpa [Value.ownBlock] using hb
      omega)
  · rw [hrt, show n - k = (n - (k + 1)) + 1 by omega, M.rTimes, hx]
    simp only [Option.bind_some, Option.bind_assoc]
    congr 1
    funext t
    simp
/-- The whole vector has been read. -/
theorem list_end {α : Type} {R : Rep α} {ty : Nat} {a : M.Codec α} {B P g j t n m : Nat} {r0 bs : List Nat} {w w' : World} (h : LRelG R ty a B P g j t n r0 w (.int .i64 ((m : Nat) : Int)) w') (hm : m = n) (hn : n ≤ 128) (hrd : (M.vec a).rd bs = M.rTimes a n r0) : MdPost (rLst R) (M.vec a).rd B P g j bs w (.returned (.bool true)) w' := by
  obtain ⟨k, q, done, v, cs, cur, hk, hi, p, hrow, hcv, own, hro, fr, hdl, hrt⟩ := h
  have hkn : k = n := by
    injection hi with _ hi
    omega
  subst hkn
  rw [Nat.sub_self, M.rTimes, Option.bind_some, List.append_nil] at hrt
  refine .inl ⟨done, q, [v], hrd.trans hrt, rfl, p, ⟨v, ty, cs, rfl, ownsRow_base own (fun _ _ => Nat.zero_le _), fun b hb => own.lt b hb, by omega, hro.agree (fun _ _ => rfl) (fun b hb => hb.1)⟩, fun i u hu => ?_, fr⟩
  cases i with
  | zero => cases hu; exact (cell_row hrow _).trans hcv
  | succ i => cases hu
theorem vec_rd {α : Type} (a : M.Codec α) (bs : List Nat) : (M.vec a).rd bs = (M.num bs).bind fun p => if p.1 ≤ ((128 : Nat) : Int) then M.rTimes a p.1.toNat p.2 else none := rfl
/-- The function, with a reader of the elements handed in, reads so. -/
def MlOk {α : Type} (f : Nat) (fv : Value) (R : Rep α) (rd : List Nat → Option (α × List Nat)) : Prop :=
  ∀ (B P g j t : Nat) (cur : Array Value) (bs : List Nat) (w : World), PAt B w P bs → w.heap[g]? = some (.cells cur t (0, 0)) → cur[j]? = some (.slice none 0 0) → g ≠ P → B ≤ g →
    Calls Tryz.prog f #[.pointer (some ⟨P, 0, none⟩), .pointer (some ⟨g, j, none⟩), fv] w (MdPost R rd B P g j bs w)
theorem list_nums {w : World} {S : Nat → Prop} {v : Value} {xs : List Int} (h : Lst rInt w S v xs) : NS w S v xs := by
  obtain ⟨A, c, e, ⟨h1, h1', h1''⟩, h2⟩ := h
  refine ⟨A, c, e, ⟨by omega, h1', h1''⟩, fun i hi => ?_⟩
  rcases h2 with rfl | ⟨g, o, cs, h3, h4, h5, h6⟩
  · simp at hi
  · obtain ⟨c1, ⟨h7, h8⟩, h9⟩ := h5.nth (List.getElem?_eq_getElem hi)
    subst h7
    have e2 : xs.getD i 0 = xs[i] := by rw [List.getD_eq_getElem?_getD, List.getElem?_eq_getElem hi]; rfl
    refine ⟨⟨g, o, none⟩, h3, h4, by rw [e2]; exact h8, ?_⟩
    rw [add_none, e2]
    have := h6 _ _ (h9 0 _ rfl)
    simpa [rInt] using this
theorem MdPost.nums {rd : List Nat → Option (List Int × List Nat)} {B P g j : Nat} {bs : List Nat} {w w' : World} {e : Ending} (h : MdPost (rLst rInt) rd B P g j bs w e w') : MdPost rNums rd B P g j bs w e w' := by
  rcases h with ⟨x, r, cs, q1, q2, q3, q4, q5, q6⟩ | h
  · obtain ⟨v, ty, cc, rfl, q4'⟩ := q4
    exact .inl ⟨x, r, [v], q1, q2, q3, ⟨v, rfl, list_nums (rLst.lst ⟨v, ty, cc, rfl, q4'⟩)⟩, q5, q6⟩
  · exact .inr h
end Go.Proofs.YtmejgbbdehndaaaGreat
