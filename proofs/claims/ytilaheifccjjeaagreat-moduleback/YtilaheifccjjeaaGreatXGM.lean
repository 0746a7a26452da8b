/-
  The ground of the proofs of this seat, put together: MList, MList1, MReadF, MReadG, MReadH, MReadI, MReadJ. No condition beyond what each text names.
-/
import Derived.Test.YtilaheifccjjeaaGreatXGL
import Derived.Test.YtilaheifccjjeaaGreatXGG
import Derived.Test.YtilaheifccjjeaaGreatXGK
import Derived.Test.YtilaheifccjjeaaGreatXGA
import Derived.Test.YtilaheifccjjeaaGreatXGB
import Derived.Test.YtilaheifccjjeaaGreatXGC
import Derived.Test.YtilaheifccjjeaaGreatXGD
import Derived.Test.YtilaheifccjjeaaGreatXGE
import Derived.Test.YtilaheifccjjeaaGreatXGF
import Derived.Test.YtilaheifccjjeaaGreatXGH
import Derived.Test.YtilaheifccjjeaaGreatXGI
import Derived.Test.YtilaheifccjjeaaGreatXGJ
namespace Go.Proofs.YtilaheifccjjeaaGreat
open Go.RowKit
/-- A slice of these, in a row of one's own. -/
def rLst {α : Type} (R : Rep α) : Rep (List α) where
  sz := 1
  is := fun w S x cs => ∃ v ty cc, cs = [v] ∧ w.ownsRow 0 ty R.sz v x.length cc ∧ (∀ g, v.ownBlock = some g → S g) ∧ x.length ≤ 100000 ∧ RowOf R w S x cc
  len := fun ⟨v, _, _, h, _⟩ => by rw [h]; rfl
  one := fun ⟨v, _, _, h, h1, _⟩ u hu => by
    rw [h] at hu; simp at hu; subst hu
    rcases h1.2 with ⟨rfl, _⟩ | ⟨g, cap, cur, rfl, _⟩ <;> rfl
  agree := fun ⟨v, ty, cc, h, h1, h2, h3, h4⟩ ha hT => ⟨v, ty, cc, h, ownsRow_agree h1 fun g hg => ha g (h2 g hg), fun g hg => hT g (h2 g hg), h3, h4.agree ha hT⟩
theorem rLst.lst {α : Type} {R : Rep α} {w : World} {S : Nat → Prop} {x : List α} {v : Value} (h : (rLst R).is w S x [v]) : Lst R w S v x := by
  obtain ⟨v', ty, cc, e, h1, h2, h3, h4⟩ := h
  obtain rfl : v = v' := by simpa using e
  exact Lst.of_row h1 h2 h3 h4
theorem rLst.nil {α : Type} (R : Rep α) (w : World) (S : Nat → Prop) : (rLst R).is w S [] [.slice none 0 0] := ⟨_, 0, [], rfl, World.ownsRow_nil _ _ _ _, (fun g hg => by cases hg), by simp, rfl⟩
/-- What the loop over a vector keeps up. -/
def LRelG {α : Type} (R : Rep α) (ty : Nat) (a : M.Codec α) (B P g j t n : Nat) (r0 : List Nat) (w : World) (i : Value) (w' : World) : Prop :=
  ∃ (k : Nat) (q : List Nat) (done : List α) (v : Value) (cs : List Value) (cur : Array Value), k ≤ n ∧ i = .int .i64 (k : Nat) ∧ PAt B w' P q ∧ w'.heap[g]? = some (.cells cur t (0, 0)) ∧ cur[j]? = some v ∧ w'.ownsRow w.heap.size ty R.sz v done.length cs ∧
    RowOf R w' (fun b => Since w.heap.size w' b ∧ v.ownBlock ≠ some b) done cs ∧ Fr P g j 1 w w' ∧ done.length = k ∧ M.rTimes a n r0 = (M.rTimes a (n - k) q).bind (fun t => some (done ++ t.1, t.2))
/-- One element more. -/
theorem list_step {α : Type} {R : Rep α} {ty : Nat} {a : M.Codec α} {B P g j t n k : Nat} {r0 q r2 : List Nat} {done : List α} {x : α} {v : Value} {cs xs zs : List Value} {cur : Array Value} {w wr w1 w5 : World} {ob : Obj} {gg cap : Nat}
    (hPw : P < w.heap.size) (hgw : g < w.heap.size) (hne : g ≠ P) (hB : B ≤ g) (hk : k < n) (hn : n ≤ 128)
    (hrow : wr.heap[g]? = some (.cells cur t (0, 0))) (hcv : cur[j]? = some v) (own : wr.ownsRow w.heap.size ty R.sz v done.length cs)
    (hro : RowOf R wr (fun b => Since w.heap.size wr b ∧ v.ownBlock ≠ some b) done cs) (fr : Fr P g j 1 w wr) (hdl : done.length = k) (hrt : M.rTimes a n r0 = (M.rTimes a (n - k) q).bind (fun t => some (done ++ t.1, t.2))) (hx : a.rd q = some (x, r2))
    (hy1 : PAt B w1 P r2) (hy2 : R.is w1 (Since (wr.alloc (.cells zs.toArray ty)).heap.size w1) x xs) (hy3 : Fr P wr.heap.size 0 R.sz (wr.alloc (.cells zs.toArray ty)) w1)
    (hown : w5.ownsRow w.heap.size ty R.sz (.slice (some ⟨gg, 0, none⟩) (done.length + 1) cap) (done.length + 1) (cs ++ xs)) (hgr : (w1.alloc ob).grownBy w5 v.ownBlock) (hat : v.ownBlock = some gg ∨ gg = w1.heap.size + 1) (hlt : gg < w5.heap.size) :
    LRelG R ty a B P g j t n r0 w (.int .i64 ((k + 1 : Nat) : Int)) (w5.setCell ⟨g, j, none⟩ (.slice (some ⟨gg, 0, none⟩) (k + 1) cap)) := by
  have hs0 := fr.kb.size
  have hs1 : wr.heap.size < w1.heap.size := by have := hy3.kb.size; simp at this; omega
  have hs5 : w1.heap.size ≤ w5.heap.size := by have := hgr.size; simp at this; omega
  have hvb := fun b hb => own.lt b hb
  have hgg : w.heap.size ≤ gg := by
    rcases hat with h | h
    · exact (hvb gg h).1
    · omega
  have same1 : ∀ b, b < wr.heap.size → b ≠ P → w1.heap[b]? = wr.heap[b]? := fun b hb hne => by
    rw [hy3.kb.block b (by simp; omega) (by omega)]
    exact Below.heap_alloc _ _ _ hb
  have same5 : ∀ b, b < w1.heap.size → v.ownBlock ≠ some b → w5.heap[b]? = w1.heap[b]? := fun b hb hne => by
    rw [hgr.block b (by simp; omega) (fun e => hne e.symm)]
    exact Below.heap_alloc _ _ _ hb
  have vold : ∀ b, b < w.heap.size → v.ownBlock ≠ some b := fun b hb e => by have := (hvb b e).1; omega
  have hr1 : w1.heap[g]? = some (.cells cur t (0, 0)) := by rw [same1 g (by omega) hne]; exact hrow
  have hr5 : w5.heap[g]? = some (.cells cur t (0, 0)) := by rw [same5 g (by omega) (vold g hgw)]; exact hr1
  have hBP := hy1.lo
  have p5 : PAt B w5 P r2 := hy1.agree fun b hb => same5 b (by rcases hb with hb | rfl <;> omega) (vold b (by rcases hb with hb | rfl <;> omega))
  have fr5 : Fr P g j 1 w w5 := by
    refine ⟨⟨((hgr.os.trans hy3.kb.os).trans fr.kb.os), (hgr.tape.trans hy3.kb.tape).trans fr.kb.tape, (hgr.output.trans hy3.kb.output).trans fr.kb.output, by omega, fun b hb ht => ?_⟩, fun cur2 t2 h2 => ?_⟩
    · rw [same5 b (by omega) (vold b hb), same1 b (by omega) (by omega)]
      exact fr.kb.block b hb ht
    · obtain ⟨c3, q1, q2, q3⟩ := fr.row cur2 t2 h2
      rw [hrow] at q1
      cases q1
      exact ⟨cur, hr5, q2, q3⟩
  have hob : ∀ b, (Value.slice (some ⟨gg, 0, none⟩) (k + 1) cap).ownBlock = some b → b = gg := fun b hb => by
    have hb : gg = b := by simpa [Value.ownBlock] using hb
    exact hb.symm
  have set_other : ∀ b, b ≠ g → (w5.setCell ⟨g, j, none⟩ (.slice (some ⟨gg, 0, none⟩) (k + 1) cap)).heap[b]? = w5.heap[b]? := fun b hb => Below.heap_setCell _ _ _ _ (by show b ≠ g; exact hb)
  have hsz6 : (w5.setCell ⟨g, j, none⟩ (.slice (some ⟨gg, 0, none⟩) (k + 1) cap)).heap.size = w5.heap.size := by simp
  have hrow6 : RowOf R (w5.setCell ⟨g, j, none⟩ (.slice (some ⟨gg, 0, none⟩) (k + 1) cap)) (fun b => Since w.heap.size (w5.setCell ⟨g, j, none⟩ (.slice (some ⟨gg, 0, none⟩) (k + 1) cap)) b ∧ (Value.slice (some ⟨gg, 0, none⟩) (k + 1) cap).ownBlock ≠ some b) (done ++ [x]) (cs ++ xs) := by
    refine RowOf.snoc ?_ ?_
    · refine R.agree hy2 (fun b hb => ?_) (fun b hb => ⟨⟨by have := hb.1; simp at this; omega, by rw [hsz6]; have := hb.2; omega⟩, fun e => ?_⟩)
      · have h1 := hb.1
        simp at h1
        rw [set_other b (by omega), same5 b hb.2 (fun e => by have := (hvb b e).2; omega)]
      · have := hob b e
        have h1 := hb.1
        have h2 := hb.2
        simp at h1
        rcases hat with h | h
        · have := (hvb gg h).2; omega
        · omega
    · refine hro.agree (fun b hb => ?_) (fun b hb => ⟨⟨hb.1.1, by rw [hsz6]; have := hb.1.2; omega⟩, fun e => ?_⟩)
      · have h1 := hb.1.1
        have h2 := hb.1.2
        rw [set_other b (by omega), same5 b (by omega) hb.2, same1 b h2 (by omega)]
      · have := hob b e
        have h2 := hb.1.2
        rcases hat with h | h
        · exact hb.2 (by rw [this]; exact h)
        · omega
  refine ⟨k + 1, r2, done ++ [x], _, cs ++ xs, _, by omega, rfl, p5.set hne hB _, row_set hr5 _, ?_, ?_, hrow6, fr5.trans (Fr.set w5 j _ (Nat.le_refl _) (by omega)), by simp [hdl], ?_⟩
  · have := (Array.getElem?_eq_some_iff.1 hcv).1
    simp [Array.getElem?_setIfInBounds, this]
  · have e1 : (done ++ [x]).length = k + 1 := by simp [hdl]
    rw [hdl] at hown
    rw [e1]
    exact ownsRow_agree hown fun b hb => set_other b (by
      have hb : gg = b := by simpa [Value.ownBlock] using hb
      omega)
  · rw [hrt, show n - k = (n - (k + 1)) + 1 by omega, M.rTimes, hx]
    simp only [Option.bind_some, Option.bind_assoc]
    congr 1
    funext t
    simp
/-- The whole vector has been read. -/
theorem list_end {α : Type} {R : Rep α} {ty : Nat} {a : M.Codec α} {B P g j t n m : Nat} {r0 bs : List Nat} {w w' : World} (h : LRelG R ty a B P g j t n r0 w (.int .i64 ((m : Nat) : Int)) w') (hm : m = n) (hn : n ≤ 128) (hrd : (M.vec a).rd bs = M.rTimes a n r0) : MdPost (rLst R) (M.vec a).rd B P g j bs w (.returned (.bool true)) w' := by
  obtain ⟨k, q, done, v, cs, cur, hk, hi, p, hrow, hcv, own, hro, fr, hdl, hrt⟩ := h
  have hkn : k = n := by
    injection hi with _ hi
    omega
  subst hkn
  rw [Nat.sub_self, M.rTimes, Option.bind_some, List.append_nil] at hrt
  refine .inl ⟨done, q, [v], hrd.trans hrt, rfl, p, ⟨v, ty, cs, rfl, ownsRow_base own (fun _ _ => Nat.zero_le _), fun b hb => own.lt b hb, by omega, hro.agree (fun _ _ => rfl) (fun b hb => hb.1)⟩, fun i u hu => ?_, fr⟩
  cases i with
  | zero => cases hu; exact (cell_row hrow _).trans hcv
  | succ i => cases hu
theorem vec_rd {α : Type} (a : M.Codec α) (bs : List Nat) : (M.vec a).rd bs = (M.num bs).bind fun p => if p.1 ≤ ((128 : Nat) : Int) then M.rTimes a p.1.toNat p.2 else none := rfl
/-- The function, with a reader of the elements handed in, reads so. -/
def MlOk {α : Type} (f : Nat) (fv : Value) (R : Rep α) (rd : List Nat → Option (α × List Nat)) : Prop :=
  ∀ (B P g j t : Nat) (cur : Array Value) (bs : List Nat) (w : World), PAt B w P bs → w.heap[g]? = some (.cells cur t (0, 0)) → cur[j]? = some (.slice none 0 0) → g ≠ P → B ≤ g →
    Calls Tryz.prog f #[.pointer (some ⟨P, 0, none⟩), .pointer (some ⟨g, j, none⟩), fv] w (MdPost R rd B P g j bs w)
theorem list_nums {w : World} {S : Nat → Prop} {v : Value} {xs : List Int} (h : Lst rInt w S v xs) : NS w S v xs := by
  obtain ⟨A, c, e, ⟨h1, h1', h1''⟩, h2⟩ := h
  refine ⟨A, c, e, ⟨by omega, h1', h1''⟩, fun i hi => ?_⟩
  rcases h2 with rfl | ⟨g, o, cs, h3, h4, h5, h6⟩
  · simp at hi
  · obtain ⟨c1, ⟨h7, h8⟩, h9⟩ := h5.nth (List.getElem?_eq_getElem hi)
    subst h7
    have e2 : xs.getD i 0 = xs[i] := by rw [List.getD_eq_getElem?_getD, List.getElem?_eq_getElem hi]; rfl
    refine ⟨⟨g, o, none⟩, h3, h4, by rw [e2]; exact h8, ?_⟩
    rw [add_none, e2]
    have := h6 _ _ (h9 0 _ rfl)
    simpa [rInt] using this
theorem MdPost.nums {rd : List Nat → Option (List Int × List Nat)} {B P g j : Nat} {bs : List Nat} {w w' : World} {e : Ending} (h : MdPost (rLst rInt) rd B P g j bs w e w') : MdPost rNums rd B P g j bs w e w' := by
  rcases h with ⟨x, r, cs, q1, q2, q3, q4, q5, q6⟩ | h
  · obtain ⟨v, ty, cc, rfl, q4'⟩ := q4
    exact .inl ⟨x, r, [v], q1, q2, q3, ⟨v, rfl, list_nums (rLst.lst ⟨v, ty, cc, rfl, q4'⟩)⟩, q5, q6⟩
  · exact .inr h
end Go.Proofs.YtilaheifccjjeaaGreat
namespace Go.Proofs.YtilaheifccjjeaaGreat
open Go.RowKit
theorem info_val : (Tryz.prog.info? 3).map (fun i => (i.zero, i.size, i.bytes)) = some (some (.int .i64 0), 1, 8) := by kernel_rfl
set_option maxRecDepth 100000 in
set_option maxHeartbeats 4000000 in
theorem list_val : MlOk 193 (.func (.func 194) #[] #[]) (rLst rInt) (M.vec M.cVal).rd := by
  intro B P g j t cur bs w h hg hcj hne hB
  obtain ⟨i0, hi0, hz0, hz1, hz2⟩ := info_parts info_val
  have hv := Lib.hid (vec_rd M.cVal bs)
  have hPl := h.lt
  have hPlo := h.lo
  have hgl := lt_row hg
  have ha := Lib.hid (h.alloc (.cells #[.int .i64 0] 3))
  have hPg : ¬ P = g := fun e => hne e.symm
  replace hg := Lib.hid hg
  replace hcj := Lib.hid hcj
  clear h
  go_enter Tryz.func193, Tryz.ntmps193
  go_wp2_with fail
  refine (mnum_ok (.int .i64 0) B P w.heap.size 0 3 #[.int .i64 0] bs _ ha.out (heap_alloc_new w _) (one_row _) (by omega) (by omega)).mono ?_
  rintro e1 w1 (⟨y, r0, cs, hrd, rfl, p1, ⟨rfl, hy⟩, hc, fr⟩ | ⟨hrd, rfl, kb⟩)
  · have hy0 := (M.num_short hrd).1
    unfold M.inR at hy0
    obtain ⟨y0, y1⟩ := hy0
    obtain ⟨n, rfl⟩ := Int.eq_ofNat_of_zero_le y0
    rw [hrd] at hv
    simp only [Option.bind_some, Int.toNat_natCast] at hv
    have c1 : w1.cell? ⟨w.heap.size, 0, none⟩ = some (.int .i64 n) := hc 0 _ rfl
    have kb := kb_new fr.kb
    have hs1 : w.heap.size < w1.heap.size := by have := fr.kb.size; simp at this; omega
    have hg1 : w1.heap[g]? = some (.cells cur t (0, 0)) := by rw [kb.block g hgl hne]; exact hg.out
    have rel0 := Lib.hid (show LRelG rInt 3 M.cVal B P g j t n r0 w (.int .i64 ((0 : Nat) : Int)) w1 from ⟨0, r0, [], _, [], cur, by omega, rfl, p1, hg1, hcj.out, World.ownsRow_nil _ _ _ _, rfl, Fr.of_kb kb hgl hne, rfl, by cases M.rTimes M.cVal n r0 <;> rfl⟩)
    replace kb := Lib.hid kb
    clear hc fr p1 hg1 y0 y1
    by_cases h128 : n ≤ 128
    · rw [if_pos (by omega)] at hv
      go_wp2_with fail
      go_loopw [8, 17] (fun _ i w' => LRelG rInt 3 M.cVal B P g j t n r0 w i w') (fun _ i _ => n - (intOf i).toNat)
      case atStart => exact rel0.out
      case round =>
        have hrel0 := Lib.hid hrel
        obtain ⟨k, q, done, v, cs, cur2, hk, rfl, p2, hg2, hcv, own, hro, fr, hdl, hrt⟩ := hrel
        have hwr : w.heap.size ≤ wr.heap.size := fr.kb.size
        have pa := Lib.hid (p2.alloc (.cells #[.int .i64 0] 3))
        clear rel0
        replace hro := Lib.hid hro
        replace hrt := Lib.hid hrt
        replace own := Lib.hid own
        replace fr := Lib.hid fr
        replace hg2 := Lib.hid hg2
        replace hcv := Lib.hid hcv
        clear p2
        by_cases hlt : k < n
        · have hwP : wr.heap.size ≠ P := by omega
          have hwB : B ≤ wr.heap.size := by omega
          cases hx : (M.cVal).rd q with
          | none =>
            have hnone := Lib.hid (show (M.vec M.cVal).rd bs = none by
              rw [hv.out, hrt.out, show n - k = (n - (k + 1)) + 1 by omega, M.rTimes, hx]; rfl)
            replace hx := Lib.hid hx
            go_wp2_with fail
            refine ((mval_ok (.int .i64 0)).no hx.out pa.out (heap_alloc_new wr _) (fun i u hu => by rw [Nat.zero_add]; simpa using hu) hwP hwB ⟨rfl, rfl, rfl, rfl⟩).mono ?_
            rintro e2 w2 ⟨rfl, kb2⟩
            have kb3 := Lib.hid (fr.out.kb.trans (kb_g (g := g) (kb_new kb2)))
            clear kb2
            go_wp2_with fail
            go_ret
            exact .inr ⟨hnone.out, rfl, kb3.out⟩
          | some xr =>
            obtain ⟨x, r2⟩ := xr
            replace hx := Lib.hid hx
            go_wp2_with fail
            refine ((mval_ok (.int .i64 0)).yes hx.out pa.out (heap_alloc_new wr _) (fun i u hu => by rw [Nat.zero_add]; simpa using hu) hwP hwB ⟨rfl, rfl, rfl, rfl⟩).mono ?_
            rintro e2 w2 ⟨rfl, p3, ⟨xs, his, hxc⟩, fr3⟩
            have hs3 : wr.heap.size < w2.heap.size := by have := fr3.kb.size; simp at this; omega
            have hlen := rInt.len his
            have hone := Lib.hid (rInt.one his)
            have hq := his.1
            subst hq
            have xc0 : w2.cell? ⟨wr.heap.size, 0, none⟩ = some (.int .i64 x) := hxc 0 _ rfl
            have kb3 := kb_new fr3.kb
            have hg3 : w2.heap[g]? = some (.cells cur2 t (0, 0)) := by rw [kb3.block g (by omega) hne]; exact hg2.out
            have cg : w2.cell? ⟨g, j, none⟩ = some v := (cell_row hg3 j).trans hcv.out
            have fg := frozen_row hg3 j
            have vne : ∀ b, v.ownBlock = some b → b ≠ P ∧ b ≠ g := fun b hb => by have := (own.out.lt b hb).1; omega
            have own3 := Lib.hid (show w2.ownsRow w.heap.size 3 1 v done.length cs from ownsRow_agree own.out fun b hb => kb3.block b (own.out.lt b hb).2 (vne b hb).1)
            have fin := Lib.hid (fun gg cap w5 ob hown hgr hat hlt5 => list_step (gg := gg) (cap := cap) (w5 := w5) (ob := ob) hPl hgl hne hB hlt h128 hg2.out hcv.out own.out hro.out fr.out hdl hrt.out hx.out p3 his fr3 hown hgr hat hlt5)
            have hgs : g < w2.heap.size := by omega
            have vne2 := Lib.hid (fun b hb => (vne b hb).2)
            clear vne p3 his hxc hg3 kb3 hlen
            replace fr3 := Lib.hid fr3
            go_wp2_with fail
            go_region_law (refine step_append_lies _ (by rfl) _ _ _ (by rfl) w.heap.size 3 i0 _ 1 8 Tryz.underlying52 hi0 hz0 hz1 hz2 rfl (by omega) v done.length cs (by rfl) (by first | exact own3.out.alloc _ | exact ownsRow_agree (own3.out.alloc (.cells #[.int .i64 x] 3)) (fun _ _ => rfl)) ⟨w2.heap.size, 0, none⟩ 1 1 [.int .i64 x] (by rfl) (by rfl) (World.news_of_block (cs := #[.int .i64 x]) (t := 3) (fr := (0, 0)) (heap_alloc_new w2 _)) hone.out (by omega) (by unfold maxLen; omega) (by omega) (by simp; omega) (w2.heap.size + 1) (by simp) ?_; intro gg cap w5 hown5 hgrow5 hat5 hlt5; have hb5 : w5.heap[g]? = w2.heap[g]? := (hgrow5.block g (by simp; omega) (fun e => (vne2.out g e.symm) rfl)).trans (Below.heap_alloc w2 (.cells #[.int .i64 x] 3) g hgs); have c65 : w5.cell? ⟨g, j, none⟩ = some v := (World.cell?_of_block (w := w2) hb5).trans cg; have f65 : w5.frozen? ⟨g, j, none⟩ = false := (World.frozen?_of_block (w := w2) hb5).trans fg; clear hb5)
            all_goals go_wp2_with fail
            all_goals (
              have F := fin.out gg cap w5 (.cells #[.int .i64 x] 3) hown5 (grown_drew hgrow5) hat5 hlt5
              have e9 : ((k + 1 : Nat) : Int) = (k : Int) + 1 := by omega
              rw [e9] at F
              exact ⟨F, by simp [intOf]; omega⟩)
        · have hkn : k = n := by omega
          have tlt : decide ((k : Int) < (n : Int)) = false := by simp; omega
          have hend := Lib.hid (list_end hrel0.out hkn h128 hv.out)
          replace hkn := Lib.hid hkn
          go_wp2_with fail
          go_ret
          exact hend.out
    · rw [if_neg (by omega)] at hv
      go_wp2_with fail
      go_ret
      exact .inr ⟨hv.out, rfl, kb_g kb.out⟩
  · rw [hrd] at hv
    replace kb := Lib.hid (kb_new kb)
    go_wp2_with fail
    go_ret
    exact .inr ⟨hv.out, rfl, kb_g kb.out⟩
theorem info_num : (Tryz.prog.info? 3).map (fun i => (i.zero, i.size, i.bytes)) = some (some (.int .i64 0), 1, 8) := by kernel_rfl
set_option maxRecDepth 100000 in
set_option maxHeartbeats 4000000 in
theorem list_num : MlOk 193 (.func (.func 170) #[] #[]) (rLst rInt) (M.vec M.cNum).rd := by
  intro B P g j t cur bs w h hg hcj hne hB
  obtain ⟨i0, hi0, hz0, hz1, hz2⟩ := info_parts info_num
  have hv := Lib.hid (vec_rd M.cNum bs)
  have hPl := h.lt
  have hPlo := h.lo
  have hgl := lt_row hg
  have ha := Lib.hid (h.alloc (.cells #[.int .i64 0] 3))
  have hPg : ¬ P = g := fun e => hne e.symm
  replace hg := Lib.hid hg
  replace hcj := Lib.hid hcj
  clear h
  go_enter Tryz.func193, Tryz.ntmps193
  go_wp2_with fail
  refine (mnum_ok (.int .i64 0) B P w.heap.size 0 3 #[.int .i64 0] bs _ ha.out (heap_alloc_new w _) (one_row _) (by omega) (by omega)).mono ?_
  rintro e1 w1 (⟨y, r0, cs, hrd, rfl, p1, ⟨rfl, hy⟩, hc, fr⟩ | ⟨hrd, rfl, kb⟩)
  · have hy0 := (M.num_short hrd).1
    unfold M.inR at hy0
    obtain ⟨y0, y1⟩ := hy0
    obtain ⟨n, rfl⟩ := Int.eq_ofNat_of_zero_le y0
    rw [hrd] at hv
    simp only [Option.bind_some, Int.toNat_natCast] at hv
    have c1 : w1.cell? ⟨w.heap.size, 0, none⟩ = some (.int .i64 n) := hc 0 _ rfl
    have kb := kb_new fr.kb
    have hs1 : w.heap.size < w1.heap.size := by have := fr.kb.size; simp at this; omega
    have hg1 : w1.heap[g]? = some (.cells cur t (0, 0)) := by rw [kb.block g hgl hne]; exact hg.out
    have rel0 := Lib.hid (show LRelG rInt 3 M.cNum B P g j t n r0 w (.int .i64 ((0 : Nat) : Int)) w1 from ⟨0, r0, [], _, [], cur, by omega, rfl, p1, hg1, hcj.out, World.ownsRow_nil _ _ _ _, rfl, Fr.of_kb kb hgl hne, rfl, by cases M.rTimes M.cNum n r0 <;> rfl⟩)
    replace kb := Lib.hid kb
    clear hc fr p1 hg1 y0 y1
    by_cases h128 : n ≤ 128
    · rw [if_pos (by omega)] at hv
      go_wp2_with fail
      go_loopw [8, 17] (fun _ i w' => LRelG rInt 3 M.cNum B P g j t n r0 w i w') (fun _ i _ => n - (intOf i).toNat)
      case atStart => exact rel0.out
      case round =>
        have hrel0 := Lib.hid hrel
        obtain ⟨k, q, done, v, cs, cur2, hk, rfl, p2, hg2, hcv, own, hro, fr, hdl, hrt⟩ := hrel
        have hwr : w.heap.size ≤ wr.heap.size := fr.kb.size
        have pa := Lib.hid (p2.alloc (.cells #[.int .i64 0] 3))
        clear rel0
        replace hro := Lib.hid hro
        replace hrt := Lib.hid hrt
        replace own := Lib.hid own
        replace fr := Lib.hid fr
        replace hg2 := Lib.hid hg2
        replace hcv := Lib.hid hcv
        clear p2
        by_cases hlt : k < n
        · have hwP : wr.heap.size ≠ P := by omega
          have hwB : B ≤ wr.heap.size := by omega
          cases hx : (M.cNum).rd q with
          | none =>
            have hnone := Lib.hid (show (M.vec M.cNum).rd bs = none by
              rw [hv.out, hrt.out, show n - k = (n - (k + 1)) + 1 by omega, M.rTimes, hx]; rfl)
            replace hx := Lib.hid hx
            go_wp2_with fail
            refine ((mnum_ok (.int .i64 0)).no hx.out pa.out (heap_alloc_new wr _) (fun i u hu => by rw [Nat.zero_add]; simpa using hu) hwP hwB ⟨rfl, rfl, rfl, rfl⟩).mono ?_
            rintro e2 w2 ⟨rfl, kb2⟩
            have kb3 := Lib.hid (fr.out.kb.trans (kb_g (g := g) (kb_new kb2)))
            clear kb2
            go_wp2_with fail
            go_ret
            exact .inr ⟨hnone.out, rfl, kb3.out⟩
          | some xr =>
            obtain ⟨x, r2⟩ := xr
            replace hx := Lib.hid hx
            go_wp2_with fail
            refine ((mnum_ok (.int .i64 0)).yes hx.out pa.out (heap_alloc_new wr _) (fun i u hu => by rw [Nat.zero_add]; simpa using hu) hwP hwB ⟨rfl, rfl, rfl, rfl⟩).mono ?_
            rintro e2 w2 ⟨rfl, p3, ⟨xs, his, hxc⟩, fr3⟩
            have hs3 : wr.heap.size < w2.heap.size := by have := fr3.kb.size; simp at this; omega
            have hlen := rInt.len his
            have hone := Lib.hid (rInt.one his)
            have hq := his.1
            subst hq
            have xc0 : w2.cell? ⟨wr.heap.size, 0, none⟩ = some (.int .i64 x) := hxc 0 _ rfl
            have kb3 := kb_new fr3.kb
            have hg3 : w2.heap[g]? = some (.cells cur2 t (0, 0)) := by rw [kb3.block g (by omega) hne]; exact hg2.out
            have cg : w2.cell? ⟨g, j, none⟩ = some v := (cell_row hg3 j).trans hcv.out
            have fg := frozen_row hg3 j
            have vne : ∀ b, v.ownBlock = some b → b ≠ P ∧ b ≠ g := fun b hb => by have := (own.out.lt b hb).1; omega
            have own3 := Lib.hid (show w2.ownsRow w.heap.size 3 1 v done.length cs from ownsRow_agree own.out fun b hb => kb3.block b (own.out.lt b hb).2 (vne b hb).1)
            have fin := Lib.hid (fun gg cap w5 ob hown hgr hat hlt5 => list_step (gg := gg) (cap := cap) (w5 := w5) (ob := ob) hPl hgl hne hB hlt h128 hg2.out hcv.out own.out hro.out fr.out hdl hrt.out hx.out p3 his fr3 hown hgr hat hlt5)
            have hgs : g < w2.heap.size := by omega
            have vne2 := Lib.hid (fun b hb => (vne b hb).2)
            clear vne p3 his hxc hg3 kb3 hlen
            replace fr3 := Lib.hid fr3
            go_wp2_with fail
            go_region_law (refine step_append_lies _ (by rfl) _ _ _ (by rfl) w.heap.size 3 i0 _ 1 8 Tryz.underlying52 hi0 hz0 hz1 hz2 rfl (by omega) v done.length cs (by rfl) (by first | exact own3.out.alloc _ | exact ownsRow_agree (own3.out.alloc (.cells #[.int .i64 x] 3)) (fun _ _ => rfl)) ⟨w2.heap.size, 0, none⟩ 1 1 [.int .i64 x] (by rfl) (by rfl) (World.news_of_block (cs := #[.int .i64 x]) (t := 3) (fr := (0, 0)) (heap_alloc_new w2 _)) hone.out (by omega) (by unfold maxLen; omega) (by omega) (by simp; omega) (w2.heap.size + 1) (by simp) ?_; intro gg cap w5 hown5 hgrow5 hat5 hlt5; have hb5 : w5.heap[g]? = w2.heap[g]? := (hgrow5.block g (by simp; omega) (fun e => (vne2.out g e.symm) rfl)).trans (Below.heap_alloc w2 (.cells #[.int .i64 x] 3) g hgs); have c65 : w5.cell? ⟨g, j, none⟩ = some v := (World.cell?_of_block (w := w2) hb5).trans cg; have f65 : w5.frozen? ⟨g, j, none⟩ = false := (World.frozen?_of_block (w := w2) hb5).trans fg; clear hb5)
            all_goals go_wp2_with fail
            all_goals (
              have F := fin.out gg cap w5 (.cells #[.int .i64 x] 3) hown5 (grown_drew hgrow5) hat5 hlt5
              have e9 : ((k + 1 : Nat) : Int) = (k : Int) + 1 := by omega
              rw [e9] at F
              exact ⟨F, by simp [intOf]; omega⟩)
        · have hkn : k = n := by omega
          have tlt : decide ((k : Int) < (n : Int)) = false := by simp; omega
          have hend := Lib.hid (list_end hrel0.out hkn h128 hv.out)
          replace hkn := Lib.hid hkn
          go_wp2_with fail
          go_ret
          exact hend.out
    · rw [if_neg (by omega)] at hv
      go_wp2_with fail
      go_ret
      exact .inr ⟨hv.out, rfl, kb_g kb.out⟩
  · rw [hrd] at hv
    replace kb := Lib.hid (kb_new kb)
    go_wp2_with fail
    go_ret
    exact .inr ⟨hv.out, rfl, kb_g kb.out⟩
theorem info_lim : (Tryz.prog.info? 58).map (fun i => (i.zero, i.size, i.bytes)) = some (some (.agg #[.int .i64 0, .int .i64 0]), 2, 16) := by kernel_rfl
set_option maxRecDepth 100000 in
set_option maxHeartbeats 4000000 in
theorem list_lim : MlOk 163 (.func (.func 165) #[] #[]) (rLst rLim) (M.vec M.cLim).rd := by
  intro B P g j t cur bs w h hg hcj hne hB
  obtain ⟨i0, hi0, hz0, hz1, hz2⟩ := info_parts info_lim
  have hv := Lib.hid (vec_rd M.cLim bs)
  have hPl := h.lt
  have hPlo := h.lo
  have hgl := lt_row hg
  have ha := Lib.hid (h.alloc (.cells #[.int .i64 0] 3))
  have hPg : ¬ P = g := fun e => hne e.symm
  replace hg := Lib.hid hg
  replace hcj := Lib.hid hcj
  clear h
  go_enter Tryz.func163, Tryz.ntmps163
  go_wp2_with fail
  refine (mnum_ok (.int .i64 0) B P w.heap.size 0 3 #[.int .i64 0] bs _ ha.out (heap_alloc_new w _) (one_row _) (by omega) (by omega)).mono ?_
  rintro e1 w1 (⟨y, r0, cs, hrd, rfl, p1, ⟨rfl, hy⟩, hc, fr⟩ | ⟨hrd, rfl, kb⟩)
  · have hy0 := (M.num_short hrd).1
    unfold M.inR at hy0
    obtain ⟨y0, y1⟩ := hy0
    obtain ⟨n, rfl⟩ := Int.eq_ofNat_of_zero_le y0
    rw [hrd] at hv
    simp only [Option.bind_some, Int.toNat_natCast] at hv
    have c1 : w1.cell? ⟨w.heap.size, 0, none⟩ = some (.int .i64 n) := hc 0 _ rfl
    have kb := kb_new fr.kb
    have hs1 : w.heap.size < w1.heap.size := by have := fr.kb.size; simp at this; omega
    have hg1 : w1.heap[g]? = some (.cells cur t (0, 0)) := by rw [kb.block g hgl hne]; exact hg.out
    have rel0 := Lib.hid (show LRelG rLim 58 M.cLim B P g j t n r0 w (.int .i64 ((0 : Nat) : Int)) w1 from ⟨0, r0, [], _, [], cur, by omega, rfl, p1, hg1, hcj.out, World.ownsRow_nil _ _ _ _, rfl, Fr.of_kb kb hgl hne, rfl, by cases M.rTimes M.cLim n r0 <;> rfl⟩)
    replace kb := Lib.hid kb
    clear hc fr p1 hg1 y0 y1
    by_cases h128 : n ≤ 128
    · rw [if_pos (by omega)] at hv
      go_wp2_with fail
      go_loopw [8, 17] (fun _ i w' => LRelG rLim 58 M.cLim B P g j t n r0 w i w') (fun _ i _ => n - (intOf i).toNat)
      case atStart => exact rel0.out
      case round =>
        have hrel0 := Lib.hid hrel
        obtain ⟨k, q, done, v, cs, cur2, hk, rfl, p2, hg2, hcv, own, hro, fr, hdl, hrt⟩ := hrel
        have hwr : w.heap.size ≤ wr.heap.size := fr.kb.size
        have pa := Lib.hid (p2.alloc (.cells #[.int .i64 0, .int .i64 0] 58))
        clear rel0
        replace hro := Lib.hid hro
        replace hrt := Lib.hid hrt
        replace own := Lib.hid own
        replace fr := Lib.hid fr
        replace hg2 := Lib.hid hg2
        replace hcv := Lib.hid hcv
        clear p2
        by_cases hlt : k < n
        · have hwP : wr.heap.size ≠ P := by omega
          have hwB : B ≤ wr.heap.size := by omega
          cases hx : (M.cLim).rd q with
          | none =>
            have hnone := Lib.hid (show (M.vec M.cLim).rd bs = none by
              rw [hv.out, hrt.out, show n - k = (n - (k + 1)) + 1 by omega, M.rTimes, hx]; rfl)
            replace hx := Lib.hid hx
            go_wp2_with fail
            refine ((mlim_ok).no hx.out pa.out (heap_alloc_new wr _) (fun i u hu => by rw [Nat.zero_add]; simpa using hu) hwP hwB ⟨rfl, rfl, rfl, rfl⟩).mono ?_
            rintro e2 w2 ⟨rfl, kb2⟩
            have kb3 := Lib.hid (fr.out.kb.trans (kb_g (g := g) (kb_new kb2)))
            clear kb2
            go_wp2_with fail
            go_ret
            exact .inr ⟨hnone.out, rfl, kb3.out⟩
          | some xr =>
            obtain ⟨x, r2⟩ := xr
            replace hx := Lib.hid hx
            go_wp2_with fail
            refine ((mlim_ok).yes hx.out pa.out (heap_alloc_new wr _) (fun i u hu => by rw [Nat.zero_add]; simpa using hu) hwP hwB ⟨rfl, rfl, rfl, rfl⟩).mono ?_
            rintro e2 w2 ⟨rfl, p3, ⟨xs, his, hxc⟩, fr3⟩
            have hs3 : wr.heap.size < w2.heap.size := by have := fr3.kb.size; simp at this; omega
            have hlen := rLim.len his
            have hone := Lib.hid (rLim.one his)
            obtain ⟨x0, x1, rfl⟩ : ∃ x0 x1, xs = [x0, x1] := by
              match xs, hlen with
              | [x0, x1], _ => exact ⟨_, _, rfl⟩
            have xc0 : w2.cell? ⟨wr.heap.size, 0, none⟩ = some x0 := by simpa using hxc 0 _ rfl
            have xc1 : w2.cell? ⟨wr.heap.size, 1, none⟩ = some x1 := by simpa using hxc 1 _ rfl
            have kb3 := kb_new fr3.kb
            have hg3 : w2.heap[g]? = some (.cells cur2 t (0, 0)) := by rw [kb3.block g (by omega) hne]; exact hg2.out
            have cg : w2.cell? ⟨g, j, none⟩ = some v := (cell_row hg3 j).trans hcv.out
            have fg := frozen_row hg3 j
            have vne : ∀ b, v.ownBlock = some b → b ≠ P ∧ b ≠ g := fun b hb => by have := (own.out.lt b hb).1; omega
            have own3 := Lib.hid (show w2.ownsRow w.heap.size 58 2 v done.length cs from ownsRow_agree own.out fun b hb => kb3.block b (own.out.lt b hb).2 (vne b hb).1)
            have fin := Lib.hid (fun gg cap w5 ob hown hgr hat hlt5 => list_step (gg := gg) (cap := cap) (w5 := w5) (ob := ob) hPl hgl hne hB hlt h128 hg2.out hcv.out own.out hro.out fr.out hdl hrt.out hx.out p3 his fr3 hown hgr hat hlt5)
            have hgs : g < w2.heap.size := by omega
            have vne2 := Lib.hid (fun b hb => (vne b hb).2)
            clear vne p3 his hxc hg3 kb3 hlen
            replace fr3 := Lib.hid fr3
            go_wp2_with fail
            go_region_law (refine step_append_lies _ (by rfl) _ _ _ (by rfl) w.heap.size 58 i0 _ 2 16 Tryz.underlying26 hi0 hz0 hz1 hz2 rfl (by omega) v done.length cs (by rfl) (by first | exact own3.out.alloc _ | exact ownsRow_agree (own3.out.alloc (.cells #[x0, x1] 58)) (fun _ _ => rfl)) ⟨w2.heap.size, 0, none⟩ 1 1 [x0, x1] (by rfl) (by rfl) (World.news_of_block (cs := #[x0, x1]) (t := 58) (fr := (0, 0)) (heap_alloc_new w2 _)) hone.out (by omega) (by unfold maxLen; omega) (by omega) (by simp; omega) (w2.heap.size + 1) (by simp) ?_; intro gg cap w5 hown5 hgrow5 hat5 hlt5; have hb5 : w5.heap[g]? = w2.heap[g]? := (hgrow5.block g (by simp; omega) (fun e => (vne2.out g e.symm) rfl)).trans (Below.heap_alloc w2 (.cells #[x0, x1] 58) g hgs); have c65 : w5.cell? ⟨g, j, none⟩ = some v := (World.cell?_of_block (w := w2) hb5).trans cg; have f65 : w5.frozen? ⟨g, j, none⟩ = false := (World.frozen?_of_block (w := w2) hb5).trans fg; clear hb5)
            all_goals go_wp2_with fail
            all_goals (
              have F := fin.out gg cap w5 (.cells #[x0, x1] 58) hown5 (grown_drew hgrow5) hat5 hlt5
              have e9 : ((k + 1 : Nat) : Int) = (k : Int) + 1 := by omega
              rw [e9] at F
              exact ⟨F, by simp [intOf]; omega⟩)
        · have hkn : k = n := by omega
          have tlt : decide ((k : Int) < (n : Int)) = false := by simp; omega
          have hend := Lib.hid (list_end hrel0.out hkn h128 hv.out)
          replace hkn := Lib.hid hkn
          go_wp2_with fail
          go_ret
          exact hend.out
    · rw [if_neg (by omega)] at hv
      go_wp2_with fail
      go_ret
      exact .inr ⟨hv.out, rfl, kb_g kb.out⟩
  · rw [hrd] at hv
    replace kb := Lib.hid (kb_new kb)
    go_wp2_with fail
    go_ret
    exact .inr ⟨hv.out, rfl, kb_g kb.out⟩
theorem info_tab : (Tryz.prog.info? 58).map (fun i => (i.zero, i.size, i.bytes)) = some (some (.agg #[.int .i64 0, .int .i64 0]), 2, 16) := by kernel_rfl
set_option maxRecDepth 100000 in
set_option maxHeartbeats 4000000 in
theorem list_tab : MlOk 163 (.func (.func 164) #[] #[]) (rLst rLim) (M.vec M.cTab).rd := by
  intro B P g j t cur bs w h hg hcj hne hB
  obtain ⟨i0, hi0, hz0, hz1, hz2⟩ := info_parts info_tab
  have hv := Lib.hid (vec_rd M.cTab bs)
  have hPl := h.lt
  have hPlo := h.lo
  have hgl := lt_row hg
  have ha := Lib.hid (h.alloc (.cells #[.int .i64 0] 3))
  have hPg : ¬ P = g := fun e => hne e.symm
  replace hg := Lib.hid hg
  replace hcj := Lib.hid hcj
  clear h
  go_enter Tryz.func163, Tryz.ntmps163
  go_wp2_with fail
  refine (mnum_ok (.int .i64 0) B P w.heap.size 0 3 #[.int .i64 0] bs _ ha.out (heap_alloc_new w _) (one_row _) (by omega) (by omega)).mono ?_
  rintro e1 w1 (⟨y, r0, cs, hrd, rfl, p1, ⟨rfl, hy⟩, hc, fr⟩ | ⟨hrd, rfl, kb⟩)
  · have hy0 := (M.num_short hrd).1
    unfold M.inR at hy0
    obtain ⟨y0, y1⟩ := hy0
    obtain ⟨n, rfl⟩ := Int.eq_ofNat_of_zero_le y0
    rw [hrd] at hv
    simp only [Option.bind_some, Int.toNat_natCast] at hv
    have c1 : w1.cell? ⟨w.heap.size, 0, none⟩ = some (.int .i64 n) := hc 0 _ rfl
    have kb := kb_new fr.kb
    have hs1 : w.heap.size < w1.heap.size := by have := fr.kb.size; simp at this; omega
    have hg1 : w1.heap[g]? = some (.cells cur t (0, 0)) := by rw [kb.block g hgl hne]; exact hg.out
    have rel0 := Lib.hid (show LRelG rLim 58 M.cTab B P g j t n r0 w (.int .i64 ((0 : Nat) : Int)) w1 from ⟨0, r0, [], _, [], cur, by omega, rfl, p1, hg1, hcj.out, World.ownsRow_nil _ _ _ _, rfl, Fr.of_kb kb hgl hne, rfl, by cases M.rTimes M.cTab n r0 <;> rfl⟩)
    replace kb := Lib.hid kb
    clear hc fr p1 hg1 y0 y1
    by_cases h128 : n ≤ 128
    · rw [if_pos (by omega)] at hv
      go_wp2_with fail
      go_loopw [8, 17] (fun _ i w' => LRelG rLim 58 M.cTab B P g j t n r0 w i w') (fun _ i _ => n - (intOf i).toNat)
      case atStart => exact rel0.out
      case round =>
        have hrel0 := Lib.hid hrel
        obtain ⟨k, q, done, v, cs, cur2, hk, rfl, p2, hg2, hcv, own, hro, fr, hdl, hrt⟩ := hrel
        have hwr : w.heap.size ≤ wr.heap.size := fr.kb.size
        have pa := Lib.hid (p2.alloc (.cells #[.int .i64 0, .int .i64 0] 58))
        clear rel0
        replace hro := Lib.hid hro
        replace hrt := Lib.hid hrt
        replace own := Lib.hid own
        replace fr := Lib.hid fr
        replace hg2 := Lib.hid hg2
        replace hcv := Lib.hid hcv
        clear p2
        by_cases hlt : k < n
        · have hwP : wr.heap.size ≠ P := by omega
          have hwB : B ≤ wr.heap.size := by omega
          cases hx : (M.cTab).rd q with
          | none =>
            have hnone := Lib.hid (show (M.vec M.cTab).rd bs = none by
              rw [hv.out, hrt.out, show n - k = (n - (k + 1)) + 1 by omega, M.rTimes, hx]; rfl)
            replace hx := Lib.hid hx
            go_wp2_with fail
            refine ((mtab_ok).no hx.out pa.out (heap_alloc_new wr _) (fun i u hu => by rw [Nat.zero_add]; simpa using hu) hwP hwB ⟨rfl, rfl, rfl, rfl⟩).mono ?_
            rintro e2 w2 ⟨rfl, kb2⟩
            have kb3 := Lib.hid (fr.out.kb.trans (kb_g (g := g) (kb_new kb2)))
            clear kb2
            go_wp2_with fail
            go_ret
            exact .inr ⟨hnone.out, rfl, kb3.out⟩
          | some xr =>
            obtain ⟨x, r2⟩ := xr
            replace hx := Lib.hid hx
            go_wp2_with fail
            refine ((mtab_ok).yes hx.out pa.out (heap_alloc_new wr _) (fun i u hu => by rw [Nat.zero_add]; simpa using hu) hwP hwB ⟨rfl, rfl, rfl, rfl⟩).mono ?_
            rintro e2 w2 ⟨rfl, p3, ⟨xs, his, hxc⟩, fr3⟩
            have hs3 : wr.heap.size < w2.heap.size := by have := fr3.kb.size; simp at this; omega
            have hlen := rLim.len his
            have hone := Lib.hid (rLim.one his)
            obtain ⟨x0, x1, rfl⟩ : ∃ x0 x1, xs = [x0, x1] := by
              match xs, hlen with
              | [x0, x1], _ => exact ⟨_, _, rfl⟩
            have xc0 : w2.cell? ⟨wr.heap.size, 0, none⟩ = some x0 := by simpa using hxc 0 _ rfl
            have xc1 : w2.cell? ⟨wr.heap.size, 1, none⟩ = some x1 := by simpa using hxc 1 _ rfl
            have kb3 := kb_new fr3.kb
            have hg3 : w2.heap[g]? = some (.cells cur2 t (0, 0)) := by rw [kb3.block g (by omega) hne]; exact hg2.out
            have cg : w2.cell? ⟨g, j, none⟩ = some v := (cell_row hg3 j).trans hcv.out
            have fg := frozen_row hg3 j
            have vne : ∀ b, v.ownBlock = some b → b ≠ P ∧ b ≠ g := fun b hb => by have := (own.out.lt b hb).1; omega
            have own3 := Lib.hid (show w2.ownsRow w.heap.size 58 2 v done.length cs from ownsRow_agree own.out fun b hb => kb3.block b (own.out.lt b hb).2 (vne b hb).1)
            have fin := Lib.hid (fun gg cap w5 ob hown hgr hat hlt5 => list_step (gg := gg) (cap := cap) (w5 := w5) (ob := ob) hPl hgl hne hB hlt h128 hg2.out hcv.out own.out hro.out fr.out hdl hrt.out hx.out p3 his fr3 hown hgr hat hlt5)
            have hgs : g < w2.heap.size := by omega
            have vne2 := Lib.hid (fun b hb => (vne b hb).2)
            clear vne p3 his hxc hg3 kb3 hlen
            replace fr3 := Lib.hid fr3
            go_wp2_with fail
            go_region_law (refine step_append_lies _ (by rfl) _ _ _ (by rfl) w.heap.size 58 i0 _ 2 16 Tryz.underlying26 hi0 hz0 hz1 hz2 rfl (by omega) v done.length cs (by rfl) (by first | exact own3.out.alloc _ | exact ownsRow_agree (own3.out.alloc (.cells #[x0, x1] 58)) (fun _ _ => rfl)) ⟨w2.heap.size, 0, none⟩ 1 1 [x0, x1] (by rfl) (by rfl) (World.news_of_block (cs := #[x0, x1]) (t := 58) (fr := (0, 0)) (heap_alloc_new w2 _)) hone.out (by omega) (by unfold maxLen; omega) (by omega) (by simp; omega) (w2.heap.size + 1) (by simp) ?_; intro gg cap w5 hown5 hgrow5 hat5 hlt5; have hb5 : w5.heap[g]? = w2.heap[g]? := (hgrow5.block g (by simp; omega) (fun e => (vne2.out g e.symm) rfl)).trans (Below.heap_alloc w2 (.cells #[x0, x1] 58) g hgs); have c65 : w5.cell? ⟨g, j, none⟩ = some v := (World.cell?_of_block (w := w2) hb5).trans cg; have f65 : w5.frozen? ⟨g, j, none⟩ = false := (World.frozen?_of_block (w := w2) hb5).trans fg; clear hb5)
            all_goals go_wp2_with fail
            all_goals (
              have F := fin.out gg cap w5 (.cells #[x0, x1] 58) hown5 (grown_drew hgrow5) hat5 hlt5
              have e9 : ((k + 1 : Nat) : Int) = (k : Int) + 1 := by omega
              rw [e9] at F
              exact ⟨F, by simp [intOf]; omega⟩)
        · have hkn : k = n := by omega
          have tlt : decide ((k : Int) < (n : Int)) = false := by simp; omega
          have hend := Lib.hid (list_end hrel0.out hkn h128 hv.out)
          replace hkn := Lib.hid hkn
          go_wp2_with fail
          go_ret
          exact hend.out
    · rw [if_neg (by omega)] at hv
      go_wp2_with fail
      go_ret
      exact .inr ⟨hv.out, rfl, kb_g kb.out⟩
  · rw [hrd] at hv
    replace kb := Lib.hid (kb_new kb)
    go_wp2_with fail
    go_ret
    exact .inr ⟨hv.out, rfl, kb_g kb.out⟩
end Go.Proofs.YtilaheifccjjeaaGreat
namespace Go.Proofs.YtilaheifccjjeaaGreat
open Go.RowKit
theorem MlOk.at {α : Type} {f : Nat} {fv : Value} {R : Rep α} {rd : List Nat → Option (α × List Nat)} (h : MlOk f fv R rd) {B P g j t : Nat} {cur : Array Value} {bs : List Nat} {w W : World} (s : Same w W) (h1 : PAt B w P bs) (h2 : w.heap[g]? = some (.cells cur t (0, 0))) (h3 : cur[j]? = some (.slice none 0 0)) (h4 : g ≠ P) (h5 : B ≤ g) :
    Calls Tryz.prog f #[.pointer (some ⟨P, 0, none⟩), .pointer (some ⟨g, j, none⟩), fv] W (MdPost R rd B P g j bs w) :=
  (h B P g j t cur bs W (s.pat h1) (by rw [s.heap]; exact h2) h3 h4 h5).mono fun e w' hp => by
    rcases hp with ⟨x', r', cs, q1, q2, q3, q4, q5, q6⟩ | ⟨q1, q2, q3⟩
    · exact .inl ⟨x', r', cs, q1, q2, q3, by rw [← s.heap]; exact q4, q5, s.fr q6⟩
    · exact .inr ⟨q1, q2, s.kb q3⟩
theorem MlOk.nums {f : Nat} {fv : Value} {rd : List Nat → Option (List Int × List Nat)} (h : MlOk f fv (rLst rInt) rd) : MlOk f fv rNums rd := fun B P g j t cur bs w h1 h2 h3 h4 h5 => (h B P g j t cur bs w h1 h2 h3 h4 h5).mono fun _ _ hp => hp.nums
theorem MdPost.yes {α : Type} {R : Rep α} {rd : List Nat → Option (α × List Nat)} {B P g j : Nat} {bs : List Nat} {w w' : World} {e : Ending} (h : MdPost R rd B P g j bs w e w') : (∃ x r, rd bs = some (x, r) ∧ e = .returned (.bool true) ∧ YesPost R x r B P g j w (.returned (.bool true)) w') ∨ (rd bs = none ∧ e = .returned (.bool false) ∧ Kb (fun k => k = P ∨ k = g) w w') := by
  rcases h with ⟨x, r, cs, q1, q2, q3, q4, q5, q6⟩ | h
  · exact .inl ⟨x, r, q1, q2, rfl, q3, ⟨cs, q4, q5⟩, q6⟩
  · exact .inr h
theorem ft_rd (bs : List Nat) : M.cFT.rd bs = ((M.cFix 96).rd bs).bind fun p => (M.cVals.rd p.2).bind fun q => (M.cVals.rd q.2).bind fun s => if s.1.length ≤ 1 then some (⟨q.1, s.1⟩, s.2) else none := by
  simp only [M.cFT, M.cIf, M.cMap, M.cSeq]
  cases (M.cFix 96).rd bs with
  | none => rfl
  | some p =>
    simp only [Option.bind_some]
    cases M.cVals.rd p.2 with
    | none => rfl
    | some q =>
      simp only [Option.bind_some]
      cases M.cVals.rd q.2 with
      | none => rfl
      | some s => simp
set_option maxRecDepth 100000 in
set_option maxHeartbeats 4000000 in
theorem mft_ok : MdOk 158 rFT [.slice none 0 0, .slice none 0 0] M.cFT.rd := by
  intro B P g j t cur bs w h hg hz hne hB
  have hv := Lib.hid (ft_rd bs)
  have hPl := h.lt
  have hgl := lt_row hg
  replace hg := Lib.hid hg
  replace hz := Lib.hid hz
  have cN := Lib.hid (mfixed_any 96 B P bs w h (by omega))
  clear h
  go_enter Tryz.func158, Tryz.ntmps158
  go_wp2_with fail
  refine cN.out.mono ?_
  rintro e1 w1 (⟨r1, hrd, rfl, p1, kb⟩ | ⟨hrd, rfl, kb⟩)
  · rw [hrd] at hv
    simp only [Option.bind_some] at hv
    have hg1 := Lib.hid (show w1.heap[g]? = some (.cells cur t (0, 0)) by rw [kb.block g hgl hne]; exact hg.out)
    replace kb := Lib.hid kb
    replace p1 := Lib.hid p1
    go_wp2_with fail
    refine (list_val.nums.at ⟨rfl, rfl, rfl, rfl⟩ p1.out hg1.out (hz.out 0 _ rfl) hne hB).mono ?_
    intro e2 w2 hp
    rcases hp.yes with ⟨ps, r2, q1, rfl, hy⟩ | ⟨q1, rfl, kb2⟩
    · have q1' : M.cVals.rd r1 = some (ps, r2) := q1
      rw [q1'] at hv
      simp only [Option.bind_some] at hv
      have pr := (Prog.start (zR := [.slice none 0 0]) (z := [.slice none 0 0]) p1.out hg1.out hz.out rfl hne hB hy).base kb.out hgl hPl
      obtain ⟨cur2, hg2, hz2⟩ := pr.row
      replace pr := Lib.hid pr
      replace hg2 := Lib.hid hg2
      replace hz2 := Lib.hid hz2
      clear hp hy
      go_wp2_with fail
      refine (list_val.nums.at ⟨rfl, rfl, rfl, rfl⟩ pr.out.pat hg2.out (hz2.out 0 _ rfl) hne hB).mono ?_
      intro e3 w3 hp
      rcases hp.yes with ⟨rs, r3, q3, rfl, hy⟩ | ⟨q3, rfl, kb3⟩
      · have q3' : M.cVals.rd r2 = some (rs, r3) := q3
        rw [q3'] at hv
        simp only [Option.bind_some] at hv
        have pr3 := pr.out.step (zQ := [.slice none 0 0]) (z := []) rfl hy
        obtain ⟨cs3, hcs, hcc⟩ := hy.2.2.1
        obtain ⟨v3, rfl, hns⟩ := hcs
        obtain ⟨A3, c3, rfl, hl3⟩ := hns.form
        have cr : w3.cell? ⟨g, j + 1, none⟩ = some (.slice A3 rs.length c3) := hcc 0 _ rfl
        replace pr3 := Lib.hid pr3
        clear hp hy hcc hns
        by_cases hl : rs.length ≤ 1
        · have t1 : decide ((rs.length : Int) ≤ 1) = true := by simp; omega
          rw [if_pos hl] at hv
          go_wp2_with fail
          go_ret
          exact pr3.out.fin (R2 := rFT) (y := ⟨ps, rs⟩) hv.out rfl (fun cs h => h)
        · have t1 : decide ((rs.length : Int) ≤ 1) = false := by simp; omega
          rw [if_neg hl] at hv
          go_wp2_with fail
          go_ret
          exact .inr ⟨hv.out, rfl, pr3.out.fr.kb⟩
      · have q3' : M.cVals.rd r2 = none := q3
        rw [q3'] at hv
        have kb4 := Lib.hid (pr.out.bad kb3)
        clear kb3 hp
        go_wp2_with fail
        go_ret
        exact .inr ⟨hv.out, rfl, kb4.out⟩
    · have q1' : M.cVals.rd r1 = none := q1
      rw [q1'] at hv
      have kb3 := Lib.hid ((kb_g kb.out).trans kb2)
      clear kb2 hp
      go_wp2_with fail
      go_ret
      exact .inr ⟨hv.out, rfl, kb3.out⟩
  · rw [hrd] at hv
    replace kb := Lib.hid kb
    go_wp2_with fail
    go_ret
    exact .inr ⟨hv.out, rfl, kb_g kb.out⟩
end Go.Proofs.YtilaheifccjjeaaGreat
namespace Go.Proofs.YtilaheifccjjeaaGreat
open Go.RowKit
theorem pre_row {zq zr zs : List Value} {cur : Array Value} {j : Nat} (h : ∀ i u, zs[i]? = some u → cur[j + i]? = some u) (e : zs = zq ++ zr) : ∀ i u, zq[i]? = some u → cur[j + i]? = some u := fun i u hu => h i u (by rw [e, List.getElem?_append_left (List.getElem?_eq_some_iff.1 hu).1]; exact hu)
theorem glo_rd (bs : List Nat) : M.cGlo.rd bs = (M.cVal.rd bs).bind fun p0 => (M.cFlag.rd p0.2).bind fun p1 => (M.cConst.rd p1.2).bind fun p2 => some (⟨p0.1, p1.1, p2.1⟩, p2.2) := by
  simp only [M.cGlo, M.cMap, M.cSeq, Option.bind_assoc, Option.bind_some]
  try rfl
set_option maxRecDepth 100000 in
set_option maxHeartbeats 4000000 in
theorem mglo_ok : MdOk 167 rGlo [.int .i64 0, .bool false, .int .i64 0, .int .i64 0, .int .i64 0, .int .i64 0, .int .i64 0, .int .i64 0, .slice none 0 0, .slice none 0 0, .slice none 0 0] M.cGlo.rd := by
  intro B P g j t cur bs w h hg hz hne hB
  have hv := Lib.hid (glo_rd bs)
  have hPl := h.lt
  have hgl := lt_row hg
  replace hg := Lib.hid hg
  replace hz := Lib.hid hz
  replace h := Lib.hid h
  go_enter Tryz.func167, Tryz.ntmps167
  go_wp2_with fail
  refine ((mval_ok (.int .i64 0)).at ⟨rfl, rfl, rfl, rfl⟩ h.out hg.out (pre_row (zr := [.bool false, .int .i64 0, .int .i64 0, .int .i64 0, .int .i64 0, .int .i64 0, .int .i64 0, .slice none 0 0, .slice none 0 0, .slice none 0 0]) hz.out rfl) hne hB).mono ?_
  intro e0 w0 hp
  rcases hp.yes with ⟨x0, r0, q0, rfl, hy⟩ | ⟨q0, rfl, kb0⟩
  · rw [q0] at hv
    simp only [Option.bind_some] at hv
    have pr0 := Prog.start (zR := [.int .i64 0]) (z := [.bool false, .int .i64 0, .int .i64 0, .int .i64 0, .int .i64 0, .int .i64 0, .int .i64 0, .slice none 0 0, .slice none 0 0, .slice none 0 0]) h.out hg.out hz.out rfl hne hB hy
    obtain ⟨cur0, hg0, hz0⟩ := pr0.row
    replace pr0 := Lib.hid pr0
    replace hg0 := Lib.hid hg0
    replace hz0 := Lib.hid hz0
    clear hp hy
    go_wp2_with fail
    refine ((mflag_ok (.bool false)).at ⟨rfl, rfl, rfl, rfl⟩ pr0.out.pat hg0.out (pre_row (zr := [.int .i64 0, .int .i64 0, .int .i64 0, .int .i64 0, .int .i64 0, .int .i64 0, .slice none 0 0, .slice none 0 0, .slice none 0 0]) hz0.out rfl) hne hB).mono ?_
    intro e1 w1 hp
    rcases hp.yes with ⟨x1, r1, q1, rfl, hy⟩ | ⟨q1, rfl, kb1⟩
    · rw [q1] at hv
      simp only [Option.bind_some] at hv
      have pr1 := pr0.out.step (zQ := [.bool false]) (z := [.int .i64 0, .int .i64 0, .int .i64 0, .int .i64 0, .int .i64 0, .int .i64 0, .slice none 0 0, .slice none 0 0, .slice none 0 0]) rfl hy
      obtain ⟨cur1, hg1, hz1⟩ := pr1.row
      replace pr1 := Lib.hid pr1
      replace hg1 := Lib.hid hg1
      replace hz1 := Lib.hid hz1
      clear hp hy
      go_wp2_with fail
      refine ((mconst_ok).at ⟨rfl, rfl, rfl, rfl⟩ pr1.out.pat hg1.out (fun i u hu => hz1.out i u hu) hne hB).mono ?_
      intro e2 w2 hp
      rcases hp.yes with ⟨x2, r2, q2, rfl, hy⟩ | ⟨q2, rfl, kb2⟩
      · rw [q2] at hv
        simp only [Option.bind_some] at hv
        have pr2 := pr1.out.step (zQ := [.int .i64 0, .int .i64 0, .int .i64 0, .int .i64 0, .int .i64 0, .int .i64 0, .slice none 0 0, .slice none 0 0, .slice none 0 0]) (z := []) rfl hy
        replace pr2 := Lib.hid pr2
        clear hp hy
        go_wp2_with fail
        go_ret
        exact pr2.out.fin (R2 := rGlo) (y := ⟨x0, x1, x2⟩) hv.out rfl (fun cs h => h)
      · rw [q2] at hv
        replace kb2 := Lib.hid (pr1.out.bad kb2)
        clear hp
        go_wp2_with fail
        go_ret
        exact .inr ⟨hv.out, rfl, kb2.out⟩
    · rw [q1] at hv
      replace kb1 := Lib.hid (pr0.out.bad kb1)
      clear hp
      go_wp2_with fail
      go_ret
      exact .inr ⟨hv.out, rfl, kb1.out⟩
  · rw [q0] at hv
    replace kb0 := Lib.hid kb0
    clear hp
    go_wp2_with fail
    go_ret
    exact .inr ⟨hv.out, rfl, kb0.out⟩
theorem elm_rd (bs : List Nat) : M.cElm.rd bs = (M.num bs).bind fun p0 => (M.cConst.rd p0.2).bind fun p1 => ((M.vec M.cNum).rd p1.2).bind fun p2 => some (⟨p0.1, p1.1, p2.1⟩, p2.2) := by
  simp only [M.cElm, M.cMap, M.cSeq, Option.bind_assoc, Option.bind_some]
  try rfl
set_option maxRecDepth 100000 in
set_option maxHeartbeats 4000000 in
theorem melm_ok : MdOk 172 rElm [.int .i64 0, .int .i64 0, .int .i64 0, .int .i64 0, .int .i64 0, .int .i64 0, .int .i64 0, .slice none 0 0, .slice none 0 0, .slice none 0 0, .slice none 0 0] M.cElm.rd := by
  intro B P g j t cur bs w h hg hz hne hB
  have hv := Lib.hid (elm_rd bs)
  have hPl := h.lt
  have hgl := lt_row hg
  replace hg := Lib.hid hg
  replace hz := Lib.hid hz
  replace h := Lib.hid h
  go_enter Tryz.func172, Tryz.ntmps172
  go_wp2_with fail
  refine ((mnum_ok (.int .i64 0)).at ⟨rfl, rfl, rfl, rfl⟩ h.out hg.out (pre_row (zr := [.int .i64 0, .int .i64 0, .int .i64 0, .int .i64 0, .int .i64 0, .int .i64 0, .slice none 0 0, .slice none 0 0, .slice none 0 0, .slice none 0 0]) hz.out rfl) hne hB).mono ?_
  intro e0 w0 hp
  rcases hp.yes with ⟨x0, r0, q0, rfl, hy⟩ | ⟨q0, rfl, kb0⟩
  · rw [q0] at hv
    simp only [Option.bind_some] at hv
    have pr0 := Prog.start (zR := [.int .i64 0]) (z := [.int .i64 0, .int .i64 0, .int .i64 0, .int .i64 0, .int .i64 0, .int .i64 0, .slice none 0 0, .slice none 0 0, .slice none 0 0, .slice none 0 0]) h.out hg.out hz.out rfl hne hB hy
    obtain ⟨cur0, hg0, hz0⟩ := pr0.row
    replace pr0 := Lib.hid pr0
    replace hg0 := Lib.hid hg0
    replace hz0 := Lib.hid hz0
    clear hp hy
    go_wp2_with fail
    refine ((mconst_ok).at ⟨rfl, rfl, rfl, rfl⟩ pr0.out.pat hg0.out (pre_row (zr := [.slice none 0 0]) hz0.out rfl) hne hB).mono ?_
    intro e1 w1 hp
    rcases hp.yes with ⟨x1, r1, q1, rfl, hy⟩ | ⟨q1, rfl, kb1⟩
    · rw [q1] at hv
      simp only [Option.bind_some] at hv
      have pr1 := pr0.out.step (zQ := [.int .i64 0, .int .i64 0, .int .i64 0, .int .i64 0, .int .i64 0, .int .i64 0, .slice none 0 0, .slice none 0 0, .slice none 0 0]) (z := [.slice none 0 0]) rfl hy
      obtain ⟨cur1, hg1, hz1⟩ := pr1.row
      replace pr1 := Lib.hid pr1
      replace hg1 := Lib.hid hg1
      replace hz1 := Lib.hid hz1
      clear hp hy
      go_wp2_with fail
      refine ((list_num.nums).at ⟨rfl, rfl, rfl, rfl⟩ pr1.out.pat hg1.out (hz1.out 0 _ rfl) hne hB).mono ?_
      intro e2 w2 hp
      rcases hp.yes with ⟨x2, r2, q2, rfl, hy⟩ | ⟨q2, rfl, kb2⟩
      · rw [q2] at hv
        simp only [Option.bind_some] at hv
        have pr2 := pr1.out.step (zQ := [.slice none 0 0]) (z := []) rfl hy
        replace pr2 := Lib.hid pr2
        clear hp hy
        go_wp2_with fail
        go_ret
        exact pr2.out.fin (R2 := rElm) (y := ⟨x0, x1, x2⟩) hv.out rfl (fun cs h => h)
      · rw [q2] at hv
        replace kb2 := Lib.hid (pr1.out.bad kb2)
        clear hp
        go_wp2_with fail
        go_ret
        exact .inr ⟨hv.out, rfl, kb2.out⟩
    · rw [q1] at hv
      replace kb1 := Lib.hid (pr0.out.bad kb1)
      clear hp
      go_wp2_with fail
      go_ret
      exact .inr ⟨hv.out, rfl, kb1.out⟩
  · rw [q0] at hv
    replace kb0 := Lib.hid kb0
    clear hp
    go_wp2_with fail
    go_ret
    exact .inr ⟨hv.out, rfl, kb0.out⟩
theorem dat_rd (bs : List Nat) : M.cDat.rd bs = (M.num bs).bind fun p0 => (M.cConst.rd p0.2).bind fun p1 => (M.cPiece.rd p1.2).bind fun p2 => some (⟨p0.1, p1.1, p2.1⟩, p2.2) := by
  simp only [M.cDat, M.cMap, M.cSeq, Option.bind_assoc, Option.bind_some]
  try rfl
set_option maxRecDepth 100000 in
set_option maxHeartbeats 4000000 in
theorem mdat_ok : MdOk 175 rDat [.int .i64 0, .int .i64 0, .int .i64 0, .int .i64 0, .int .i64 0, .int .i64 0, .int .i64 0, .slice none 0 0, .slice none 0 0, .slice none 0 0, .slice none 0 0] M.cDat.rd := by
  intro B P g j t cur bs w h hg hz hne hB
  have hv := Lib.hid (dat_rd bs)
  have hPl := h.lt
  have hgl := lt_row hg
  replace hg := Lib.hid hg
  replace hz := Lib.hid hz
  replace h := Lib.hid h
  go_enter Tryz.func175, Tryz.ntmps175
  go_wp2_with fail
  refine ((mnum_ok (.int .i64 0)).at ⟨rfl, rfl, rfl, rfl⟩ h.out hg.out (pre_row (zr := [.int .i64 0, .int .i64 0, .int .i64 0, .int .i64 0, .int .i64 0, .int .i64 0, .slice none 0 0, .slice none 0 0, .slice none 0 0, .slice none 0 0]) hz.out rfl) hne hB).mono ?_
  intro e0 w0 hp
  rcases hp.yes with ⟨x0, r0, q0, rfl, hy⟩ | ⟨q0, rfl, kb0⟩
  · rw [q0] at hv
    simp only [Option.bind_some] at hv
    have pr0 := Prog.start (zR := [.int .i64 0]) (z := [.int .i64 0, .int .i64 0, .int .i64 0, .int .i64 0, .int .i64 0, .int .i64 0, .slice none 0 0, .slice none 0 0, .slice none 0 0, .slice none 0 0]) h.out hg.out hz.out rfl hne hB hy
    obtain ⟨cur0, hg0, hz0⟩ := pr0.row
    replace pr0 := Lib.hid pr0
    replace hg0 := Lib.hid hg0
    replace hz0 := Lib.hid hz0
    clear hp hy
    go_wp2_with fail
    refine ((mconst_ok).at ⟨rfl, rfl, rfl, rfl⟩ pr0.out.pat hg0.out (pre_row (zr := [.slice none 0 0]) hz0.out rfl) hne hB).mono ?_
    intro e1 w1 hp
    rcases hp.yes with ⟨x1, r1, q1, rfl, hy⟩ | ⟨q1, rfl, kb1⟩
    · rw [q1] at hv
      simp only [Option.bind_some] at hv
      have pr1 := pr0.out.step (zQ := [.int .i64 0, .int .i64 0, .int .i64 0, .int .i64 0, .int .i64 0, .int .i64 0, .slice none 0 0, .slice none 0 0, .slice none 0 0]) (z := [.slice none 0 0]) rfl hy
      obtain ⟨cur1, hg1, hz1⟩ := pr1.row
      replace pr1 := Lib.hid pr1
      replace hg1 := Lib.hid hg1
      replace hz1 := Lib.hid hz1
      clear hp hy
      go_wp2_with fail
      refine ((mbytes_ok (.slice none 0 0)).at ⟨rfl, rfl, rfl, rfl⟩ pr1.out.pat hg1.out (fun i u hu => hz1.out i u hu) hne hB).mono ?_
      intro e2 w2 hp
      rcases hp.yes with ⟨x2, r2, q2, rfl, hy⟩ | ⟨q2, rfl, kb2⟩
      · rw [q2] at hv
        simp only [Option.bind_some] at hv
        have pr2 := pr1.out.step (zQ := [.slice none 0 0]) (z := []) rfl hy
        replace pr2 := Lib.hid pr2
        clear hp hy
        go_wp2_with fail
        go_ret
        exact pr2.out.fin (R2 := rDat) (y := ⟨x0, x1, x2⟩) hv.out rfl (fun cs h => h)
      · rw [q2] at hv
        replace kb2 := Lib.hid (pr1.out.bad kb2)
        clear hp
        go_wp2_with fail
        go_ret
        exact .inr ⟨hv.out, rfl, kb2.out⟩
    · rw [q1] at hv
      replace kb1 := Lib.hid (pr0.out.bad kb1)
      clear hp
      go_wp2_with fail
      go_ret
      exact .inr ⟨hv.out, rfl, kb1.out⟩
  · rw [q0] at hv
    replace kb0 := Lib.hid kb0
    clear hp
    go_wp2_with fail
    go_ret
    exact .inr ⟨hv.out, rfl, kb0.out⟩
end Go.Proofs.YtilaheifccjjeaaGreat
namespace Go.Proofs.YtilaheifccjjeaaGreat
open Go.RowKit
/-- The next cells are as they were, and are this. -/
theorem Prog.fill {α β : Type} {R : Rep α} {Q : Rep β} {x : α} (y : β) {zQ z : List Value} {B P g j t : Nat} {r : List Nat} {w0 w : World} (h : Prog R x (zQ ++ z) B P g j t r w0 w) (hl : zQ.length = Q.sz) (hi : ∀ w S, Q.is w S y zQ) : Prog (rP2 R Q) (x, y) z B P g j t r w0 w := by
  obtain ⟨cs, cur, h1, h2, h3, h4⟩ := h.cells
  have hlen := R.len h1
  refine ⟨h.pat, ⟨cs ++ zQ, cur, ⟨cs, zQ, rfl, h1, hi _ _⟩, h2, fun i u hu => ?_, fun i u hu => ?_⟩, h.fr.wide (Nat.le_refl _) (show j + R.sz ≤ j + (R.sz + Q.sz) by omega), h.hg, h.ne, h.hP, h.hB⟩
  · by_cases hi : i < cs.length
    · rw [List.getElem?_append_left hi] at hu; exact h3 i u hu
    · rw [List.getElem?_append_right (by omega), hlen] at hu
      have := h4 (i - R.sz) u (by rw [List.getElem?_append_left (List.getElem?_eq_some_iff.1 hu).1]; exact hu)
      rwa [show j + R.sz + (i - R.sz) = j + i by omega] at this
  · have := h4 (Q.sz + i) u (by rw [List.getElem?_append_right (by omega), hl, Nat.add_sub_cancel_left]; exact hu)
    show cur[j + (R.sz + Q.sz) + i]? = some u
    rwa [show j + (R.sz + Q.sz) + i = j + R.sz + (Q.sz + i) by omega]
theorem byte_le (bs : List Nat) : (M.cByteI fun b => decide (b ≤ 3)).rd bs = ((M.cByteI fun _ => true).rd bs).bind fun p => if p.1 ≤ 3 then some p else none := by
  cases bs with
  | nil => rfl
  | cons b r =>
    by_cases h : b ≤ 3
    · have h' : (b : Int) ≤ 3 := by omega
      simp [M.cByteI, h, h']
    · have h' : ¬ (b : Int) ≤ 3 := by omega
      simp [M.cByteI, h, h']
theorem exp_rd (bs : List Nat) : M.cExp.rd bs = (M.cName.rd bs).bind fun p0 => ((M.cByteI fun _ => true).rd p0.2).bind fun p1 => if p1.1 ≤ 3 then (M.num p1.2).bind fun p2 => some (⟨p0.1, p1.1, p2.1⟩, p2.2) else none := by
  simp only [M.cExp, M.cMap, M.cSeq, byte_le, Option.bind_assoc, Option.bind_some]
  congr 1
  funext p0
  congr 1
  funext p1
  split
  · simp only [Option.bind_some, Option.bind_assoc]; rfl
  · rfl
set_option maxRecDepth 100000 in
set_option maxHeartbeats 4000000 in
theorem mexp_ok : MdOk 169 rExp [.string ByteArray.empty, .int .i64 0, .int .i64 0] M.cExp.rd := by
  intro B P g j t cur bs w h hg hz hne hB
  have hv := Lib.hid (exp_rd bs)
  have hPl := h.lt
  have hgl := lt_row hg
  replace hg := Lib.hid hg
  replace hz := Lib.hid hz
  replace h := Lib.hid h
  go_enter Tryz.func169, Tryz.ntmps169
  go_wp2_with fail
  refine ((mname_ok (.string ByteArray.empty)).at ⟨rfl, rfl, rfl, rfl⟩ h.out hg.out (pre_row (zr := [.int .i64 0, .int .i64 0]) hz.out rfl) hne hB).mono ?_
  intro e0 w0 hp
  rcases hp.yes with ⟨x0, r0, q0, rfl, hy⟩ | ⟨q0, rfl, kb0⟩
  · rw [q0] at hv
    simp only [Option.bind_some] at hv
    have pr0 := Prog.start (zR := [.string ByteArray.empty]) (z := [.int .i64 0, .int .i64 0]) h.out hg.out hz.out rfl hne hB hy
    obtain ⟨cur0, hg0, hz0⟩ := pr0.row
    replace pr0 := Lib.hid pr0
    replace hg0 := Lib.hid hg0
    replace hz0 := Lib.hid hz0
    clear hp hy
    go_wp2_with fail
    refine ((mbyte_ok (.int .i64 0)).at ⟨rfl, rfl, rfl, rfl⟩ pr0.out.pat hg0.out (pre_row (zr := [.int .i64 0]) hz0.out rfl) hne hB).mono ?_
    intro e1 w1 hp
    rcases hp.yes with ⟨x1, r1, q1, rfl, hy⟩ | ⟨q1, rfl, kb1⟩
    · rw [q1] at hv
      simp only [Option.bind_some] at hv
      have pr1 := pr0.out.step (zQ := [.int .i64 0]) (z := [.int .i64 0]) rfl hy
      obtain ⟨cs1, ⟨rfl, _⟩, hc1⟩ := hy.2.2.1
      have ck : w1.cell? ⟨g, j + 1, none⟩ = some (.int .i64 x1) := hc1 0 _ rfl
      obtain ⟨cur1, hg1, hz1⟩ := pr1.row
      replace pr1 := Lib.hid pr1
      replace hg1 := Lib.hid hg1
      replace hz1 := Lib.hid hz1
      clear hp hy hc1
      by_cases h3 : x1 ≤ 3
      · rw [if_pos h3] at hv
        have t3 : decide (x1 ≤ 3) = true := by simpa using h3
        go_wp2_with fail
        refine ((mnum_ok (.int .i64 0)).at ⟨rfl, rfl, rfl, rfl⟩ pr1.out.pat hg1.out (fun i u hu => hz1.out i u hu) hne hB).mono ?_
        intro e2 w2 hp
        rcases hp.yes with ⟨x2, r2, q2, rfl, hy⟩ | ⟨q2, rfl, kb2⟩
        · rw [q2] at hv
          simp only [Option.bind_some] at hv
          have pr2 := Lib.hid (pr1.out.step (zQ := [.int .i64 0]) (z := []) rfl hy)
          clear hp hy
          go_wp2_with fail
          go_ret
          exact pr2.out.fin (R2 := rExp) (y := ⟨x0, x1, x2⟩) hv.out rfl (fun cs h => h)
        · rw [q2] at hv
          replace kb2 := Lib.hid (pr1.out.bad kb2)
          clear hp
          go_wp2_with fail
          go_ret
          exact .inr ⟨hv.out, rfl, kb2.out⟩
      · rw [if_neg h3] at hv
        have t3 : decide (x1 ≤ 3) = false := by simpa using h3
        go_wp2_with fail
        go_ret
        exact .inr ⟨hv.out, rfl, pr1.out.fr.kb⟩
    · rw [q1] at hv
      replace kb1 := Lib.hid (pr0.out.bad kb1)
      clear hp
      go_wp2_with fail
      go_ret
      exact .inr ⟨hv.out, rfl, kb1.out⟩
  · rw [q0] at hv
    replace kb0 := Lib.hid kb0
    clear hp
    go_wp2_with fail
    go_ret
    exact .inr ⟨hv.out, rfl, kb0.out⟩
theorem head_rd (bs : List Nat) : M.cHead.rd bs = (M.num bs).bind fun p => some (⟨p.1, [], .nil⟩, p.2) := rfl
theorem NS.nil (w : World) (S : Nat → Prop) : NS w S (.slice none 0 0) [] := ⟨none, 0, rfl, ⟨by simp, by simp, by unfold maxLen; omega⟩, fun i hi => by simp at hi⟩
theorem LS.nil (w : World) (S : Nat → Prop) : LS w S (.slice none 0 0) .nil := ⟨none, 0, rfl, ⟨by simp [M.L.len], by simp [M.L.len], by unfold maxLen; omega⟩, .inl rfl⟩
set_option maxRecDepth 100000 in
theorem mhead_ok : MdOk 162 rFn [.int .i64 0, .slice none 0 0, .slice none 0 0] M.cHead.rd := by
  intro B P g j t cur bs w h hg hz hne hB
  have hv := Lib.hid (head_rd bs)
  have cN := Lib.hid ((mnum_ok (.int .i64 0)).at ⟨rfl, rfl, rfl, rfl⟩ h hg (pre_row (zr := [.slice none 0 0, .slice none 0 0]) hz rfl) hne hB)
  have st := Lib.hid (fun x r w' hy => Prog.start (R := rInt) (x := x) (r := r) (w' := w') (zR := [.int .i64 0]) (z := [.slice none 0 0, .slice none 0 0]) h hg hz rfl hne hB hy)
  clear h hg hz
  go_enter Tryz.func162, Tryz.ntmps162
  go_wp2_with fail
  refine cN.out.mono ?_
  intro e0 w0 hp
  rcases hp.yes with ⟨x0, r0, q0, rfl, hy⟩ | ⟨q0, rfl, kb0⟩
  · rw [q0] at hv
    simp only [Option.bind_some] at hv
    have pr := Lib.hid (((st.out x0 r0 w0 hy).fill (Q := rNums) [] (zQ := [.slice none 0 0]) (z := [.slice none 0 0]) rfl (fun w S => ⟨_, rfl, NS.nil w S⟩)).fill (Q := rL) .nil (zQ := [.slice none 0 0]) (z := []) rfl (fun w S => ⟨_, rfl, LS.nil w S⟩))
    clear hp hy
    go_wp2_with fail
    go_ret
    exact pr.out.fin (R2 := rFn) (y := ⟨x0, [], .nil⟩) hv.out rfl (fun cs h => h)
  · rw [q0] at hv
    replace kb0 := Lib.hid kb0
    clear hp
    go_wp2_with fail
    go_ret
    exact .inr ⟨hv.out, rfl, kb0.out⟩
end Go.Proofs.YtilaheifccjjeaaGreat
namespace Go.Proofs.YtilaheifccjjeaaGreat
open Go.RowKit
theorem imp_rd (bs : List Nat) : M.cImp.rd bs = (M.cName.rd bs).bind fun p0 => (M.cName.rd p0.2).bind fun p1 => ((M.cByteI fun _ => true).rd p1.2).bind fun p2 => ((M.cWhat p2.1).rd p2.2).bind fun p3 => some (⟨p0.1, p1.1, p2.1, p3.1.1, p3.1.2.1, p3.1.2.2⟩, p3.2) := by
  simp only [M.cImp, M.cMap, M.cSeq, Option.bind_assoc, Option.bind_some]
theorem what0 (bs : List Nat) : (M.cWhat 0).rd bs = (M.num bs).bind fun p => some ((p.1, false, ⟨0, 0⟩), p.2) := rfl
theorem what1 (bs : List Nat) : (M.cWhat 1).rd bs = (M.cTab.rd bs).bind fun p => some ((0, false, p.1), p.2) := rfl
theorem what2 (bs : List Nat) : (M.cWhat 2).rd bs = (M.cLim.rd bs).bind fun p => some ((0, false, p.1), p.2) := rfl
theorem what3 (bs : List Nat) : (M.cWhat 3).rd bs = (M.cVal.rd bs).bind fun p => (M.cFlag.rd p.2).bind fun q => some ((p.1, q.1, ⟨0, 0⟩), q.2) := by
  show (((M.cVal.rd bs).bind fun p => (M.cFlag.rd p.2).bind fun q => some ((p.1, q.1), q.2)).bind fun p => some ((p.1.1, p.1.2, (⟨0, 0⟩ : M.Lim)), p.2)) = _
  simp only [Option.bind_assoc, Option.bind_some]
theorem what9 (k : Int) (bs : List Nat) (h0 : k ≠ 0) (h1 : k ≠ 1) (h2 : k ≠ 2) (h3 : k ≠ 3) : (M.cWhat k).rd bs = none := by
  unfold M.cWhat
  rw [if_neg h0, if_neg h1, if_neg h2, if_neg h3]
  rfl
theorem zlim (w : World) (S : Nat → Prop) : rLim.is w S ⟨0, 0⟩ [.int .i64 0, .int .i64 0] := ⟨[_], [_], rfl, ⟨rfl, ⟨by decide, by decide⟩⟩, ⟨rfl, ⟨by decide, by decide⟩⟩⟩
set_option maxRecDepth 100000 in
set_option maxHeartbeats 8000000 in
theorem mimp_ok : MdOk 160 rImp [.string ByteArray.empty, .string ByteArray.empty, .int .i64 0, .int .i64 0, .bool false, .int .i64 0, .int .i64 0] M.cImp.rd := by
  intro B P g j t cur bs w h hg hz hne hB
  have hv := Lib.hid (imp_rd bs)
  have hPl := h.lt
  have hgl := lt_row hg
  replace hg := Lib.hid hg
  replace hz := Lib.hid hz
  replace h := Lib.hid h
  go_enter Tryz.func160, Tryz.ntmps160
  go_wp2_with fail
  refine ((mname_ok (.string ByteArray.empty)).at ⟨rfl, rfl, rfl, rfl⟩ h.out hg.out (pre_row (zr := [.string ByteArray.empty, .int .i64 0, .int .i64 0, .bool false, .int .i64 0, .int .i64 0]) hz.out rfl) hne hB).mono ?_
  intro e0 w0 hp
  rcases hp.yes with ⟨x0, r0, q0, rfl, hy⟩ | ⟨q0, rfl, kb0⟩
  · rw [q0] at hv
    simp only [Option.bind_some] at hv
    have pr0 := Prog.start (zR := [.string ByteArray.empty]) (z := [.string ByteArray.empty, .int .i64 0, .int .i64 0, .bool false, .int .i64 0, .int .i64 0]) h.out hg.out hz.out rfl hne hB hy
    obtain ⟨cur0, hg0, hz0⟩ := pr0.row
    replace pr0 := Lib.hid pr0
    replace hg0 := Lib.hid hg0
    replace hz0 := Lib.hid hz0
    clear hp hy
    go_wp2_with fail
    refine ((mname_ok (.string ByteArray.empty)).at ⟨rfl, rfl, rfl, rfl⟩ pr0.out.pat hg0.out (pre_row (zr := [.int .i64 0, .int .i64 0, .bool false, .int .i64 0, .int .i64 0]) hz0.out rfl) hne hB).mono ?_
    intro e1 w1 hp
    rcases hp.yes with ⟨x1, r1, q1, rfl, hy⟩ | ⟨q1, rfl, kb1⟩
    · rw [q1] at hv
      simp only [Option.bind_some] at hv
      have pr1 := pr0.out.step (zQ := [.string ByteArray.empty]) (z := [.int .i64 0, .int .i64 0, .bool false, .int .i64 0, .int .i64 0]) rfl hy
      obtain ⟨cur1, hg1, hz1⟩ := pr1.row
      replace pr1 := Lib.hid pr1
      replace hg1 := Lib.hid hg1
      replace hz1 := Lib.hid hz1
      clear hp hy
      go_wp2_with fail
      refine ((mbyte_ok (.int .i64 0)).at ⟨rfl, rfl, rfl, rfl⟩ pr1.out.pat hg1.out (pre_row (zr := [.int .i64 0, .bool false, .int .i64 0, .int .i64 0]) hz1.out rfl) hne hB).mono ?_
      intro e2 w2 hp
      rcases hp.yes with ⟨x2, r2, q2, rfl, hy⟩ | ⟨q2, rfl, kb2⟩
      · rw [q2] at hv
        simp only [Option.bind_some] at hv
        have pr2 := pr1.out.step (zQ := [.int .i64 0]) (z := [.int .i64 0, .bool false, .int .i64 0, .int .i64 0]) rfl hy
        obtain ⟨cs1, ⟨rfl, _⟩, hc1⟩ := hy.2.2.1
        have ck : w2.cell? ⟨g, j + 2, none⟩ = some (.int .i64 x2) := hc1 0 _ rfl
        obtain ⟨cur2, hg2, hz2⟩ := pr2.row
        replace pr2 := Lib.hid pr2
        replace hg2 := Lib.hid hg2
        replace hz2 := Lib.hid hz2
        clear hp hy hc1
        by_cases k0 : x2 = 0
        · subst k0
          rw [what0] at hv
          go_wp2_with fail
          refine ((mnum_ok (.int .i64 0)).at ⟨rfl, rfl, rfl, rfl⟩ pr2.out.pat hg2.out (pre_row (zr := [.bool false, .int .i64 0, .int .i64 0]) hz2.out rfl) hne hB).mono ?_
          intro e3 w3 hp
          rcases hp.yes with ⟨x3, r3, q3, rfl, hy⟩ | ⟨q3, rfl, kb3⟩
          · rw [q3] at hv
            simp only [Option.bind_some] at hv
            have pr3 := Lib.hid (((pr2.out.step (zQ := [.int .i64 0]) (z := [.bool false, .int .i64 0, .int .i64 0]) rfl hy).fill (Q := rBool) false (zQ := [.bool false]) (z := [.int .i64 0, .int .i64 0]) rfl (fun _ _ => rfl)).fill (Q := rLim) ⟨0, 0⟩ (zQ := [.int .i64 0, .int .i64 0]) (z := []) rfl zlim)
            clear hp hy
            go_wp2_with fail
            go_ret
            exact pr3.out.fin (R2 := rImp) (y := ⟨x0, x1, 0, x3, false, ⟨0, 0⟩⟩) hv.out rfl (fun cs h => h)
          · rw [q3] at hv
            replace kb3 := Lib.hid (pr2.out.bad kb3)
            clear hp
            go_wp2_with fail
            go_ret
            exact .inr ⟨hv.out, rfl, kb3.out⟩
        · by_cases k1 : x2 = 1
          · subst k1
            rw [what1] at hv
            have pr2' := Lib.hid ((pr2.out.fill (Q := rInt) 0 (zQ := [.int .i64 0]) (z := [.bool false, .int .i64 0, .int .i64 0]) rfl (fun _ _ => ⟨rfl, ⟨by decide, by decide⟩⟩)).fill (Q := rBool) false (zQ := [.bool false]) (z := [.int .i64 0, .int .i64 0]) rfl (fun _ _ => rfl))
            obtain ⟨cur3, hg3, hz3⟩ := pr2'.out.row
            replace hg3 := Lib.hid hg3
            replace hz3 := Lib.hid hz3
            go_wp2_with fail
            refine (mtab_ok.at ⟨rfl, rfl, rfl, rfl⟩ pr2'.out.pat hg3.out hz3.out hne hB).mono ?_
            intro e3 w3 hp
            rcases hp.yes with ⟨x3, r3, q3, rfl, hy⟩ | ⟨q3, rfl, kb3⟩
            · rw [q3] at hv
              simp only [Option.bind_some] at hv
              have pr3 := Lib.hid (pr2'.out.step (zQ := [.int .i64 0, .int .i64 0]) (z := []) rfl hy)
              clear hp hy
              go_wp2_with fail
              go_ret
              exact pr3.out.fin (R2 := rImp) (y := ⟨x0, x1, 1, 0, false, x3⟩) hv.out rfl (fun cs h => h)
            · rw [q3] at hv
              replace kb3 := Lib.hid (pr2'.out.bad kb3)
              clear hp
              go_wp2_with fail
              go_ret
              exact .inr ⟨hv.out, rfl, kb3.out⟩
          · by_cases k2 : x2 = 2
            · subst k2
              rw [what2] at hv
              have pr2' := Lib.hid ((pr2.out.fill (Q := rInt) 0 (zQ := [.int .i64 0]) (z := [.bool false, .int .i64 0, .int .i64 0]) rfl (fun _ _ => ⟨rfl, ⟨by decide, by decide⟩⟩)).fill (Q := rBool) false (zQ := [.bool false]) (z := [.int .i64 0, .int .i64 0]) rfl (fun _ _ => rfl))
              obtain ⟨cur3, hg3, hz3⟩ := pr2'.out.row
              replace hg3 := Lib.hid hg3
              replace hz3 := Lib.hid hz3
              go_wp2_with fail
              refine (mlim_ok.at ⟨rfl, rfl, rfl, rfl⟩ pr2'.out.pat hg3.out hz3.out hne hB).mono ?_
              intro e3 w3 hp
              rcases hp.yes with ⟨x3, r3, q3, rfl, hy⟩ | ⟨q3, rfl, kb3⟩
              · rw [q3] at hv
                simp only [Option.bind_some] at hv
                have pr3 := Lib.hid (pr2'.out.step (zQ := [.int .i64 0, .int .i64 0]) (z := []) rfl hy)
                clear hp hy
                go_wp2_with fail
                go_ret
                exact pr3.out.fin (R2 := rImp) (y := ⟨x0, x1, 2, 0, false, x3⟩) hv.out rfl (fun cs h => h)
              · rw [q3] at hv
                replace kb3 := Lib.hid (pr2'.out.bad kb3)
                clear hp
                go_wp2_with fail
                go_ret
                exact .inr ⟨hv.out, rfl, kb3.out⟩
            · by_cases k3 : x2 = 3
              · subst k3
                rw [what3] at hv
                go_wp2_with fail
                refine ((mval_ok (.int .i64 0)).at ⟨rfl, rfl, rfl, rfl⟩ pr2.out.pat hg2.out (pre_row (zr := [.bool false, .int .i64 0, .int .i64 0]) hz2.out rfl) hne hB).mono ?_
                intro e3 w3 hp
                rcases hp.yes with ⟨x3, r3, q3, rfl, hy⟩ | ⟨q3, rfl, kb3⟩
                · rw [q3] at hv
                  simp only [Option.bind_some] at hv
                  have pr3 := Lib.hid (pr2.out.step (zQ := [.int .i64 0]) (z := [.bool false, .int .i64 0, .int .i64 0]) rfl hy)
                  obtain ⟨cur3, hg3, hz3⟩ := pr3.out.row
                  replace hg3 := Lib.hid hg3
                  replace hz3 := Lib.hid hz3
                  clear hp hy
                  go_wp2_with fail
                  refine ((mflag_ok (.bool false)).at ⟨rfl, rfl, rfl, rfl⟩ pr3.out.pat hg3.out (pre_row (zr := [.int .i64 0, .int .i64 0]) hz3.out rfl) hne hB).mono ?_
                  intro e4 w4 hp
                  rcases hp.yes with ⟨x4, r4, q4, rfl, hy⟩ | ⟨q4, rfl, kb4⟩
                  · rw [q4] at hv
                    simp only [Option.bind_some] at hv
                    have pr4 := Lib.hid ((pr3.out.step (zQ := [.bool false]) (z := [.int .i64 0, .int .i64 0]) rfl hy).fill (Q := rLim) ⟨0, 0⟩ (zQ := [.int .i64 0, .int .i64 0]) (z := []) rfl zlim)
                    clear hp hy
                    go_wp2_with fail
                    go_ret
                    exact pr4.out.fin (R2 := rImp) (y := ⟨x0, x1, 3, x3, x4, ⟨0, 0⟩⟩) hv.out rfl (fun cs h => h)
                  · rw [q4] at hv
                    replace kb4 := Lib.hid (pr3.out.bad kb4)
                    clear hp
                    go_wp2_with fail
                    go_ret
                    exact .inr ⟨hv.out, rfl, kb4.out⟩
                · rw [q3] at hv
                  replace kb3 := Lib.hid (pr2.out.bad kb3)
                  clear hp
                  go_wp2_with fail
                  go_ret
                  exact .inr ⟨hv.out, rfl, kb3.out⟩
              · rw [what9 x2 r2 k0 k1 k2 k3] at hv
                have b0 : (x2 == 0) = false := by rw [beq_eq_false_iff_ne]; exact k0
                have b1 : (x2 == 1) = false := by rw [beq_eq_false_iff_ne]; exact k1
                have b2 : (x2 == 2) = false := by rw [beq_eq_false_iff_ne]; exact k2
                have b3 : (x2 == 3) = false := by rw [beq_eq_false_iff_ne]; exact k3
                go_wp2_with fail
                go_ret
                exact .inr ⟨hv.out, rfl, pr2.out.fr.kb⟩
      · rw [q2] at hv
        replace kb2 := Lib.hid (pr1.out.bad kb2)
        clear hp
        go_wp2_with fail
        go_ret
        exact .inr ⟨hv.out, rfl, kb2.out⟩
    · rw [q1] at hv
      replace kb1 := Lib.hid (pr0.out.bad kb1)
      clear hp
      go_wp2_with fail
      go_ret
      exact .inr ⟨hv.out, rfl, kb1.out⟩
  · rw [q0] at hv
    replace kb0 := Lib.hid kb0
    clear hp
    go_wp2_with fail
    go_ret
    exact .inr ⟨hv.out, rfl, kb0.out⟩
end Go.Proofs.YtilaheifccjjeaaGreat
namespace Go.Proofs.YtilaheifccjjeaaGreat
open Go.RowKit
/-- Below b nothing but the place and the cell j of g has changed. -/
structure FrB (b P g j : Nat) (w w' : World) : Prop where
  os : w'.os = w.os
  tape : w'.tape = w.tape
  output : w'.output = w.output
  size : w.heap.size ≤ w'.heap.size
  block : ∀ k, k < b → k ≠ P → k ≠ g → w'.heap[k]? = w.heap[k]?
  row : ∀ cur t, w.heap[g]? = some (.cells cur t (0, 0)) → ∃ cur', w'.heap[g]? = some (.cells cur' t (0, 0)) ∧ cur'.size = cur.size ∧ ∀ i, (i < j ∨ j + 1 ≤ i) → cur'[i]? = cur[i]?
theorem FrB.trans {b P g j : Nat} {w w1 w2 : World} (h : FrB b P g j w w1) (k : FrB b P g j w1 w2) : FrB b P g j w w2 :=
  ⟨k.os.trans h.os, k.tape.trans h.tape, k.output.trans h.output, Nat.le_trans h.size k.size, fun i h1 h2 h3 => (k.block i h1 h2 h3).trans (h.block i h1 h2 h3), fun cur t hc => by
    obtain ⟨c1, h1, h2, h3⟩ := h.row cur t hc
    obtain ⟨c2, k1, k2, k3⟩ := k.row c1 t h1
    exact ⟨c2, k1, k2.trans h2, fun i hi => (k3 i hi).trans (h3 i hi)⟩⟩
theorem FrB.refl (b P g j : Nat) (w : World) : FrB b P g j w w := ⟨rfl, rfl, rfl, Nat.le_refl _, fun _ _ _ _ => rfl, fun cur _ h => ⟨cur, h, rfl, fun _ _ => rfl⟩⟩
theorem FrB.of_kb {b P g j : Nat} {w w' : World} (h : Kb (· = P) w w') (hb : b ≤ w.heap.size) (hg : g < w.heap.size) (hne : g ≠ P) : FrB b P g j w w' :=
  ⟨h.os, h.tape, h.output, h.size, fun k h1 h2 _ => h.block k (by omega) h2, fun cur t hc => ⟨cur, by rw [h.block g hg hne]; exact hc, rfl, fun _ _ => rfl⟩⟩
theorem FrB.fr {P g j : Nat} {w w' : World} (h : FrB w.heap.size P g j w w') : Fr P g j 1 w w' := ⟨⟨h.os, h.tape, h.output, h.size, fun k h1 h2 => h.block k h1 (fun e => h2 (.inl e)) (fun e => h2 (.inr e))⟩, h.row⟩
theorem FrB.kb {P g j : Nat} {w w' : World} (h : FrB w.heap.size P g j w w') : Kb (fun k => k = P ∨ k = g) w w' := h.fr.kb
/-- Locals have been read into a row of one's own. -/
structure Gst (B P g j t b : Nat) (q : List Nat) (acc : List Int) (v : Value) (w : World) : Prop where
  pat : PAt B w P q
  row : ∃ cur, w.heap[g]? = some (.cells cur t (0, 0)) ∧ cur[j]? = some v
  own : w.ownsRow b 3 1 v acc.length (nvals acc)
  len : acc.length ≤ 64
  rng : ∀ x ∈ acc, i64R x
  hb : b ≤ w.heap.size
  hP : P < b
  hg : g < b
  ne : g ≠ P
  hB : B ≤ g
theorem Gst.later {B P g j t b : Nat} {q r : List Nat} {acc : List Int} {v : Value} {w w' : World} (h : Gst B P g j t b q acc v w) (kb : Kb (· = P) w w') (p : PAt B w' P r) : Gst B P g j t b r acc v w' := by
  obtain ⟨cur, h1, h2⟩ := h.row
  have hb := h.hb
  have hg := h.hg
  have hP := h.hP
  have hs := kb.size
  exact ⟨p, ⟨cur, by rw [kb.block g (by omega) h.ne]; exact h1, h2⟩, ownsRow_agree h.own fun k hk => kb.block k (h.own.lt k hk).2 (by have := (h.own.lt k hk).1; omega), h.len, h.rng, by omega, hP, hg, h.ne, h.hB⟩
theorem kb_new2 {P : Nat} {w w' : World} {o o2 : Obj} (h : Kb (fun k => k = P ∨ k = w.heap.size) ((w.alloc o).alloc o2) w') : Kb (· = P) w w' :=
  ⟨h.os, h.tape, h.output, by have := h.size; simp at this; omega, fun k hk hne => by
    rw [h.block k (by simp; omega) (by omega), Below.heap_alloc _ _ _ (by simp; omega)]
    exact Below.heap_alloc _ _ _ hk⟩
/-- One local more. -/
theorem grp_put {B P g j t b gg cap : Nat} {q : List Nat} {acc : List Int} {x : Int} {v : Value} {w w5 : World} {ob : Obj} (h : Gst B P g j t b q acc v w) (hl : acc.length + 1 ≤ 64) (hx : i64R x)
    (hown : w5.ownsRow b 3 1 (.slice (some ⟨gg, 0, none⟩) (acc.length + 1) cap) (acc.length + 1) (nvals acc ++ [.int .i64 x])) (hgr : (w.alloc ob).grownBy w5 v.ownBlock) (hat : v.ownBlock = some gg ∨ gg = w.heap.size + 1) :
    Gst B P g j t b q (acc ++ [x]) (.slice (some ⟨gg, 0, none⟩) (acc.length + 1) cap) (w5.setCell ⟨g, j, none⟩ (.slice (some ⟨gg, 0, none⟩) (acc.length + 1) cap)) ∧ FrB b P g j w (w5.setCell ⟨g, j, none⟩ (.slice (some ⟨gg, 0, none⟩) (acc.length + 1) cap)) ∧
      (∀ k, b ≤ k → k < w.heap.size → v.ownBlock ≠ some k → (w5.setCell ⟨g, j, none⟩ (.slice (some ⟨gg, 0, none⟩) (acc.length + 1) cap)).heap[k]? = w.heap[k]? ∧ gg ≠ k) := by
  obtain ⟨cur, h1, h2⟩ := h.row
  have hb := h.hb
  have hg := h.hg
  have hP := h.hP
  have hB := h.hB
  have hne := h.ne
  have hs5 : w.heap.size ≤ w5.heap.size := by have := hgr.size; simp at this; omega
  have hvb := fun k hk => h.own.lt k hk
  have same5 : ∀ k, k < w.heap.size → v.ownBlock ≠ some k → w5.heap[k]? = w.heap[k]? := fun k hk hne => by
    rw [hgr.block k (by simp; omega) (fun e => hne e.symm)]
    exact Below.heap_alloc _ _ _ hk
  have vold : ∀ k, k < b → v.ownBlock ≠ some k := fun k hk e => by have := (hvb k e).1; omega
  have hgg : b ≤ gg := by
    rcases hat with h | h
    · exact (hvb gg h).1
    · omega
  have hr5 : w5.heap[g]? = some (.cells cur t (0, 0)) := by rw [same5 g (by omega) (vold g hg)]; exact h1
  have so : ∀ k, k ≠ g → (w5.setCell ⟨g, j, none⟩ (.slice (some ⟨gg, 0, none⟩) (acc.length + 1) cap)).heap[k]? = w5.heap[k]? := fun k hk => Below.heap_setCell _ _ _ _ (by show k ≠ g; exact hk)
  have hPlo := h.pat.lo
  have p5 : PAt B w5 P q := h.pat.agree fun k hk => same5 k (by rcases hk with hk | rfl <;> omega) (vold k (by rcases hk with hk | rfl <;> omega))
  refine ⟨⟨p5.set hne hB _, ⟨_, row_set hr5 _, ?_⟩, ?_, by simpa using hl, fun y hy => ?_, by simp; omega, hP, hg, hne, hB⟩, ⟨hgr.os, hgr.tape, hgr.output, by simp; omega, fun k h1 h2 h3 => by rw [so k h3]; exact same5 k (by omega) (vold k h1), fun cur2 t2 h2' => ?_⟩, fun k h1 h2 h3 => ⟨by rw [so k (by omega)]; exact same5 k h2 h3, fun e => ?_⟩⟩
  · have := (Array.getElem?_eq_some_iff.1 h2).1
    simp [Array.getElem?_setIfInBounds, this]
  · have e1 : (acc ++ [x]).length = acc.length + 1 := by simp
    have e2 : nvals (acc ++ [x]) = nvals acc ++ [.int .i64 x] := by simp [nvals]
    rw [e1, e2]
    exact ownsRow_agree hown fun k hk => so k (by
      have hk : gg = k := by simpa [Value.ownBlock] using hk
      omega)
  · rcases List.mem_append.1 hy with hy | hy
    · exact h.rng y hy
    · have : y = x := by simpa using hy
      subst this
      exact hx
  · rw [h1] at h2'
    cases h2'
    exact ⟨_, row_set hr5 _, by simp, fun i hi => by rw [Array.getElem?_setIfInBounds, if_neg (by omega)]⟩
  · subst e
    rcases hat with h | h
    · exact h3 h
    · omega
def GPost (B P g j t b : Nat) (bs : List Nat) (acc : List Int) (w : World) (e : Ending) (w' : World) : Prop :=
  (∃ acc' r v', M.grp acc bs = some (acc', r) ∧ e = .returned (.bool true) ∧ Gst B P g j t b r acc' v' w' ∧ FrB b P g j w w') ∨ (M.grp acc bs = none ∧ e = .returned (.bool false) ∧ FrB b P g j w w')
theorem two_new1 (w : World) (o o2 : Obj) : ((w.alloc o).alloc o2).heap[w.heap.size]? = some o := by
  rw [Below.heap_alloc _ _ _ (by simp)]
  exact heap_alloc_new w o
theorem two_new2 (w : World) (o o2 : Obj) : ((w.alloc o).alloc o2).heap[w.heap.size + 1]? = some o2 := by
  have := heap_alloc_new (w.alloc o) o2
  simpa using this
theorem val_rng {bs r : List Nat} {y : Int} (h : M.cVal.rd bs = some (y, r)) : y = 127 ∨ y = 126 := by
  cases bs with
  | nil => cases h
  | cons b s =>
    simp [M.cVal, M.cByteI, M.isVal] at h
    omega
/-- What the loop over a group keeps up. -/
def GRel (B P g j t b n : Nat) (r : List Nat) (acc : List Int) (y : Int) (w : World) (i : Value) (w' : World) : Prop :=
  ∃ (k : Nat) (v : Value), k ≤ n ∧ i = .int .i64 (k : Nat) ∧ Gst B P g j t b r (acc ++ List.replicate k y) v w' ∧ FrB b P g j w w' ∧ w'.cell? ⟨w.heap.size + 1, 0, none⟩ = some (.int .i64 y) ∧ v.ownBlock ≠ some (w.heap.size + 1) ∧ w.heap.size + 1 < w'.heap.size
set_option maxRecDepth 100000 in
set_option maxHeartbeats 8000000 in
theorem mgroup_any (B P g j t b : Nat) (bs : List Nat) (acc : List Int) (v : Value) (w : World) (h : Gst B P g j t b bs acc v w) :
    Calls Tryz.prog 210 #[.pointer (some ⟨P, 0, none⟩), .pointer (some ⟨g, j, none⟩)] w (GPost B P g j t b bs acc w) := by
  obtain ⟨i0, hi0, hz0, hz1, hz2⟩ := info_parts int_info
  have hv := Lib.hid (show M.grp acc bs = (M.num bs).bind fun c => (M.cVal.rd c.2).bind fun v => if c.1 ≤ 64 - (acc.length : Int) then some (acc ++ List.replicate c.1.toNat v.1, v.2) else none from rfl)
  have hPl := h.pat.lt
  have hPlo := h.pat.lo
  have hb := h.hb
  have hg := h.hg
  have hP := h.hP
  have hne := h.ne
  have hB := h.hB
  have hal := h.len
  have pa := Lib.hid ((h.pat.alloc (.cells #[.int .i64 0] 3)).alloc (.cells #[.int .i64 0] 3))
  replace h := Lib.hid h
  have cN := Lib.hid (fun (W : World) (s : Same ((w.alloc (.cells #[.int .i64 0] 3)).alloc (.cells #[.int .i64 0] 3)) W) => (mnum_ok (.int .i64 0)).at s pa.out (two_new1 w _ _) (one_row _) (by omega) (by omega))
  go_enter Tryz.func210, Tryz.ntmps210
  go_wp2_with fail
  refine wp_region_mix [(false, 9), (true, 6), (false, 2)] (by kernel_rfl) (by kernel_rfl) ?_
  simp only [mixWp, List.take_succ_cons, List.take_zero, List.drop_succ_cons, List.drop_zero]
  go_wp2_with fail
  refine Calls.mono (cN.out _ (same_drew _)) ?_
  intro e1 w1 hp
  rcases hp.yes with ⟨x1, r1, q1, rfl, hy⟩ | ⟨q1, rfl, kb1⟩
  · rw [q1] at hv
    simp only [Option.bind_some] at hv
    have hy0 := (M.num_short q1).1
    unfold M.inR at hy0
    obtain ⟨y0, y1⟩ := hy0
    obtain ⟨n, rfl⟩ := Int.eq_ofNat_of_zero_le y0
    have k1 := kb_new2 hy.2.2.2.kb
    have hs1 : w.heap.size + 1 < w1.heap.size := by have := hy.2.2.2.kb.size; simp at this; omega
    obtain ⟨cs1, ⟨rfl, _⟩, hc1⟩ := hy.2.2.1
    have cc : w1.cell? ⟨w.heap.size, 0, none⟩ = some (.int .i64 n) := hc1 0 _ rfl
    have hr1 : w1.heap[w.heap.size + 1]? = some (.cells #[.int .i64 0] 3 (0, 0)) := by rw [hy.2.2.2.kb.block _ (by simp) (by omega)]; exact two_new2 w _ _
    have p1 := hy.2.1
    replace k1 := Lib.hid k1
    replace hr1 := Lib.hid hr1
    replace p1 := Lib.hid p1
    have cM := Lib.hid (fun (W : World) (s : Same w1 W) => (mval_ok (.int .i64 0)).at s p1.out hr1.out (one_row _) (by omega) (by omega))
    clear hp hy hc1 y0 y1
    go_wp2_with fail
    refine Calls.mono (cM.out _ ⟨rfl, rfl, rfl, rfl⟩) ?_
    intro e2 w2 hp
    rcases hp.yes with ⟨y, r2, q2, rfl, hy⟩ | ⟨q2, rfl, kb2⟩
    · rw [q2] at hv
      simp only [Option.bind_some, Int.toNat_natCast] at hv
      have hyr := val_rng q2
      have kk := hy.2.2.2.kb
      have k2 : Kb (· = P) w w2 := ⟨kk.os.trans k1.out.os, kk.tape.trans k1.out.tape, kk.output.trans k1.out.output, by have := kk.size; omega, fun k hk hn => by rw [kk.block k (by omega) (by omega)]; exact k1.out.block k hk hn⟩
      have hs2 : w.heap.size + 1 < w2.heap.size := by have := kk.size; omega
      have cc2 : w2.cell? ⟨w.heap.size, 0, none⟩ = some (.int .i64 n) := (World.cell?_of_block (w := w1) (kk.block w.heap.size (by omega) (by omega))).trans cc
      obtain ⟨cs2, ⟨rfl, _⟩, hc2⟩ := hy.2.2.1
      have ck : w2.cell? ⟨w.heap.size + 1, 0, none⟩ = some (.int .i64 y) := hc2 0 _ rfl
      have g2 := h.out.later k2 hy.2.1
      obtain ⟨cur2, hr2, hc2'⟩ := g2.row
      have cg : w2.cell? ⟨g, j, none⟩ = some v := (cell_row hr2 j).trans hc2'
      have fb0 := Lib.hid (FrB.of_kb (j := j) k2 hb (by omega) hne)
      obtain ⟨Av, cv, hvs⟩ : ∃ A c, v = .slice A acc.length c := by
        rcases g2.own.2 with ⟨rfl, h0⟩ | ⟨g', cap, cu, rfl, _⟩
        · exact ⟨none, 0, by rw [h0]⟩
        · exact ⟨_, _, rfl⟩
      subst hvs
      have vnk : ∀ k, (Value.slice Av acc.length cv).ownBlock = some k → k < w.heap.size := fun k hk => (h.out.own.lt k hk).2
      replace vnk := Lib.hid vnk
      replace g2 := Lib.hid g2
      replace k2 := Lib.hid k2
      clear hp hy hc2 kk cc hr2 hc2'
      have tw : IntKind.i64.wrap (64 - (acc.length : Int)) = 64 - (acc.length : Int) := by rw [IntKind.wrap_i64]; omega
      by_cases hl : (n : Int) ≤ 64 - (acc.length : Int)
      · rw [if_pos hl] at hv
        have t1 : decide (64 - (acc.length : Int) < (n : Int)) = false := by simp; omega
        go_wp2_with fail
        repeat still_step
        refine wpStill_nil ?_
        go_wp2_with fail
        go_loopw [25] (fun i w' => GRel B P g j t b n r2 acc y w i w') (fun i _ => n - (intOf i).toNat)
        case atStart => exact ⟨0, _, by omega, rfl, by simpa using g2.out, fb0.out, ck, fun e => by have := vnk.out _ e; omega, hs2⟩
        case round =>
          obtain ⟨k, v', hk, rfl, gs, fb, ck', vn, hsw⟩ := hrel
          have hlenr : (acc ++ List.replicate k y).length = acc.length + k := by simp
          obtain ⟨accK, hacK⟩ : ∃ a, a = acc ++ List.replicate k y := ⟨_, rfl⟩
          rw [← hacK] at gs hlenr
          obtain ⟨cur3, hr3, hc3⟩ := gs.row
          have cg3 : wr.cell? ⟨g, j, none⟩ = some v' := (cell_row hr3 j).trans hc3
          have fg3 := frozen_row hr3 j
          have hbr := gs.hb
          have own3 := Lib.hid gs.own
          have vne := Lib.hid (show ∀ k, v'.ownBlock = some k → k ≠ g from fun k hk => by have := (gs.own.lt k hk).1; omega)
          replace gs := Lib.hid gs
          replace fb := Lib.hid fb
          replace vn := Lib.hid vn
          replace hacK := Lib.hid hacK
          clear ck cg
          by_cases hlt : k < n
          · have hgs : g < wr.heap.size := by omega
            have hl64 : accK.length + 1 ≤ 64 := by omega
            have hlw : accK.length + 1 ≤ 140737488355328 := by omega
            replace hlenr := Lib.hid hlenr
            have fin := Lib.hid (fun gg cap w5 ob hown hgr hat => grp_put (gg := gg) (cap := cap) (w5 := w5) (ob := ob) (x := y) gs.out hl64 (by rcases hyr with rfl | rfl <;> exact ⟨by decide, by decide⟩) hown hgr hat)
            go_wp2_with fail
            go_region_law (refine step_append_lies _ (by rfl) _ _ _ (by rfl) b 3 i0 _ 1 8 Tryz.underlying52 hi0 hz0 hz1 hz2 rfl (by omega) v' accK.length (nvals accK) (by rfl) (by first | exact own3.out.alloc _ | exact ownsRow_agree (own3.out.alloc (.cells #[.int .i64 y] 3)) (fun _ _ => rfl)) ⟨wr.heap.size, 0, none⟩ 1 1 [.int .i64 y] (by rfl) (by rfl) (World.news_of_block (cs := #[.int .i64 y]) (t := 3) (fr := (0, 0)) (heap_alloc_new wr _)) (by simp [Value.oneCell']) (by omega) (by unfold maxLen; omega) (by omega) (by simp; omega) (wr.heap.size + 1) (by simp) ?_; intro gg cap w5 hown5 hgrow5 hat5 hlt5; have hb5 : w5.heap[g]? = wr.heap[g]? := (hgrow5.block g (by simp; omega) (fun e => (vne.out g e.symm) rfl)).trans (Below.heap_alloc wr (.cells #[.int .i64 y] 3) g hgs); have c65 : w5.cell? ⟨g, j, none⟩ = some v' := (World.cell?_of_block (w := wr) hb5).trans cg3; have f65 : w5.frozen? ⟨g, j, none⟩ = false := (World.frozen?_of_block (w := wr) hb5).trans fg3; clear hb5)
            all_goals go_wp2_with fail
            all_goals (
              obtain ⟨F1, F2, F3⟩ := fin.out gg cap w5 (.cells #[.int .i64 y] 3) hown5 (grown_drew hgrow5) hat5
              obtain ⟨F4, F5⟩ := F3 (w.heap.size + 1) (by omega) hsw vn.out
              refine ⟨⟨k + 1, .slice (some ⟨gg, 0, none⟩) (accK.length + 1) cap, by omega, by go_num, ?_, fb.out.trans F2, (World.cell?_of_block (w := wr) F4).trans ck', fun e => F5 (by simpa [Value.ownBlock] using e), by have := F2.size; omega⟩, by simp [intOf]; omega⟩
              have e9 : acc ++ List.replicate (k + 1) y = accK ++ [y] := by rw [hacK.out, List.replicate_succ', List.append_assoc]
              rw [e9]
              exact F1)
          · have hkn : k = n := by omega
            have tlt : decide ((k : Int) < (n : Int)) = false := by simp; omega
            replace hkn := Lib.hid hkn
            go_wp2_with fail
            go_ret
            exact .inl ⟨accK, r2, v', by rw [hv.out, hacK.out, hkn.out], rfl, gs.out, fb.out⟩
      · rw [if_neg hl] at hv
        have t1 : decide (64 - (acc.length : Int) < (n : Int)) = true := by simp; omega
        go_wp2_with fail
        repeat still_step
        refine wpStill_nil ?_
        go_wp2_with fail
        go_ret
        exact .inr ⟨hv.out, rfl, fb0.out⟩
    · rw [q2] at hv
      have k2 : Kb (· = P) w w2 := ⟨kb2.os.trans k1.out.os, kb2.tape.trans k1.out.tape, kb2.output.trans k1.out.output, by have := kb2.size; omega, fun k hk hn => by rw [kb2.block k (by omega) (by omega)]; exact k1.out.block k hk hn⟩
      have fb0 := Lib.hid (FrB.of_kb (j := j) k2 hb (by omega) hne)
      clear hp kb2 k2
      go_wp2_with fail
      repeat still_step
      refine wpStill_nil ?_
      go_wp2_with fail
      go_ret
      exact .inr ⟨hv.out, rfl, fb0.out⟩
  · rw [q1] at hv
    have fb0 := Lib.hid (FrB.of_kb (j := j) (kb_new2 kb1) hb (by omega) hne)
    clear hp kb1
    go_wp2_with fail
    repeat still_step
    refine wpStill_nil ?_
    go_wp2_with fail
    go_ret
    exact .inr ⟨hv.out, rfl, fb0.out⟩
end Go.Proofs.YtilaheifccjjeaaGreat
