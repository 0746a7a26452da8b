/-
  What the program's readers of expressions and constants answer; condition: the place lies in memory that was there at the call, what is read into in other memory.
-/
import Derived.Test.YtmejgbbdehndaaaGreatMReadB
import Derived.Test.YtmejgbbdehndaaaGreatAfterNum
import Derived.BigRegion
namespace Go.Proofs.YtmejgbbdehndaaaGreat
open Go.RowKit
theorem expr_rd (bs : List Nat) : M.cExpr.rd bs = (M.expr bs).bind fun p => some (p.1, bs.drop p.2) := rfl
theorem put_expr {B P g j t c n : Nat} {cur : Array Value} {bs : List Nat} {w w1 : World} {u v : Value} {A : Option Addr} {l : M.L} (h : PAt B w P bs) (b1 : Below w.heap.size w w1) (hg : w.heap[g]? = some (.cells cur t (0, 0))) (hu : cur[j]? = some u) (hne : g ≠ P) (hB : B ≤ g)
    (hex : M.expr bs = some (l, n)) (hl : LS w1 (Since w.heap.size w1) v l) (hc : (bs.drop n).length ≤ c ∧ c ≤ maxLen) (hb : Bytes w B A (bs.drop n).length (M.bf (bs.drop n))) :
    MdPost rL M.cExpr.rd B P g j bs w (.returned (.bool true)) ((w1.setCell ⟨g, j, none⟩ v).setCell ⟨P, 0, none⟩ (.slice A (bs.length - n) c)).drew := by
  have hgl := lt_row hg
  have hPl := h.lt
  have hPlo := h.lo
  have hs1 := b1.size
  have hdl : (bs.drop n).length = bs.length - n := by rw [List.length_drop]
  rw [← hdl]
  have p1 := h.later b1
  have p2 := p1.set (j := j) hne hB v
  have b2 : Below B w (w1.setCell ⟨g, j, none⟩ v) := (b1.mono (by omega)).setCell (p := ⟨g, j, none⟩) hB _
  have p3 := p2.move (r := bs.drop n) (by rw [hdl]; omega) hc (hb.below b2 (Nat.le_refl _))
  have hg1 : w1.heap[g]? = some (.cells cur t (0, 0)) := by rw [b1.block g hgl]; exact hg
  have sd := same_drew ((w1.setCell ⟨g, j, none⟩ v).setCell ⟨P, 0, none⟩ (.slice A (bs.drop n).length c))
  refine .inl ⟨l, bs.drop n, [v], by rw [expr_rd, hex]; rfl, rfl, sd.pat p3, ⟨v, rfl, ?_⟩, fun i x hi => ?_, ?_⟩
  · refine hl.agree (fun k hk => ?_) (fun k hk => ⟨hk.1, by show k < ((w1.setCell ⟨g, j, none⟩ v).setCell ⟨P, 0, none⟩ _).heap.size; simpa using hk.2⟩)
    show ((w1.setCell ⟨g, j, none⟩ v).setCell ⟨P, 0, none⟩ _).heap[k]? = _
    have := hk.1
    rw [Below.heap_setCell _ _ _ _ (by show k ≠ P; omega), Below.heap_setCell _ _ _ _ (by show k ≠ g; omega)]
  · cases i with
    | zero =>
      cases hi
      rw [Nat.add_zero, sd.pcell, World.cell?_of_block (w := w1.setCell ⟨g, j, none⟩ v) (Below.heap_setCell _ _ _ _ (by show g ≠ P; exact hne))]
      exact World.cell?_setCell_same _ _ _ ((cell_row hg1 j).trans hu)
    | succ i => cases hi
  · exact (((Fr.of_below b1 hgl hne).trans (Fr.set w1 j _ (Nat.le_refl _) (by show j < j + 1; omega))).trans (Fr.setP _ 0 _ hne)).after sd
theorem PAt.BS {B : Nat} {w : World} {P : Nat} {bs : List Nat} (h : PAt B w P bs) : ∃ A c, w.heap[P]? = some (.cells #[.slice A bs.length c] 105 (0, 0)) ∧ bs.length ≤ c ∧ c ≤ maxLen ∧ Bytes w B A bs.length (M.bf bs) ∧ BS w w.heap.size (.slice A bs.length c) bs := by
  obtain ⟨A, c, hP, h1, h2, h3⟩ := h.ex
  have := h.lt
  have := h.lo
  exact ⟨A, c, hP, h1, h2, h3, A, c, rfl, h1, h2, h3.below (Below.refl _ _) (by omega)⟩
set_option maxRecDepth 100000 in
set_option maxHeartbeats 4000000 in
theorem mexpr_ok (u : Value) : MdOk 201 rL [u] M.cExpr.rd := by
  intro B P g j t cur bs w h hg hz hne hB
  have hv := Lib.hid (expr_rd bs)
  have hPl := h.lt
  have hPlo := h.lo
  have hsm := Lib.hid h.small
  have hgl := lt_row hg
  obtain ⟨A, c, hP, h1, h2, h3, hBS⟩ := h.BS
  unfold maxLen at h2
  have c0 : w.cell? ⟨P, 0, none⟩ = some (.slice A bs.length c) := cell_row hP 0
  have f0 := frozen_row hP 0
  have cj : w.cell? ⟨g, j, none⟩ = some u := (cell_row hg j).trans (hz 0 u rfl)
  have fj := frozen_row hg j
  have hPg : ¬ P = g := fun e => hne e.symm
  replace hg := Lib.hid hg
  replace hz := Lib.hid hz
  replace h := Lib.hid h
  replace hP := Lib.hid hP
  replace h3 := Lib.hid h3
  replace hBS := Lib.hid hBS
  replace h2 := Lib.hid h2
  cases hex : M.expr bs with
  | none =>
    rw [hex] at hv
    replace hex := Lib.hid hex
    go_enter Tryz.func201, Tryz.ntmps201
    go_wp2_with fail
    refine (Decode_no _ bs _ hBS.out (by have := hsm.out; omega) hex.out).mono ?_
    rintro e1 w1 ⟨rfl, b1⟩
    replace b1 := Lib.hid b1
    go_wp2_with fail
    go_ret
    exact .inr ⟨hv.out, rfl, .of_below b1.out⟩
  | some p =>
    obtain ⟨l, n⟩ := p
    have hn := (M.expr_sound hex).2.2
    have hn1 : 1 ≤ n := by
      have := (M.expr_sound hex).2.1
      omega
    obtain ⟨ad, rfl, _⟩ := h3.out 0 (by omega)
    have hbr := Lib.hid (rest_bytes n h3.out)
    replace hex := Lib.hid hex
    clear hv
    by_cases hc : c = n
    · subst hc
      go_enter Tryz.func201, Tryz.ntmps201
      go_wp2_with fail
      refine (Decode_yes _ bs l _ _ hBS.out (by have := hsm.out; omega) hex.out).mono ?_
      rintro e1 w1 ⟨v, rfl, own, b1⟩
      obtain ⟨A3, n3, c3, rfl⟩ := own_slice own
      have hls := Lib.hid own.read
      have c01 : w1.cell? ⟨P, 0, none⟩ = _ := (b1.cell (p := ⟨P, 0, none⟩) hPl).trans c0
      have f01 : w1.frozen? ⟨P, 0, none⟩ = _ := (b1.frozen (p := ⟨P, 0, none⟩) hPl).trans f0
      have cj1 : w1.cell? ⟨g, j, none⟩ = _ := (b1.cell (p := ⟨g, j, none⟩) hgl).trans cj
      have fj1 : w1.frozen? ⟨g, j, none⟩ = _ := (b1.frozen (p := ⟨g, j, none⟩) hgl).trans fj
      replace b1 := Lib.hid b1
      clear c0 f0 cj fj own
      go_wp2_with fail
      go_region
      go_wp2_with fail
      go_ret
      have h2' := h2.out
      have e0 : bs.length - c = 0 := by omega
      have F := put_expr (c := 0) (A := some ad) h.out b1.out hg.out (hz.out 0 u rfl) hne hB hex.out hls.out ⟨by rw [List.length_drop]; omega, by unfold maxLen; omega⟩ (fun i hi => by rw [List.length_drop] at hi; omega)
      rw [e0] at F
      exact F
    · skip
      go_enter Tryz.func201, Tryz.ntmps201
      go_wp2_with fail
      refine (Decode_yes _ bs l _ _ hBS.out (by have := hsm.out; omega) hex.out).mono ?_
      rintro e1 w1 ⟨v, rfl, own, b1⟩
      obtain ⟨A3, n3, c3, rfl⟩ := own_slice own
      have hls := Lib.hid own.read
      have c01 : w1.cell? ⟨P, 0, none⟩ = _ := (b1.cell (p := ⟨P, 0, none⟩) hPl).trans c0
      have f01 : w1.frozen? ⟨P, 0, none⟩ = _ := (b1.frozen (p := ⟨P, 0, none⟩) hPl).trans f0
      have cj1 : w1.cell? ⟨g, j, none⟩ = _ := (b1.cell (p := ⟨g, j, none⟩) hgl).trans cj
      have fj1 : w1.frozen? ⟨g, j, none⟩ = _ := (b1.frozen (p := ⟨g, j, none⟩) hgl).trans fj
      replace b1 := Lib.hid b1
      clear c0 f0 cj fj own
      go_wp2_with fail
      go_region
      go_wp2_with fail
      go_ret
      have h2' := h2.out
      exact put_expr h.out b1.out hg.out (hz.out 0 u rfl) hne hB hex.out hls.out ⟨by rw [List.length_drop]; omega, by unfold maxLen; omega⟩ hbr.out
theorem isConstant_any (y : Int) (w : World) : Calls Tryz.prog 185 #[.int .i64 y] w fun e w' => e = .returned (.bool (y == 65 || y == 66 || y == 35)) ∧ w = w' := by
  by_cases h1 : y = 65
  · subst h1
    go_enter Tryz.func185, Tryz.ntmps185
    go_wp2
    go_ret
    exact ⟨rfl, rfl⟩
  · have t1 : (y == 65) = false := by rw [beq_eq_false_iff_ne]; exact h1
    by_cases h2 : y = 66
    · subst h2
      go_enter Tryz.func185, Tryz.ntmps185
      go_wp2
      go_ret
      exact ⟨rfl, rfl⟩
    · have t2 : (y == 66) = false := by rw [beq_eq_false_iff_ne]; exact h2
      go_enter Tryz.func185, Tryz.ntmps185
      go_wp2
      go_ret
      exact ⟨ret_bool (by rw [t1, t2, Bool.false_or, Bool.false_or]), rfl⟩
theorem const_rd (bs : List Nat) : M.cConst.rd bs = (M.cExpr.rd bs).bind fun q => if M.isConst q.1 then some q else none := rfl
/-- The zero of an instruction. -/
def z9 : List Value := [.int .i64 0, .int .i64 0, .int .i64 0, .int .i64 0, .int .i64 0, .int .i64 0, .slice none 0 0, .slice none 0 0, .slice none 0 0]
/-- Nine values have been stored, one behind the other. -/
theorem put9 {P g j t : Nat} {cur : Array Value} {w : World} (v0 v1 v2 v3 v4 v5 v6 v7 v8 : Value) (hg : w.heap[g]? = some (.cells cur t (0, 0))) (hs : j + 9 ≤ cur.size) :
    (∀ i u, [v0, v1, v2, v3, v4, v5, v6, v7, v8][i]? = some u → (((((((((w.setCell ⟨g, j, none⟩ v0).setCell ⟨g, j + 1, none⟩ v1).setCell ⟨g, j + 2, none⟩ v2).setCell ⟨g, j + 3, none⟩ v3).setCell ⟨g, j + 4, none⟩ v4).setCell ⟨g, j + 5, none⟩ v5).setCell ⟨g, j + 6, none⟩ v6).setCell ⟨g, j + 7, none⟩ v7).setCell ⟨g, j + 8, none⟩ v8).cell? ⟨g, j + i, none⟩ = some u) ∧ Fr P g j 9 w (((((((((w.setCell ⟨g, j, none⟩ v0).setCell ⟨g, j + 1, none⟩ v1).setCell ⟨g, j + 2, none⟩ v2).setCell ⟨g, j + 3, none⟩ v3).setCell ⟨g, j + 4, none⟩ v4).setCell ⟨g, j + 5, none⟩ v5).setCell ⟨g, j + 6, none⟩ v6).setCell ⟨g, j + 7, none⟩ v7).setCell ⟨g, j + 8, none⟩ v8) := by
  refine ⟨fun i u hu => ?_, (((((((((Fr.refl P g j 9 w).trans (Fr.set w (j) v0 (by omega) (by omega))).trans (Fr.set (w.setCell ⟨g, j, none⟩ v0) (j + 1) v1 (by omega) (by omega))).trans (Fr.set ((w.setCell ⟨g, j, none⟩ v0).setCell ⟨g, j + 1, none⟩ v1) (j + 2) v2 (by omega) (by omega))).trans (Fr.set (((w.setCell ⟨g, j, none⟩ v0).setCell ⟨g, j + 1, none⟩ v1).setCell ⟨g, j + 2, none⟩ v2) (j + 3) v3 (by omega) (by omega))).trans (Fr.set ((((w.setCell ⟨g, j, none⟩ v0).setCell ⟨g, j + 1, none⟩ v1).setCell ⟨g, j + 2, none⟩ v2).setCell ⟨g, j + 3, none⟩ v3) (j + 4) v4 (by omega) (by omega))).trans (Fr.set (((((w.setCell ⟨g, j, none⟩ v0).setCell ⟨g, j + 1, none⟩ v1).setCell ⟨g, j + 2, none⟩ v2).setCell ⟨g, j + 3, none⟩ v3).setCell ⟨g, j + 4, none⟩ v4) (j + 5) v5 (by omega) (by omega))).trans (Fr.set ((((((w.setCell ⟨g, j, none⟩ v0).setCell ⟨g, j + 1, none⟩ v1).setCell ⟨g, j + 2, none⟩ v2).setCell ⟨g, j + 3, none⟩ v3).setCell ⟨g, j + 4, none⟩ v4).setCell ⟨g, j + 5, none⟩ v5) (j + 6) v6 (by omega) (by omega))).trans (Fr.set (((((((w.setCell ⟨g, j, none⟩ v0).setCell ⟨g, j + 1, none⟩ v1).setCell ⟨g, j + 2, none⟩ v2).setCell ⟨g, j + 3, none⟩ v3).setCell ⟨g, j + 4, none⟩ v4).setCell ⟨g, j + 5, none⟩ v5).setCell ⟨g, j + 6, none⟩ v6) (j + 7) v7 (by omega) (by omega))).trans (Fr.set ((((((((w.setCell ⟨g, j, none⟩ v0).setCell ⟨g, j + 1, none⟩ v1).setCell ⟨g, j + 2, none⟩ v2).setCell ⟨g, j + 3, none⟩ v3).setCell ⟨g, j + 4, none⟩ v4).setCell ⟨g, j + 5, none⟩ v5).setCell ⟨g, j + 6, none⟩ v6).setCell ⟨g, j + 7, none⟩ v7) (j + 8) v8 (by omega) (by omega))⟩
  rw [cell_row (row_set (row_set (row_set (row_set (row_set (row_set (row_set (row_set (row_set hg v0) v1) v2) v3) v4) v5) v6) v7) v8)]
  have hi : i = 0 ∨ i = 1 ∨ i = 2 ∨ i = 3 ∨ i = 4 ∨ i = 5 ∨ i = 6 ∨ i = 7 ∨ i = 8 := by
    have := (List.getElem?_eq_some_iff.1 hu).1
    simp at this
    omega
  rcases hi with rfl | rfl | rfl | rfl | rfl | rfl | rfl | rfl | rfl
  all_goals
    cases hu
    simp [Array.getElem?_setIfInBounds]
    try omega
set_option maxRecDepth 100000 in
set_option maxHeartbeats 4000000 in
theorem mconst_ok : MdOk 197 rIns z9 M.cConst.rd := by
  intro B P g j t cur bs w h hg hz hne hB
  have hv := Lib.hid (const_rd bs)
  have hPl := h.lt
  have hPlo := h.lo
  have hgl := lt_row hg
  have ha := Lib.hid (h.alloc (.cells #[.slice none 0 0] 62))
  have hPg : ¬ P = g := fun e => hne e.symm
  replace hg := Lib.hid hg
  replace hz := Lib.hid hz
  clear h
  go_enter Tryz.func197, Tryz.ntmps197
  go_wp2_with fail
  refine ((mexpr_ok (.slice none 0 0)) B P w.heap.size 0 62 #[.slice none 0 0] bs _ ha.out (heap_alloc_new w _) (one_row _) (by omega) (by omega)).mono ?_
  rintro e1 w1 (⟨l, r1, cs, hrd, rfl, p1, ⟨v, rfl, hls⟩, hc, fr⟩ | ⟨hrd, rfl, kb⟩)
  · rw [hrd] at hv
    simp only [Option.bind_some] at hv
    have c1 : w1.cell? ⟨w.heap.size, 0, none⟩ = some v := hc 0 _ rfl
    have kb := kb_new fr.kb
    have hs1 : w.heap.size < w1.heap.size := by have := fr.kb.size; simp at this; omega
    have hg1 : w1.heap[g]? = some (.cells cur t (0, 0)) := by rw [kb.block g hgl hne]; exact hg.out
    replace hg1 := Lib.hid hg1
    replace kb := Lib.hid kb
    replace p1 := Lib.hid p1
    clear hc fr
    obtain ⟨A3, c3, rfl, hb3, hc3, hd3⟩ := hls.form
    unfold maxLen at hd3
    cases l with
    | nil =>
      replace hls := Lib.hid hls
      simp only [M.L.len] at c1
      go_wp2_with fail
      go_ret
      exact .inr ⟨by rw [hv.out]; rfl, rfl, kb_g kb.out⟩
    | cons hd b e r =>
      cases r with
      | cons hd2 b2 e2 r2 =>
        replace hls := Lib.hid hls
        obtain ⟨m, hm⟩ : ∃ m, m = (M.L.cons hd b e (.cons hd2 b2 e2 r2)).len := ⟨_, rfl⟩
        have hm2 : 2 ≤ m := by rw [hm]; simp [M.L.len]
        rw [← hm] at c1 hb3 hc3
        have t1 : ((m : Int) == 1) = false := by rw [beq_eq_false_iff_ne]; omega
        replace hm := Lib.hid hm
        go_wp2_with fail
        go_ret
        exact .inr ⟨by rw [hv.out]; rfl, rfl, kb_g kb.out⟩
      | nil =>
        obtain ⟨gi, oi, vL, vB, vE, rfl, hgi, hit, hR, hL, hB2, hE⟩ := hls.nth' (k := 0) (h := hd) (b := b) (e := e) rfl
        obtain ⟨i0, i1, i2, i3, i4, i5, i6, i7, i8⟩ := hit
        simp only [Nat.zero_mul, Nat.add_zero] at i0 i1 i2 i3 i4 i5 i6 i7 i8
        simp only [M.L.len, Nat.zero_add] at c1 hb3 hc3
        replace hls := Lib.hid hls
        obtain ⟨AL, cL, rfl, _⟩ := hL.form
        obtain ⟨AB, cB, rfl, _⟩ := hB2.form
        obtain ⟨AE, cE, rfl, _⟩ := hE.form
        have z0 : w1.cell? ⟨g, j, none⟩ = some (.int .i64 0) := (cell_row hg1.out j).trans (hz.out 0 _ rfl)
        have z1 : w1.cell? ⟨g, j + 1, none⟩ = some (.int .i64 0) := (cell_row hg1.out _).trans (hz.out 1 _ rfl)
        have z2 : w1.cell? ⟨g, j + 2, none⟩ = some (.int .i64 0) := (cell_row hg1.out _).trans (hz.out 2 _ rfl)
        have z3 : w1.cell? ⟨g, j + 3, none⟩ = some (.int .i64 0) := (cell_row hg1.out _).trans (hz.out 3 _ rfl)
        have z4 : w1.cell? ⟨g, j + 4, none⟩ = some (.int .i64 0) := (cell_row hg1.out _).trans (hz.out 4 _ rfl)
        have z5 : w1.cell? ⟨g, j + 5, none⟩ = some (.int .i64 0) := (cell_row hg1.out _).trans (hz.out 5 _ rfl)
        have z6 : w1.cell? ⟨g, j + 6, none⟩ = some (.slice none 0 0) := (cell_row hg1.out _).trans (hz.out 6 _ rfl)
        have z7 : w1.cell? ⟨g, j + 7, none⟩ = some (.slice none 0 0) := (cell_row hg1.out _).trans (hz.out 7 _ rfl)
        have z8 : w1.cell? ⟨g, j + 8, none⟩ = some (.slice none 0 0) := (cell_row hg1.out _).trans (hz.out 8 _ rfl)
        have y0 := frozen_row hg1.out j
        have y1 := frozen_row hg1.out (j + 1)
        have y2 := frozen_row hg1.out (j + 2)
        have y3 := frozen_row hg1.out (j + 3)
        have y4 := frozen_row hg1.out (j + 4)
        have y5 := frozen_row hg1.out (j + 5)
        have y6 := frozen_row hg1.out (j + 6)
        have y7 := frozen_row hg1.out (j + 7)
        have y8 := frozen_row hg1.out (j + 8)
        have hsz : j + 9 ≤ cur.size := by
          have := (Array.getElem?_eq_some_iff.1 (hz.out 8 _ rfl)).1
          omega
        replace hR := Lib.hid hR
        replace hL := Lib.hid hL
        replace hB2 := Lib.hid hB2
        replace hE := Lib.hid hE
        go_wp2_with fail
        refine (isConstant_any hd.op _).mono ?_
        rintro e2 w2 ⟨rfl, rfl⟩
        obtain ⟨q, hq⟩ : ∃ q, (hd.op == 65 || hd.op == 66 || hd.op == 35) = q := ⟨_, rfl⟩
        rw [hq]
        replace hq := Lib.hid hq
        cases q with
        | false =>
          go_wp2_with fail
          go_ret
          exact .inr ⟨by rw [hv.out, if_neg (by show ¬ (hd.op == 65 || hd.op == 66 || hd.op == 35) = true; rw [hq.out]; exact Bool.false_ne_true)], rfl, kb_g kb.out⟩
        | true =>
          go_wp2_with fail
          go_ret
          obtain ⟨q1, q2⟩ := put9 (P := P) (.int .i64 hd.op) (.int .i64 hd.ty) (.int .i64 hd.ix) (.int .i64 hd.al) (.int .i64 hd.ofs) (.int .i64 hd.val) (.slice AL hd.labels.length cL) (.slice AB b.len cB) (.slice AE e.len cE) hg1.out hsz
          have hs2 := q2.kb.size
          have p1l := p1.out.lt
          have p1o := p1.out.lo
          have ag : Agree (Since (w.alloc (.cells #[.slice none 0 0] 62)).heap.size w1) w1 _ := fun k hk => q2.kb.block k hk.2 (by have := hk.1; simp at this; omega)
          have mono : ∀ k, Since (w.alloc (.cells #[.slice none 0 0] 62)).heap.size w1 k → Since w.heap.size _ k := fun k hk => ⟨by have := hk.1; simp at this; omega, Nat.lt_of_lt_of_le hk.2 hs2⟩
          refine .inl ⟨_, r1, item9 hd _ _ _, by rw [hv.out, if_pos (by exact hq.out)], rfl, ?_, ⟨hd, b, e, _, _, _, rfl, rfl, hR.out, hL.out.agree ag mono, hB2.out.agree ag mono, hE.out.agree ag mono⟩, q1, (Fr.of_kb kb.out hgl hne).trans q2⟩
          have hrow := (p1.out.ex)
          refine p1.out.agree (fun k hk => ?_)
          iterate 9 rw [Below.heap_setCell _ _ _ _ (by show k ≠ g; rcases hk with hk | rfl <;> omega)]
  · rw [hrd] at hv
    replace kb := Lib.hid (kb_new kb)
    go_wp2_with fail
    go_ret
    exact .inr ⟨hv.out, rfl, kb_g kb.out⟩
end Go.Proofs.YtmejgbbdehndaaaGreat
