/-
  What the program's readers of functions' types, imports, globals, exports, elements and data answer; condition: the place lies in memory that was there at the call, what is read into in other memory.
-/
import Derived.Test.YtmejgbbdehndaaaGreatMList1
import Derived.Test.YtmejgbbdehndaaaGreatMMath
namespace Go.Proofs.YtmejgbbdehndaaaGreat
open Go.RowKit
theorem MlOk.at {α : Type} {f : Nat} {fv : Value} {R : Rep α} {rd : List Nat → Option (α × List Nat)} (h : MlOk f fv R rd) {B P g j t : Nat} {cur : Array Value} {bs : List Nat} {w W : World} (s : Same w W) (h1 : PAt B w P bs) (h2 : w.heap[g]? = some (.cells cur t (0, 0))) (h3 : cur[j]? = some (.slice none 0 0)) (h4 : g ≠ P) (h5 : B ≤ g) :
    Calls Tryz.prog f #[.pointer (some ⟨P, 0, none⟩), .pointer (some ⟨g, j, none⟩), fv] W (MdPost R rd B P g j bs w) :=
  (h B P g j t cur bs W (s.pat h1) (by rw [s.heap]; exact h2) h3 h4 h5).mono fun e w' hp => by
    rcases hp with ⟨x', r', cs, q1, q2, q3, q4, q5, q6⟩ | ⟨q1, q2, q3⟩
    · exact .inl ⟨x', r', cs, q1, q2, q3, by rw [← s.heap]; exact q4, q5, s.fr q6⟩
    · exact .inr ⟨q1, q2, s.kb q3⟩
theorem MlOk.nums {f : Nat} {fv : Value} {rd : List Nat → Option (List Int × List Nat)} (h : MlOk f fv (rLst rInt) rd) : MlOk f fv rNums rd := fun B P g j t cur bs w h1 h2 h3 h4 h5 => (h B P g j t cur bs w h1 h2 h3 h4 h5).mono fun _ _ hp => hp.nums
theorem MdPost.yes {α : Type} {R : Rep α} {rd : List Nat → Option (α × List Nat)} {B P g j : Nat} {bs : List Nat} {w w' : World} {e : Ending} (h : MdPost R rd B P g j bs w e w') : (∃ x r, rd bs = some (x, r) ∧ e = .returned (.bool true) ∧ YesPost R x r B P g j w (.returned (.bool true)) w') ∨ (rd bs = none ∧ e = .returned (.bool false) ∧ Kb (fun k => k = P ∨ k = g) w w') := by
  rcases h with ⟨x, r, cs, q1, q2, q3, q4, q5, q6⟩ | h
  · exact .inl ⟨x, r, q1, q2, rfl, q3, ⟨cs, q4, q5⟩, q6⟩
  · exact .inr h
theorem ft_rd (bs : List Nat) : M.cFT.rd bs = ((M.cFix 96).rd bs).bind fun p => (M.cVals.rd p.2).bind fun q => (M.cVals.rd q.2).bind fun s => if s.1.length ≤ 1 then some (⟨q.1, s.1⟩, s.2) else none := by
  simp only [M.cFT, M.cIf, M.cMap, M.cSeq]
  cases (M.cFix 96).rd bs with
  | none => rfl
  | some p =>
    simp only [Option.bind_some]
    cases M.cVals.rd p.2 with
    | none => rfl
    | some q =>
      simp only [Option.bind_some]
      cases M.cVals.rd q.2 with
      | none => rfl
      | some s => simp
theorem cell0 {z v : Value} {zs : List Value} {cur : Array Value} {j : Nat} (h : ∀ i u, (z :: zs)[i]? = some u → cur[j + i]? = some u) : cur[j]? = some z := h 0 _ rfl
set_option maxRecDepth 100000 in
set_option maxHeartbeats 4000000 in
theorem mft_ok : MdOk 159 rFT [.slice none 0 0, .slice none 0 0] M.cFT.rd := by
  intro B P g j t cur bs w h hg hz hne hB
  have hv := Lib.hid (ft_rd bs)
  have hPl := h.lt
  have hgl := lt_row hg
  replace hg := Lib.hid hg
  replace hz := Lib.hid hz
  have cN := Lib.hid (mfixed_any 96 B P bs w h (by omega))
  clear h
  go_enter Tryz.func159, Tryz.ntmps159
  go_wp2_with fail
  refine cN.out.mono ?_
  rintro e1 w1 (⟨r1, hrd, rfl, p1, kb⟩ | ⟨hrd, rfl, kb⟩)
  · rw [hrd] at hv
    simp only [Option.bind_some] at hv
    have hg1 := Lib.hid (show w1.heap[g]? = some (.cells cur t (0, 0)) by rw [kb.block g hgl hne]; exact hg.out)
    replace kb := Lib.hid kb
    replace p1 := Lib.hid p1
    go_wp2_with fail
    refine (list_val.nums.at ⟨rfl, rfl, rfl, rfl⟩ p1.out hg1.out (hz.out 0 _ rfl) hne hB).mono ?_
    intro e2 w2 hp
    rcases hp.yes with ⟨ps, r2, q1, rfl, hy⟩ | ⟨q1, rfl, kb2⟩
    · have q1' : M.cVals.rd r1 = some (ps, r2) := q1
      rw [q1'] at hv
      simp only [Option.bind_some] at hv
      have pr := (Prog.start (zR := [.slice none 0 0]) (z := [.slice none 0 0]) p1.out hg1.out hz.out rfl hne hB hy).base kb.out hgl hPl
      obtain ⟨cur2, hg2, hz2⟩ := pr.row
      replace pr := Lib.hid pr
      replace hg2 := Lib.hid hg2
      replace hz2 := Lib.hid hz2
      clear hp hy
      go_wp2_with fail
      refine (list_val.nums.at ⟨rfl, rfl, rfl, rfl⟩ pr.out.pat hg2.out (hz2.out 0 _ rfl) hne hB).mono ?_
      intro e3 w3 hp
      rcases hp.yes with ⟨rs, r3, q3, rfl, hy⟩ | ⟨q3, rfl, kb3⟩
      · have q3' : M.cVals.rd r2 = some (rs, r3) := q3
        rw [q3'] at hv
        simp only [Option.bind_some] at hv
        have pr3 := pr.out.step (zQ := [.slice none 0 0]) (z := []) rfl hy
        obtain ⟨cs3, hcs, hcc⟩ := hy.2.2.1
        obtain ⟨v3, rfl, hns⟩ := hcs
        obtain ⟨A3, c3, rfl, hl3⟩ := hns.form
        have cr : w3.cell? ⟨g, j + 1, none⟩ = some (.slice A3 rs.length c3) := hcc 0 _ rfl
        replace pr3 := Lib.hid pr3
        clear hp hy hcc hns
        by_cases hl : rs.length ≤ 1
        · have t1 : decide ((rs.length : Int) ≤ 1) = true := by simp; omega
          rw [if_pos hl] at hv
          go_wp2_with fail
          go_ret
          exact pr3.out.fin (R2 := rFT) (y := ⟨ps, rs⟩) hv.out rfl (fun cs h => h)
        · have t1 : decide ((rs.length : Int) ≤ 1) = false := by simp; omega
          rw [if_neg hl] at hv
          go_wp2_with fail
          go_ret
          exact .inr ⟨hv.out, rfl, pr3.out.fr.kb⟩
      · have q3' : M.cVals.rd r2 = none := q3
        rw [q3'] at hv
        have kb4 := Lib.hid (pr.out.bad kb3)
        clear kb3 hp
        go_wp2_with fail
        go_ret
        exact .inr ⟨hv.out, rfl, kb4.out⟩
    · have q1' : M.cVals.rd r1 = none := q1
      rw [q1'] at hv
      have kb3 := Lib.hid ((kb_g kb.out).trans kb2)
      clear kb2 hp
      go_wp2_with fail
      go_ret
      exact .inr ⟨hv.out, rfl, kb3.out⟩
  · rw [hrd] at hv
    replace kb := Lib.hid kb
    go_wp2_with fail
    go_ret
    exact .inr ⟨hv.out, rfl, kb_g kb.out⟩
end Go.Proofs.YtmejgbbdehndaaaGreat

/-
  What the program's readers of globals, elements and data answer; condition: the place lies in memory that was there at the call, what is read into in other memory.
-/
namespace Go.Proofs.YtmejgbbdehndaaaGreat
open Go.RowKit
theorem pre_row {zq zr zs : List Value} {cur : Array Value} {j : Nat} (h : ∀ i u, zs[i]? = some u → cur[j + i]? = some u) (e : zs = zq ++ zr) : ∀ i u, zq[i]? = some u → cur[j + i]? = some u := fun i u hu => h i u (by rw [e, List.getElem?_append_left (List.getElem?_eq_some_iff.1 hu).1]; exact hu)
theorem glo_rd (bs : List Nat) : M.cGlo.rd bs = (M.cVal.rd bs).bind fun p0 => (M.cFlag.rd p0.2).bind fun p1 => (M.cConst.rd p1.2).bind fun p2 => some (⟨p0.1, p1.1, p2.1⟩, p2.2) := by
  simp only [M.cGlo, M.cMap, M.cSeq, Option.bind_assoc, Option.bind_some]
  try rfl
set_option maxRecDepth 100000 in
set_option maxHeartbeats 4000000 in
theorem mglo_ok : MdOk 168 rGlo [.int .i64 0, .bool false, .int .i64 0, .int .i64 0, .int .i64 0, .int .i64 0, .int .i64 0, .int .i64 0, .slice none 0 0, .slice none 0 0, .slice none 0 0] M.cGlo.rd := by
  intro B P g j t cur bs w h hg hz hne hB
  have hv := Lib.hid (glo_rd bs)
  have hPl := h.lt
  have hgl := lt_row hg
  replace hg := Lib.hid hg
  replace hz := Lib.hid hz
  replace h := Lib.hid h
  go_enter Tryz.func168, Tryz.ntmps168
  go_wp2_with fail
  refine ((mval_ok (.int .i64 0)).at ⟨rfl, rfl, rfl, rfl⟩ h.out hg.out (pre_row (zr := [.bool false, .int .i64 0, .int .i64 0, .int .i64 0, .int .i64 0, .int .i64 0, .int .i64 0, .slice none 0 0, .slice none 0 0, .slice none 0 0]) hz.out rfl) hne hB).mono ?_
  intro e0 w0 hp
  rcases hp.yes with ⟨x0, r0, q0, rfl, hy⟩ | ⟨q0, rfl, kb0⟩
  · rw [q0] at hv
    simp only [Option.bind_some] at hv
    have pr0 := Prog.start (zR := [.int .i64 0]) (z := [.bool false, .int .i64 0, .int .i64 0, .int .i64 0, .int .i64 0, .int .i64 0, .int .i64 0, .slice none 0 0, .slice none 0 0, .slice none 0 0]) h.out hg.out hz.out rfl hne hB hy
    obtain ⟨cur0, hg0, hz0⟩ := pr0.row
    replace pr0 := Lib.hid pr0
    replace hg0 := Lib.hid hg0
    replace hz0 := Lib.hid hz0
    clear hp hy
    go_wp2_with fail
    refine ((mflag_ok (.bool false)).at ⟨rfl, rfl, rfl, rfl⟩ pr0.out.pat hg0.out (pre_row (zr := [.int .i64 0, .int .i64 0, .int .i64 0, .int .i64 0, .int .i64 0, .int .i64 0, .slice none 0 0, .slice none 0 0, .slice none 0 0]) hz0.out rfl) hne hB).mono ?_
    intro e1 w1 hp
    rcases hp.yes with ⟨x1, r1, q1, rfl, hy⟩ | ⟨q1, rfl, kb1⟩
    · rw [q1] at hv
      simp only [Option.bind_some] at hv
      have pr1 := pr0.out.step (zQ := [.bool false]) (z := [.int .i64 0, .int .i64 0, .int .i64 0, .int .i64 0, .int .i64 0, .int .i64 0, .slice none 0 0, .slice none 0 0, .slice none 0 0]) rfl hy
      obtain ⟨cur1, hg1, hz1⟩ := pr1.row
      replace pr1 := Lib.hid pr1
      replace hg1 := Lib.hid hg1
      replace hz1 := Lib.hid hz1
      clear hp hy
      go_wp2_with fail
      refine ((mconst_ok).at ⟨rfl, rfl, rfl, rfl⟩ pr1.out.pat hg1.out (fun i u hu => hz1.out i u hu) hne hB).mono ?_
      intro e2 w2 hp
      rcases hp.yes with ⟨x2, r2, q2, rfl, hy⟩ | ⟨q2, rfl, kb2⟩
      · rw [q2] at hv
        simp only [Option.bind_some] at hv
        have pr2 := pr1.out.step (zQ := [.int .i64 0, .int .i64 0, .int .i64 0, .int .i64 0, .int .i64 0, .int .i64 0, .slice none 0 0, .slice none 0 0, .slice none 0 0]) (z := []) rfl hy
        replace pr2 := Lib.hid pr2
        clear hp hy
        go_wp2_with fail
        go_ret
        exact pr2.out.fin (R2 := rGlo) (y := ⟨x0, x1, x2⟩) hv.out rfl (fun cs h => h)
      · rw [q2] at hv
        replace kb2 := Lib.hid (pr1.out.bad kb2)
        clear hp
        go_wp2_with fail
        go_ret
        exact .inr ⟨hv.out, rfl, kb2.out⟩
    · rw [q1] at hv
      replace kb1 := Lib.hid (pr0.out.bad kb1)
      clear hp
      go_wp2_with fail
      go_ret
      exact .inr ⟨hv.out, rfl, kb1.out⟩
  · rw [q0] at hv
    replace kb0 := Lib.hid kb0
    clear hp
    go_wp2_with fail
    go_ret
    exact .inr ⟨hv.out, rfl, kb0.out⟩
theorem elm_rd (bs : List Nat) : M.cElm.rd bs = (M.num bs).bind fun p0 => (M.cConst.rd p0.2).bind fun p1 => ((M.vec M.cNum).rd p1.2).bind fun p2 => some (⟨p0.1, p1.1, p2.1⟩, p2.2) := by
  simp only [M.cElm, M.cMap, M.cSeq, Option.bind_assoc, Option.bind_some]
  try rfl
set_option maxRecDepth 100000 in
set_option maxHeartbeats 4000000 in
theorem melm_ok : MdOk 173 rElm [.int .i64 0, .int .i64 0, .int .i64 0, .int .i64 0, .int .i64 0, .int .i64 0, .int .i64 0, .slice none 0 0, .slice none 0 0, .slice none 0 0, .slice none 0 0] M.cElm.rd := by
  intro B P g j t cur bs w h hg hz hne hB
  have hv := Lib.hid (elm_rd bs)
  have hPl := h.lt
  have hgl := lt_row hg
  replace hg := Lib.hid hg
  replace hz := Lib.hid hz
  replace h := Lib.hid h
  go_enter Tryz.func173, Tryz.ntmps173
  go_wp2_with fail
  refine ((mnum_ok (.int .i64 0)).at ⟨rfl, rfl, rfl, rfl⟩ h.out hg.out (pre_row (zr := [.int .i64 0, .int .i64 0, .int .i64 0, .int .i64 0, .int .i64 0, .int .i64 0, .slice none 0 0, .slice none 0 0, .slice none 0 0, .slice none 0 0]) hz.out rfl) hne hB).mono ?_
  intro e0 w0 hp
  rcases hp.yes with ⟨x0, r0, q0, rfl, hy⟩ | ⟨q0, rfl, kb0⟩
  · rw [q0] at hv
    simp only [Option.bind_some] at hv
    have pr0 := Prog.start (zR := [.int .i64 0]) (z := [.int .i64 0, .int .i64 0, .int .i64 0, .int .i64 0, .int .i64 0, .int .i64 0, .slice none 0 0, .slice none 0 0, .slice none 0 0, .slice none 0 0]) h.out hg.out hz.out rfl hne hB hy
    obtain ⟨cur0, hg0, hz0⟩ := pr0.row
    replace pr0 := Lib.hid pr0
    replace hg0 := Lib.hid hg0
    replace hz0 := Lib.hid hz0
    clear hp hy
    go_wp2_with fail
    refine ((mconst_ok).at ⟨rfl, rfl, rfl, rfl⟩ pr0.out.pat hg0.out (pre_row (zr := [.slice none 0 0]) hz0.out rfl) hne hB).mono ?_
    intro e1 w1 hp
    rcases hp.yes with ⟨x1, r1, q1, rfl, hy⟩ | ⟨q1, rfl, kb1⟩
    · rw [q1] at hv
      simp only [Option.bind_some] at hv
      have pr1 := pr0.out.step (zQ := [.int .i64 0, .int .i64 0, .int .i64 0, .int .i64 0, .int .i64 0, .int .i64 0, .slice none 0 0, .slice none 0 0, .slice none 0 0]) (z := [.slice none 0 0]) rfl hy
      obtain ⟨cur1, hg1, hz1⟩ := pr1.row
      replace pr1 := Lib.hid pr1
      replace hg1 := Lib.hid hg1
      replace hz1 := Lib.hid hz1
      clear hp hy
      go_wp2_with fail
      refine ((list_num.nums).at ⟨rfl, rfl, rfl, rfl⟩ pr1.out.pat hg1.out (hz1.out 0 _ rfl) hne hB).mono ?_
      intro e2 w2 hp
      rcases hp.yes with ⟨x2, r2, q2, rfl, hy⟩ | ⟨q2, rfl, kb2⟩
      · rw [q2] at hv
        simp only [Option.bind_some] at hv
        have pr2 := pr1.out.step (zQ := [.slice none 0 0]) (z := []) rfl hy
        replace pr2 := Lib.hid pr2
        clear hp hy
        go_wp2_with fail
        go_ret
        exact pr2.out.fin (R2 := rElm) (y := ⟨x0, x1, x2⟩) hv.out rfl (fun cs h => h)
      · rw [q2] at hv
        replace kb2 := Lib.hid (pr1.out.bad kb2)
        clear hp
        go_wp2_with fail
        go_ret
        exact .inr ⟨hv.out, rfl, kb2.out⟩
    · rw [q1] at hv
      replace kb1 := Lib.hid (pr0.out.bad kb1)
      clear hp
      go_wp2_with fail
      go_ret
      exact .inr ⟨hv.out, rfl, kb1.out⟩
  · rw [q0] at hv
    replace kb0 := Lib.hid kb0
    clear hp
    go_wp2_with fail
    go_ret
    exact .inr ⟨hv.out, rfl, kb0.out⟩
theorem dat_rd (bs : List Nat) : M.cDat.rd bs = (M.num bs).bind fun p0 => (M.cConst.rd p0.2).bind fun p1 => (M.cPiece.rd p1.2).bind fun p2 => some (⟨p0.1, p1.1, p2.1⟩, p2.2) := by
  simp only [M.cDat, M.cMap, M.cSeq, Option.bind_assoc, Option.bind_some]
  try rfl
set_option maxRecDepth 100000 in
set_option maxHeartbeats 4000000 in
theorem mdat_ok : MdOk 176 rDat [.int .i64 0, .int .i64 0, .int .i64 0, .int .i64 0, .int .i64 0, .int .i64 0, .int .i64 0, .slice none 0 0, .slice none 0 0, .slice none 0 0, .slice none 0 0] M.cDat.rd := by
  intro B P g j t cur bs w h hg hz hne hB
  have hv := Lib.hid (dat_rd bs)
  have hPl := h.lt
  have hgl := lt_row hg
  replace hg := Lib.hid hg
  replace hz := Lib.hid hz
  replace h := Lib.hid h
  go_enter Tryz.func176, Tryz.ntmps176
  go_wp2_with fail
  refine ((mnum_ok (.int .i64 0)).at ⟨rfl, rfl, rfl, rfl⟩ h.out hg.out (pre_row (zr := [.int .i64 0, .int .i64 0, .int .i64 0, .int .i64 0, .int .i64 0, .int .i64 0, .slice none 0 0, .slice none 0 0, .slice none 0 0, .slice none 0 0]) hz.out rfl) hne hB).mono ?_
  intro e0 w0 hp
  rcases hp.yes with ⟨x0, r0, q0, rfl, hy⟩ | ⟨q0, rfl, kb0⟩
  · rw [q0] at hv
    simp only [Option.bind_some] at hv
    have pr0 := Prog.start (zR := [.int .i64 0]) (z := [.int .i64 0, .int .i64 0, .int .i64 0, .int .i64 0, .int .i64 0, .int .i64 0, .slice none 0 0, .slice none 0 0, .slice none 0 0, .slice none 0 0]) h.out hg.out hz.out rfl hne hB hy
    obtain ⟨cur0, hg0, hz0⟩ := pr0.row
    replace pr0 := Lib.hid pr0
    replace hg0 := Lib.hid hg0
    replace hz0 := Lib.hid hz0
    clear hp hy
    go_wp2_with fail
    refine ((mconst_ok).at ⟨rfl, rfl, rfl, rfl⟩ pr0.out.pat hg0.out (pre_row (zr := [.slice none 0 0]) hz0.out rfl) hne hB).mono ?_
    intro e1 w1 hp
    rcases hp.yes with ⟨x1, r1, q1, rfl, hy⟩ | ⟨q1, rfl, kb1⟩
    · rw [q1] at hv
      simp only [Option.bind_some] at hv
      have pr1 := pr0.out.step (zQ := [.int .i64 0, .int .i64 0, .int .i64 0, .int .i64 0, .int .i64 0, .int .i64 0, .slice none 0 0, .slice none 0 0, .slice none 0 0]) (z := [.slice none 0 0]) rfl hy
      obtain ⟨cur1, hg1, hz1⟩ := pr1.row
      replace pr1 := Lib.hid pr1
      replace hg1 := Lib.hid hg1
      replace hz1 := Lib.hid hz1
      clear hp hy
      go_wp2_with fail
      refine ((mbytes_ok (.slice none 0 0)).at ⟨rfl, rfl, rfl, rfl⟩ pr1.out.pat hg1.out (fun i u hu => hz1.out i u hu) hne hB).mono ?_
      intro e2 w2 hp
      rcases hp.yes with ⟨x2, r2, q2, rfl, hy⟩ | ⟨q2, rfl, kb2⟩
      · rw [q2] at hv
        simp only [Option.bind_some] at hv
        have pr2 := pr1.out.step (zQ := [.slice none 0 0]) (z := []) rfl hy
        replace pr2 := Lib.hid pr2
        clear hp hy
        go_wp2_with fail
        go_ret
        exact pr2.out.fin (R2 := rDat) (y := ⟨x0, x1, x2⟩) hv.out rfl (fun cs h => h)
      · rw [q2] at hv
        replace kb2 := Lib.hid (pr1.out.bad kb2)
        clear hp
        go_wp2_with fail
        go_ret
        exact .inr ⟨hv.out, rfl, kb2.out⟩
    · rw [q1] at hv
      replace kb1 := Lib.hid (pr0.out.bad kb1)
      clear hp
      go_wp2_with fail
      go_ret
      exact .inr ⟨hv.out, rfl, kb1.out⟩
  · rw [q0] at hv
    replace kb0 := Lib.hid kb0
    clear hp
    go_wp2_with fail
    go_ret
    exact .inr ⟨hv.out, rfl, kb0.out⟩
end Go.Proofs.YtmejgbbdehndaaaGreat

/-
  Plain facts on modules' bytes: functions' heads and bodies, sections, the whole. No condition; nothing of the program is named here.
-/
namespace Go.Proofs.YtmejgbbdehndaaaGreat.M
/-- What section 3 has of a function. -/
def cHead : Codec Fn := cMapP cNum (fun t => ⟨t, [], .nil⟩) (fun y => y.ty) (fun y => y.lo = [] ∧ y.bo = .nil) (fun _ _ => rfl) (fun y _ h => by cases y; simp only at h; rw [h.1, h.2]) (fun _ _ => ⟨rfl, rfl⟩)
/-- What section 10 has of a function. -/
def cFnB : Codec Fn := cMapP cBody (fun x => ⟨0, x.1, x.2⟩) (fun y => (y.lo, y.bo)) (fun y => y.ty = 0) (fun _ _ => rfl) (fun y _ h => by cases y; simp only at h; rw [h]) (fun _ _ => rfl)
/-- A module of which some sections have been read. -/
structure Dm where
  m : Mod
  bodies : List Fn
def dm0 : Dm := ⟨mod0, []⟩
/-- A section, by its id: what is known behind it, and what it has left. -/
def sect (id : Nat) (d : Dm) (bs : List Nat) : Option (Dm × List Nat) :=
  match id with
  | 0 => (cName.rd bs).bind fun _ => some (d, [])
  | 1 => ((vec cFT).rd bs).bind fun x => some (⟨{ d.m with types := x.1 }, d.bodies⟩, x.2)
  | 2 => ((vec cImp).rd bs).bind fun x => some (⟨{ d.m with imports := x.1 }, d.bodies⟩, x.2)
  | 3 => ((vec cHead).rd bs).bind fun x => some (⟨{ d.m with funcs := x.1 }, d.bodies⟩, x.2)
  | 4 => ((vec cTab).rd bs).bind fun x => some (⟨{ d.m with tables := x.1 }, d.bodies⟩, x.2)
  | 5 => ((vec cLim).rd bs).bind fun x => some (⟨{ d.m with memories := x.1 }, d.bodies⟩, x.2)
  | 6 => ((vec cGlo).rd bs).bind fun x => some (⟨{ d.m with globals := x.1 }, d.bodies⟩, x.2)
  | 7 => ((vec cExp).rd bs).bind fun x => some (⟨{ d.m with exports := x.1 }, d.bodies⟩, x.2)
  | 8 => (num bs).bind fun x => some (⟨{ d.m with start := x.1 }, d.bodies⟩, x.2)
  | 9 => ((vec cElm).rd bs).bind fun x => some (⟨{ d.m with elems := x.1 }, d.bodies⟩, x.2)
  | 10 => ((vec cFnB).rd bs).bind fun x => some (⟨d.m, x.1⟩, x.2)
  | 11 => ((vec cDat).rd bs).bind fun x => some (⟨{ d.m with datas := x.1 }, d.bodies⟩, x.2)
  | _ => none
/-- A section of so many bytes, all used. -/
def sectS (id : Nat) (d : Dm) (bs : List Nat) : Option (Dm × List Nat) := (cPiece.rd bs).bind fun p => (sect id d p.1).bind fun q => match q.2 with | [] => some (q.1, p.2) | _ => none
def sects : Nat → Nat → Dm → List Nat → Option Dm
  | _, _, d, [] => some d
  | 0, _, _, _ :: _ => none
  | n + 1, last, d, b :: r => if 12 ≤ b ∨ (b ≠ 0 ∧ b ≤ last) then none else (sectS b d r).bind fun q => sects n (max last b) q.1 q.2
def joinM : List Fn → List Fn → List Fn
  | f :: fs, b :: bs => ⟨f.ty, b.lo, b.bo⟩ :: joinM fs bs
  | _, _ => []
def joined (d : Dm) : Option Mod := if d.bodies.length = d.m.funcs.length then some { d.m with funcs := joinM d.m.funcs d.bodies } else none
/-- A module's bytes. -/
def rdModule (bs : List Nat) : Option Mod := if 65536 < bs.length then none else (rdHead header bs).bind fun r => (sects r.length 0 dm0 r).bind joined
theorem sectS_short {id : Nat} {d : Dm} {bs r : List Nat} {e : Dm} (h : sectS id d bs = some (e, r)) : r.length ≤ bs.length := by
  obtain ⟨⟨x, r1⟩, h1, h2⟩ := Option.bind_eq_some_iff.1 h
  obtain ⟨⟨e2, r2⟩, h3, h4⟩ := Option.bind_eq_some_iff.1 h2
  unfold cPiece at h1
  simp only at h1
  obtain ⟨⟨v, r5⟩, h5, h6⟩ := Option.bind_eq_some_iff.1 h1
  have h7 := (num_short h5).2.2
  simp only at h6
  cases r2 with
  | nil =>
    obtain ⟨rfl, rfl⟩ : e2 = e ∧ r1 = r := by simpa using h4
    split at h6
    · cases h6; rw [List.length_drop]; omega
    · cases h6
  | cons => cases h4
theorem sects_fuel : ∀ (n m last : Nat) (d : Dm) (bs : List Nat), bs.length ≤ n → bs.length ≤ m → sects n last d bs = sects m last d bs
  | n, m, last, d, [], _, _ => by cases n <;> cases m <;> rfl
  | 0, m, last, d, b :: r, h, _ => by simp at h
  | n + 1, 0, last, d, b :: r, _, h => by simp at h
  | n + 1, m + 1, last, d, b :: r, h1, h2 => by
    simp only [List.length_cons] at h1 h2
    simp only [sects]
    split
    · rfl
    · cases hs : sectS b d r with
      | none => rfl
      | some q =>
        have := sectS_short (e := q.1) (r := q.2) hs
        simp only [Option.bind_some]
        exact sects_fuel n m _ _ _ (by omega) (by omega)
/-- A group of locals. -/
def grp (acc : List Int) (bs : List Nat) : Option (List Int × List Nat) := (num bs).bind fun c => (cVal.rd c.2).bind fun v => if c.1 ≤ 64 - (acc.length : Int) then some (acc ++ List.replicate c.1.toNat v.1, v.2) else none
theorem groups_grp (n : Nat) (acc : List Int) (bs : List Nat) : rGroups (n + 1) acc bs = (grp acc bs).bind fun p => rGroups n p.1 p.2 := by
  simp only [rGroups, grp, Option.bind_assoc]
  congr 1
  funext c
  congr 1
  funext v
  split <;> rfl
end Go.Proofs.YtmejgbbdehndaaaGreat.M

/-
  What the program's readers of exports, imports and functions' heads answer; condition: the place lies in memory that was there at the call, what is read into in other memory.
-/
namespace Go.Proofs.YtmejgbbdehndaaaGreat
open Go.RowKit
/-- The next cells are as they were, and are this. -/
theorem Prog.fill {α β : Type} {R : Rep α} {Q : Rep β} {x : α} (y : β) {zQ z : List Value} {B P g j t : Nat} {r : List Nat} {w0 w : World} (h : Prog R x (zQ ++ z) B P g j t r w0 w) (hl : zQ.length = Q.sz) (hi : ∀ w S, Q.is w S y zQ) : Prog (rP2 R Q) (x, y) z B P g j t r w0 w := by
  obtain ⟨cs, cur, h1, h2, h3, h4⟩ := h.cells
  have hlen := R.len h1
  refine ⟨h.pat, ⟨cs ++ zQ, cur, ⟨cs, zQ, rfl, h1, hi _ _⟩, h2, fun i u hu => ?_, fun i u hu => ?_⟩, h.fr.wide (Nat.le_refl _) (show j + R.sz ≤ j + (R.sz + Q.sz) by omega), h.hg, h.ne, h.hP, h.hB⟩
  · by_cases hi : i < cs.length
    · rw [List.getElem?_append_left hi] at hu; exact h3 i u hu
    · rw [List.getElem?_append_right (by omega), hlen] at hu
      have := h4 (i - R.sz) u (by rw [List.getElem?_append_left (List.getElem?_eq_some_iff.1 hu).1]; exact hu)
      rwa [show j + R.sz + (i - R.sz) = j + i by omega] at this
  · have := h4 (Q.sz + i) u (by rw [List.getElem?_append_right (by omega), hl, Nat.add_sub_cancel_left]; exact hu)
    show cur[j + (R.sz + Q.sz) + i]? = some u
    rwa [show j + (R.sz + Q.sz) + i = j + R.sz + (Q.sz + i) by omega]
theorem byte_le (bs : List Nat) : (M.cByteI fun b => decide (b ≤ 3)).rd bs = ((M.cByteI fun _ => true).rd bs).bind fun p => if p.1 ≤ 3 then some p else none := by
  cases bs with
  | nil => rfl
  | cons b r =>
    by_cases h : b ≤ 3
    · have h' : (b : Int) ≤ 3 := by omega
      simp [M.cByteI, h, h']
    · have h' : ¬ (b : Int) ≤ 3 := by omega
      simp [M.cByteI, h, h']
theorem exp_rd (bs : List Nat) : M.cExp.rd bs = (M.cName.rd bs).bind fun p0 => ((M.cByteI fun _ => true).rd p0.2).bind fun p1 => if p1.1 ≤ 3 then (M.num p1.2).bind fun p2 => some (⟨p0.1, p1.1, p2.1⟩, p2.2) else none := by
  simp only [M.cExp, M.cMap, M.cSeq, byte_le, Option.bind_assoc, Option.bind_some]
  congr 1
  funext p0
  congr 1
  funext p1
  split
  · simp only [Option.bind_some, Option.bind_assoc]; rfl
  · rfl
set_option maxRecDepth 100000 in
set_option maxHeartbeats 4000000 in
theorem mexp_ok : MdOk 170 rExp [.string ByteArray.empty, .int .i64 0, .int .i64 0] M.cExp.rd := by
  intro B P g j t cur bs w h hg hz hne hB
  have hv := Lib.hid (exp_rd bs)
  have hPl := h.lt
  have hgl := lt_row hg
  replace hg := Lib.hid hg
  replace hz := Lib.hid hz
  replace h := Lib.hid h
  go_enter Tryz.func170, Tryz.ntmps170
  go_wp2_with fail
  refine ((mname_ok (.string ByteArray.empty)).at ⟨rfl, rfl, rfl, rfl⟩ h.out hg.out (pre_row (zr := [.int .i64 0, .int .i64 0]) hz.out rfl) hne hB).mono ?_
  intro e0 w0 hp
  rcases hp.yes with ⟨x0, r0, q0, rfl, hy⟩ | ⟨q0, rfl, kb0⟩
  · rw [q0] at hv
    simp only [Option.bind_some] at hv
    have pr0 := Prog.start (zR := [.string ByteArray.empty]) (z := [.int .i64 0, .int .i64 0]) h.out hg.out hz.out rfl hne hB hy
    obtain ⟨cur0, hg0, hz0⟩ := pr0.row
    replace pr0 := Lib.hid pr0
    replace hg0 := Lib.hid hg0
    replace hz0 := Lib.hid hz0
    clear hp hy
    go_wp2_with fail
    refine ((mbyte_ok (.int .i64 0)).at ⟨rfl, rfl, rfl, rfl⟩ pr0.out.pat hg0.out (pre_row (zr := [.int .i64 0]) hz0.out rfl) hne hB).mono ?_
    intro e1 w1 hp
    rcases hp.yes with ⟨x1, r1, q1, rfl, hy⟩ | ⟨q1, rfl, kb1⟩
    · rw [q1] at hv
      simp only [Option.bind_some] at hv
      have pr1 := pr0.out.step (zQ := [.int .i64 0]) (z := [.int .i64 0]) rfl hy
      obtain ⟨cs1, ⟨rfl, _⟩, hc1⟩ := hy.2.2.1
      have ck : w1.cell? ⟨g, j + 1, none⟩ = some (.int .i64 x1) := hc1 0 _ rfl
      obtain ⟨cur1, hg1, hz1⟩ := pr1.row
      replace pr1 := Lib.hid pr1
      replace hg1 := Lib.hid hg1
      replace hz1 := Lib.hid hz1
      clear hp hy hc1
      by_cases h3 : x1 ≤ 3
      · rw [if_pos h3] at hv
        have t3 : decide (x1 ≤ 3) = true := by simpa using h3
        go_wp2_with fail
        refine ((mnum_ok (.int .i64 0)).at ⟨rfl, rfl, rfl, rfl⟩ pr1.out.pat hg1.out (fun i u hu => hz1.out i u hu) hne hB).mono ?_
        intro e2 w2 hp
        rcases hp.yes with ⟨x2, r2, q2, rfl, hy⟩ | ⟨q2, rfl, kb2⟩
        · rw [q2] at hv
          simp only [Option.bind_some] at hv
          have pr2 := Lib.hid (pr1.out.step (zQ := [.int .i64 0]) (z := []) rfl hy)
          clear hp hy
          go_wp2_with fail
          go_ret
          exact pr2.out.fin (R2 := rExp) (y := ⟨x0, x1, x2⟩) hv.out rfl (fun cs h => h)
        · rw [q2] at hv
          replace kb2 := Lib.hid (pr1.out.bad kb2)
          clear hp
          go_wp2_with fail
          go_ret
          exact .inr ⟨hv.out, rfl, kb2.out⟩
      · rw [if_neg h3] at hv
        have t3 : decide (x1 ≤ 3) = false := by simpa using h3
        go_wp2_with fail
        go_ret
        exact .inr ⟨hv.out, rfl, pr1.out.fr.kb⟩
    · rw [q1] at hv
      replace kb1 := Lib.hid (pr0.out.bad kb1)
      clear hp
      go_wp2_with fail
      go_ret
      exact .inr ⟨hv.out, rfl, kb1.out⟩
  · rw [q0] at hv
    replace kb0 := Lib.hid kb0
    clear hp
    go_wp2_with fail
    go_ret
    exact .inr ⟨hv.out, rfl, kb0.out⟩
theorem head_rd (bs : List Nat) : M.cHead.rd bs = (M.num bs).bind fun p => some (⟨p.1, [], .nil⟩, p.2) := rfl
theorem NS.nil (w : World) (S : Nat → Prop) : NS w S (.slice none 0 0) [] := ⟨none, 0, rfl, ⟨by simp, by simp, by unfold maxLen; omega⟩, fun i hi => by simp at hi⟩
theorem LS.nil (w : World) (S : Nat → Prop) : LS w S (.slice none 0 0) .nil := ⟨none, 0, rfl, ⟨by simp [M.L.len], by simp [M.L.len], by unfold maxLen; omega⟩, .inl rfl⟩
set_option maxRecDepth 100000 in
theorem mhead_ok : MdOk 163 rFn [.int .i64 0, .slice none 0 0, .slice none 0 0] M.cHead.rd := by
  intro B P g j t cur bs w h hg hz hne hB
  have hv := Lib.hid (head_rd bs)
  have cN := Lib.hid ((mnum_ok (.int .i64 0)).at ⟨rfl, rfl, rfl, rfl⟩ h hg (pre_row (zr := [.slice none 0 0, .slice none 0 0]) hz rfl) hne hB)
  have st := Lib.hid (fun x r w' hy => Prog.start (R := rInt) (x := x) (r := r) (w' := w') (zR := [.int .i64 0]) (z := [.slice none 0 0, .slice none 0 0]) h hg hz rfl hne hB hy)
  clear h hg hz
  go_enter Tryz.func163, Tryz.ntmps163
  go_wp2_with fail
  refine cN.out.mono ?_
  intro e0 w0 hp
  rcases hp.yes with ⟨x0, r0, q0, rfl, hy⟩ | ⟨q0, rfl, kb0⟩
  · rw [q0] at hv
    simp only [Option.bind_some] at hv
    have pr := Lib.hid (((st.out x0 r0 w0 hy).fill (Q := rNums) [] (zQ := [.slice none 0 0]) (z := [.slice none 0 0]) rfl (fun w S => ⟨_, rfl, NS.nil w S⟩)).fill (Q := rL) .nil (zQ := [.slice none 0 0]) (z := []) rfl (fun w S => ⟨_, rfl, LS.nil w S⟩))
    clear hp hy
    go_wp2_with fail
    go_ret
    exact pr.out.fin (R2 := rFn) (y := ⟨x0, [], .nil⟩) hv.out rfl (fun cs h => h)
  · rw [q0] at hv
    replace kb0 := Lib.hid kb0
    clear hp
    go_wp2_with fail
    go_ret
    exact .inr ⟨hv.out, rfl, kb0.out⟩
end Go.Proofs.YtmejgbbdehndaaaGreat

/-
  What the program's reader of imports answers; condition: the place lies in memory that was there at the call, what is read into in other memory.
-/
namespace Go.Proofs.YtmejgbbdehndaaaGreat
open Go.RowKit
theorem imp_rd (bs : List Nat) : M.cImp.rd bs = (M.cName.rd bs).bind fun p0 => (M.cName.rd p0.2).bind fun p1 => ((M.cByteI fun _ => true).rd p1.2).bind fun p2 => ((M.cWhat p2.1).rd p2.2).bind fun p3 => some (⟨p0.1, p1.1, p2.1, p3.1.1, p3.1.2.1, p3.1.2.2⟩, p3.2) := by
  simp only [M.cImp, M.cMap, M.cSeq, Option.bind_assoc, Option.bind_some]
theorem what0 (bs : List Nat) : (M.cWhat 0).rd bs = (M.num bs).bind fun p => some ((p.1, false, ⟨0, 0⟩), p.2) := rfl
theorem what1 (bs : List Nat) : (M.cWhat 1).rd bs = (M.cTab.rd bs).bind fun p => some ((0, false, p.1), p.2) := rfl
theorem what2 (bs : List Nat) : (M.cWhat 2).rd bs = (M.cLim.rd bs).bind fun p => some ((0, false, p.1), p.2) := rfl
theorem what3 (bs : List Nat) : (M.cWhat 3).rd bs = (M.cVal.rd bs).bind fun p => (M.cFlag.rd p.2).bind fun q => some ((p.1, q.1, ⟨0, 0⟩), q.2) := by
  show (((M.cVal.rd bs).bind fun p => (M.cFlag.rd p.2).bind fun q => some ((p.1, q.1), q.2)).bind fun p => some ((p.1.1, p.1.2, (⟨0, 0⟩ : M.Lim)), p.2)) = _
  simp only [Option.bind_assoc, Option.bind_some]
theorem what9 (k : Int) (bs : List Nat) (h0 : k ≠ 0) (h1 : k ≠ 1) (h2 : k ≠ 2) (h3 : k ≠ 3) : (M.cWhat k).rd bs = none := by
  unfold M.cWhat
  rw [if_neg h0, if_neg h1, if_neg h2, if_neg h3]
  rfl
theorem zlim (w : World) (S : Nat → Prop) : rLim.is w S ⟨0, 0⟩ [.int .i64 0, .int .i64 0] := ⟨[_], [_], rfl, ⟨rfl, ⟨by decide, by decide⟩⟩, ⟨rfl, ⟨by decide, by decide⟩⟩⟩
set_option maxRecDepth 100000 in
set_option maxHeartbeats 8000000 in
theorem mimp_ok : MdOk 161 rImp [.string ByteArray.empty, .string ByteArray.empty, .int .i64 0, .int .i64 0, .bool false, .int .i64 0, .int .i64 0] M.cImp.rd := by
  intro B P g j t cur bs w h hg hz hne hB
  have hv := Lib.hid (imp_rd bs)
  have hPl := h.lt
  have hgl := lt_row hg
  replace hg := Lib.hid hg
  replace hz := Lib.hid hz
  replace h := Lib.hid h
  go_enter Tryz.func161, Tryz.ntmps161
  go_wp2_with fail
  refine ((mname_ok (.string ByteArray.empty)).at ⟨rfl, rfl, rfl, rfl⟩ h.out hg.out (pre_row (zr := [.string ByteArray.empty, .int .i64 0, .int .i64 0, .bool false, .int .i64 0, .int .i64 0]) hz.out rfl) hne hB).mono ?_
  intro e0 w0 hp
  rcases hp.yes with ⟨x0, r0, q0, rfl, hy⟩ | ⟨q0, rfl, kb0⟩
  · rw [q0] at hv
    simp only [Option.bind_some] at hv
    have pr0 := Prog.start (zR := [.string ByteArray.empty]) (z := [.string ByteArray.empty, .int .i64 0, .int .i64 0, .bool false, .int .i64 0, .int .i64 0]) h.out hg.out hz.out rfl hne hB hy
    obtain ⟨cur0, hg0, hz0⟩ := pr0.row
    replace pr0 := Lib.hid pr0
    replace hg0 := Lib.hid hg0
    replace hz0 := Lib.hid hz0
    clear hp hy
    go_wp2_with fail
    refine ((mname_ok (.string ByteArray.empty)).at ⟨rfl, rfl, rfl, rfl⟩ pr0.out.pat hg0.out (pre_row (zr := [.int .i64 0, .int .i64 0, .bool false, .int .i64 0, .int .i64 0]) hz0.out rfl) hne hB).mono ?_
    intro e1 w1 hp
    rcases hp.yes with ⟨x1, r1, q1, rfl, hy⟩ | ⟨q1, rfl, kb1⟩
    · rw [q1] at hv
      simp only [Option.bind_some] at hv
      have pr1 := pr0.out.step (zQ := [.string ByteArray.empty]) (z := [.int .i64 0, .int .i64 0, .bool false, .int .i64 0, .int .i64 0]) rfl hy
      obtain ⟨cur1, hg1, hz1⟩ := pr1.row
      replace pr1 := Lib.hid pr1
      replace hg1 := Lib.hid hg1
      replace hz1 := Lib.hid hz1
      clear hp hy
      go_wp2_with fail
      refine ((mbyte_ok (.int .i64 0)).at ⟨rfl, rfl, rfl, rfl⟩ pr1.out.pat hg1.out (pre_row (zr := [.int .i64 0, .bool false, .int .i64 0, .int .i64 0]) hz1.out rfl) hne hB).mono ?_
      intro e2 w2 hp
      rcases hp.yes with ⟨x2, r2, q2, rfl, hy⟩ | ⟨q2, rfl, kb2⟩
      · rw [q2] at hv
        simp only [Option.bind_some] at hv
        have pr2 := pr1.out.step (zQ := [.int .i64 0]) (z := [.int .i64 0, .bool false, .int .i64 0, .int .i64 0]) rfl hy
        obtain ⟨cs1, ⟨rfl, _⟩, hc1⟩ := hy.2.2.1
        have ck : w2.cell? ⟨g, j + 2, none⟩ = some (.int .i64 x2) := hc1 0 _ rfl
        obtain ⟨cur2, hg2, hz2⟩ := pr2.row
        replace pr2 := Lib.hid pr2
        replace hg2 := Lib.hid hg2
        replace hz2 := Lib.hid hz2
        clear hp hy hc1
        by_cases k0 : x2 = 0
        · subst k0
          rw [what0] at hv
          go_wp2_with fail
          refine ((mnum_ok (.int .i64 0)).at ⟨rfl, rfl, rfl, rfl⟩ pr2.out.pat hg2.out (pre_row (zr := [.bool false, .int .i64 0, .int .i64 0]) hz2.out rfl) hne hB).mono ?_
          intro e3 w3 hp
          rcases hp.yes with ⟨x3, r3, q3, rfl, hy⟩ | ⟨q3, rfl, kb3⟩
          · rw [q3] at hv
            simp only [Option.bind_some] at hv
            have pr3 := Lib.hid (((pr2.out.step (zQ := [.int .i64 0]) (z := [.bool false, .int .i64 0, .int .i64 0]) rfl hy).fill (Q := rBool) false (zQ := [.bool false]) (z := [.int .i64 0, .int .i64 0]) rfl (fun _ _ => rfl)).fill (Q := rLim) ⟨0, 0⟩ (zQ := [.int .i64 0, .int .i64 0]) (z := []) rfl zlim)
            clear hp hy
            go_wp2_with fail
            go_ret
            exact pr3.out.fin (R2 := rImp) (y := ⟨x0, x1, 0, x3, false, ⟨0, 0⟩⟩) hv.out rfl (fun cs h => h)
          · rw [q3] at hv
            replace kb3 := Lib.hid (pr2.out.bad kb3)
            clear hp
            go_wp2_with fail
            go_ret
            exact .inr ⟨hv.out, rfl, kb3.out⟩
        · by_cases k1 : x2 = 1
          · subst k1
            rw [what1] at hv
            have pr2' := Lib.hid ((pr2.out.fill (Q := rInt) 0 (zQ := [.int .i64 0]) (z := [.bool false, .int .i64 0, .int .i64 0]) rfl (fun _ _ => ⟨rfl, ⟨by decide, by decide⟩⟩)).fill (Q := rBool) false (zQ := [.bool false]) (z := [.int .i64 0, .int .i64 0]) rfl (fun _ _ => rfl))
            obtain ⟨cur3, hg3, hz3⟩ := pr2'.out.row
            replace hg3 := Lib.hid hg3
            replace hz3 := Lib.hid hz3
            go_wp2_with fail
            refine (mtab_ok.at ⟨rfl, rfl, rfl, rfl⟩ pr2'.out.pat hg3.out hz3.out hne hB).mono ?_
            intro e3 w3 hp
            rcases hp.yes with ⟨x3, r3, q3, rfl, hy⟩ | ⟨q3, rfl, kb3⟩
            · rw [q3] at hv
              simp only [Option.bind_some] at hv
              have pr3 := Lib.hid (pr2'.out.step (zQ := [.int .i64 0, .int .i64 0]) (z := []) rfl hy)
              clear hp hy
              go_wp2_with fail
              go_ret
              exact pr3.out.fin (R2 := rImp) (y := ⟨x0, x1, 1, 0, false, x3⟩) hv.out rfl (fun cs h => h)
            · rw [q3] at hv
              replace kb3 := Lib.hid (pr2'.out.bad kb3)
              clear hp
              go_wp2_with fail
              go_ret
              exact .inr ⟨hv.out, rfl, kb3.out⟩
          · by_cases k2 : x2 = 2
            · subst k2
              rw [what2] at hv
              have pr2' := Lib.hid ((pr2.out.fill (Q := rInt) 0 (zQ := [.int .i64 0]) (z := [.bool false, .int .i64 0, .int .i64 0]) rfl (fun _ _ => ⟨rfl, ⟨by decide, by decide⟩⟩)).fill (Q := rBool) false (zQ := [.bool false]) (z := [.int .i64 0, .int .i64 0]) rfl (fun _ _ => rfl))
              obtain ⟨cur3, hg3, hz3⟩ := pr2'.out.row
              replace hg3 := Lib.hid hg3
              replace hz3 := Lib.hid hz3
              go_wp2_with fail
              refine (mlim_ok.at ⟨rfl, rfl, rfl, rfl⟩ pr2'.out.pat hg3.out hz3.out hne hB).mono ?_
              intro e3 w3 hp
              rcases hp.yes with ⟨x3, r3, q3, rfl, hy⟩ | ⟨q3, rfl, kb3⟩
              · rw [q3] at hv
                simp only [Option.bind_some] at hv
                have pr3 := Lib.hid (pr2'.out.step (zQ := [.int .i64 0, .int .i64 0]) (z := []) rfl hy)
                clear hp hy
                go_wp2_with fail
                go_ret
                exact pr3.out.fin (R2 := rImp) (y := ⟨x0, x1, 2, 0, false, x3⟩) hv.out rfl (fun cs h => h)
              · rw [q3] at hv
                replace kb3 := Lib.hid (pr2'.out.bad kb3)
                clear hp
                go_wp2_with fail
                go_ret
                exact .inr ⟨hv.out, rfl, kb3.out⟩
            · by_cases k3 : x2 = 3
              · subst k3
                rw [what3] at hv
                go_wp2_with fail
                refine ((mval_ok (.int .i64 0)).at ⟨rfl, rfl, rfl, rfl⟩ pr2.out.pat hg2.out (pre_row (zr := [.bool false, .int .i64 0, .int .i64 0]) hz2.out rfl) hne hB).mono ?_
                intro e3 w3 hp
                rcases hp.yes with ⟨x3, r3, q3, rfl, hy⟩ | ⟨q3, rfl, kb3⟩
                · rw [q3] at hv
                  simp only [Option.bind_some] at hv
                  have pr3 := Lib.hid (pr2.out.step (zQ := [.int .i64 0]) (z := [.bool false, .int .i64 0, .int .i64 0]) rfl hy)
                  obtain ⟨cur3, hg3, hz3⟩ := pr3.out.row
                  replace hg3 := Lib.hid hg3
                  replace hz3 := Lib.hid hz3
                  clear hp hy
                  go_wp2_with fail
                  refine ((mflag_ok (.bool false)).at ⟨rfl, rfl, rfl, rfl⟩ pr3.out.pat hg3.out (pre_row (zr := [.int .i64 0, .int .i64 0]) hz3.out rfl) hne hB).mono ?_
                  intro e4 w4 hp
                  rcases hp.yes with ⟨x4, r4, q4, rfl, hy⟩ | ⟨q4, rfl, kb4⟩
                  · rw [q4] at hv
                    simp only [Option.bind_some] at hv
                    have pr4 := Lib.hid ((pr3.out.step (zQ := [.bool false]) (z := [.int .i64 0, .int .i64 0]) rfl hy).fill (Q := rLim) ⟨0, 0⟩ (zQ := [.int .i64 0, .int .i64 0]) (z := []) rfl zlim)
                    clear hp hy
                    go_wp2_with fail
                    go_ret
                    exact pr4.out.fin (R2 := rImp) (y := ⟨x0, x1, 3, x3, x4, ⟨0, 0⟩⟩) hv.out rfl (fun cs h => h)
                  · rw [q4] at hv
                    replace kb4 := Lib.hid (pr3.out.bad kb4)
                    clear hp
                    go_wp2_with fail
                    go_ret
                    exact .inr ⟨hv.out, rfl, kb4.out⟩
                · rw [q3] at hv
                  replace kb3 := Lib.hid (pr2.out.bad kb3)
                  clear hp
                  go_wp2_with fail
                  go_ret
                  exact .inr ⟨hv.out, rfl, kb3.out⟩
              · rw [what9 x2 r2 k0 k1 k2 k3] at hv
                have b0 : (x2 == 0) = false := by rw [beq_eq_false_iff_ne]; exact k0
                have b1 : (x2 == 1) = false := by rw [beq_eq_false_iff_ne]; exact k1
                have b2 : (x2 == 2) = false := by rw [beq_eq_false_iff_ne]; exact k2
                have b3 : (x2 == 3) = false := by rw [beq_eq_false_iff_ne]; exact k3
                go_wp2_with fail
                go_ret
                exact .inr ⟨hv.out, rfl, pr2.out.fr.kb⟩
      · rw [q2] at hv
        replace kb2 := Lib.hid (pr1.out.bad kb2)
        clear hp
        go_wp2_with fail
        go_ret
        exact .inr ⟨hv.out, rfl, kb2.out⟩
    · rw [q1] at hv
      replace kb1 := Lib.hid (pr0.out.bad kb1)
      clear hp
      go_wp2_with fail
      go_ret
      exact .inr ⟨hv.out, rfl, kb1.out⟩
  · rw [q0] at hv
    replace kb0 := Lib.hid kb0
    clear hp
    go_wp2_with fail
    go_ret
    exact .inr ⟨hv.out, rfl, kb0.out⟩
end Go.Proofs.YtmejgbbdehndaaaGreat
