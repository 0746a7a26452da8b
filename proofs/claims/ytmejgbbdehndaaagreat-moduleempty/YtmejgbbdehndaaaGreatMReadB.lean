/-
  What the program's readers of types of values, flags, limits and tables answer; condition: the place lies in memory that was there at the call, what is read into in other memory.
-/
import Derived.Test.YtmejgbbdehndaaaGreatMReadA
namespace Go.Proofs.YtmejgbbdehndaaaGreat
open Go.RowKit
theorem isValueType_any (y : Int) (w : World) : Calls Tryz.prog 179 #[.int .i64 y] w fun e w' => e = .returned (.bool (y == 127 || y == 126)) ∧ w = w' := by
  by_cases h1 : y = 127
  · subst h1
    go_enter Tryz.func179, Tryz.ntmps179
    go_wp2
    go_ret
    exact ⟨rfl, rfl⟩
  · have t1 : (y == 127) = false := by rw [beq_eq_false_iff_ne]; exact h1
    go_enter Tryz.func179, Tryz.ntmps179
    go_wp2
    go_ret
    exact ⟨ret_bool (by rw [t1, Bool.false_or]), rfl⟩
theorem val_byte (bs : List Nat) : M.cVal.rd bs = ((M.cByteI fun _ => true).rd bs).bind fun p => if (p.1 == 127 || p.1 == 126) = true then some p else none := by
  cases bs with
  | nil => rfl
  | cons b r =>
    have e : M.isVal b = ((b : Int) == 127 || (b : Int) == 126) := by
      unfold M.isVal
      by_cases h1 : b = 127
      · subst h1; rfl
      · by_cases h2 : b = 126
        · subst h2; rfl
        · have a1 : ((b : Int) == 127) = false := by rw [beq_eq_false_iff_ne]; omega
          have a2 : ((b : Int) == 126) = false := by rw [beq_eq_false_iff_ne]; omega
          have a3 : (b == 127) = false := by rw [beq_eq_false_iff_ne]; omega
          have a4 : (b == 126) = false := by rw [beq_eq_false_iff_ne]; omega
          rw [a1, a2, a3, a4]
    simp [M.cVal, M.cByteI, e]
set_option maxRecDepth 100000 in
theorem mval_ok (u : Value) : MdOk 195 rInt [u] M.cVal.rd := by
  intro B P g j t cur bs w h hg hz hne hB
  have hv := Lib.hid (val_byte bs)
  have cN := Lib.hid (mbyte_ok u B P g j t cur bs w h hg hz hne hB)
  clear h hg hz
  go_enter Tryz.func195, Tryz.ntmps195
  go_wp2_with fail
  refine cN.out.mono ?_
  rintro e1 w1 (⟨y, r, cs, hrd, rfl, p1, ⟨rfl, hy⟩, hc, fr⟩ | ⟨hrd, rfl, kb⟩)
  · rw [hrd] at hv
    simp only [Option.bind_some] at hv
    have c1 : w1.cell? ⟨g, j, none⟩ = some (.int .i64 y) := hc 0 _ rfl
    have fin := Lib.hid (show ∀ b, (y == 127 || y == 126) = b → MdPost rInt M.cVal.rd B P g j bs w (.returned (.bool b)) w1 from fun b hb => by
      cases b with
      | true => exact .inl ⟨y, r, _, by rw [hv.out, if_pos hb], rfl, p1, ⟨rfl, hy⟩, hc, fr⟩
      | false => exact .inr ⟨by rw [hv.out, if_neg (by rw [hb]; exact Bool.false_ne_true)], rfl, fr.kb⟩)
    clear hc fr p1
    go_wp2_with fail
    refine (isValueType_any y _).mono ?_
    rintro e2 w2 ⟨rfl, rfl⟩
    obtain ⟨b, hb⟩ : ∃ b, (y == 127 || y == 126) = b := ⟨_, rfl⟩
    rw [hb]
    have fb := Lib.hid (fin.out b hb)
    clear hb fin
    go_wp2_with fail
    all_goals go_ret
    all_goals first | exact fb.out | (rename_i hq; cases hq; exact fb.out) | (simp_all; done)
  · rw [hrd] at hv
    replace kb := Lib.hid kb
    go_wp2_with fail
    go_ret
    exact .inr ⟨hv.out, rfl, kb.out⟩
theorem flag_byte (bs : List Nat) : M.cFlag.rd bs = ((M.cByteI fun _ => true).rd bs).bind fun p => if p.1 ≤ 1 then some (p.1 == 1, p.2) else none := by
  cases bs with
  | nil => rfl
  | cons b r =>
    by_cases h : b ≤ 1
    · have h' : (b : Int) ≤ 1 := by omega
      have e : (b == 1) = ((b : Int) == 1) := by
        by_cases h1 : b = 1
        · subst h1; rfl
        · have a1 : ((b : Int) == 1) = false := by rw [beq_eq_false_iff_ne]; omega
          rw [a1, beq_eq_false_iff_ne]; exact h1
      simp [M.cFlag, M.cByteI, h, h', e]
    · have h' : ¬ (b : Int) ≤ 1 := by omega
      simp [M.cFlag, M.cByteI, h, h']
theorem byte_rng {bs r : List Nat} {y : Int} (h : (M.cByteI fun _ => true).rd bs = some (y, r)) : 0 ≤ y := by
  cases bs with
  | nil => cases h
  | cons b s => simp [M.cByteI] at h; omega
set_option maxRecDepth 100000 in
theorem mflag_ok (u : Value) : MdOk 196 rBool [u] M.cFlag.rd := by
  intro B P g j t cur bs w h hg hz hne hB
  have hv := Lib.hid (flag_byte bs)
  have hPl := h.lt
  have hPlo := h.lo
  have hgl := lt_row hg
  have ha := Lib.hid (h.alloc (.cells #[.int .i64 0] 3))
  have hPg : ¬ P = g := fun e => hne e.symm
  replace hg := Lib.hid hg
  replace hz := Lib.hid hz
  clear h
  go_enter Tryz.func196, Tryz.ntmps196
  go_wp2_with fail
  refine (mbyte_ok (.int .i64 0) B P w.heap.size 0 3 #[.int .i64 0] bs _ ha.out (heap_alloc_new w _) (one_row _) (by omega) (by omega)).mono ?_
  rintro e1 w1 (⟨y, r, cs, hrd, rfl, p1, ⟨rfl, hy⟩, hc, fr⟩ | ⟨hrd, rfl, kb⟩)
  · have y0 := byte_rng hrd
    rw [hrd] at hv
    simp only [Option.bind_some] at hv
    have c1 : w1.cell? ⟨w.heap.size, 0, none⟩ = some (.int .i64 y) := hc 0 _ rfl
    have kb := kb_new fr.kb
    have hg1 : w1.heap[g]? = some (.cells cur t (0, 0)) := by rw [kb.block g hgl hne]; exact hg.out
    have cj : w1.cell? ⟨g, j, none⟩ = some u := (cell_row hg1 j).trans (hz.out 0 u rfl)
    have fj := frozen_row hg1 j
    replace hg1 := Lib.hid hg1
    replace kb := Lib.hid kb
    replace p1 := Lib.hid p1
    clear hc fr
    by_cases h1 : y ≤ 1
    · have fin := Lib.hid (show MdPost rBool M.cFlag.rd B P g j bs w (.returned (.bool true)) (w1.setCell ⟨g, j, none⟩ (.bool (y == 1))) from
        .inl ⟨y == 1, r, [.bool (y == 1)], by rw [hv.out, if_pos h1], rfl, p1.out.set hne hB _, rfl, fun i v hi => (by
          cases i with
          | zero => cases hi; exact World.cell?_setCell_same _ _ _ cj
          | succ i => cases hi), (Fr.of_kb kb.out hgl hne).trans (Fr.set w1 j _ (Nat.le_refl _) (by show j < j + 1; omega))⟩)
      go_wp2_with fail
      go_ret
      exact fin.out
    · go_wp2_with fail
      go_ret
      exact .inr ⟨by rw [hv.out, if_neg (by omega)], rfl, kb_g kb.out⟩
  · rw [hrd] at hv
    replace kb := Lib.hid (kb_new kb)
    go_wp2_with fail
    go_ret
    exact .inr ⟨hv.out, rfl, kb_g kb.out⟩
end Go.Proofs.YtmejgbbdehndaaaGreat

/-
  What the program's readers of limits and tables answer; condition: the place lies in memory that was there at the call, what is read into in other memory.
-/
namespace Go.Proofs.YtmejgbbdehndaaaGreat
open Go.RowKit
theorem Prog.base {α : Type} {R : Rep α} {x : α} {z : List Value} {B P g j t : Nat} {r : List Nat} {w w0 w' : World} (h : Prog R x z B P g j t r w0 w') (kb : Kb (· = P) w w0) (hg : g < w.heap.size) (hP : P < w.heap.size) : Prog R x z B P g j t r w w' := by
  obtain ⟨cs, cur, h1, h2, h3, h4⟩ := h.cells
  have hs := kb.size
  exact ⟨h.pat, ⟨cs, cur, R.agree h1 (fun _ _ => rfl) (fun k hk => ⟨by have := hk.1; omega, hk.2⟩), h2, h3, h4⟩, (Fr.of_kb kb hg h.ne).trans h.fr, hg, h.ne, hP, h.hB⟩
/-- A value has been stored into the next cell. -/
theorem put_here {α : Type} {Q : Rep α} {y : α} {v u : Value} {B P g j t : Nat} {cur : Array Value} {r : List Nat} {w : World} (p1 : PAt B w P r) (hg : w.heap[g]? = some (.cells cur t (0, 0))) (hu : cur[j]? = some u) (hne : g ≠ P) (hB : B ≤ g) (h1 : Q.sz = 1) (hi : ∀ w S, Q.is w S y [v]) : YesPost Q y r B P g j w (.returned (.bool true)) (w.setCell ⟨g, j, none⟩ v) := by
  refine ⟨rfl, p1.set hne hB v, ⟨[v], hi _ _, fun i x hx => ?_⟩, Fr.set w j v (Nat.le_refl _) (by rw [h1]; omega)⟩
  cases i with
  | zero => cases hx; exact World.cell?_setCell_same _ _ _ ((cell_row hg j).trans hu)
  | succ i => cases hx
theorem lim_rd (bs : List Nat) : M.cLim.rd bs = (M.cFlag.rd bs).bind fun p => (M.num p.2).bind fun q => match p.1 with
    | true => (M.num q.2).bind fun s => some (⟨q.1, s.1⟩, s.2)
    | false => some (⟨q.1, -1⟩, q.2) := by
  simp only [M.cLim, M.cMap, M.cSeq, M.cNum]
  cases M.cFlag.rd bs with
  | none => rfl
  | some p =>
    simp only [Option.bind_some]
    cases M.num p.2 with
    | none => rfl
    | some q =>
      simp only [Option.bind_some]
      cases p.1 with
      | true => simp only [M.cMax, M.cNum]; cases M.num q.2 <;> rfl
      | false => rfl
theorem two_row {v0 v1 : Value} {cur : Array Value} {j : Nat} (h : ∀ i u, [v0, v1][i]? = some u → cur[j + i]? = some u) : cur[j]? = some v0 ∧ cur[j + 1]? = some v1 := ⟨h 0 _ rfl, h 1 _ rfl⟩
set_option maxRecDepth 100000 in
theorem mlim_ok : MdOk 166 rLim [.int .i64 0, .int .i64 0] M.cLim.rd := by
  intro B P g j t cur bs w h hg hz hne hB
  have hv := Lib.hid (lim_rd bs)
  have hPl := h.lt
  have hPlo := h.lo
  have hgl := lt_row hg
  have ha := Lib.hid (h.alloc (.cells #[.bool false] 4))
  have hPg : ¬ P = g := fun e => hne e.symm
  replace hg := Lib.hid hg
  replace hz := Lib.hid hz
  clear h
  go_enter Tryz.func166, Tryz.ntmps166
  go_wp2_with fail
  refine ((mflag_ok (.bool false)) B P w.heap.size 0 4 #[.bool false] bs _ ha.out (heap_alloc_new w _) (one_row _) (by omega) (by omega)).mono ?_
  rintro e1 w1 (⟨b, r1, cs, hrd, rfl, p1, rfl, hc, fr⟩ | ⟨hrd, rfl, kb⟩)
  · rw [hrd] at hv
    simp only [Option.bind_some] at hv
    have c1 : w1.cell? ⟨w.heap.size, 0, none⟩ = some (.bool b) := hc 0 _ rfl
    have kb := kb_new fr.kb
    have hs1 : w.heap.size < w1.heap.size := by have := fr.kb.size; simp at this; omega
    have hg1 : w1.heap[g]? = some (.cells cur t (0, 0)) := by rw [kb.block g hgl hne]; exact hg.out
    replace hg1 := Lib.hid hg1
    replace kb := Lib.hid kb
    replace p1 := Lib.hid p1
    clear hc fr
    cases hn : M.num r1 with
    | none =>
      rw [hn] at hv
      replace hn := Lib.hid hn
      go_wp2_with fail
      refine ((mnum_ok (.int .i64 0)).no hn.out p1.out hg1.out (fun i u hu => by cases i with | zero => exact hz.out 0 _ hu | succ i => cases hu) hne hB ⟨rfl, rfl, rfl, rfl⟩).mono ?_
      rintro e2 w2 ⟨rfl, kb2⟩
      have kb3 := Lib.hid ((kb_g kb.out).trans kb2)
      clear kb2
      go_wp2_with fail
      go_ret
      exact .inr ⟨hv.out, rfl, kb3.out⟩
    | some q =>
      obtain ⟨mn, r2⟩ := q
      rw [hn] at hv
      simp only [Option.bind_some] at hv
      replace hn := Lib.hid hn
      go_wp2_with fail
      refine ((mnum_ok (.int .i64 0)).yes hn.out p1.out hg1.out (fun i u hu => by cases i with | zero => exact hz.out 0 _ hu | succ i => cases hu) hne hB ⟨rfl, rfl, rfl, rfl⟩).mono ?_
      intro e2 w2 hy
      obtain rfl := hy.1
      have c2 : w2.cell? ⟨w.heap.size, 0, none⟩ = some (.bool b) := (World.cell?_of_block (w := w1) (hy.2.2.2.kb.block w.heap.size hs1 (by omega))).trans c1
      have pr : Prog rInt mn [.int .i64 0] B P g j t r2 w w2 := (Prog.start (zR := [.int .i64 0]) p1.out hg1.out hz.out rfl hne hB hy).base kb.out hgl hPl
      obtain ⟨cur2, hg2, hz2⟩ := pr.row
      have hz2 : cur2[j + 1]? = some (.int .i64 0) := hz2 0 _ rfl
      have c3 : w2.cell? ⟨g, j + 1, none⟩ = some (.int .i64 0) := (cell_row hg2 _).trans hz2
      have f3 := frozen_row hg2 (j + 1)
      replace pr := Lib.hid pr
      replace hg2 := Lib.hid hg2
      replace hz2 := Lib.hid hz2
      clear hy c1
      cases b with
      | false =>
        go_wp2_with fail
        go_ret
        exact (pr.out.step (zQ := [.int .i64 0]) (z := []) (Q := rInt) rfl (put_here (v := .int .i64 (-1)) (y := -1) pr.out.pat hg2.out hz2.out hne hB rfl (fun _ _ => ⟨rfl, ⟨by omega, by omega⟩⟩))).fin hv.out rfl (fun cs h => h)
      | true =>
        simp only at hv
        cases hm : M.num r2 with
        | none =>
          rw [hm] at hv
          replace hm := Lib.hid hm
          go_wp2_with fail
          refine ((mnum_ok (.int .i64 0)).no hm.out pr.out.pat hg2.out (fun i u hu => by cases i with | zero => cases hu; exact hz2.out | succ i => cases hu) hne hB ⟨rfl, rfl, rfl, rfl⟩).mono ?_
          rintro e3 w3 ⟨rfl, kb3⟩
          have kb4 := Lib.hid (pr.out.bad kb3)
          clear kb3
          go_wp2_with fail
          go_ret
          exact .inr ⟨hv.out, rfl, kb4.out⟩
        | some s =>
          obtain ⟨mx, r3⟩ := s
          rw [hm] at hv
          replace hm := Lib.hid hm
          go_wp2_with fail
          refine ((mnum_ok (.int .i64 0)).yes hm.out pr.out.pat hg2.out (fun i u hu => by cases i with | zero => cases hu; exact hz2.out | succ i => cases hu) hne hB ⟨rfl, rfl, rfl, rfl⟩).mono ?_
          intro e3 w3 hy
          obtain rfl := hy.1
          have pr3 := Lib.hid (pr.out.step (zQ := [.int .i64 0]) (z := []) rfl hy)
          clear hy
          go_wp2_with fail
          go_ret
          exact pr3.out.fin hv.out rfl (fun cs h => h)
  · rw [hrd] at hv
    replace kb := Lib.hid (kb_new kb)
    go_wp2_with fail
    go_ret
    exact .inr ⟨hv.out, rfl, kb_g kb.out⟩
theorem tab_rd (bs : List Nat) : M.cTab.rd bs = ((M.cFix 112).rd bs).bind fun p => M.cLim.rd p.2 := by
  simp only [M.cTab, M.cMap, M.cSeq]
  cases (M.cFix 112).rd bs with
  | none => rfl
  | some p =>
    simp only [Option.bind_some]
    cases M.cLim.rd p.2 <;> rfl
theorem MdPost.base {α : Type} {R : Rep α} {rd rd' : List Nat → Option (α × List Nat)} {B P g j : Nat} {bs bs' : List Nat} {w w0 w' : World} {e : Ending} (h : MdPost R rd B P g j bs w0 e w') (kb : Kb (· = P) w w0) (hg : g < w.heap.size) (hgP : g ≠ P) (hrd : rd' bs' = rd bs) : MdPost R rd' B P g j bs' w e w' := by
  have hs := kb.size
  rcases h with ⟨x, r, cs, q1, q2, q3, q4, q5, q6⟩ | ⟨q1, q2, q3⟩
  · exact .inl ⟨x, r, cs, hrd.trans q1, q2, q3, R.agree q4 (fun _ _ => rfl) (fun k hk => ⟨by have := hk.1; omega, hk.2⟩), q5, (Fr.of_kb kb hg hgP).trans q6⟩
  · exact .inr ⟨hrd.trans q1, q2, (kb_g kb).trans q3⟩
set_option maxRecDepth 100000 in
theorem mtab_ok : MdOk 165 rLim [.int .i64 0, .int .i64 0] M.cTab.rd := by
  intro B P g j t cur bs w h hg hz hne hB
  have hv := Lib.hid (tab_rd bs)
  have hgl := lt_row hg
  replace hg := Lib.hid hg
  replace hz := Lib.hid hz
  have cN := Lib.hid (mfixed_any 112 B P bs w h (by omega))
  clear h
  go_enter Tryz.func165, Tryz.ntmps165
  go_wp2_with fail
  refine cN.out.mono ?_
  rintro e1 w1 (⟨r1, hrd, rfl, p1, kb⟩ | ⟨hrd, rfl, kb⟩)
  · rw [hrd] at hv
    simp only [Option.bind_some] at hv
    have hg1 := Lib.hid (show w1.heap[g]? = some (.cells cur t (0, 0)) by rw [kb.block g hgl hne]; exact hg.out)
    replace kb := Lib.hid kb
    have cM := Lib.hid (mlim_ok B P g j t cur r1 w1 p1 hg1.out hz.out hne hB)
    clear p1
    go_wp2_with fail
    refine cM.out.mono ?_
    intro e2 w2 hp
    have hp2 := hp.base kb.out hgl hne hv.out
    rcases hp with ⟨x, r, cs, q1, rfl, _⟩ | ⟨q1, rfl, _⟩
    all_goals
      replace hp2 := Lib.hid hp2
      go_wp2_with fail
      go_ret
      exact hp2.out
  · rw [hrd] at hv
    replace kb := Lib.hid kb
    go_wp2_with fail
    go_ret
    exact .inr ⟨hv.out, rfl, kb_g kb.out⟩
end Go.Proofs.YtmejgbbdehndaaaGreat
