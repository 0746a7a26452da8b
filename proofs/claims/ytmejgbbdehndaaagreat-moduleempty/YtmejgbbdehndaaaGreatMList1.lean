/-
  What the program's readers of vectors answer, one for each kind of element; condition: the place lies in memory that was there at the call, the slice that is read into is empty.
-/
import Derived.Test.YtmejgbbdehndaaaGreatMList
namespace Go.Proofs.YtmejgbbdehndaaaGreat
open Go.RowKit
theorem info_val : (Tryz.prog.info? 3).map (fun i => (i.zero, i.size, i.bytes)) = some (some (.int .i64 0), 1, 8) := by kernel_rfl
set_option maxRecDepth 100000 in
set_option maxHeartbeats 4000000 in
theorem list_val : MlOk 194 (.func (.func 195) #[] #[]) (rLst rInt) (M.vec M.cVal).rd := by
  intro B P g j t cur bs w h hg hcj hne hB
  obtain ⟨i0, hi0, hz0, hz1, hz2⟩ := info_parts info_val
  have hv := Lib.hid (vec_rd M.cVal bs)
  have hPl := h.lt
  have hPlo := h.lo
  have hgl := lt_row hg
  have ha := Lib.hid (h.alloc (.cells #[.int .i64 0] 3))
  have hPg : ¬ P = g := fun e => hne e.symm
  replace hg := Lib.hid hg
  replace hcj := Lib.hid hcj
  clear h
  go_enter Tryz.func194, Tryz.ntmps194
  go_wp2_with fail
  refine (mnum_ok (.int .i64 0) B P w.heap.size 0 3 #[.int .i64 0] bs _ ha.out (heap_alloc_new w _) (one_row _) (by omega) (by omega)).mono ?_
  rintro e1 w1 (⟨y, r0, cs, hrd, rfl, p1, ⟨rfl, hy⟩, hc, fr⟩ | ⟨hrd, rfl, kb⟩)
  · have hy0 := (M.num_short hrd).1
    unfold M.inR at hy0
    obtain ⟨y0, y1⟩ := hy0
    obtain ⟨n, rfl⟩ := Int.eq_ofNat_of_zero_le y0
    rw [hrd] at hv
    simp only [Option.bind_some, Int.toNat_natCast] at hv
    have c1 : w1.cell? ⟨w.heap.size, 0, none⟩ = some (.int .i64 n) := hc 0 _ rfl
    have kb := kb_new fr.kb
    have hs1 : w.heap.size < w1.heap.size := by have := fr.kb.size; simp at this; omega
    have hg1 : w1.heap[g]? = some (.cells cur t (0, 0)) := by rw [kb.block g hgl hne]; exact hg.out
    have rel0 := Lib.hid (show LRelG rInt 3 M.cVal B P g j t n r0 w (.int .i64 ((0 : Nat) : Int)) w1 from ⟨0, r0, [], _, [], cur, by omega, rfl, p1, hg1, hcj.out, World.ownsRow_nil _ _ _ _, rfl, Fr.of_kb kb hgl hne, rfl, by cases M.rTimes M.cVal n r0 <;> rfl⟩)
    replace kb := Lib.hid kb
    clear hc fr p1 hg1 y0 y1
    by_cases h128 : n ≤ 128
    · rw [if_pos (by omega)] at hv
      go_wp2_with fail
      go_loopw [8, 17] (fun _ i w' => LRelG rInt 3 M.cVal B P g j t n r0 w i w') (fun _ i _ => n - (intOf i).toNat)
      case atStart => exact rel0.out
      case round =>
        have hrel0 := Lib.hid hrel
        obtain ⟨k, q, done, v, cs, cur2, hk, rfl, p2, hg2, hcv, own, hro, fr, hdl, hrt⟩ := hrel
        have hwr : w.heap.size ≤ wr.heap.size := fr.kb.size
        have pa := Lib.hid (p2.alloc (.cells #[.int .i64 0] 3))
        clear rel0
        replace hro := Lib.hid hro
        replace hrt := Lib.hid hrt
        replace own := Lib.hid own
        replace fr := Lib.hid fr
        replace hg2 := Lib.hid hg2
        replace hcv := Lib.hid hcv
        clear p2
        by_cases hlt : k < n
        · have hwP : wr.heap.size ≠ P := by omega
          have hwB : B ≤ wr.heap.size := by omega
          cases hx : (M.cVal).rd q with
          | none =>
            have hnone := Lib.hid (show (M.vec M.cVal).rd bs = none by
              rw [hv.out, hrt.out, show n - k = (n - (k + 1)) + 1 by omega, M.rTimes, hx]; rfl)
            replace hx := Lib.hid hx
            go_wp2_with fail
            refine ((mval_ok (.int .i64 0)).no hx.out pa.out (heap_alloc_new wr _) (fun i u hu => by rw [Nat.zero_add]; simpa using hu) hwP hwB ⟨rfl, rfl, rfl, rfl⟩).mono ?_
            rintro e2 w2 ⟨rfl, kb2⟩
            have kb3 := Lib.hid (fr.out.kb.trans (kb_g (g := g) (kb_new kb2)))
            clear kb2
            go_wp2_with fail
            go_ret
            exact .inr ⟨hnone.out, rfl, kb3.out⟩
          | some xr =>
            obtain ⟨x, r2⟩ := xr
            replace hx := Lib.hid hx
            go_wp2_with fail
            refine ((mval_ok (.int .i64 0)).yes hx.out pa.out (heap_alloc_new wr _) (fun i u hu => by rw [Nat.zero_add]; simpa using hu) hwP hwB ⟨rfl, rfl, rfl, rfl⟩).mono ?_
            rintro e2 w2 ⟨rfl, p3, ⟨xs, his, hxc⟩, fr3⟩
            have hs3 : wr.heap.size < w2.heap.size := by have := fr3.kb.size; simp at this; omega
            have hlen := rInt.len his
            have hone := Lib.hid (rInt.one his)
            have hq := his.1
            subst hq
            have xc0 : w2.cell? ⟨wr.heap.size, 0, none⟩ = some (.int .i64 x) := hxc 0 _ rfl
            have kb3 := kb_new fr3.kb
            have hg3 : w2.heap[g]? = some (.cells cur2 t (0, 0)) := by rw [kb3.block g (by omega) hne]; exact hg2.out
            have cg : w2.cell? ⟨g, j, none⟩ = some v := (cell_row hg3 j).trans hcv.out
            have fg := frozen_row hg3 j
            have vne : ∀ b, v.ownBlock = some b → b ≠ P ∧ b ≠ g := fun b hb => by have := (own.out.lt b hb).1; omega
            have own3 := Lib.hid (show w2.ownsRow w.heap.size 3 1 v done.length cs from ownsRow_agree own.out fun b hb => kb3.block b (own.out.lt b hb).2 (vne b hb).1)
            have fin := Lib.hid (fun gg cap w5 ob hown hgr hat hlt5 => list_step (gg := gg) (cap := cap) (w5 := w5) (ob := ob) hPl hgl hne hB hlt h128 hg2.out hcv.out own.out hro.out fr.out hdl hrt.out hx.out p3 his fr3 hown hgr hat hlt5)
            have hgs : g < w2.heap.size := by omega
            have vne2 := Lib.hid (fun b hb => (vne b hb).2)
            clear vne p3 his hxc hg3 kb3 hlen
            replace fr3 := Lib.hid fr3
            go_wp2_with fail
            go_region_law (refine step_append_lies _ (by rfl) _ _ _ (by rfl) w.heap.size 3 i0 _ 1 8 Tryz.underlying52 hi0 hz0 hz1 hz2 rfl (by omega) v done.length cs (by rfl) (by first | exact own3.out.alloc _ | exact ownsRow_agree (own3.out.alloc (.cells #[.int .i64 x] 3)) (fun _ _ => rfl)) ⟨w2.heap.size, 0, none⟩ 1 1 [.int .i64 x] (by rfl) (by rfl) (World.news_of_block (cs := #[.int .i64 x]) (t := 3) (fr := (0, 0)) (heap_alloc_new w2 _)) hone.out (by omega) (by unfold maxLen; omega) (by omega) (by simp; omega) (w2.heap.size + 1) (by simp) ?_; intro gg cap w5 hown5 hgrow5 hat5 hlt5; have hb5 : w5.heap[g]? = w2.heap[g]? := (hgrow5.block g (by simp; omega) (fun e => (vne2.out g e.symm) rfl)).trans (Below.heap_alloc w2 (.cells #[.int .i64 x] 3) g hgs); have c65 : w5.cell? ⟨g, j, none⟩ = some v := (World.cell?_of_block (w := w2) hb5).trans cg; have f65 : w5.frozen? ⟨g, j, none⟩ = false := (World.frozen?_of_block (w := w2) hb5).trans fg; clear hb5)
            all_goals go_wp2_with fail
            all_goals (
              have F := fin.out gg cap w5 (.cells #[.int .i64 x] 3) hown5 (grown_drew hgrow5) hat5 hlt5
              have e9 : ((k + 1 : Nat) : Int) = (k : Int) + 1 := by omega
              rw [e9] at F
              exact ⟨F, by simp [intOf]; omega⟩)
        · have hkn : k = n := by omega
          have tlt : decide ((k : Int) < (n : Int)) = false := by simp; omega
          have hend := Lib.hid (list_end hrel0.out hkn h128 hv.out)
          replace hkn := Lib.hid hkn
          go_wp2_with fail
          go_ret
          exact hend.out
    · rw [if_neg (by omega)] at hv
      go_wp2_with fail
      go_ret
      exact .inr ⟨hv.out, rfl, kb_g kb.out⟩
  · rw [hrd] at hv
    replace kb := Lib.hid (kb_new kb)
    go_wp2_with fail
    go_ret
    exact .inr ⟨hv.out, rfl, kb_g kb.out⟩
theorem info_num : (Tryz.prog.info? 3).map (fun i => (i.zero, i.size, i.bytes)) = some (some (.int .i64 0), 1, 8) := by kernel_rfl
set_option maxRecDepth 100000 in
set_option maxHeartbeats 4000000 in
theorem list_num : MlOk 194 (.func (.func 171) #[] #[]) (rLst rInt) (M.vec M.cNum).rd := by
  intro B P g j t cur bs w h hg hcj hne hB
  obtain ⟨i0, hi0, hz0, hz1, hz2⟩ := info_parts info_num
  have hv := Lib.hid (vec_rd M.cNum bs)
  have hPl := h.lt
  have hPlo := h.lo
  have hgl := lt_row hg
  have ha := Lib.hid (h.alloc (.cells #[.int .i64 0] 3))
  have hPg : ¬ P = g := fun e => hne e.symm
  replace hg := Lib.hid hg
  replace hcj := Lib.hid hcj
  clear h
  go_enter Tryz.func194, Tryz.ntmps194
  go_wp2_with fail
  refine (mnum_ok (.int .i64 0) B P w.heap.size 0 3 #[.int .i64 0] bs _ ha.out (heap_alloc_new w _) (one_row _) (by omega) (by omega)).mono ?_
  rintro e1 w1 (⟨y, r0, cs, hrd, rfl, p1, ⟨rfl, hy⟩, hc, fr⟩ | ⟨hrd, rfl, kb⟩)
  · have hy0 := (M.num_short hrd).1
    unfold M.inR at hy0
    obtain ⟨y0, y1⟩ := hy0
    obtain ⟨n, rfl⟩ := Int.eq_ofNat_of_zero_le y0
    rw [hrd] at hv
    simp only [Option.bind_some, Int.toNat_natCast] at hv
    have c1 : w1.cell? ⟨w.heap.size, 0, none⟩ = some (.int .i64 n) := hc 0 _ rfl
    have kb := kb_new fr.kb
    have hs1 : w.heap.size < w1.heap.size := by have := fr.kb.size; simp at this; omega
    have hg1 : w1.heap[g]? = some (.cells cur t (0, 0)) := by rw [kb.block g hgl hne]; exact hg.out
    have rel0 := Lib.hid (show LRelG rInt 3 M.cNum B P g j t n r0 w (.int .i64 ((0 : Nat) : Int)) w1 from ⟨0, r0, [], _, [], cur, by omega, rfl, p1, hg1, hcj.out, World.ownsRow_nil _ _ _ _, rfl, Fr.of_kb kb hgl hne, rfl, by cases M.rTimes M.cNum n r0 <;> rfl⟩)
    replace kb := Lib.hid kb
    clear hc fr p1 hg1 y0 y1
    by_cases h128 : n ≤ 128
    · rw [if_pos (by omega)] at hv
      go_wp2_with fail
      go_loopw [8, 17] (fun _ i w' => LRelG rInt 3 M.cNum B P g j t n r0 w i w') (fun _ i _ => n - (intOf i).toNat)
      case atStart => exact rel0.out
      case round =>
        have hrel0 := Lib.hid hrel
        obtain ⟨k, q, done, v, cs, cur2, hk, rfl, p2, hg2, hcv, own, hro, fr, hdl, hrt⟩ := hrel
        have hwr : w.heap.size ≤ wr.heap.size := fr.kb.size
        have pa := Lib.hid (p2.alloc (.cells #[.int .i64 0] 3))
        clear rel0
        replace hro := Lib.hid hro
        replace hrt := Lib.hid hrt
        replace own := Lib.hid own
        replace fr := Lib.hid fr
        replace hg2 := Lib.hid hg2
        replace hcv := Lib.hid hcv
        clear p2
        by_cases hlt : k < n
        · have hwP : wr.heap.size ≠ P := by omega
          have hwB : B ≤ wr.heap.size := by omega
          cases hx : (M.cNum).rd q with
          | none =>
            have hnone := Lib.hid (show (M.vec M.cNum).rd bs = none by
              rw [hv.out, hrt.out, show n - k = (n - (k + 1)) + 1 by omega, M.rTimes, hx]; rfl)
            replace hx := Lib.hid hx
            go_wp2_with fail
            refine ((mnum_ok (.int .i64 0)).no hx.out pa.out (heap_alloc_new wr _) (fun i u hu => by rw [Nat.zero_add]; simpa using hu) hwP hwB ⟨rfl, rfl, rfl, rfl⟩).mono ?_
            rintro e2 w2 ⟨rfl, kb2⟩
            have kb3 := Lib.hid (fr.out.kb.trans (kb_g (g := g) (kb_new kb2)))
            clear kb2
            go_wp2_with fail
            go_ret
            exact .inr ⟨hnone.out, rfl, kb3.out⟩
          | some xr =>
            obtain ⟨x, r2⟩ := xr
            replace hx := Lib.hid hx
            go_wp2_with fail
            refine ((mnum_ok (.int .i64 0)).yes hx.out pa.out (heap_alloc_new wr _) (fun i u hu => by rw [Nat.zero_add]; simpa using hu) hwP hwB ⟨rfl, rfl, rfl, rfl⟩).mono ?_
            rintro e2 w2 ⟨rfl, p3, ⟨xs, his, hxc⟩, fr3⟩
            have hs3 : wr.heap.size < w2.heap.size := by have := fr3.kb.size; simp at this; omega
            have hlen := rInt.len his
            have hone := Lib.hid (rInt.one his)
            have hq := his.1
            subst hq
            have xc0 : w2.cell? ⟨wr.heap.size, 0, none⟩ = some (.int .i64 x) := hxc 0 _ rfl
            have kb3 := kb_new fr3.kb
            have hg3 : w2.heap[g]? = some (.cells cur2 t (0, 0)) := by rw [kb3.block g (by omega) hne]; exact hg2.out
            have cg : w2.cell? ⟨g, j, none⟩ = some v := (cell_row hg3 j).trans hcv.out
            have fg := frozen_row hg3 j
            have vne : ∀ b, v.ownBlock = some b → b ≠ P ∧ b ≠ g := fun b hb => by have := (own.out.lt b hb).1; omega
            have own3 := Lib.hid (show w2.ownsRow w.heap.size 3 1 v done.length cs from ownsRow_agree own.out fun b hb => kb3.block b (own.out.lt b hb).2 (vne b hb).1)
            have fin := Lib.hid (fun gg cap w5 ob hown hgr hat hlt5 => list_step (gg := gg) (cap := cap) (w5 := w5) (ob := ob) hPl hgl hne hB hlt h128 hg2.out hcv.out own.out hro.out fr.out hdl hrt.out hx.out p3 his fr3 hown hgr hat hlt5)
            have hgs : g < w2.heap.size := by omega
            have vne2 := Lib.hid (fun b hb => (vne b hb).2)
            clear vne p3 his hxc hg3 kb3 hlen
            replace fr3 := Lib.hid fr3
            go_wp2_with fail
            go_region_law (refine step_append_lies _ (by rfl) _ _ _ (by rfl) w.heap.size 3 i0 _ 1 8 Tryz.underlying52 hi0 hz0 hz1 hz2 rfl (by omega) v done.length cs (by rfl) (by first | exact own3.out.alloc _ | exact ownsRow_agree (own3.out.alloc (.cells #[.int .i64 x] 3)) (fun _ _ => rfl)) ⟨w2.heap.size, 0, none⟩ 1 1 [.int .i64 x] (by rfl) (by rfl) (World.news_of_block (cs := #[.int .i64 x]) (t := 3) (fr := (0, 0)) (heap_alloc_new w2 _)) hone.out (by omega) (by unfold maxLen; omega) (by omega) (by simp; omega) (w2.heap.size + 1) (by simp) ?_; intro gg cap w5 hown5 hgrow5 hat5 hlt5; have hb5 : w5.heap[g]? = w2.heap[g]? := (hgrow5.block g (by simp; omega) (fun e => (vne2.out g e.symm) rfl)).trans (Below.heap_alloc w2 (.cells #[.int .i64 x] 3) g hgs); have c65 : w5.cell? ⟨g, j, none⟩ = some v := (World.cell?_of_block (w := w2) hb5).trans cg; have f65 : w5.frozen? ⟨g, j, none⟩ = false := (World.frozen?_of_block (w := w2) hb5).trans fg; clear hb5)
            all_goals go_wp2_with fail
            all_goals (
              have F := fin.out gg cap w5 (.cells #[.int .i64 x] 3) hown5 (grown_drew hgrow5) hat5 hlt5
              have e9 : ((k + 1 : Nat) : Int) = (k : Int) + 1 := by omega
              rw [e9] at F
              exact ⟨F, by simp [intOf]; omega⟩)
        · have hkn : k = n := by omega
          have tlt : decide ((k : Int) < (n : Int)) = false := by simp; omega
          have hend := Lib.hid (list_end hrel0.out hkn h128 hv.out)
          replace hkn := Lib.hid hkn
          go_wp2_with fail
          go_ret
          exact hend.out
    · rw [if_neg (by omega)] at hv
      go_wp2_with fail
      go_ret
      exact .inr ⟨hv.out, rfl, kb_g kb.out⟩
  · rw [hrd] at hv
    replace kb := Lib.hid (kb_new kb)
    go_wp2_with fail
    go_ret
    exact .inr ⟨hv.out, rfl, kb_g kb.out⟩
theorem info_lim : (Tryz.prog.info? 58).map (fun i => (i.zero, i.size, i.bytes)) = some (some (.agg #[.int .i64 0, .int .i64 0]), 2, 16) := by kernel_rfl
set_option maxRecDepth 100000 in
set_option maxHeartbeats 4000000 in
theorem list_lim : MlOk 164 (.func (.func 166) #[] #[]) (rLst rLim) (M.vec M.cLim).rd := by
  intro B P g j t cur bs w h hg hcj hne hB
  obtain ⟨i0, hi0, hz0, hz1, hz2⟩ := info_parts info_lim
  have hv := Lib.hid (vec_rd M.cLim bs)
  have hPl := h.lt
  have hPlo := h.lo
  have hgl := lt_row hg
  have ha := Lib.hid (h.alloc (.cells #[.int .i64 0] 3))
  have hPg : ¬ P = g := fun e => hne e.symm
  replace hg := Lib.hid hg
  replace hcj := Lib.hid hcj
  clear h
  go_enter Tryz.func164, Tryz.ntmps164
  go_wp2_with fail
  refine (mnum_ok (.int .i64 0) B P w.heap.size 0 3 #[.int .i64 0] bs _ ha.out (heap_alloc_new w _) (one_row _) (by omega) (by omega)).mono ?_
  rintro e1 w1 (⟨y, r0, cs, hrd, rfl, p1, ⟨rfl, hy⟩, hc, fr⟩ | ⟨hrd, rfl, kb⟩)
  · have hy0 := (M.num_short hrd).1
    unfold M.inR at hy0
    obtain ⟨y0, y1⟩ := hy0
    obtain ⟨n, rfl⟩ := Int.eq_ofNat_of_zero_le y0
    rw [hrd] at hv
    simp only [Option.bind_some, Int.toNat_natCast] at hv
    have c1 : w1.cell? ⟨w.heap.size, 0, none⟩ = some (.int .i64 n) := hc 0 _ rfl
    have kb := kb_new fr.kb
    have hs1 : w.heap.size < w1.heap.size := by have := fr.kb.size; simp at this; omega
    have hg1 : w1.heap[g]? = some (.cells cur t (0, 0)) := by rw [kb.block g hgl hne]; exact hg.out
    have rel0 := Lib.hid (show LRelG rLim 58 M.cLim B P g j t n r0 w (.int .i64 ((0 : Nat) : Int)) w1 from ⟨0, r0, [], _, [], cur, by omega, rfl, p1, hg1, hcj.out, World.ownsRow_nil _ _ _ _, rfl, Fr.of_kb kb hgl hne, rfl, by cases M.rTimes M.cLim n r0 <;> rfl⟩)
    replace kb := Lib.hid kb
    clear hc fr p1 hg1 y0 y1
    by_cases h128 : n ≤ 128
    · rw [if_pos (by omega)] at hv
      go_wp2_with fail
      go_loopw [8, 17] (fun _ i w' => LRelG rLim 58 M.cLim B P g j t n r0 w i w') (fun _ i _ => n - (intOf i).toNat)
      case atStart => exact rel0.out
      case round =>
        have hrel0 := Lib.hid hrel
        obtain ⟨k, q, done, v, cs, cur2, hk, rfl, p2, hg2, hcv, own, hro, fr, hdl, hrt⟩ := hrel
        have hwr : w.heap.size ≤ wr.heap.size := fr.kb.size
        have pa := Lib.hid (p2.alloc (.cells #[.int .i64 0, .int .i64 0] 58))
        clear rel0
        replace hro := Lib.hid hro
        replace hrt := Lib.hid hrt
        replace own := Lib.hid own
        replace fr := Lib.hid fr
        replace hg2 := Lib.hid hg2
        replace hcv := Lib.hid hcv
        clear p2
        by_cases hlt : k < n
        · have hwP : wr.heap.size ≠ P := by omega
          have hwB : B ≤ wr.heap.size := by omega
          cases hx : (M.cLim).rd q with
          | none =>
            have hnone := Lib.hid (show (M.vec M.cLim).rd bs = none by
              rw [hv.out, hrt.out, show n - k = (n - (k + 1)) + 1 by omega, M.rTimes, hx]; rfl)
            replace hx := Lib.hid hx
            go_wp2_with fail
            refine ((mlim_ok).no hx.out pa.out (heap_alloc_new wr _) (fun i u hu => by rw [Nat.zero_add]; simpa using hu) hwP hwB ⟨rfl, rfl, rfl, rfl⟩).mono ?_
            rintro e2 w2 ⟨rfl, kb2⟩
            have kb3 := Lib.hid (fr.out.kb.trans (kb_g (g := g) (kb_new kb2)))
            clear kb2
            go_wp2_with fail
            go_ret
            exact .inr ⟨hnone.out, rfl, kb3.out⟩
          | some xr =>
            obtain ⟨x, r2⟩ := xr
            replace hx := Lib.hid hx
            go_wp2_with fail
            refine ((mlim_ok).yes hx.out pa.out (heap_alloc_new wr _) (fun i u hu => by rw [Nat.zero_add]; simpa using hu) hwP hwB ⟨rfl, rfl, rfl, rfl⟩).mono ?_
            rintro e2 w2 ⟨rfl, p3, ⟨xs, his, hxc⟩, fr3⟩
            have hs3 : wr.heap.size < w2.heap.size := by have := fr3.kb.size; simp at this; omega
            have hlen := rLim.len his
            have hone := Lib.hid (rLim.one his)
            obtain ⟨x0, x1, rfl⟩ : ∃ x0 x1, xs = [x0, x1] := by
              match xs, hlen with
              | [x0, x1], _ => exact ⟨_, _, rfl⟩
            have xc0 : w2.cell? ⟨wr.heap.size, 0, none⟩ = some x0 := by simpa using hxc 0 _ rfl
            have xc1 : w2.cell? ⟨wr.heap.size, 1, none⟩ = some x1 := by simpa using hxc 1 _ rfl
            have kb3 := kb_new fr3.kb
            have hg3 : w2.heap[g]? = some (.cells cur2 t (0, 0)) := by rw [kb3.block g (by omega) hne]; exact hg2.out
            have cg : w2.cell? ⟨g, j, none⟩ = some v := (cell_row hg3 j).trans hcv.out
            have fg := frozen_row hg3 j
            have vne : ∀ b, v.ownBlock = some b → b ≠ P ∧ b ≠ g := fun b hb => by have := (own.out.lt b hb).1; omega
            have own3 := Lib.hid (show w2.ownsRow w.heap.size 58 2 v done.length cs from ownsRow_agree own.out fun b hb => kb3.block b (own.out.lt b hb).2 (vne b hb).1)
            have fin := Lib.hid (fun gg cap w5 ob hown hgr hat hlt5 => list_step (gg := gg) (cap := cap) (w5 := w5) (ob := ob) hPl hgl hne hB hlt h128 hg2.out hcv.out own.out hro.out fr.out hdl hrt.out hx.out p3 his fr3 hown hgr hat hlt5)
            have hgs : g < w2.heap.size := by omega
            have vne2 := Lib.hid (fun b hb => (vne b hb).2)
            clear vne p3 his hxc hg3 kb3 hlen
            replace fr3 := Lib.hid fr3
            go_wp2_with fail
            go_region_law (refine step_append_lies _ (by rfl) _ _ _ (by rfl) w.heap.size 58 i0 _ 2 16 Tryz.underlying26 hi0 hz0 hz1 hz2 rfl (by omega) v done.length cs (by rfl) (by first | exact own3.out.alloc _ | exact ownsRow_agree (own3.out.alloc (.cells #[x0, x1] 58)) (fun _ _ => rfl)) ⟨w2.heap.size, 0, none⟩ 1 1 [x0, x1] (by rfl) (by rfl) (World.news_of_block (cs := #[x0, x1]) (t := 58) (fr := (0, 0)) (heap_alloc_new w2 _)) hone.out (by omega) (by unfold maxLen; omega) (by omega) (by simp; omega) (w2.heap.size + 1) (by simp) ?_; intro gg cap w5 hown5 hgrow5 hat5 hlt5; have hb5 : w5.heap[g]? = w2.heap[g]? := (hgrow5.block g (by simp; omega) (fun e => (vne2.out g e.symm) rfl)).trans (Below.heap_alloc w2 (.cells #[x0, x1] 58) g hgs); have c65 : w5.cell? ⟨g, j, none⟩ = some v := (World.cell?_of_block (w := w2) hb5).trans cg; have f65 : w5.frozen? ⟨g, j, none⟩ = false := (World.frozen?_of_block (w := w2) hb5).trans fg; clear hb5)
            all_goals go_wp2_with fail
            all_goals (
              have F := fin.out gg cap w5 (.cells #[x0, x1] 58) hown5 (grown_drew hgrow5) hat5 hlt5
              have e9 : ((k + 1 : Nat) : Int) = (k : Int) + 1 := by omega
              rw [e9] at F
              exact ⟨F, by simp [intOf]; omega⟩)
        · have hkn : k = n := by omega
          have tlt : decide ((k : Int) < (n : Int)) = false := by simp; omega
          have hend := Lib.hid (list_end hrel0.out hkn h128 hv.out)
          replace hkn := Lib.hid hkn
          go_wp2_with fail
          go_ret
          exact hend.out
    · rw [if_neg (by omega)] at hv
      go_wp2_with fail
      go_ret
      exact .inr ⟨hv.out, rfl, kb_g kb.out⟩
  · rw [hrd] at hv
    replace kb := Lib.hid (kb_new kb)
    go_wp2_with fail
    go_ret
    exact .inr ⟨hv.out, rfl, kb_g kb.out⟩
theorem info_tab : (Tryz.prog.info? 58).map (fun i => (i.zero, i.size, i.bytes)) = some (some (.agg #[.int .i64 0, .int .i64 0]), 2, 16) := by kernel_rfl
set_option maxRecDepth 100000 in
set_option maxHeartbeats 4000000 in
theorem list_tab : MlOk 164 (.func (.func 165) #[] #[]) (rLst rLim) (M.vec M.cTab).rd := by
  intro B P g j t cur bs w h hg hcj hne hB
  obtain ⟨i0, hi0, hz0, hz1, hz2⟩ := info_parts info_tab
  have hv := Lib.hid (vec_rd M.cTab bs)
  have hPl := h.lt
  have hPlo := h.lo
  have hgl := lt_row hg
  have ha := Lib.hid (h.alloc (.cells #[.int .i64 0] 3))
  have hPg : ¬ P = g := fun e => hne e.symm
  replace hg := Lib.hid hg
  replace hcj := Lib.hid hcj
  clear h
  go_enter Tryz.func164, Tryz.ntmps164
  go_wp2_with fail
  refine (mnum_ok (.int .i64 0) B P w.heap.size 0 3 #[.int .i64 0] bs _ ha.out (heap_alloc_new w _) (one_row _) (by omega) (by omega)).mono ?_
  rintro e1 w1 (⟨y, r0, cs, hrd, rfl, p1, ⟨rfl, hy⟩, hc, fr⟩ | ⟨hrd, rfl, kb⟩)
  · have hy0 := (M.num_short hrd).1
    unfold M.inR at hy0
    obtain ⟨y0, y1⟩ := hy0
    obtain ⟨n, rfl⟩ := Int.eq_ofNat_of_zero_le y0
    rw [hrd] at hv
    simp only [Option.bind_some, Int.toNat_natCast] at hv
    have c1 : w1.cell? ⟨w.heap.size, 0, none⟩ = some (.int .i64 n) := hc 0 _ rfl
    have kb := kb_new fr.kb
    have hs1 : w.heap.size < w1.heap.size := by have := fr.kb.size; simp at this; omega
    have hg1 : w1.heap[g]? = some (.cells cur t (0, 0)) := by rw [kb.block g hgl hne]; exact hg.out
    have rel0 := Lib.hid (show LRelG rLim 58 M.cTab B P g j t n r0 w (.int .i64 ((0 : Nat) : Int)) w1 from ⟨0, r0, [], _, [], cur, by omega, rfl, p1, hg1, hcj.out, World.ownsRow_nil _ _ _ _, rfl, Fr.of_kb kb hgl hne, rfl, by cases M.rTimes M.cTab n r0 <;> rfl⟩)
    replace kb := Lib.hid kb
    clear hc fr p1 hg1 y0 y1
    by_cases h128 : n ≤ 128
    · rw [if_pos (by omega)] at hv
      go_wp2_with fail
      go_loopw [8, 17] (fun _ i w' => LRelG rLim 58 M.cTab B P g j t n r0 w i w') (fun _ i _ => n - (intOf i).toNat)
      case atStart => exact rel0.out
      case round =>
        have hrel0 := Lib.hid hrel
        obtain ⟨k, q, done, v, cs, cur2, hk, rfl, p2, hg2, hcv, own, hro, fr, hdl, hrt⟩ := hrel
        have hwr : w.heap.size ≤ wr.heap.size := fr.kb.size
        have pa := Lib.hid (p2.alloc (.cells #[.int .i64 0, .int .i64 0] 58))
        clear rel0
        replace hro := Lib.hid hro
        replace hrt := Lib.hid hrt
        replace own := Lib.hid own
        replace fr := Lib.hid fr
        replace hg2 := Lib.hid hg2
        replace hcv := Lib.hid hcv
        clear p2
        by_cases hlt : k < n
        · have hwP : wr.heap.size ≠ P := by omega
          have hwB : B ≤ wr.heap.size := by omega
          cases hx : (M.cTab).rd q with
          | none =>
            have hnone := Lib.hid (show (M.vec M.cTab).rd bs = none by
              rw [hv.out, hrt.out, show n - k = (n - (k + 1)) + 1 by omega, M.rTimes, hx]; rfl)
            replace hx := Lib.hid hx
            go_wp2_with fail
            refine ((mtab_ok).no hx.out pa.out (heap_alloc_new wr _) (fun i u hu => by rw [Nat.zero_add]; simpa using hu) hwP hwB ⟨rfl, rfl, rfl, rfl⟩).mono ?_
            rintro e2 w2 ⟨rfl, kb2⟩
            have kb3 := Lib.hid (fr.out.kb.trans (kb_g (g := g) (kb_new kb2)))
            clear kb2
            go_wp2_with fail
            go_ret
            exact .inr ⟨hnone.out, rfl, kb3.out⟩
          | some xr =>
            obtain ⟨x, r2⟩ := xr
            replace hx := Lib.hid hx
            go_wp2_with fail
            refine ((mtab_ok).yes hx.out pa.out (heap_alloc_new wr _) (fun i u hu => by rw [Nat.zero_add]; simpa using hu) hwP hwB ⟨rfl, rfl, rfl, rfl⟩).mono ?_
            rintro e2 w2 ⟨rfl, p3, ⟨xs, his, hxc⟩, fr3⟩
            have hs3 : wr.heap.size < w2.heap.size := by have := fr3.kb.size; simp at this; omega
            have hlen := rLim.len his
            have hone := Lib.hid (rLim.one his)
            obtain ⟨x0, x1, rfl⟩ : ∃ x0 x1, xs = [x0, x1] := by
              match xs, hlen with
              | [x0, x1], _ => exact ⟨_, _, rfl⟩
            have xc0 : w2.cell? ⟨wr.heap.size, 0, none⟩ = some x0 := by simpa using hxc 0 _ rfl
            have xc1 : w2.cell? ⟨wr.heap.size, 1, none⟩ = some x1 := by simpa using hxc 1 _ rfl
            have kb3 := kb_new fr3.kb
            have hg3 : w2.heap[g]? = some (.cells cur2 t (0, 0)) := by rw [kb3.block g (by omega) hne]; exact hg2.out
            have cg : w2.cell? ⟨g, j, none⟩ = some v := (cell_row hg3 j).trans hcv.out
            have fg := frozen_row hg3 j
            have vne : ∀ b, v.ownBlock = some b → b ≠ P ∧ b ≠ g := fun b hb => by have := (own.out.lt b hb).1; omega
            have own3 := Lib.hid (show w2.ownsRow w.heap.size 58 2 v done.length cs from ownsRow_agree own.out fun b hb => kb3.block b (own.out.lt b hb).2 (vne b hb).1)
            have fin := Lib.hid (fun gg cap w5 ob hown hgr hat hlt5 => list_step (gg := gg) (cap := cap) (w5 := w5) (ob := ob) hPl hgl hne hB hlt h128 hg2.out hcv.out own.out hro.out fr.out hdl hrt.out hx.out p3 his fr3 hown hgr hat hlt5)
            have hgs : g < w2.heap.size := by omega
            have vne2 := Lib.hid (fun b hb => (vne b hb).2)
            clear vne p3 his hxc hg3 kb3 hlen
            replace fr3 := Lib.hid fr3
            go_wp2_with fail
            go_region_law (refine step_append_lies _ (by rfl) _ _ _ (by rfl) w.heap.size 58 i0 _ 2 16 Tryz.underlying26 hi0 hz0 hz1 hz2 rfl (by omega) v done.length cs (by rfl) (by first | exact own3.out.alloc _ | exact ownsRow_agree (own3.out.alloc (.cells #[x0, x1] 58)) (fun _ _ => rfl)) ⟨w2.heap.size, 0, none⟩ 1 1 [x0, x1] (by rfl) (by rfl) (World.news_of_block (cs := #[x0, x1]) (t := 58) (fr := (0, 0)) (heap_alloc_new w2 _)) hone.out (by omega) (by unfold maxLen; omega) (by omega) (by simp; omega) (w2.heap.size + 1) (by simp) ?_; intro gg cap w5 hown5 hgrow5 hat5 hlt5; have hb5 : w5.heap[g]? = w2.heap[g]? := (hgrow5.block g (by simp; omega) (fun e => (vne2.out g e.symm) rfl)).trans (Below.heap_alloc w2 (.cells #[x0, x1] 58) g hgs); have c65 : w5.cell? ⟨g, j, none⟩ = some v := (World.cell?_of_block (w := w2) hb5).trans cg; have f65 : w5.frozen? ⟨g, j, none⟩ = false := (World.frozen?_of_block (w := w2) hb5).trans fg; clear hb5)
            all_goals go_wp2_with fail
            all_goals (
              have F := fin.out gg cap w5 (.cells #[x0, x1] 58) hown5 (grown_drew hgrow5) hat5 hlt5
              have e9 : ((k + 1 : Nat) : Int) = (k : Int) + 1 := by omega
              rw [e9] at F
              exact ⟨F, by simp [intOf]; omega⟩)
        · have hkn : k = n := by omega
          have tlt : decide ((k : Int) < (n : Int)) = false := by simp; omega
          have hend := Lib.hid (list_end hrel0.out hkn h128 hv.out)
          replace hkn := Lib.hid hkn
          go_wp2_with fail
          go_ret
          exact hend.out
    · rw [if_neg (by omega)] at hv
      go_wp2_with fail
      go_ret
      exact .inr ⟨hv.out, rfl, kb_g kb.out⟩
  · rw [hrd] at hv
    replace kb := Lib.hid (kb_new kb)
    go_wp2_with fail
    go_ret
    exact .inr ⟨hv.out, rfl, kb_g kb.out⟩
end Go.Proofs.YtmejgbbdehndaaaGreat
