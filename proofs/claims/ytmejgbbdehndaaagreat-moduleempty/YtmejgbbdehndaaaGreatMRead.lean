/-
  What the program's readers of pieces, names, limits, constants answer; condition: the place lies in memory that was there at the call, what is read into in other memory.
-/
import Derived.Test.YtmejgbbdehndaaaGreatMReadA
import Derived.Test.YtmejgbbdehndaaaGreatMix
import Derived.BigRegion
namespace Go.Proofs.YtmejgbbdehndaaaGreat
open Go.RowKit
theorem put_piece {B P g j t c c2 n : Nat} {cur : Array Value} {bs r : List Nat} {w w1 : World} {u : Value} {A A2 : Option Addr} (kb : Kb (· = P) w w1) (p1 : PAt B w1 P r) (hg1 : w1.heap[g]? = some (.cells cur t (0, 0))) (hu : cur[j]? = some u) (hgl : g < w.heap.size) (hne : g ≠ P) (hB : B ≤ g) (hl : n ≤ r.length)
    (hrd : M.cPiece.rd bs = some (r.take n, r.drop n)) (hb : Bytes w1 B A r.length (M.bf r)) (hc : n ≤ c ∧ c ≤ maxLen) (hb2 : Bytes w1 B A2 (r.drop n).length (M.bf (r.drop n))) (hc2 : (r.drop n).length ≤ c2 ∧ c2 ≤ maxLen) :
    PcPost B P g j bs w (.returned (.bool true)) ((w1.setCell ⟨g, j, none⟩ (.slice A n c)).setCell ⟨P, 0, none⟩ (.slice A2 (r.length - n) c2)).drew := by
  have hPlo := p1.lo
  have htl : (r.take n).length = n := by rw [List.length_take]; exact Nat.min_eq_left hl
  have hdl : (r.drop n).length = r.length - n := by rw [List.length_drop]
  have p2 := p1.set (j := j) hne hB (.slice A n c)
  have b2 : Below B w1 (w1.setCell ⟨g, j, none⟩ (.slice A n c)) := (Below.refl _ _).setCell (p := ⟨g, j, none⟩) hB _
  have p3 := p2.move (r := r.drop n) (by rw [hdl]; omega) hc2 (hb2.below b2 (Nat.le_refl _))
  have b3 : Below B w1 ((w1.setCell ⟨g, j, none⟩ (.slice A n c)).setCell ⟨P, 0, none⟩ (.slice A2 (r.drop n).length c2)) := b2.setCell (p := ⟨P, 0, none⟩) hPlo _
  rw [← hdl]
  have sd := same_drew ((w1.setCell ⟨g, j, none⟩ (.slice A n c)).setCell ⟨P, 0, none⟩ (.slice A2 (r.drop n).length c2))
  refine .inl ⟨r.take n, r.drop n, A, c, hrd, rfl, sd.pat p3, ?_, by rw [htl]; exact hc, ?_, by rw [htl]; have := p1.small; omega, ?_⟩
  · rw [sd.pcell, World.cell?_of_block (w := w1.setCell ⟨g, j, none⟩ (.slice A n c)) (Below.heap_setCell _ _ _ _ (by show g ≠ P; exact hne)), htl]
    exact World.cell?_setCell_same _ _ _ ((cell_row hg1 j).trans hu)
  · have := ((bytes_take n hl hb).below b3 (Nat.le_refl _))
    intro i hi
    obtain ⟨ad, e1, q1, q2, q3⟩ := this i hi
    exact ⟨ad, e1, q1, q2, q3⟩
  · exact (((Fr.of_kb kb hgl hne).trans (Fr.set w1 j _ (Nat.le_refl _) (by omega))).trans (Fr.setP _ 0 _ hne)).after sd
set_option maxRecDepth 100000 in
set_option maxHeartbeats 4000000 in
theorem mpiece_any (B P g j t : Nat) (cur : Array Value) (u : Value) (bs : List Nat) (w : World) (h : PAt B w P bs) (hg : w.heap[g]? = some (.cells cur t (0, 0))) (hu : cur[j]? = some u) (hne : g ≠ P) (hB : B ≤ g) :
    Calls Tryz.prog 136 #[.pointer (some ⟨P, 0, none⟩), .pointer (some ⟨g, j, none⟩)] w (PcPost B P g j bs w) := by
  have hPl := h.lt
  have hPlo := h.lo
  have hgl := lt_row hg
  have ha := Lib.hid (h.alloc (.cells #[.int .i64 0] 3))
  have hpd := Lib.hid (show M.cPiece.rd bs = (M.num bs).bind fun p => if p.1.toNat ≤ p.2.length then some (p.2.take p.1.toNat, p.2.drop p.1.toNat) else none from rfl)
  have hPg : ¬ P = g := fun e => hne e.symm
  replace h := Lib.hid h
  replace hg := Lib.hid hg
  replace hu := Lib.hid hu
  cases hnum : M.num bs with
  | none =>
    rw [hnum] at hpd
    replace hnum := Lib.hid hnum
    have cN := Lib.hid (fun W s => (mnum_ok (.int .i64 0)).no (W := W) hnum.out ha.out (heap_alloc_new w _) (one_row _) (by omega) (by omega) s)
    go_enter Tryz.func136, Tryz.ntmps136
    go_wp2_with fail
    refine wp_region_mix [(false, 4), (true, 6), (false, 2)] (by kernel_rfl) (by kernel_rfl) ?_
    simp only [mixWp, List.take_succ_cons, List.take_zero, List.drop_succ_cons, List.drop_zero]
    go_wp2_with fail
    refine Calls.mono (cN.out _ ⟨rfl, rfl, rfl, rfl⟩) ?_
    rintro e1 w1 ⟨rfl, kb⟩
    replace kb := Lib.hid (kb_new kb)
    go_wp2_with fail
    repeat still_step
    refine wpStill_nil ?_
    go_wp2_with fail
    go_ret
    exact .inr ⟨hpd.out, rfl, kb.out.mono fun _ hk => .inl hk⟩
  | some p =>
    obtain ⟨y, r⟩ := p
    have hy0 := (M.num_short hnum).1
    unfold M.inR at hy0
    obtain ⟨y0, y1⟩ := hy0
    obtain ⟨n, rfl⟩ := Int.eq_ofNat_of_zero_le y0
    rw [hnum] at hpd
    simp only [Option.bind_some, Int.toNat_natCast] at hpd
    replace hnum := Lib.hid hnum
    have cN := Lib.hid (fun W s => (mnum_ok (.int .i64 0)).yes (W := W) hnum.out ha.out (heap_alloc_new w _) (one_row _) (by omega) (by omega) s)
    go_enter Tryz.func136, Tryz.ntmps136
    go_wp2_with fail
    refine wp_region_mix [(false, 4), (true, 6), (false, 2)] (by kernel_rfl) (by kernel_rfl) ?_
    simp only [mixWp, List.take_succ_cons, List.take_zero, List.drop_succ_cons, List.drop_zero]
    go_wp2_with fail
    refine Calls.mono (cN.out _ ⟨rfl, rfl, rfl, rfl⟩) ?_
    rintro e1 w1 ⟨rfl, p1, ⟨cs, ⟨rfl, _⟩, hc⟩, fr⟩
    have kb := kb_new fr.kb
    have hg1 : w1.heap[g]? = some (.cells cur t (0, 0)) := by rw [kb.block g hgl hne]; exact hg.out
    obtain ⟨A, c, hP, h1, h2, h3⟩ := p1.ex
    unfold maxLen at h2
    have c0 : w1.cell? ⟨P, 0, none⟩ = some (.slice A r.length c) := cell_row hP 0
    have f0 := frozen_row hP 0
    have cj : w1.cell? ⟨g, j, none⟩ = some u := (cell_row hg1 j).trans hu.out
    have fj := frozen_row hg1 j
    have c1 : w1.cell? ⟨w.heap.size, 0, none⟩ = some (.int .i64 n) := hc 0 _ rfl
    have hs1 : w.heap.size < w1.heap.size := by have := fr.kb.size; simp at this; omega
    have hsm := p1.small
    replace kb := Lib.hid kb
    replace p1 := Lib.hid p1
    replace hg1 := Lib.hid hg1
    replace hP := Lib.hid hP
    replace hsm := Lib.hid hsm
    replace h2 := Lib.hid h2
    clear hc fr y0 y1
    by_cases hl : n ≤ r.length
    · have t1 : decide ((r.length : Int) < (n : Int)) = false := by simp; omega
      rcases A with _ | ad
      · have hr0 : r = [] := by
          cases r with
          | nil => rfl
          | cons a b => obtain ⟨_, e, _⟩ := h3 0 (by simp); cases e
        subst hr0
        simp only [List.length_nil] at hl c0 h1
        obtain rfl : n = 0 := by omega
        replace h3 := Lib.hid h3
        go_wp2_with fail
        repeat still_step
        refine wpStill_nil ?_
        go_wp2_with fail
        go_region
        go_wp2_with fail
        go_ret
        exact put_piece (c := c) (c2 := c) (n := 0) kb.out p1.out hg1.out hu.out hgl hne hB (by simp) (by rw [hpd.out]; rfl) h3.out ⟨by omega, by unfold maxLen; exact h2.out⟩ (fun i hi => by simp at hi) ⟨by simp, by unfold maxLen; exact h2.out⟩
      · replace h3 := Lib.hid h3
        have hbr := Lib.hid (rest_bytes n h3.out)
        by_cases hcn : c = n
        · go_wp2_with fail
          repeat still_step
          refine wpStill_nil ?_
          go_wp2_with fail
          go_region
          go_wp2_with fail
          go_ret
          have h2' := h2.out
          exact put_piece (n := n) kb.out p1.out hg1.out hu.out hgl hne hB hl (by rw [hpd.out, if_pos hl]) h3.out ⟨by omega, by unfold maxLen; omega⟩ (fun i hi => by rw [List.length_drop] at hi; omega) ⟨by rw [List.length_drop]; omega, by unfold maxLen; omega⟩
        · go_wp2_with fail
          repeat still_step
          refine wpStill_nil ?_
          go_wp2_with fail
          go_region
          go_wp2_with fail
          go_ret
          have h2' := h2.out
          exact put_piece (n := n) kb.out p1.out hg1.out hu.out hgl hne hB hl (by rw [hpd.out, if_pos hl]) h3.out ⟨by omega, by unfold maxLen; omega⟩ hbr.out ⟨by rw [List.length_drop]; omega, by unfold maxLen; omega⟩
    · have t1 : decide ((r.length : Int) < (n : Int)) = true := by simp; omega
      replace h3 := Lib.hid h3
      go_wp2_with fail
      repeat still_step
      refine wpStill_nil ?_
      go_wp2_with fail
      go_ret
      exact .inr ⟨by rw [hpd.out, if_neg hl], rfl, kb.out.mono fun _ hk => .inl hk⟩
end Go.Proofs.YtmejgbbdehndaaaGreat
