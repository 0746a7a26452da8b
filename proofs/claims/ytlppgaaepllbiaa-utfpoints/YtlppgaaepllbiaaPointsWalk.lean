/-
  The law on reading points, walked: for every list of questions it returns true and writes nothing that was there; condition: the list lies in memory as 'Asks' says.
-/
import Derived.Test.YtlppgaaepllbiaaOpen
import Derived.Test.YtlppgaaepllbiaaWakes
import Derived.Test.YtlppgaaepllbiaaRPoints
namespace Go.Proofs.Ytlppgaaepllbiaa
open Go.RowKit
theorem heavyV_yes (vB vL : Value) (bs : List Nat) (xs : List Int) (w : World) {B : Nat} (hB : BS w B vB bs) (hL : IS w B vL xs) (h : 3000 < bs.length ∨ 1000 < xs.length) :
    Calls Try.prog 7 #[.agg #[vB, vL]] w fun e w' => e = .returned (.bool true) ∧ Below w.heap.size w w' := by
  obtain ⟨A, c, rfl, _⟩ := hB
  obtain ⟨C, d, rfl, _⟩ := hL
  exact heavy_yes A C _ _ c d w h
theorem heavyV_no (vB vL : Value) (bs : List Nat) (xs : List Int) (w : World) {B : Nat} (hB : BS w B vB bs) (hL : IS w B vL xs) (h1 : bs.length ≤ 3000) (h2 : xs.length ≤ 1000) :
    Calls Try.prog 7 #[.agg #[vB, vL]] w fun e w' => e = .returned (.bool false) ∧ Below w.heap.size w w' := by
  obtain ⟨A, c, rfl, _⟩ := hB
  obtain ⟨C, d, rfl, _⟩ := hL
  exact heavy_no A C _ _ c d w h1 h2
theorem nil_IS (w : World) : IS w w.heap.size (.slice none 0 0) [] := ⟨none, 0, rfl, by simp, by unfold maxLen; omega, fun i hi => by simp at hi⟩
theorem nil_own (w : World) : w.ownsRow w.heap.size 21 1 (.slice none 0 0) 0 [] := World.ownsRow_nil _ _ _ _
theorem text_len {bs ps : List Nat} (h : M.Text bs ps) : ps.length ≤ bs.length := by rw [h.2]; exact (M.encs_length_le ps).1
set_option maxRecDepth 100000 in
set_option maxHeartbeats 2000000 in
theorem UtfPoints_walk (A : Option Addr) (n c : Nat) (w : World) (h : Asks w A n) :
    Calls Try.prog 3 #[.slice A n c] w fun e w' => e = .returned (.bool true) ∧ Below w.heap.size w w' := by
  obtain ⟨hn, h⟩ := h
  unfold maxLen at hn
  replace h := Lib.hid h
  go_enter Try.func3, Try.ntmps3
  go_wp2
  go_loopw [3] (fun i w' => ∃ k : Nat, k ≤ n ∧ i = .int .i64 k ∧ Below w.heap.size w w') (fun i _ => n - (intOf i).toNat)
  case atStart => exact ⟨0, by omega, rfl, Below.refl _ _⟩
  case round =>
    obtain ⟨k, hk, rfl, hbw⟩ := hrel
    by_cases hlt : k < n
    · obtain ⟨g, o, vB, vL, bs, xs, rfl, hg, q0, q1, hB, hL⟩ := h.out k hlt
      have t0 : (0 : Int) ≤ (k : Int) := by omega
      have t1 : (k : Int) < (n : Int) := by omega
      have p0 : wr.cell? ⟨g, o + k * 2, none⟩ = some vB := by rw [hbw.cell (by exact hg)]; exact q0
      have p1 : wr.cell? ⟨g, o + k * 2 + 1, none⟩ = some vL := by rw [hbw.cell (by exact hg)]; exact q1
      have HB := Lib.hid (hB.later hbw)
      have HL := Lib.hid (hL.later hbw)
      have hgr : g < wr.heap.size := Nat.lt_of_lt_of_le hg hbw.size
      clear q0 q1 hB hL
      by_cases h20 : k < 20
      · by_cases hv : 3000 < bs.length ∨ 1000 < xs.length
        · replace hv := Lib.hid hv
          go_wp2_with fail
          refine (heavyV_yes vB vL bs xs _ HB.out HL.out hv.out).mono ?_
          rintro e w1 ⟨rfl, b1⟩
          replace b1 := Lib.hid b1
          go_wp2
          go_ret
          exact ⟨rfl, hbw.trans (b1.out.mono hbw.size)⟩
        · have hv1 : bs.length ≤ 3000 := by omega
          have hv2 : xs.length ≤ 1000 := by omega
          clear hv
          go_wp2_with fail
          refine (heavyV_no vB vL bs xs _ HB.out HL.out hv1 hv2).mono ?_
          rintro e w1 ⟨rfl, b1⟩
          have d1 : Below wr.heap.size wr w1 := b1
          have p1' : w1.cell? ⟨g, o + k * 2, none⟩ = some vB := by rw [d1.cell (by exact hgr)]; exact p0
          have HB1 := Lib.hid (HB.out.later d1)
          clear b1
          go_wp2_with fail
          refine (CopyBytes_any vB bs _ (by omega) HB1.out).mono ?_
          rintro e w2 ⟨vb, rfl, o2, b2⟩
          have d2 := d1.trans (b2.mono d1.size)
          have p2' : w2.cell? ⟨g, o + k * 2, none⟩ = some vB := by rw [d2.cell (by exact hgr)]; exact p0
          have HB2 := Lib.hid (HB.out.later d2)
          have hb2 : BS w2 w2.heap.size vb bs := own_BS o2 (HB.out.lt)
          replace hb2 := Lib.hid hb2
          have e2 : w1.heap.size ≤ w2.heap.size := b2.size
          clear o2 b2
          by_cases ht : ∃ ps, M.Text bs ps
          · obtain ⟨ps, ht⟩ := ht
            have hpl := text_len ht
            replace ht := Lib.hid ht
            go_wp2_with fail
            refine (Points_yes vb bs ps _ hb2.out (by omega) ht.out).mono ?_
            rintro e w3 ⟨vp, rfl, o3, b3⟩
            have d3 := d2.trans (b3.mono d2.size)
            have p3' : w3.cell? ⟨g, o + k * 2, none⟩ = some vB := by rw [d3.cell (by exact hgr)]; exact p0
            have HB3 := Lib.hid (HB.out.later d3)
            have hb3 := Lib.hid (hb2.out.later b3)
            replace o3 := Lib.hid o3
            have e3 : w2.heap.size ≤ w3.heap.size := b3.size
            clear b3
            go_wp2_with fail
            refine (rPoints_yes vB bs ps _ HB3.out (by omega) ht.out).mono ?_
            rintro e w4 ⟨vq, rfl, o4, b4⟩
            have d4 := d3.trans (b4.mono d3.size)
            have hb4 := Lib.hid (hb3.out.later b4)
            have o3' := Lib.hid (own_later o3.out b4)
            replace o4 := Lib.hid o4
            have e4 : w3.heap.size ≤ w4.heap.size := b4.size
            clear b4
            go_wp2_with fail
            refine (Check_yes vb bs ps _ hb4.out ht.out).mono ?_
            rintro e w5 ⟨rfl, b5⟩
            have d5 := d4.trans (b5.mono d4.size)
            have p5' : w5.cell? ⟨g, o + k * 2, none⟩ = some vB := by rw [d5.cell (by exact hgr)]; exact p0
            have HB5 := Lib.hid (HB.out.later d5)
            have hb5 := Lib.hid (hb4.out.later b5)
            have o35 := Lib.hid (own_later o3'.out b5)
            have o45 := Lib.hid (own_later o4.out b5)
            have e5 : w4.heap.size ≤ w5.heap.size := b5.size
            clear b5
            go_wp2_with (go_at_call 11; refine (num_any _ _).mono ?_; rintro e wn ⟨rfl, rfl⟩)
            refine (EqPoints_same vp vq (ints ps) _ (own_IS o35.out ht.out.1) (own_IS o45.out ht.out.1)).mono ?_
            rintro e w6 ⟨rfl, b6⟩
            have d6 := d5.trans (b6.mono d5.size)
            have p6' : w6.cell? ⟨g, o + k * 2, none⟩ = some vB := by rw [d6.cell (by exact hgr)]; exact p0
            have HB6 := Lib.hid (HB.out.later d6)
            have hb6 := Lib.hid (hb5.out.later b6)
            have o36 := Lib.hid (own_later o35.out b6)
            have e6 : w5.heap.size ≤ w6.heap.size := b6.size
            clear b6
            go_wp2_with fail
            refine (EqBytes_same vb vB bs _ hb6.out HB6.out).mono ?_
            rintro e w7 ⟨rfl, b7⟩
            have d7 := d6.trans (b7.mono d6.size)
            have o37 := Lib.hid (own_later o36.out b7)
            have e7 : w6.heap.size ≤ w7.heap.size := b7.size
            clear b7
            go_wp2_with fail
            refine (spoil_any vp ps.length w2.heap.size (pvals ps) _ o37.out (by omega) (by omega)).mono ?_
            rintro e w8 ⟨rfl, b8⟩
            have d8 := d7.trans (b8.mono d2.size)
            replace d8 := Lib.hid d8
            clear b8
            go_wp2
            exact ⟨⟨k + 1, by omega, by go_num, hbw.trans (d8.out.mono hbw.size)⟩, by simp [intOf]; omega⟩
          · replace ht := Lib.hid (fun ps hp => ht ⟨ps, hp⟩ : ∀ ps, ¬ M.Text bs ps)
            go_wp2_with fail
            refine (Points_no vb bs _ hb2.out (by omega) ht.out).mono ?_
            rintro e w3 ⟨rfl, b3⟩
            have d3 := d2.trans (b3.mono d2.size)
            have p3' : w3.cell? ⟨g, o + k * 2, none⟩ = some vB := by rw [d3.cell (by exact hgr)]; exact p0
            have HB3 := Lib.hid (HB.out.later d3)
            have hb3 := Lib.hid (hb2.out.later b3)
            have e3 : w2.heap.size ≤ w3.heap.size := b3.size
            clear b3
            go_wp2_with fail
            refine (rPoints_no vB bs _ HB3.out (by omega) ht.out).mono ?_
            rintro e w4 ⟨rfl, b4⟩
            have d4 := d3.trans (b4.mono d3.size)
            have hb4 := Lib.hid (hb3.out.later b4)
            have e4 : w3.heap.size ≤ w4.heap.size := b4.size
            clear b4
            go_wp2_with fail
            refine (Check_no vb bs _ hb4.out ht.out).mono ?_
            rintro e w5 ⟨rfl, b5⟩
            have d5 := d4.trans (b5.mono d4.size)
            have p5' : w5.cell? ⟨g, o + k * 2, none⟩ = some vB := by rw [d5.cell (by exact hgr)]; exact p0
            have HB5 := Lib.hid (HB.out.later d5)
            have hb5 := Lib.hid (hb4.out.later b5)
            have e5 : w4.heap.size ≤ w5.heap.size := b5.size
            clear b5
            go_wp2_with (go_at_call 11; refine (num_any _ _).mono ?_; rintro e wn ⟨rfl, rfl⟩)
            refine (EqPoints_same _ _ [] _ (nil_IS _) (nil_IS _)).mono ?_
            rintro e w6 ⟨rfl, b6⟩
            have d6 := d5.trans (b6.mono d5.size)
            have p6' : w6.cell? ⟨g, o + k * 2, none⟩ = some vB := by rw [d6.cell (by exact hgr)]; exact p0
            have HB6 := Lib.hid (HB.out.later d6)
            have hb6 := Lib.hid (hb5.out.later b6)
            have e6 : w5.heap.size ≤ w6.heap.size := b6.size
            clear b6
            go_wp2_with fail
            refine (EqBytes_same vb vB bs _ hb6.out HB6.out).mono ?_
            rintro e w7 ⟨rfl, b7⟩
            have d7 := d6.trans (b7.mono d6.size)
            have e7 : w6.heap.size ≤ w7.heap.size := b7.size
            clear b7
            go_wp2_with fail
            refine (spoil_any _ 0 w7.heap.size [] _ (nil_own _) (by omega) (Nat.le_refl _)).mono ?_
            rintro e w8 ⟨rfl, b8⟩
            have d8 := d7.trans (b8.mono d7.size)
            replace d8 := Lib.hid d8
            clear b8
            go_wp2
            exact ⟨⟨k + 1, by omega, by go_num, hbw.trans (d8.out.mono hbw.size)⟩, by simp [intOf]; omega⟩
      · go_wp2_with fail
        refine (wakes_any _).mono ?_
        rintro e w7 ⟨rfl, hb7⟩
        go_wp2
        go_ret
        exact ⟨rfl, hbw.trans (hb7.mono hbw.size)⟩
    · go_wp2_with fail
      refine (wakes_any _).mono ?_
      rintro e w7 ⟨rfl, hb7⟩
      go_wp2
      go_ret
      exact ⟨rfl, hbw.trans (hb7.mono hbw.size)⟩
end Go.Proofs.Ytlppgaaepllbiaa
