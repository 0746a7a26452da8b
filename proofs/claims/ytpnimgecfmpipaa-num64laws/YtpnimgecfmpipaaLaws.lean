/-
  The law on what follows, walked: for every list it returns true and writes nothing that was there; condition: the list lies in memory as 'Asks' says.
-/
import Derived.Test.YtpnimgecfmpipaaOpen
import Derived.Test.YtpnimgecfmpipaaMathL
namespace Go.Proofs.Ytpnimgecfmpipaa
open Go.RowKit
theorem Bin_at (op a b v t : Int) (w : World) (ha : U a) (hb : U b) (h : M.isBin op) (hv : M.val op a b = v) (ht : M.trap op a b = t) :
    Calls Try.prog 10 #[.int .i64 op, .int .u64 a, .int .u64 b] w fun e w' => e = .returned (.tuple #[.int .u64 v, .int .i64 t, .int .i64 0]) ∧ Below w.heap.size w w' := by
  subst hv; subst ht
  exact Bin_yes op a b w ha hb h
theorem ok_at (op a b v : Int) (w : World) (ha : U a) (hb : U b) (h : M.isBin op) (hv : M.val op a b = v) (ht : M.trap op a b = 0) :
    Calls Try.prog 14 #[.int .i64 op, .int .u64 a, .int .u64 b] w fun e w' => e = .returned (.tuple #[.int .u64 v, .bool true]) ∧ Below w.heap.size w w' := by
  replace hv := Lib.hid hv
  replace ht := Lib.hid ht
  replace h := Lib.hid h
  go_enter Try.func14, Try.ntmps14
  go_wp2_with fail
  refine (Bin_at op a b v 0 _ ha hb h.out hv.out ht.out).mono ?_
  rintro e w1 ⟨rfl, b1⟩
  go_wp2_with (go_at_call 12; refine (num_any _ _).mono ?_; rintro e w2 ⟨rfl, rfl⟩)
  go_ret2
  exact ⟨rfl, b1⟩
def bothv (q : Nat) : Int := [106, 108, 113, 114, 115].getD q 0
theorem bothv_mem (q : Nat) (h : q < 5) : bothv q = 106 ∨ bothv q = 108 ∨ bothv q = 113 ∨ bothv q = 114 ∨ bothv q = 115 := by
  have : q = 0 ∨ q = 1 ∨ q = 2 ∨ q = 3 ∨ q = 4 := by omega
  rcases this with rfl | rfl | rfl | rfl | rfl <;> decide
def BCells (w : World) (g : Nat) : Prop := g < w.heap.size ∧ ∀ q, q < 5 → w.cell? ⟨g, q, none⟩ = some (.int .i64 (bothv q))
theorem BCells.later {w w' : World} {g : Nat} (h : BCells w g) (b : Below w.heap.size w w') : BCells w' g :=
  ⟨Nat.lt_of_lt_of_le h.1 b.size, fun q hq => by rw [b.cell (by exact h.1)]; exact h.2 q hq⟩
theorem bcells_new (w : World) (t : TypeId) : BCells (w.alloc (.cells #[.int .i64 106, .int .i64 108, .int .i64 113, .int .i64 114, .int .i64 115] t)) w.heap.size := by
  refine ⟨by simp, fun q hq => ?_⟩
  rw [cell_of_row _ _ _ _ _ _ (heap_alloc_last w _)]
  have : q = 0 ∨ q = 1 ∨ q = 2 ∨ q = 3 ∨ q = 4 := by omega
  rcases this with rfl | rfl | rfl | rfl | rfl <;> rfl
def L2 (g : Nat) (w : World) (v : Value) (w' : World) : Prop := ∃ q : Nat, q ≤ 5 ∧ v = .int .i64 q ∧ BCells w' g ∧ Below w.heap.size w w'
def L3 (w : World) (v : Value) (w' : World) : Prop := ∃ q : Int, 0 ≤ q ∧ q ≤ 2 ∧ v = .int .i64 q ∧ Below w.heap.size w w'
theorem below_on {w w1 w2 : World} (h : Below w.heap.size w w1) (b : Below w1.heap.size w1 w2) : Below w.heap.size w w2 := h.trans (b.mono h.size)
set_option maxRecDepth 100000 in
set_option maxHeartbeats 8000000 in
theorem Num64Laws_walk (A : Option Addr) (n c : Nat) (w : World) (h : Asks w A n) :
    Calls Try.prog 4 #[.slice A n c] w fun e w' => e = .returned (.bool true) ∧ Below w.heap.size w w' := by
  obtain ⟨hn, h⟩ := h
  unfold maxLen at hn
  replace h := Lib.hid h
  go_enter Try.func4, Try.ntmps4
  go_wp2
  go_loopw [5] (fun i w' => ∃ k : Nat, k ≤ n ∧ i = .int .i64 k ∧ Below w.heap.size w w') (fun i _ => n - (intOf i).toNat)
  case atStart => exact ⟨0, by omega, rfl, Below.refl _ _⟩
  case round =>
    obtain ⟨k, hk, rfl, hbw⟩ := hrel
    by_cases hlt : k < n
    · obtain ⟨g, o, a, b, op, rfl, hg, q0, q1, q2, ha, hb, hop⟩ := h.out k hlt
      clear hop q2
      have t0 : (0 : Int) ≤ (k : Int) := by omega
      have t1 : (k : Int) < (n : Int) := by omega
      have p0 : wr.cell? ⟨g, o + k * 3, none⟩ = some (.int .u64 a) := by rw [hbw.cell (by exact hg)]; exact q0
      have p1 : wr.cell? ⟨g, o + k * 3 + 1, none⟩ = some (.int .u64 b) := by rw [hbw.cell (by exact hg)]; exact q1
      clear q0 q1
      by_cases h30 : k < 30
      · have t2 : decide ((k : Int) < 30) = true := by simp; omega
        obtain ⟨wo, rfl⟩ : ∃ wo, wo = wr := ⟨wr, rfl⟩
        go_wp2
        go_quiet (fail)
        have hbq : Below w.heap.size w (wo.drewN nq) := below_drewN hbw _
        go_wp2
        go_loopw [9] (fun i w' => L2 wo.heap.size w i w') (fun i _ => 5 - (intOf i).toNat)
        case atStart => exact ⟨0, by omega, rfl, bcells_new (wo.drewN nq) _, hbq.alloc hbq.size _⟩
        case round => as_aux_lemma =>
          obtain ⟨q, hq, rfl, hB, hb2⟩ := hrel
          clear p0 p1 hbq
          by_cases hq5 : q < 5
          · as_aux_lemma =>
              have u0 : (0 : Int) ≤ (q : Int) := by omega
              have u1 : (q : Int) < 5 := by omega
              have hc := hB.2 q hq5
              have hm := bothv_mem q hq5
              obtain ⟨x, hx⟩ : ∃ x, bothv q = x := ⟨_, rfl⟩
              rw [hx] at hc hm
              obtain ⟨y1, y2, y3⟩ := M.both_ways (x + 18) a b (by omega)
              obtain ⟨v, hv⟩ : ∃ v, M.val (x + 18) a b = v := ⟨_, rfl⟩
              have hv2 : M.val (x + 18) b a = v := y1.symm.trans hv
              have x0 : 106 ≤ x := by omega
              have x1 : x ≤ 115 := by omega
              replace hv := Lib.hid hv
              replace hv2 := Lib.hid hv2
              replace y2 := Lib.hid y2
              replace y3 := Lib.hid y3
              replace hx := Lib.hid hx
              replace hB := Lib.hid hB
              replace hb2 := Lib.hid hb2
              clear hm y1
              go_wp2_with fail
              refine (ok_at (x + 18) a b v _ ha hb y2.out hv.out (y3.out a b)).mono ?_
              rintro e w1 ⟨rfl, b1⟩
              have hB1 := hB.out.later b1
              have hc1 := hB1.2 q hq5
              rw [hx.out] at hc1
              replace hB1 := Lib.hid hB1
              have d1 := Lib.hid (below_on hb2.out b1)
              clear b1 hc
              go_wp2_with fail
              refine (ok_at (x + 18) b a v _ hb ha y2.out hv2.out (y3.out b a)).mono ?_
              rintro e w2 ⟨rfl, b2⟩
              have hB2 := Lib.hid (hB1.out.later b2)
              have d2 := Lib.hid (below_on d1.out b2)
              clear b2 hc1
              go_wp2
              exact ⟨⟨q + 1, by omega, by go_num, hB2.out, d2.out⟩, by simp [intOf]; omega⟩
          · clear hB
            obtain ⟨d, hd⟩ : ∃ d, M.val 125 a b = d := ⟨_, rfl⟩
            have hdU : U d := hd ▸ M.val_range 125 a b ha.1 ha.2 hb.1 hb.2
            have hs := Lib.hid (show M.val 124 d b = a from hd ▸ M.sub_add a b ha.1 ha.2)
            replace hd := Lib.hid hd
            replace hb2 := Lib.hid hb2
            go_wp2_with fail
            refine (ok_at 125 a b d _ ha hb (by unfold M.isBin; omega) hd.out rfl).mono ?_
            rintro e w1 ⟨rfl, b1⟩
            have d1 := Lib.hid (below_on hb2.out b1)
            clear b1
            go_wp2_with fail
            refine (ok_at 124 d b a _ hdU hb (by unfold M.isBin; omega) hs.out rfl).mono ?_
            rintro e w2 ⟨rfl, b2⟩
            have d2 := Lib.hid (below_on d1.out b2)
            clear b2
            go_wp2
            go_loopw [18] (fun i w' => L3 w i w') (fun i _ => (2 - intOf i).toNat)
            case atStart => exact ⟨0, by omega, by omega, rfl, d2.out⟩
            case round => as_aux_lemma =>
              obtain ⟨q, hq0, hq1, rfl, hb3⟩ := hrel
              replace hb3 := Lib.hid hb3
              by_cases hq2 : q < 2
              · obtain ⟨u, hu⟩ : ∃ u, M.val (109 + q + 18) a b = u := ⟨_, rfl⟩
                obtain ⟨r, hr⟩ : ∃ r, M.val (111 + q + 18) a b = r := ⟨_, rfl⟩
                obtain ⟨z1, hz1⟩ : ∃ z, M.trap (109 + q + 18) a b = z := ⟨_, rfl⟩
                obtain ⟨z2, hz2⟩ : ∃ z, M.trap (111 + q + 18) a b = z := ⟨_, rfl⟩
                have hQ := M.quo_cases q a b (by omega) ha.1 ha.2 hb.1
                rw [show (127 : Int) + q = 109 + q + 18 by omega, show (129 : Int) + q = 111 + q + 18 by omega] at hQ
                rw [hu, hr, hz1, hz2] at hQ
                have i1 := Lib.hid (show M.isBin (109 + q + 18) by unfold M.isBin; omega)
                have i2 := Lib.hid (show M.isBin (111 + q + 18) by unfold M.isBin; omega)
                replace hu := Lib.hid hu
                replace hr := Lib.hid hr
                rcases hQ with ⟨hz, rfl, rfl⟩ | ⟨hz, rfl, rfl⟩ | ⟨hz, rfl, rfl, hE⟩
                · as_aux_lemma =>
                    have tz : (b == 0) = true := by simp [hz]
                    clear hz
                    replace hz1 := Lib.hid hz1
                    replace hz2 := Lib.hid hz2
                    go_wp2_with fail
                    refine (Bin_at (109 + q + 18) a b u 2 _ ha hb i1.out hu.out hz1.out).mono ?_
                    rintro e w3 ⟨rfl, b3⟩
                    have d3 := Lib.hid (below_on hb3.out b3)
                    clear b3
                    go_wp2_with fail
                    refine (Bin_at (111 + q + 18) a b r 2 _ ha hb i2.out hr.out hz2.out).mono ?_
                    rintro e w4 ⟨rfl, b4⟩
                    have d4 := Lib.hid (below_on d3.out b4)
                    clear b4
                    go_wp2_with (go_at_call 12; refine (num_any _ _).mono ?_; rintro e w6 ⟨rfl, rfl⟩)
                    exact ⟨⟨q + 1, by omega, by omega, by go_num, d4.out⟩, by simp [intOf]; omega⟩
                · as_aux_lemma =>
                    have tz : (b == 0) = false := by simp [hz]
                    clear hz
                    replace hz1 := Lib.hid hz1
                    replace hz2 := Lib.hid hz2
                    go_wp2_with fail
                    refine (Bin_at (109 + q + 18) a b u 3 _ ha hb i1.out hu.out hz1.out).mono ?_
                    rintro e w3 ⟨rfl, b3⟩
                    have d3 := Lib.hid (below_on hb3.out b3)
                    clear b3
                    go_wp2_with fail
                    refine (Bin_at (111 + q + 18) a b r 0 _ ha hb i2.out hr.out hz2.out).mono ?_
                    rintro e w4 ⟨rfl, b4⟩
                    have d4 := Lib.hid (below_on d3.out b4)
                    clear b4
                    go_wp2_with (go_at_call 12; refine (num_any _ _).mono ?_; rintro e w6 ⟨rfl, rfl⟩)
                    exact ⟨⟨q + 1, by omega, by omega, by go_num, d4.out⟩, by simp [intOf]; omega⟩
                · as_aux_lemma =>
                    have tz : (b == 0) = false := by simp [hz]
                    clear hz
                    rw [← IntKind.wrap_u64, ← IntKind.wrap_u64] at hE
                    replace hz1 := Lib.hid hz1
                    replace hz2 := Lib.hid hz2
                    go_wp2_with fail
                    refine (Bin_at (109 + q + 18) a b u 0 _ ha hb i1.out hu.out hz1.out).mono ?_
                    rintro e w3 ⟨rfl, b3⟩
                    have d3 := Lib.hid (below_on hb3.out b3)
                    clear b3
                    go_wp2_with fail
                    refine (Bin_at (111 + q + 18) a b r 0 _ ha hb i2.out hr.out hz2.out).mono ?_
                    rintro e w4 ⟨rfl, b4⟩
                    have d4 := Lib.hid (below_on d3.out b4)
                    clear b4
                    go_wp2_with (go_at_call 12; refine (num_any _ _).mono ?_; rintro e w6 ⟨rfl, rfl⟩)
                    exact ⟨⟨q + 1, by omega, by omega, by go_num, d4.out⟩, by simp [intOf]; omega⟩
              · obtain ⟨tt, htt⟩ : ∃ t, M.val 137 a b = t := ⟨_, rfl⟩
                have htU : U tt := htt ▸ M.val_range 137 a b ha.1 ha.2 hb.1 hb.2
                have hback := Lib.hid (show M.val 138 tt b = a from htt ▸ M.rot_back a b ha.1 ha.2)
                obtain ⟨sv, hsv⟩ : ∃ t, M.val 134 a b = t := ⟨_, rfl⟩
                have hmore := Lib.hid (show M.val 134 a ((b + 64) % 18446744073709551616) = sv from hsv ▸ M.shift_more a b hb.1 hb.2)
                have hbU : U ((b + 64) % 18446744073709551616) := by unfold U; omega
                replace htt := Lib.hid htt
                replace hsv := Lib.hid hsv
                go_wp2_with fail
                refine (ok_at 137 a b tt _ ha hb (by unfold M.isBin; omega) htt.out rfl).mono ?_
                rintro e w3 ⟨rfl, b3⟩
                have d3 := Lib.hid (below_on hb3.out b3)
                clear b3
                go_wp2_with fail
                refine (ok_at 138 tt b a _ htU hb (by unfold M.isBin; omega) hback.out rfl).mono ?_
                rintro e w4 ⟨rfl, b4⟩
                have d4 := Lib.hid (below_on d3.out b4)
                clear b4
                go_wp2_with fail
                refine (ok_at 134 a b sv _ ha hb (by unfold M.isBin; omega) hsv.out rfl).mono ?_
                rintro e w5 ⟨rfl, b5⟩
                have d5 := Lib.hid (below_on d4.out b5)
                clear b5
                go_wp2_with fail
                refine (ok_at 134 a ((b + 64) % 18446744073709551616) sv _ ha hbU (by unfold M.isBin; omega) hmore.out rfl).mono ?_
                rintro e w6 ⟨rfl, b6⟩
                have d6 := Lib.hid (below_on d5.out b6)
                clear b6
                go_wp2
                go_loopw [31] (fun i w' => L3 w i w') (fun i _ => (2 - intOf i).toNat)
                case atStart => exact ⟨0, by omega, by omega, rfl, d6.out⟩
                case round => as_aux_lemma =>
                  obtain ⟨q, hq0, hq1, rfl, hb4⟩ := hrel
                  by_cases hq2 : q < 2
                  · as_aux_lemma =>
                      obtain ⟨l, m, s, r1, r2, r3, r4, r5, l0, m0, s0, l1, m1, s1, hsum⟩ := M.tests q a b (by omega) ha.1 ha.2 hb.1 hb.2
                      rw [show (83 : Int) + q = 72 + q + 11 by omega] at r1
                      rw [show (85 : Int) + q = 74 + q + 11 by omega] at r2
                      rw [show (87 : Int) + q = 76 + q + 11 by omega] at r4
                      rw [show (89 : Int) + q = 78 + q + 11 by omega] at r5
                      replace hb4 := Lib.hid hb4
                      replace r1 := Lib.hid r1
                      replace r2 := Lib.hid r2
                      replace r3 := Lib.hid r3
                      replace r4 := Lib.hid r4
                      replace r5 := Lib.hid r5
                      have j1 := Lib.hid (show M.isBin (72 + q + 11) by unfold M.isBin; omega)
                      have j2 := Lib.hid (show M.isBin (74 + q + 11) by unfold M.isBin; omega)
                      have j3 := Lib.hid (show M.isBin (76 + q + 11) by unfold M.isBin; omega)
                      have j4 := Lib.hid (show M.isBin (78 + q + 11) by unfold M.isBin; omega)
                      have z0 := Lib.hid (M.trap_test (72 + q + 11) a b (by omega))
                      have z1 := Lib.hid (M.trap_test (74 + q + 11) a b (by omega))
                      have z2 := Lib.hid (M.trap_test (76 + q + 11) a b (by omega))
                      have z3 := Lib.hid (M.trap_test (78 + q + 11) a b (by omega))
                      go_wp2_with fail
                      refine (ok_at (72 + q + 11) a b l _ ha hb j1.out r1.out z0.out).mono ?_
                      rintro e w3 ⟨rfl, b3⟩
                      have d3 := Lib.hid (below_on hb4.out b3)
                      clear b3
                      go_wp2_with fail
                      refine (ok_at (74 + q + 11) a b m _ ha hb j2.out r2.out z1.out).mono ?_
                      rintro e w4 ⟨rfl, b4⟩
                      have d4 := Lib.hid (below_on d3.out b4)
                      clear b4
                      go_wp2_with fail
                      refine (ok_at 81 a b s _ ha hb (by unfold M.isBin; omega) r3.out rfl).mono ?_
                      rintro e w5 ⟨rfl, b5⟩
                      have d5 := Lib.hid (below_on d4.out b5)
                      clear b5
                      go_wp2_with fail
                      refine (ok_at (76 + q + 11) a b (l + s) _ ha hb j3.out r4.out z2.out).mono ?_
                      rintro e w6 ⟨rfl, b6⟩
                      have d6 := Lib.hid (below_on d5.out b6)
                      clear b6
                      go_wp2_with fail
                      refine (ok_at (78 + q + 11) a b (m + s) _ ha hb j4.out r5.out z3.out).mono ?_
                      rintro e w7 ⟨rfl, b7⟩
                      have d7 := Lib.hid (below_on d6.out b7)
                      clear b7
                      go_wp2
                      exact ⟨⟨q + 1, by omega, by omega, by go_num, d7.out⟩, by simp [intOf]; omega⟩
                  · go_wp2
                    exact ⟨⟨k + 1, by omega, by go_num, hb4⟩, by simp [intOf]; omega⟩
      · go_wp2_with fail
        refine (wakes_any _).mono ?_
        rintro e w7 ⟨rfl, hb7⟩
        go_wp2
        go_ret
        exact ⟨rfl, hbw.trans (hb7.mono hbw.size)⟩
    · go_wp2_with fail
      refine (wakes_any _).mono ?_
      rintro e w7 ⟨rfl, hb7⟩
      go_wp2
      go_ret
      exact ⟨rfl, hbw.trans (hb7.mono hbw.size)⟩
end Go.Proofs.Ytpnimgecfmpipaa
