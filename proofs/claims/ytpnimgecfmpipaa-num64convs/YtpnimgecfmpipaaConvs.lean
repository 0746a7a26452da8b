/-
  The law on the conversions, walked: for every list it returns true and writes nothing that was there; condition: the list lies in memory as 'Asks' says.
-/
import Derived.Test.YtpnimgecfmpipaaOpen
import Derived.Test.YtpnimgecfmpipaaConv
namespace Go.Proofs.Ytpnimgecfmpipaa
open Go.RowKit
set_option maxRecDepth 100000 in
set_option maxHeartbeats 4000000 in
theorem Num64Convs_walk (A : Option Addr) (n c : Nat) (w : World) (h : Asks w A n) :
    Calls Try.prog 5 #[.slice A n c] w fun e w' => e = .returned (.bool true) ∧ Below w.heap.size w w' := by
  obtain ⟨hn, h⟩ := h
  unfold maxLen at hn
  replace h := Lib.hid h
  go_enter Try.func5, Try.ntmps5
  go_wp2
  go_loopw [3] (fun i w' => ∃ k : Nat, k ≤ n ∧ i = .int .i64 k ∧ Below w.heap.size w w') (fun i _ => n - (intOf i).toNat)
  case atStart => exact ⟨0, by omega, rfl, Below.refl _ _⟩
  case round =>
    obtain ⟨k, hk, rfl, hbw⟩ := hrel
    by_cases hlt : k < n
    · obtain ⟨g, o, a, b, op, rfl, hg, q0, q1, q2, ha, hb, hop⟩ := h.out k hlt
      clear hop q2 q1
      have t0 : (0 : Int) ≤ (k : Int) := by omega
      have t1 : (k : Int) < (n : Int) := by omega
      have q0' := Lib.hid q0
      clear q0
      by_cases h30 : k < 30
      · have t2 : decide ((k : Int) < 30) = true := by simp; omega
        go_wp2
        go_loopw [4] (fun i w' => ∃ j : Int, 160 ≤ j ∧ j ≤ 177 ∧ i = .int .i64 j ∧ Below w.heap.size w w') (fun i _ => (177 - intOf i).toNat)
        case atStart => exact ⟨160, by omega, by omega, rfl, hbw⟩
        case round =>
          obtain ⟨j, hj0, hj1, rfl, hb2⟩ := hrel
          by_cases hjt : j ≤ 176
          · have p0 : wr.cell? ⟨g, o + k * 3, none⟩ = some (.int .u64 a) := by rw [hb2.cell (by exact hg)]; exact q0'.out
            by_cases hv : M.isConv j
            · replace hv := Lib.hid hv
              replace hb2 := Lib.hid hb2
              go_wp2_with fail
              refine (Conv_yes j a _ ha hv.out).mono ?_
              rintro e w1 ⟨rfl, b1⟩
              have d1 := hb2.out.trans (b1.mono hb2.out.size)
              have p1 : w1.cell? ⟨g, o + k * 3, none⟩ = some (.int .u64 a) := by rw [d1.cell (by exact hg)]; exact q0'.out
              replace d1 := Lib.hid d1
              clear b1
              go_wp2_with fail
              refine (RConv_yes j a _ ha hv.out).mono ?_
              rintro e w2 ⟨rfl, rfl⟩
              go_wp2_with (go_at_call 12; refine (num_any _ _).mono ?_; rintro e w2 ⟨rfl, rfl⟩)
              exact ⟨⟨j + 1, by omega, by omega, by go_num, d1.out⟩, by simp [intOf]; omega⟩
            · replace hv := Lib.hid hv
              replace hb2 := Lib.hid hb2
              go_wp2_with fail
              refine (Conv_no j a _ hv.out).mono ?_
              rintro e w1 ⟨rfl, b1⟩
              have d1 := hb2.out.trans (b1.mono hb2.out.size)
              have p1 : w1.cell? ⟨g, o + k * 3, none⟩ = some (.int .u64 a) := by rw [d1.cell (by exact hg)]; exact q0'.out
              replace d1 := Lib.hid d1
              clear b1
              go_wp2_with fail
              refine (RConv_no j a _ hv.out).mono ?_
              rintro e w2 ⟨rfl, rfl⟩
              go_wp2_with (go_at_call 12; refine (num_any _ _).mono ?_; rintro e w2 ⟨rfl, rfl⟩)
              exact ⟨⟨j + 1, by omega, by omega, by go_num, d1.out⟩, by simp [intOf]; omega⟩
          · go_wp2
            exact ⟨⟨k + 1, by omega, by go_num, hb2⟩, by simp [intOf]; omega⟩
      · go_wp2_with fail
        refine (wakes_any _).mono ?_
        rintro e w7 ⟨rfl, hb7⟩
        go_wp2
        go_ret
        exact ⟨rfl, hbw.trans (hb7.mono hbw.size)⟩
    · go_wp2_with fail
      refine (wakes_any _).mono ?_
      rintro e w7 ⟨rfl, hb7⟩
      go_wp2
      go_ret
      exact ⟨rfl, hbw.trans (hb7.mono hbw.size)⟩
end Go.Proofs.Ytpnimgecfmpipaa
