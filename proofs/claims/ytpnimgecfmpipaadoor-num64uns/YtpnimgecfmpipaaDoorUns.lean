/-
  The law on all operations of one number, walked: for every list it returns true and writes nothing that was there; conditions: the list lies in memory as 'Asks' says, the library's table reads as it is laid.
-/
import Derived.Test.YtpnimgecfmpipaaDoorOpen
import Derived.Test.YtpnimgecfmpipaaDoorUseU
namespace Go.Proofs.YtpnimgecfmpipaaDoor
open Go.RowKit
theorem Tb.new {w w1 : World} {o : Obj} (h : Tb w) (b : Below w.heap.size w w1) : Tb (w1.alloc o) := h.later (b.alloc b.size o)
set_option maxRecDepth 100000 in
set_option maxHeartbeats 2000000 in
theorem Num64Uns_walk (A : Option Addr) (n c : Nat) (w : World) (h : Asks w A n) (hT : Tb w) :
    Calls Tryd.prog 3 #[.slice A n c] w fun e w' => e = .returned (.bool true) ∧ Below w.heap.size w w' := by
  obtain ⟨hn, h⟩ := h
  unfold maxLen at hn
  replace h := Lib.hid h
  replace hT := Lib.hid hT
  go_enter Tryd.func3, Tryd.ntmps3
  go_wp2
  go_loopw [3] (fun i w' => ∃ k : Nat, k ≤ n ∧ i = .int .i64 k ∧ Below w.heap.size w w') (fun i _ => n - (intOf i).toNat)
  case atStart => exact ⟨0, by omega, rfl, Below.refl _ _⟩
  case round =>
    obtain ⟨k, hk, rfl, hbw⟩ := hrel
    by_cases hlt : k < n
    · obtain ⟨g, o, a, b, op, rfl, hg, q0, q1, q2, ha, hb, hop⟩ := h.out k hlt
      clear hop
      have t0 : (0 : Int) ≤ (k : Int) := by omega
      have t1 : (k : Int) < (n : Int) := by omega
      have p0 : wr.cell? ⟨g, o + k * 3, none⟩ = some (.int .u64 a) := by rw [hbw.cell (by exact hg)]; exact q0
      have p1 : wr.cell? ⟨g, o + k * 3 + 1, none⟩ = some (.int .u64 b) := by rw [hbw.cell (by exact hg)]; exact q1
      have p2 : wr.cell? ⟨g, o + k * 3 + 2, none⟩ = some (.int .i64 op) := by rw [hbw.cell (by exact hg)]; exact q2
      have hgr : g < wr.heap.size := Nat.lt_of_lt_of_le hg hbw.size
      clear q0 q1 q2
      by_cases h30 : k < 30
      · by_cases hv : M.isUn op
        · replace hv := Lib.hid hv
          go_wp2_with fail
          refine (Un_yes op a _ ha (hT.out.new hbw) hv.out).mono ?_
          rintro e w1 ⟨rfl, b1⟩
          obtain ⟨c0, c1, c2⟩ := cells3 b1
          have d1 := Lib.hid (below_new hbw b1)
          clear b1
          go_wp2_with fail
          refine (Un64_yes op a _ ha hv.out).mono ?_
          rintro e w2 ⟨rfl, rfl⟩
          go_wp2_with (go_at_call 7; refine (num_any _ _).mono ?_; rintro e w2 ⟨rfl, rfl⟩)
          exact ⟨⟨k + 1, by omega, by go_num, d1.out⟩, by simp [intOf]; omega⟩
        · replace hv := Lib.hid hv
          go_wp2_with fail
          refine (Un_no op a _ hv.out).mono ?_
          rintro e w1 ⟨rfl, b1⟩
          obtain ⟨c0, c1, c2⟩ := cells3 b1
          have d1 := Lib.hid (below_new hbw b1)
          clear b1
          go_wp2_with fail
          refine (Un64_no op a _ ha hv.out).mono ?_
          rintro e w2 ⟨rfl, rfl⟩
          go_wp2_with (go_at_call 7; refine (num_any _ _).mono ?_; rintro e w2 ⟨rfl, rfl⟩)
          exact ⟨⟨k + 1, by omega, by go_num, d1.out⟩, by simp [intOf]; omega⟩
      · go_wp2_with fail
        refine (wakes_any _).mono ?_
        rintro e w7 ⟨rfl, hb7⟩
        go_wp2
        go_ret
        exact ⟨rfl, hbw.trans (hb7.mono hbw.size)⟩
    · go_wp2_with fail
      refine (wakes_any _).mono ?_
      rintro e w7 ⟨rfl, hb7⟩
      go_wp2
      go_ret
      exact ⟨rfl, hbw.trans (hb7.mono hbw.size)⟩
end Go.Proofs.YtpnimgecfmpipaaDoor
