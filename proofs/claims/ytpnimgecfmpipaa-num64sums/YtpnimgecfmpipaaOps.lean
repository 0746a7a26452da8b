/-
  The laws on ranges of operations, walked: for every list they return true and write nothing that was there; condition: the list lies in memory as 'Asks' says.
-/
import Derived.Test.YtpnimgecfmpipaaOpen
namespace Go.Proofs.Ytpnimgecfmpipaa
open Go.RowKit
theorem held2 {w w1 w2 : World} {g i j : Nat} {x y : Value} (h : w1.cell? ⟨g, i, none⟩ = some x ∧ w1.cell? ⟨g, j, none⟩ = some y ∧ Below w.heap.size w w1 ∧ g < w1.heap.size) (h2 : Below w1.heap.size w1 w2) :
    w2.cell? ⟨g, i, none⟩ = some x ∧ w2.cell? ⟨g, j, none⟩ = some y ∧ Below w.heap.size w w2 ∧ g < w2.heap.size :=
  ⟨by rw [h2.cell (by exact h.2.2.2)]; exact h.1, by rw [h2.cell (by exact h.2.2.2)]; exact h.2.1, h.2.2.1.trans (h2.mono h.2.2.1.size), Nat.lt_of_lt_of_le h.2.2.2 h2.size⟩
set_option maxRecDepth 100000 in
set_option maxHeartbeats 4000000 in
theorem ops_walk (A : Option Addr) (n c : Nat) (f t : Int) (w : World) (h : Asks w A n) (hf : ∀ op, f ≤ op → op ≤ t → M.isBin op) (hf0 : 0 ≤ f) (hft : f ≤ t) (ht : t ≤ 138) :
    Calls Try.prog 18 #[.slice A n c, .int .i64 f, .int .i64 t] w fun e w' => e = .returned (.bool true) ∧ Below w.heap.size w w' := by
  obtain ⟨hn, h⟩ := h
  unfold maxLen at hn
  replace h := Lib.hid h
  replace hf := Lib.hid hf
  go_enter Try.func18, Try.ntmps18
  go_wp2
  go_loopw [7] (fun i w' => ∃ k : Nat, k ≤ n ∧ i = .int .i64 k ∧ Below w.heap.size w w') (fun i _ => n - (intOf i).toNat)
  case atStart => exact ⟨0, by omega, rfl, Below.refl _ _⟩
  case round =>
    obtain ⟨k, hk, rfl, hbw⟩ := hrel
    by_cases hlt : k < n
    · obtain ⟨g, o, a, b, op, rfl, hg, q0, q1, q2, ha, hb, hop⟩ := h.out k hlt
      clear hop q2
      have t0 : (0 : Int) ≤ (k : Int) := by omega
      have t1 : (k : Int) < (n : Int) := by omega
      have q0' := Lib.hid q0
      have q1' := Lib.hid q1
      clear q0 q1
      by_cases h30 : k < 30
      · have t2 : decide ((k : Int) < 30) = true := by simp; omega
        go_wp2
        go_loopw [8] (fun i w' => ∃ j : Int, f ≤ j ∧ j ≤ t + 1 ∧ i = .int .i64 j ∧ Below w.heap.size w w') (fun i _ => (t + 1 - intOf i).toNat)
        case atStart => exact ⟨f, by omega, by omega, rfl, hbw⟩
        case round =>
          obtain ⟨j, hj0, hj1, rfl, hb2⟩ := hrel
          by_cases hjt : j ≤ t
          · have hv := Lib.hid (hf.out j hj0 hjt)
            have p0 : wr.cell? ⟨g, o + k * 3, none⟩ = some (.int .u64 a) := by rw [hb2.cell (by exact hg)]; exact q0'.out
            have p1 : wr.cell? ⟨g, o + k * 3 + 1, none⟩ = some (.int .u64 b) := by rw [hb2.cell (by exact hg)]; exact q1'.out
            have hgr : g < wr.heap.size := Nat.lt_of_lt_of_le hg hb2.size
            go_wp2_with fail
            have I0 : wr.drew.cell? ⟨g, o + k * 3, none⟩ = some (.int .u64 a) ∧ wr.drew.cell? ⟨g, o + k * 3 + 1, none⟩ = some (.int .u64 b) ∧ Below w.heap.size w wr.drew ∧ g < wr.drew.heap.size := ⟨p0, p1, hb2.drew, hgr⟩
            go_region_held3 (fun w' => w'.cell? ⟨g, o + k * 3, none⟩ = some (.int .u64 a) ∧ w'.cell? ⟨g, o + k * 3 + 1, none⟩ = some (.int .u64 b) ∧ Below w.heap.size w w' ∧ g < w'.heap.size)
              (first | exact I0 | assumption | exact held2 I0 b1)
              (first
                | (go_at_call 10; refine (Bin_yes j a b _ ha hb hv.out).mono ?_; rintro e w1 ⟨rfl, b1⟩))
            obtain ⟨r0, r1, r2, r3⟩ := held2 (w := w) (w1 := wr.drew) ⟨p0, p1, hb2.drew, hgr⟩ b1
            clear p0 p1 b1
            replace r2 := Lib.hid r2
            go_wp2_with fail
            have I1 : w1.drew.cell? ⟨g, o + k * 3, none⟩ = some (.int .u64 a) ∧ w1.drew.cell? ⟨g, o + k * 3 + 1, none⟩ = some (.int .u64 b) ∧ Below w.heap.size w w1.drew ∧ g < w1.drew.heap.size := ⟨r0, r1, r2.out.drew, r3⟩
            go_region_held3 (fun w' => w'.cell? ⟨g, o + k * 3, none⟩ = some (.int .u64 a) ∧ w'.cell? ⟨g, o + k * 3 + 1, none⟩ = some (.int .u64 b) ∧ Below w.heap.size w w' ∧ g < w'.heap.size)
              (first | exact I1 | assumption)
              (first
                | (go_at_call 11; refine (Bin64_yes j a b _ ha hb hv.out).mono ?_; rintro e w2 ⟨rfl, rfl⟩))
            go_wp2_with (go_at_call 12; refine (num_any _ _).mono ?_; rintro e w2 ⟨rfl, rfl⟩)
            exact ⟨⟨j + 1, by omega, by omega, by go_num, r2.out.drew⟩, by simp [intOf]; omega⟩
          · go_wp2
            exact ⟨⟨k + 1, by omega, by go_num, hb2⟩, by simp [intOf]; omega⟩
      · go_wp2_with fail
        refine (wakes_any _).mono ?_
        rintro e w7 ⟨rfl, hb7⟩
        go_wp2
        go_ret
        exact ⟨rfl, hbw.trans (hb7.mono hbw.size)⟩
    · go_wp2_with fail
      refine (wakes_any _).mono ?_
      rintro e w7 ⟨rfl, hb7⟩
      go_wp2
      go_ret
      exact ⟨rfl, hbw.trans (hb7.mono hbw.size)⟩
theorem Num64Tests_walk (A : Option Addr) (n c : Nat) (w : World) (h : Asks w A n) :
    Calls Try.prog 7 #[.slice A n c] w fun e w' => e = .returned (.bool true) ∧ Below w.heap.size w w' := by
  replace h := Lib.hid h
  go_enter Try.func7, Try.ntmps7
  go_wp2_with fail
  refine (ops_walk A n c 81 90 _ h.out (fun op h1 h2 => by unfold M.isBin; omega) (by decide) (by decide) (by decide)).mono ?_
  rintro e w1 ⟨rfl, b1⟩
  go_wp2
  go_ret
  exact ⟨rfl, b1⟩
theorem Num64Sums_walk (A : Option Addr) (n c : Nat) (w : World) (h : Asks w A n) :
    Calls Try.prog 8 #[.slice A n c] w fun e w' => e = .returned (.bool true) ∧ Below w.heap.size w w' := by
  replace h := Lib.hid h
  go_enter Try.func8, Try.ntmps8
  go_wp2_with fail
  refine (ops_walk A n c 124 130 _ h.out (fun op h1 h2 => by unfold M.isBin; omega) (by decide) (by decide) (by decide)).mono ?_
  rintro e w1 ⟨rfl, b1⟩
  go_wp2
  go_ret
  exact ⟨rfl, b1⟩
theorem Num64Shifts_walk (A : Option Addr) (n c : Nat) (w : World) (h : Asks w A n) :
    Calls Try.prog 9 #[.slice A n c] w fun e w' => e = .returned (.bool true) ∧ Below w.heap.size w w' := by
  replace h := Lib.hid h
  go_enter Try.func9, Try.ntmps9
  go_wp2_with fail
  refine (ops_walk A n c 131 138 _ h.out (fun op h1 h2 => by unfold M.isBin; omega) (by decide) (by decide) (by decide)).mono ?_
  rintro e w1 ⟨rfl, b1⟩
  go_wp2
  go_ret
  exact ⟨rfl, b1⟩
end Go.Proofs.Ytpnimgecfmpipaa
