/-
  What the shifts and turns of two numbers answer (the code's methods); no condition beyond their range.
-/
import Derived.Test.YtpnimgecfmpipaaMeth
namespace Go.Proofs.Ytpnimgecfmpipaa
open Go.RowKit
set_option maxHeartbeats 2000000 in
theorem shiftLeft_any (a b : Int) (w : World) (ha : U a) (hb : U b) : Calls Try.prog 43 #[.agg #[.int .u64 a, .int .u64 b]] w fun e w' => e = .returned (.tuple #[.int .u64 (M.val 134 a b), .int .i64 (M.trap 134 a b)]) ∧ Below w.heap.size w w' := by
  obtain ⟨s, hs⟩ : ∃ s, b % 64 = s := ⟨_, rfl⟩
  have h0 : 0 ≤ s := by omega
  have h1 : s < 64 := by omega
  have hv := Lib.hid (shiftLeft_v a b s ha hs)
  have m1 : (min s.toNat 64 : Nat) = s.toNat := by omega
  replace hs := Lib.hid hs
  go_enter Try.func43, Try.ntmps43
  go_wp2_with fail
  have q0 : (w.alloc (.cells #[.int .u64 a, .int .u64 b] 51)).drew.cell? ⟨w.heap.size, 0, none⟩ = some (.int .u64 a) := pair_cell0 w _ _ _
  have q1 : (w.alloc (.cells #[.int .u64 a, .int .u64 b] 51)).drew.cell? ⟨w.heap.size, 1, none⟩ = some (.int .u64 b) := pair_cell1 w _ _ _
  have hbw : Below w.heap.size w (w.alloc (.cells #[.int .u64 a, .int .u64 b] 51)).drew := ((Below.refl _ _).alloc (Nat.le_refl _) _).drew
  have hz : w.heap.size < (w.alloc (.cells #[.int .u64 a, .int .u64 b] 51)).drew.heap.size := by simp
  go_region_held3 (fun w' => w'.cell? ⟨w.heap.size, 0, none⟩ = some (.int .u64 a) ∧ w'.cell? ⟨w.heap.size, 1, none⟩ = some (.int .u64 b) ∧ Below w.heap.size w w' ∧ w.heap.size < w'.heap.size)
    (first | exact ⟨q0, q1, hbw, hz⟩ | assumption | (go_split_ands; refine ⟨?_, ?_, ?_, ?_⟩; (rw [hw2.cell (p := ⟨w.heap.size, 0, none⟩) (by assumption)]; assumption); (rw [hw2.cell (p := ⟨w.heap.size, 1, none⟩) (by assumption)]; assumption); exact Below.trans (by assumption) (hw2.mono (by omega)); (have := hw2.size; omega)))
    (first
      | (go_at_call 57; refine (shift_any _ _ s _ hb hs.out).mono ?_; rintro e w2 ⟨rfl, hw2⟩))
  go_wp2
  go_ret2
  exact ⟨ret_two hv.out rfl, hbw.trans (hw2.mono (Nat.le_of_lt hz))⟩
set_option maxHeartbeats 2000000 in
theorem shiftRightSigned_any (a b : Int) (w : World) (ha : U a) (hb : U b) : Calls Try.prog 44 #[.agg #[.int .u64 a, .int .u64 b]] w fun e w' => e = .returned (.tuple #[.int .u64 (M.val 135 a b), .int .i64 (M.trap 135 a b)]) ∧ Below w.heap.size w w' := by
  obtain ⟨s, hs⟩ : ∃ s, b % 64 = s := ⟨_, rfl⟩
  have h0 : 0 ≤ s := by omega
  have h1 : s < 64 := by omega
  have hv := Lib.hid (shiftRightSigned_v a b s ha hs)
  have m1 : (min s.toNat 64 : Nat) = s.toNat := by omega
  replace hs := Lib.hid hs
  go_enter Try.func44, Try.ntmps44
  go_wp2_with fail
  have q0 : (w.alloc (.cells #[.int .u64 a, .int .u64 b] 51)).drew.cell? ⟨w.heap.size, 0, none⟩ = some (.int .u64 a) := pair_cell0 w _ _ _
  have q1 : (w.alloc (.cells #[.int .u64 a, .int .u64 b] 51)).drew.cell? ⟨w.heap.size, 1, none⟩ = some (.int .u64 b) := pair_cell1 w _ _ _
  have hbw : Below w.heap.size w (w.alloc (.cells #[.int .u64 a, .int .u64 b] 51)).drew := ((Below.refl _ _).alloc (Nat.le_refl _) _).drew
  have hz : w.heap.size < (w.alloc (.cells #[.int .u64 a, .int .u64 b] 51)).drew.heap.size := by simp
  go_region_held3 (fun w' => w'.cell? ⟨w.heap.size, 0, none⟩ = some (.int .u64 a) ∧ w'.cell? ⟨w.heap.size, 1, none⟩ = some (.int .u64 b) ∧ Below w.heap.size w w' ∧ w.heap.size < w'.heap.size)
    (first | exact ⟨q0, q1, hbw, hz⟩ | assumption | (go_split_ands; refine ⟨?_, ?_, ?_, ?_⟩; (rw [hw2.cell (p := ⟨w.heap.size, 0, none⟩) (by assumption)]; assumption); (rw [hw2.cell (p := ⟨w.heap.size, 1, none⟩) (by assumption)]; assumption); exact Below.trans (by assumption) (hw2.mono (by omega)); (have := hw2.size; omega)))
    (first
      | (go_at_call 57; refine (shift_any _ _ s _ hb hs.out).mono ?_; rintro e w2 ⟨rfl, hw2⟩))
  go_wp2
  go_ret2
  exact ⟨ret_two hv.out rfl, hbw.trans (hw2.mono (Nat.le_of_lt hz))⟩
set_option maxHeartbeats 2000000 in
theorem shiftRight_any (a b : Int) (w : World) (ha : U a) (hb : U b) : Calls Try.prog 45 #[.agg #[.int .u64 a, .int .u64 b]] w fun e w' => e = .returned (.tuple #[.int .u64 (M.val 136 a b), .int .i64 (M.trap 136 a b)]) ∧ Below w.heap.size w w' := by
  obtain ⟨s, hs⟩ : ∃ s, b % 64 = s := ⟨_, rfl⟩
  have h0 : 0 ≤ s := by omega
  have h1 : s < 64 := by omega
  have hv := Lib.hid (shiftRight_v a b s ha hs)
  have m1 : (min s.toNat 64 : Nat) = s.toNat := by omega
  replace hs := Lib.hid hs
  go_enter Try.func45, Try.ntmps45
  go_wp2_with fail
  have q0 : (w.alloc (.cells #[.int .u64 a, .int .u64 b] 51)).drew.cell? ⟨w.heap.size, 0, none⟩ = some (.int .u64 a) := pair_cell0 w _ _ _
  have q1 : (w.alloc (.cells #[.int .u64 a, .int .u64 b] 51)).drew.cell? ⟨w.heap.size, 1, none⟩ = some (.int .u64 b) := pair_cell1 w _ _ _
  have hbw : Below w.heap.size w (w.alloc (.cells #[.int .u64 a, .int .u64 b] 51)).drew := ((Below.refl _ _).alloc (Nat.le_refl _) _).drew
  have hz : w.heap.size < (w.alloc (.cells #[.int .u64 a, .int .u64 b] 51)).drew.heap.size := by simp
  go_region_held3 (fun w' => w'.cell? ⟨w.heap.size, 0, none⟩ = some (.int .u64 a) ∧ w'.cell? ⟨w.heap.size, 1, none⟩ = some (.int .u64 b) ∧ Below w.heap.size w w' ∧ w.heap.size < w'.heap.size)
    (first | exact ⟨q0, q1, hbw, hz⟩ | assumption | (go_split_ands; refine ⟨?_, ?_, ?_, ?_⟩; (rw [hw2.cell (p := ⟨w.heap.size, 0, none⟩) (by assumption)]; assumption); (rw [hw2.cell (p := ⟨w.heap.size, 1, none⟩) (by assumption)]; assumption); exact Below.trans (by assumption) (hw2.mono (by omega)); (have := hw2.size; omega)))
    (first
      | (go_at_call 57; refine (shift_any _ _ s _ hb hs.out).mono ?_; rintro e w2 ⟨rfl, hw2⟩))
  go_wp2
  go_ret2
  exact ⟨ret_two hv.out rfl, hbw.trans (hw2.mono (Nat.le_of_lt hz))⟩
set_option maxHeartbeats 2000000 in
theorem turnLeft_any (a b : Int) (w : World) (ha : U a) (hb : U b) : Calls Try.prog 46 #[.agg #[.int .u64 a, .int .u64 b]] w fun e w' => e = .returned (.tuple #[.int .u64 (M.val 137 a b), .int .i64 (M.trap 137 a b)]) ∧ Below w.heap.size w w' := by
  obtain ⟨s, hs⟩ : ∃ s, b % 64 = s := ⟨_, rfl⟩
  have h0 : 0 ≤ s := by omega
  have h1 : s < 64 := by omega
  have hv := Lib.hid (turnLeft_v a b s ha hs)
  replace hs := Lib.hid hs
  go_enter Try.func46, Try.ntmps46
  go_wp2_with fail
  have q0 : (w.alloc (.cells #[.int .u64 a, .int .u64 b] 51)).drew.cell? ⟨w.heap.size, 0, none⟩ = some (.int .u64 a) := pair_cell0 w _ _ _
  have q1 : (w.alloc (.cells #[.int .u64 a, .int .u64 b] 51)).drew.cell? ⟨w.heap.size, 1, none⟩ = some (.int .u64 b) := pair_cell1 w _ _ _
  have hbw : Below w.heap.size w (w.alloc (.cells #[.int .u64 a, .int .u64 b] 51)).drew := ((Below.refl _ _).alloc (Nat.le_refl _) _).drew
  have hz : w.heap.size < (w.alloc (.cells #[.int .u64 a, .int .u64 b] 51)).drew.heap.size := by simp
  go_region_held3 (fun w' => w'.cell? ⟨w.heap.size, 0, none⟩ = some (.int .u64 a) ∧ w'.cell? ⟨w.heap.size, 1, none⟩ = some (.int .u64 b) ∧ Below w.heap.size w w' ∧ w.heap.size < w'.heap.size)
    (first | exact ⟨q0, q1, hbw, hz⟩ | assumption | (go_split_ands; refine ⟨?_, ?_, ?_, ?_⟩; (rw [hw2.cell (p := ⟨w.heap.size, 0, none⟩) (by assumption)]; assumption); (rw [hw2.cell (p := ⟨w.heap.size, 1, none⟩) (by assumption)]; assumption); exact Below.trans (by assumption) (hw2.mono (by omega)); (have := hw2.size; omega)))
    (first
      | (go_at_call 57; refine (shift_any _ _ s _ hb hs.out).mono ?_; rintro e w2 ⟨rfl, hw2⟩)
      | (go_at_call 58; refine (rotl_any _ _ s _ ha (by omega) (by omega) (by omega)).mono ?_; rintro e w3 ⟨rfl, rfl⟩))
  go_wp2
  go_ret2
  exact ⟨ret_two hv.out rfl, hbw.trans (hw2.mono (Nat.le_of_lt hz))⟩
set_option maxHeartbeats 2000000 in
theorem turnRight_any (a b : Int) (w : World) (ha : U a) (hb : U b) : Calls Try.prog 47 #[.agg #[.int .u64 a, .int .u64 b]] w fun e w' => e = .returned (.tuple #[.int .u64 (M.val 138 a b), .int .i64 (M.trap 138 a b)]) ∧ Below w.heap.size w w' := by
  obtain ⟨s, hs⟩ : ∃ s, b % 64 = s := ⟨_, rfl⟩
  have h0 : 0 ≤ s := by omega
  have h1 : s < 64 := by omega
  have hv := Lib.hid (turnRight_v a b s ha hs)
  have hn : IntKind.i64.wrap (-s) = -s := by rw [IntKind.wrap_i64]; omega
  replace hs := Lib.hid hs
  go_enter Try.func47, Try.ntmps47
  go_wp2_with fail
  have q0 : (w.alloc (.cells #[.int .u64 a, .int .u64 b] 51)).drew.cell? ⟨w.heap.size, 0, none⟩ = some (.int .u64 a) := pair_cell0 w _ _ _
  have q1 : (w.alloc (.cells #[.int .u64 a, .int .u64 b] 51)).drew.cell? ⟨w.heap.size, 1, none⟩ = some (.int .u64 b) := pair_cell1 w _ _ _
  have hbw : Below w.heap.size w (w.alloc (.cells #[.int .u64 a, .int .u64 b] 51)).drew := ((Below.refl _ _).alloc (Nat.le_refl _) _).drew
  have hz : w.heap.size < (w.alloc (.cells #[.int .u64 a, .int .u64 b] 51)).drew.heap.size := by simp
  go_region_held3 (fun w' => w'.cell? ⟨w.heap.size, 0, none⟩ = some (.int .u64 a) ∧ w'.cell? ⟨w.heap.size, 1, none⟩ = some (.int .u64 b) ∧ Below w.heap.size w w' ∧ w.heap.size < w'.heap.size)
    (first | exact ⟨q0, q1, hbw, hz⟩ | assumption | (go_split_ands; refine ⟨?_, ?_, ?_, ?_⟩; (rw [hw2.cell (p := ⟨w.heap.size, 0, none⟩) (by assumption)]; assumption); (rw [hw2.cell (p := ⟨w.heap.size, 1, none⟩) (by assumption)]; assumption); exact Below.trans (by assumption) (hw2.mono (by omega)); (have := hw2.size; omega)))
    (first
      | (go_at_call 57; refine (shift_any _ _ s _ hb hs.out).mono ?_; rintro e w2 ⟨rfl, hw2⟩)
      | (go_at_call 58; refine (rotl_any _ _ (-s % 64) _ ha (by omega) (by omega) (by omega)).mono ?_; rintro e w3 ⟨rfl, rfl⟩))
  go_wp2
  go_ret2
  exact ⟨ret_two hv.out rfl, hbw.trans (hw2.mono (Nat.le_of_lt hz))⟩
end Go.Proofs.Ytpnimgecfmpipaa
