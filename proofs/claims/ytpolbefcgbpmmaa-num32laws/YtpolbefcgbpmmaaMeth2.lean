/-
  What the shifts and turns of two numbers answer (the code's methods); no condition beyond their range.
-/
import Derived.Test.YtpolbefcgbpmmaaMeth
namespace Go.Proofs.Ytpolbefcgbpmmaa
open Go.RowKit
set_option maxHeartbeats 2000000 in
theorem shiftLeft_any (a b : Int) (w : World) (ha : U a) (hb : U b) : Calls Try.prog 37 #[.agg #[.int .u32 a, .int .u32 b]] w fun e w' => e = .returned (.tuple #[.int .u32 (M.val 116 a b), .int .i64 (M.trap 116 a b)]) ∧ Below w.heap.size w w' := by
  obtain ⟨s, hs⟩ : ∃ s, b % 32 = s := ⟨_, rfl⟩
  have h0 : 0 ≤ s := by omega
  have h1 : s < 32 := by omega
  have hv := Lib.hid (shiftLeft_v a b s ha hs)
  have m1 : (min s.toNat 32 : Nat) = s.toNat := by omega
  replace hs := Lib.hid hs
  go_enter Try.func37, Try.ntmps37
  go_wp2_with fail
  have q0 : (w.alloc (.cells #[.int .u32 a, .int .u32 b] 44)).drew.cell? ⟨w.heap.size, 0, none⟩ = some (.int .u32 a) := pair_cell0 w _ _ _
  have q1 : (w.alloc (.cells #[.int .u32 a, .int .u32 b] 44)).drew.cell? ⟨w.heap.size, 1, none⟩ = some (.int .u32 b) := pair_cell1 w _ _ _
  have hbw : Below w.heap.size w (w.alloc (.cells #[.int .u32 a, .int .u32 b] 44)).drew := ((Below.refl _ _).alloc (Nat.le_refl _) _).drew
  have hz : w.heap.size < (w.alloc (.cells #[.int .u32 a, .int .u32 b] 44)).drew.heap.size := by simp
  go_region_held3 (fun w' => w'.cell? ⟨w.heap.size, 0, none⟩ = some (.int .u32 a) ∧ w'.cell? ⟨w.heap.size, 1, none⟩ = some (.int .u32 b) ∧ Below w.heap.size w w' ∧ w.heap.size < w'.heap.size)
    (first | exact ⟨q0, q1, hbw, hz⟩ | assumption | (go_split_ands; refine ⟨?_, ?_, ?_, ?_⟩; (rw [hw2.cell (p := ⟨w.heap.size, 0, none⟩) (by assumption)]; assumption); (rw [hw2.cell (p := ⟨w.heap.size, 1, none⟩) (by assumption)]; assumption); exact Below.trans (by assumption) (hw2.mono (by omega)); (have := hw2.size; omega)))
    (first
      | (go_at_call 49; refine (shift_any _ _ s _ hb hs.out).mono ?_; rintro e w2 ⟨rfl, hw2⟩))
  go_wp2
  go_ret2
  exact ⟨ret_two hv.out rfl, hbw.trans (hw2.mono (Nat.le_of_lt hz))⟩
set_option maxHeartbeats 2000000 in
theorem shiftRightSigned_any (a b : Int) (w : World) (ha : U a) (hb : U b) : Calls Try.prog 38 #[.agg #[.int .u32 a, .int .u32 b]] w fun e w' => e = .returned (.tuple #[.int .u32 (M.val 117 a b), .int .i64 (M.trap 117 a b)]) ∧ Below w.heap.size w w' := by
  obtain ⟨s, hs⟩ : ∃ s, b % 32 = s := ⟨_, rfl⟩
  have h0 : 0 ≤ s := by omega
  have h1 : s < 32 := by omega
  have hv := Lib.hid (shiftRightSigned_v a b s ha hs)
  have m1 : (min s.toNat 32 : Nat) = s.toNat := by omega
  replace hs := Lib.hid hs
  go_enter Try.func38, Try.ntmps38
  go_wp2_with fail
  have q0 : (w.alloc (.cells #[.int .u32 a, .int .u32 b] 44)).drew.cell? ⟨w.heap.size, 0, none⟩ = some (.int .u32 a) := pair_cell0 w _ _ _
  have q1 : (w.alloc (.cells #[.int .u32 a, .int .u32 b] 44)).drew.cell? ⟨w.heap.size, 1, none⟩ = some (.int .u32 b) := pair_cell1 w _ _ _
  have hbw : Below w.heap.size w (w.alloc (.cells #[.int .u32 a, .int .u32 b] 44)).drew := ((Below.refl _ _).alloc (Nat.le_refl _) _).drew
  have hz : w.heap.size < (w.alloc (.cells #[.int .u32 a, .int .u32 b] 44)).drew.heap.size := by simp
  go_region_held3 (fun w' => w'.cell? ⟨w.heap.size, 0, none⟩ = some (.int .u32 a) ∧ w'.cell? ⟨w.heap.size, 1, none⟩ = some (.int .u32 b) ∧ Below w.heap.size w w' ∧ w.heap.size < w'.heap.size)
    (first | exact ⟨q0, q1, hbw, hz⟩ | assumption | (go_split_ands; refine ⟨?_, ?_, ?_, ?_⟩; (rw [hw2.cell (p := ⟨w.heap.size, 0, none⟩) (by assumption)]; assumption); (rw [hw2.cell (p := ⟨w.heap.size, 1, none⟩) (by assumption)]; assumption); exact Below.trans (by assumption) (hw2.mono (by omega)); (have := hw2.size; omega)))
    (first
      | (go_at_call 49; refine (shift_any _ _ s _ hb hs.out).mono ?_; rintro e w2 ⟨rfl, hw2⟩))
  go_wp2
  go_ret2
  exact ⟨ret_two hv.out rfl, hbw.trans (hw2.mono (Nat.le_of_lt hz))⟩
set_option maxHeartbeats 2000000 in
theorem shiftRight_any (a b : Int) (w : World) (ha : U a) (hb : U b) : Calls Try.prog 39 #[.agg #[.int .u32 a, .int .u32 b]] w fun e w' => e = .returned (.tuple #[.int .u32 (M.val 118 a b), .int .i64 (M.trap 118 a b)]) ∧ Below w.heap.size w w' := by
  obtain ⟨s, hs⟩ : ∃ s, b % 32 = s := ⟨_, rfl⟩
  have h0 : 0 ≤ s := by omega
  have h1 : s < 32 := by omega
  have hv := Lib.hid (shiftRight_v a b s ha hs)
  have m1 : (min s.toNat 32 : Nat) = s.toNat := by omega
  replace hs := Lib.hid hs
  go_enter Try.func39, Try.ntmps39
  go_wp2_with fail
  have q0 : (w.alloc (.cells #[.int .u32 a, .int .u32 b] 44)).drew.cell? ⟨w.heap.size, 0, none⟩ = some (.int .u32 a) := pair_cell0 w _ _ _
  have q1 : (w.alloc (.cells #[.int .u32 a, .int .u32 b] 44)).drew.cell? ⟨w.heap.size, 1, none⟩ = some (.int .u32 b) := pair_cell1 w _ _ _
  have hbw : Below w.heap.size w (w.alloc (.cells #[.int .u32 a, .int .u32 b] 44)).drew := ((Below.refl _ _).alloc (Nat.le_refl _) _).drew
  have hz : w.heap.size < (w.alloc (.cells #[.int .u32 a, .int .u32 b] 44)).drew.heap.size := by simp
  go_region_held3 (fun w' => w'.cell? ⟨w.heap.size, 0, none⟩ = some (.int .u32 a) ∧ w'.cell? ⟨w.heap.size, 1, none⟩ = some (.int .u32 b) ∧ Below w.heap.size w w' ∧ w.heap.size < w'.heap.size)
    (first | exact ⟨q0, q1, hbw, hz⟩ | assumption | (go_split_ands; refine ⟨?_, ?_, ?_, ?_⟩; (rw [hw2.cell (p := ⟨w.heap.size, 0, none⟩) (by assumption)]; assumption); (rw [hw2.cell (p := ⟨w.heap.size, 1, none⟩) (by assumption)]; assumption); exact Below.trans (by assumption) (hw2.mono (by omega)); (have := hw2.size; omega)))
    (first
      | (go_at_call 49; refine (shift_any _ _ s _ hb hs.out).mono ?_; rintro e w2 ⟨rfl, hw2⟩))
  go_wp2
  go_ret2
  exact ⟨ret_two hv.out rfl, hbw.trans (hw2.mono (Nat.le_of_lt hz))⟩
set_option maxHeartbeats 2000000 in
theorem turnLeft_any (a b : Int) (w : World) (ha : U a) (hb : U b) : Calls Try.prog 40 #[.agg #[.int .u32 a, .int .u32 b]] w fun e w' => e = .returned (.tuple #[.int .u32 (M.val 119 a b), .int .i64 (M.trap 119 a b)]) ∧ Below w.heap.size w w' := by
  obtain ⟨s, hs⟩ : ∃ s, b % 32 = s := ⟨_, rfl⟩
  have h0 : 0 ≤ s := by omega
  have h1 : s < 32 := by omega
  have hv := Lib.hid (turnLeft_v a b s ha hs)
  replace hs := Lib.hid hs
  go_enter Try.func40, Try.ntmps40
  go_wp2_with fail
  have q0 : (w.alloc (.cells #[.int .u32 a, .int .u32 b] 44)).drew.cell? ⟨w.heap.size, 0, none⟩ = some (.int .u32 a) := pair_cell0 w _ _ _
  have q1 : (w.alloc (.cells #[.int .u32 a, .int .u32 b] 44)).drew.cell? ⟨w.heap.size, 1, none⟩ = some (.int .u32 b) := pair_cell1 w _ _ _
  have hbw : Below w.heap.size w (w.alloc (.cells #[.int .u32 a, .int .u32 b] 44)).drew := ((Below.refl _ _).alloc (Nat.le_refl _) _).drew
  have hz : w.heap.size < (w.alloc (.cells #[.int .u32 a, .int .u32 b] 44)).drew.heap.size := by simp
  go_region_held3 (fun w' => w'.cell? ⟨w.heap.size, 0, none⟩ = some (.int .u32 a) ∧ w'.cell? ⟨w.heap.size, 1, none⟩ = some (.int .u32 b) ∧ Below w.heap.size w w' ∧ w.heap.size < w'.heap.size)
    (first | exact ⟨q0, q1, hbw, hz⟩ | assumption | (go_split_ands; refine ⟨?_, ?_, ?_, ?_⟩; (rw [hw2.cell (p := ⟨w.heap.size, 0, none⟩) (by assumption)]; assumption); (rw [hw2.cell (p := ⟨w.heap.size, 1, none⟩) (by assumption)]; assumption); exact Below.trans (by assumption) (hw2.mono (by omega)); (have := hw2.size; omega)))
    (first
      | (go_at_call 49; refine (shift_any _ _ s _ hb hs.out).mono ?_; rintro e w2 ⟨rfl, hw2⟩)
      | (go_at_call 50; refine (rotl_any _ _ s _ ha (by omega) (by omega) (by omega)).mono ?_; rintro e w3 ⟨rfl, rfl⟩))
  go_wp2
  go_ret2
  exact ⟨ret_two hv.out rfl, hbw.trans (hw2.mono (Nat.le_of_lt hz))⟩
set_option maxHeartbeats 2000000 in
theorem turnRight_any (a b : Int) (w : World) (ha : U a) (hb : U b) : Calls Try.prog 41 #[.agg #[.int .u32 a, .int .u32 b]] w fun e w' => e = .returned (.tuple #[.int .u32 (M.val 120 a b), .int .i64 (M.trap 120 a b)]) ∧ Below w.heap.size w w' := by
  obtain ⟨s, hs⟩ : ∃ s, b % 32 = s := ⟨_, rfl⟩
  have h0 : 0 ≤ s := by omega
  have h1 : s < 32 := by omega
  have hv := Lib.hid (turnRight_v a b s ha hs)
  have hn : IntKind.i64.wrap (-s) = -s := by rw [IntKind.wrap_i64]; omega
  replace hs := Lib.hid hs
  go_enter Try.func41, Try.ntmps41
  go_wp2_with fail
  have q0 : (w.alloc (.cells #[.int .u32 a, .int .u32 b] 44)).drew.cell? ⟨w.heap.size, 0, none⟩ = some (.int .u32 a) := pair_cell0 w _ _ _
  have q1 : (w.alloc (.cells #[.int .u32 a, .int .u32 b] 44)).drew.cell? ⟨w.heap.size, 1, none⟩ = some (.int .u32 b) := pair_cell1 w _ _ _
  have hbw : Below w.heap.size w (w.alloc (.cells #[.int .u32 a, .int .u32 b] 44)).drew := ((Below.refl _ _).alloc (Nat.le_refl _) _).drew
  have hz : w.heap.size < (w.alloc (.cells #[.int .u32 a, .int .u32 b] 44)).drew.heap.size := by simp
  go_region_held3 (fun w' => w'.cell? ⟨w.heap.size, 0, none⟩ = some (.int .u32 a) ∧ w'.cell? ⟨w.heap.size, 1, none⟩ = some (.int .u32 b) ∧ Below w.heap.size w w' ∧ w.heap.size < w'.heap.size)
    (first | exact ⟨q0, q1, hbw, hz⟩ | assumption | (go_split_ands; refine ⟨?_, ?_, ?_, ?_⟩; (rw [hw2.cell (p := ⟨w.heap.size, 0, none⟩) (by assumption)]; assumption); (rw [hw2.cell (p := ⟨w.heap.size, 1, none⟩) (by assumption)]; assumption); exact Below.trans (by assumption) (hw2.mono (by omega)); (have := hw2.size; omega)))
    (first
      | (go_at_call 49; refine (shift_any _ _ s _ hb hs.out).mono ?_; rintro e w2 ⟨rfl, hw2⟩)
      | (go_at_call 50; refine (rotl_any _ _ (-s % 32) _ ha (by omega) (by omega) (by omega)).mono ?_; rintro e w3 ⟨rfl, rfl⟩))
  go_wp2
  go_ret2
  exact ⟨ret_two hv.out rfl, hbw.trans (hw2.mono (Nat.le_of_lt hz))⟩
end Go.Proofs.Ytpolbefcgbpmmaa
