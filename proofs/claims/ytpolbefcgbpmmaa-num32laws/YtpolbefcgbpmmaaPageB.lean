/-
  What the page answers for each operation of two numbers, and for all others; condition: the numbers are of 32 bits.
-/
import Derived.Test.YtpolbefcgbpmmaaPage
namespace Go.Proofs.Ytpolbefcgbpmmaa
open Go.RowKit
theorem cut_mod (z : Int) (w : World) : Calls Try.prog 44 #[.int .u64 (z % 18446744073709551616), .int .i64 32] w fun e w' => e = .returned (.int .u64 (M.md z)) ∧ w = w' := by
  have h := cut_any (z % 18446744073709551616) w (by omega) (by omega)
  rw [md_u64] at h
  exact h
set_option maxRecDepth 100000 in
set_option maxHeartbeats 2000000 in
theorem bin_81 (a b : Int) (w : World) (ha : U a) (hb : U b) : Calls Try.prog 15 #[.int .i64 81, .int .u64 a, .int .u64 b, .int .i64 32] w (QPost a b 70 w) := by
  have hb0 : 0 ≤ b := hb.1
  go_enter Try.func15, Try.ntmps15
  go_wp2_with (first
    | (go_at_call 42; refine (rsigned_any _ _ (by assumption)).mono ?_; rintro e w' ⟨rfl, rfl⟩)
    | (go_at_call 43; refine (flag_any _ _).mono ?_; rintro e w' ⟨rfl, rfl⟩)
    | (go_at_call 44; refine (cut_wrap _ _).mono ?_; rintro e w' ⟨rfl, rfl⟩)
    | (go_at_call 44; refine (cut_mod _ _).mono ?_; rintro e w' ⟨rfl, rfl⟩))
  go_ret3
  exact ⟨ret_three _ (by first | rfl | exact (congrArg M.fl (by simp [bne, beq_eq_decide]))) rfl, rfl⟩
set_option maxRecDepth 100000 in
set_option maxHeartbeats 2000000 in
theorem bin_82 (a b : Int) (w : World) (ha : U a) (hb : U b) : Calls Try.prog 15 #[.int .i64 82, .int .u64 a, .int .u64 b, .int .i64 32] w (QPost a b 71 w) := by
  have hb0 : 0 ≤ b := hb.1
  go_enter Try.func15, Try.ntmps15
  go_wp2_with (first
    | (go_at_call 42; refine (rsigned_any _ _ (by assumption)).mono ?_; rintro e w' ⟨rfl, rfl⟩)
    | (go_at_call 43; refine (flag_any _ _).mono ?_; rintro e w' ⟨rfl, rfl⟩)
    | (go_at_call 44; refine (cut_wrap _ _).mono ?_; rintro e w' ⟨rfl, rfl⟩)
    | (go_at_call 44; refine (cut_mod _ _).mono ?_; rintro e w' ⟨rfl, rfl⟩))
  go_ret3
  exact ⟨ret_three _ (by first | rfl | exact (congrArg M.fl (by simp [bne, beq_eq_decide]))) rfl, rfl⟩
set_option maxRecDepth 100000 in
set_option maxHeartbeats 2000000 in
theorem bin_83 (a b : Int) (w : World) (ha : U a) (hb : U b) : Calls Try.prog 15 #[.int .i64 83, .int .u64 a, .int .u64 b, .int .i64 32] w (QPost a b 72 w) := by
  have hb0 : 0 ≤ b := hb.1
  go_enter Try.func15, Try.ntmps15
  go_wp2_with (first
    | (go_at_call 42; refine (rsigned_any _ _ (by assumption)).mono ?_; rintro e w' ⟨rfl, rfl⟩)
    | (go_at_call 43; refine (flag_any _ _).mono ?_; rintro e w' ⟨rfl, rfl⟩)
    | (go_at_call 44; refine (cut_wrap _ _).mono ?_; rintro e w' ⟨rfl, rfl⟩)
    | (go_at_call 44; refine (cut_mod _ _).mono ?_; rintro e w' ⟨rfl, rfl⟩))
  go_ret3
  exact ⟨ret_three _ rfl rfl, rfl⟩
set_option maxRecDepth 100000 in
set_option maxHeartbeats 2000000 in
theorem bin_84 (a b : Int) (w : World) (ha : U a) (hb : U b) : Calls Try.prog 15 #[.int .i64 84, .int .u64 a, .int .u64 b, .int .i64 32] w (QPost a b 73 w) := by
  have hb0 : 0 ≤ b := hb.1
  go_enter Try.func15, Try.ntmps15
  go_wp2_with (first
    | (go_at_call 42; refine (rsigned_any _ _ (by assumption)).mono ?_; rintro e w' ⟨rfl, rfl⟩)
    | (go_at_call 43; refine (flag_any _ _).mono ?_; rintro e w' ⟨rfl, rfl⟩)
    | (go_at_call 44; refine (cut_wrap _ _).mono ?_; rintro e w' ⟨rfl, rfl⟩)
    | (go_at_call 44; refine (cut_mod _ _).mono ?_; rintro e w' ⟨rfl, rfl⟩))
  go_ret3
  exact ⟨ret_three _ rfl rfl, rfl⟩
set_option maxRecDepth 100000 in
set_option maxHeartbeats 2000000 in
theorem bin_85 (a b : Int) (w : World) (ha : U a) (hb : U b) : Calls Try.prog 15 #[.int .i64 85, .int .u64 a, .int .u64 b, .int .i64 32] w (QPost a b 74 w) := by
  have hb0 : 0 ≤ b := hb.1
  go_enter Try.func15, Try.ntmps15
  go_wp2_with (first
    | (go_at_call 42; refine (rsigned_any _ _ (by assumption)).mono ?_; rintro e w' ⟨rfl, rfl⟩)
    | (go_at_call 43; refine (flag_any _ _).mono ?_; rintro e w' ⟨rfl, rfl⟩)
    | (go_at_call 44; refine (cut_wrap _ _).mono ?_; rintro e w' ⟨rfl, rfl⟩)
    | (go_at_call 44; refine (cut_mod _ _).mono ?_; rintro e w' ⟨rfl, rfl⟩))
  go_ret3
  exact ⟨ret_three _ rfl rfl, rfl⟩
set_option maxRecDepth 100000 in
set_option maxHeartbeats 2000000 in
theorem bin_86 (a b : Int) (w : World) (ha : U a) (hb : U b) : Calls Try.prog 15 #[.int .i64 86, .int .u64 a, .int .u64 b, .int .i64 32] w (QPost a b 75 w) := by
  have hb0 : 0 ≤ b := hb.1
  go_enter Try.func15, Try.ntmps15
  go_wp2_with (first
    | (go_at_call 42; refine (rsigned_any _ _ (by assumption)).mono ?_; rintro e w' ⟨rfl, rfl⟩)
    | (go_at_call 43; refine (flag_any _ _).mono ?_; rintro e w' ⟨rfl, rfl⟩)
    | (go_at_call 44; refine (cut_wrap _ _).mono ?_; rintro e w' ⟨rfl, rfl⟩)
    | (go_at_call 44; refine (cut_mod _ _).mono ?_; rintro e w' ⟨rfl, rfl⟩))
  go_ret3
  exact ⟨ret_three _ rfl rfl, rfl⟩
set_option maxRecDepth 100000 in
set_option maxHeartbeats 2000000 in
theorem bin_87 (a b : Int) (w : World) (ha : U a) (hb : U b) : Calls Try.prog 15 #[.int .i64 87, .int .u64 a, .int .u64 b, .int .i64 32] w (QPost a b 76 w) := by
  have hb0 : 0 ≤ b := hb.1
  go_enter Try.func15, Try.ntmps15
  go_wp2_with (first
    | (go_at_call 42; refine (rsigned_any _ _ (by assumption)).mono ?_; rintro e w' ⟨rfl, rfl⟩)
    | (go_at_call 43; refine (flag_any _ _).mono ?_; rintro e w' ⟨rfl, rfl⟩)
    | (go_at_call 44; refine (cut_wrap _ _).mono ?_; rintro e w' ⟨rfl, rfl⟩)
    | (go_at_call 44; refine (cut_mod _ _).mono ?_; rintro e w' ⟨rfl, rfl⟩))
  go_ret3
  exact ⟨ret_three _ rfl rfl, rfl⟩
set_option maxRecDepth 100000 in
set_option maxHeartbeats 2000000 in
theorem bin_88 (a b : Int) (w : World) (ha : U a) (hb : U b) : Calls Try.prog 15 #[.int .i64 88, .int .u64 a, .int .u64 b, .int .i64 32] w (QPost a b 77 w) := by
  have hb0 : 0 ≤ b := hb.1
  go_enter Try.func15, Try.ntmps15
  go_wp2_with (first
    | (go_at_call 42; refine (rsigned_any _ _ (by assumption)).mono ?_; rintro e w' ⟨rfl, rfl⟩)
    | (go_at_call 43; refine (flag_any _ _).mono ?_; rintro e w' ⟨rfl, rfl⟩)
    | (go_at_call 44; refine (cut_wrap _ _).mono ?_; rintro e w' ⟨rfl, rfl⟩)
    | (go_at_call 44; refine (cut_mod _ _).mono ?_; rintro e w' ⟨rfl, rfl⟩))
  go_ret3
  exact ⟨ret_three _ rfl rfl, rfl⟩
set_option maxRecDepth 100000 in
set_option maxHeartbeats 2000000 in
theorem bin_89 (a b : Int) (w : World) (ha : U a) (hb : U b) : Calls Try.prog 15 #[.int .i64 89, .int .u64 a, .int .u64 b, .int .i64 32] w (QPost a b 78 w) := by
  have hb0 : 0 ≤ b := hb.1
  go_enter Try.func15, Try.ntmps15
  go_wp2_with (first
    | (go_at_call 42; refine (rsigned_any _ _ (by assumption)).mono ?_; rintro e w' ⟨rfl, rfl⟩)
    | (go_at_call 43; refine (flag_any _ _).mono ?_; rintro e w' ⟨rfl, rfl⟩)
    | (go_at_call 44; refine (cut_wrap _ _).mono ?_; rintro e w' ⟨rfl, rfl⟩)
    | (go_at_call 44; refine (cut_mod _ _).mono ?_; rintro e w' ⟨rfl, rfl⟩))
  go_ret3
  exact ⟨ret_three _ rfl rfl, rfl⟩
set_option maxRecDepth 100000 in
set_option maxHeartbeats 2000000 in
theorem bin_90 (a b : Int) (w : World) (ha : U a) (hb : U b) : Calls Try.prog 15 #[.int .i64 90, .int .u64 a, .int .u64 b, .int .i64 32] w (QPost a b 79 w) := by
  have hb0 : 0 ≤ b := hb.1
  go_enter Try.func15, Try.ntmps15
  go_wp2_with (first
    | (go_at_call 42; refine (rsigned_any _ _ (by assumption)).mono ?_; rintro e w' ⟨rfl, rfl⟩)
    | (go_at_call 43; refine (flag_any _ _).mono ?_; rintro e w' ⟨rfl, rfl⟩)
    | (go_at_call 44; refine (cut_wrap _ _).mono ?_; rintro e w' ⟨rfl, rfl⟩)
    | (go_at_call 44; refine (cut_mod _ _).mono ?_; rintro e w' ⟨rfl, rfl⟩))
  go_ret3
  exact ⟨ret_three _ rfl rfl, rfl⟩
set_option maxRecDepth 100000 in
set_option maxHeartbeats 2000000 in
theorem bin_124 (a b : Int) (w : World) (ha : U a) (hb : U b) : Calls Try.prog 15 #[.int .i64 124, .int .u64 a, .int .u64 b, .int .i64 32] w (QPost a b 106 w) := by
  have hb0 : 0 ≤ b := hb.1
  go_enter Try.func15, Try.ntmps15
  go_wp2_with (first
    | (go_at_call 42; refine (rsigned_any _ _ (by assumption)).mono ?_; rintro e w' ⟨rfl, rfl⟩)
    | (go_at_call 43; refine (flag_any _ _).mono ?_; rintro e w' ⟨rfl, rfl⟩)
    | (go_at_call 44; refine (cut_wrap _ _).mono ?_; rintro e w' ⟨rfl, rfl⟩)
    | (go_at_call 44; refine (cut_mod _ _).mono ?_; rintro e w' ⟨rfl, rfl⟩))
  go_ret3
  exact ⟨ret_three _ rfl rfl, rfl⟩
set_option maxRecDepth 100000 in
set_option maxHeartbeats 2000000 in
theorem bin_125 (a b : Int) (w : World) (ha : U a) (hb : U b) : Calls Try.prog 15 #[.int .i64 125, .int .u64 a, .int .u64 b, .int .i64 32] w (QPost a b 107 w) := by
  have hb0 : 0 ≤ b := hb.1
  go_enter Try.func15, Try.ntmps15
  go_wp2_with (first
    | (go_at_call 42; refine (rsigned_any _ _ (by assumption)).mono ?_; rintro e w' ⟨rfl, rfl⟩)
    | (go_at_call 43; refine (flag_any _ _).mono ?_; rintro e w' ⟨rfl, rfl⟩)
    | (go_at_call 44; refine (cut_wrap _ _).mono ?_; rintro e w' ⟨rfl, rfl⟩)
    | (go_at_call 44; refine (cut_mod _ _).mono ?_; rintro e w' ⟨rfl, rfl⟩))
  go_ret3
  exact ⟨ret_three _ rfl rfl, rfl⟩
set_option maxRecDepth 100000 in
set_option maxHeartbeats 2000000 in
theorem bin_126 (a b : Int) (w : World) (ha : U a) (hb : U b) : Calls Try.prog 15 #[.int .i64 126, .int .u64 a, .int .u64 b, .int .i64 32] w (QPost a b 108 w) := by
  have hb0 : 0 ≤ b := hb.1
  go_enter Try.func15, Try.ntmps15
  go_wp2_with (first
    | (go_at_call 42; refine (rsigned_any _ _ (by assumption)).mono ?_; rintro e w' ⟨rfl, rfl⟩)
    | (go_at_call 43; refine (flag_any _ _).mono ?_; rintro e w' ⟨rfl, rfl⟩)
    | (go_at_call 44; refine (cut_wrap _ _).mono ?_; rintro e w' ⟨rfl, rfl⟩)
    | (go_at_call 44; refine (cut_mod _ _).mono ?_; rintro e w' ⟨rfl, rfl⟩))
  go_ret3
  exact ⟨ret_three _ rfl rfl, rfl⟩
set_option maxRecDepth 100000 in
set_option maxHeartbeats 2000000 in
theorem bin_127 (a b : Int) (w : World) (ha : U a) (hb : U b) : Calls Try.prog 15 #[.int .i64 127, .int .u64 a, .int .u64 b, .int .i64 32] w (QPost a b 109 w) := by
  have hb0 : 0 ≤ b := hb.1
  by_cases h0 : b = 0
  · have v1 := Lib.hid (show (0 : Int) = M.val 109 a b from (show M.val 109 a b = M.divs a b from rfl) ▸ (by unfold M.divs; rw [if_pos h0]))
    have v2 := Lib.hid (show (2 : Int) = M.trap 109 a b from (show M.trap 109 a b = M.divsT a b from rfl) ▸ (by unfold M.divsT; rw [if_pos h0]))
    have t : (b == 0) = true := by simp [h0]
    clear h0
    go_enter Try.func15, Try.ntmps15
    go_wp2_with (first
    | (go_at_call 42; refine (rsigned_any _ _ (by assumption)).mono ?_; rintro e w' ⟨rfl, rfl⟩)
    | (go_at_call 43; refine (flag_any _ _).mono ?_; rintro e w' ⟨rfl, rfl⟩)
    | (go_at_call 44; refine (cut_wrap _ _).mono ?_; rintro e w' ⟨rfl, rfl⟩)
    | (go_at_call 44; refine (cut_mod _ _).mono ?_; rintro e w' ⟨rfl, rfl⟩))
    go_ret3
    exact ⟨ret_three _ v1.out v2.out, rfl⟩
  · have t : (b == 0) = false := by simp [h0]
    go_enter Try.func15, Try.ntmps15
    go_wp2_with (first
    | (go_at_call 42; refine (rsigned_any _ _ (by assumption)).mono ?_; rintro e w' ⟨rfl, rfl⟩)
    | (go_at_call 43; refine (flag_any _ _).mono ?_; rintro e w' ⟨rfl, rfl⟩)
    | (go_at_call 44; refine (cut_wrap _ _).mono ?_; rintro e w' ⟨rfl, rfl⟩)
    | (go_at_call 44; refine (cut_mod _ _).mono ?_; rintro e w' ⟨rfl, rfl⟩))
    refine (quotient_s a b _ ha hb h0).mono ?_
    rintro e w' ⟨rfl, rfl⟩
    go_wp2
    go_ret3
    exact ⟨rfl, rfl⟩
set_option maxRecDepth 100000 in
set_option maxHeartbeats 2000000 in
theorem bin_128 (a b : Int) (w : World) (ha : U a) (hb : U b) : Calls Try.prog 15 #[.int .i64 128, .int .u64 a, .int .u64 b, .int .i64 32] w (QPost a b 110 w) := by
  have hb0 : 0 ≤ b := hb.1
  by_cases h0 : b = 0
  · have v1 := Lib.hid (show (0 : Int) = M.val 110 a b from (show M.val 110 a b = M.divu a b from rfl) ▸ (by unfold M.divu; rw [if_pos h0]))
    have v2 := Lib.hid (show (2 : Int) = M.trap 110 a b from (show M.trap 110 a b = M.divT b from rfl) ▸ (by unfold M.divT; rw [if_pos h0]))
    have t : (b == 0) = true := by simp [h0]
    clear h0
    go_enter Try.func15, Try.ntmps15
    go_wp2_with (first
    | (go_at_call 42; refine (rsigned_any _ _ (by assumption)).mono ?_; rintro e w' ⟨rfl, rfl⟩)
    | (go_at_call 43; refine (flag_any _ _).mono ?_; rintro e w' ⟨rfl, rfl⟩)
    | (go_at_call 44; refine (cut_wrap _ _).mono ?_; rintro e w' ⟨rfl, rfl⟩)
    | (go_at_call 44; refine (cut_mod _ _).mono ?_; rintro e w' ⟨rfl, rfl⟩))
    go_ret3
    exact ⟨ret_three _ v1.out v2.out, rfl⟩
  · have t : (b == 0) = false := by simp [h0]
    go_enter Try.func15, Try.ntmps15
    go_wp2_with (first
    | (go_at_call 42; refine (rsigned_any _ _ (by assumption)).mono ?_; rintro e w' ⟨rfl, rfl⟩)
    | (go_at_call 43; refine (flag_any _ _).mono ?_; rintro e w' ⟨rfl, rfl⟩)
    | (go_at_call 44; refine (cut_wrap _ _).mono ?_; rintro e w' ⟨rfl, rfl⟩)
    | (go_at_call 44; refine (cut_mod _ _).mono ?_; rintro e w' ⟨rfl, rfl⟩))
    refine (quotient_u a b _ ha hb h0).mono ?_
    rintro e w' ⟨rfl, rfl⟩
    go_wp2
    go_ret3
    exact ⟨rfl, rfl⟩
set_option maxRecDepth 100000 in
set_option maxHeartbeats 2000000 in
theorem bin_129 (a b : Int) (w : World) (ha : U a) (hb : U b) : Calls Try.prog 15 #[.int .i64 129, .int .u64 a, .int .u64 b, .int .i64 32] w (QPost a b 111 w) := by
  have hb0 : 0 ≤ b := hb.1
  by_cases h0 : b = 0
  · have v1 := Lib.hid (show (0 : Int) = M.val 111 a b from (show M.val 111 a b = M.rems a b from rfl) ▸ (by unfold M.rems; rw [if_pos h0]))
    have v2 := Lib.hid (show (2 : Int) = M.trap 111 a b from (show M.trap 111 a b = M.divT b from rfl) ▸ (by unfold M.divT; rw [if_pos h0]))
    have t : (b == 0) = true := by simp [h0]
    clear h0
    go_enter Try.func15, Try.ntmps15
    go_wp2_with (first
    | (go_at_call 42; refine (rsigned_any _ _ (by assumption)).mono ?_; rintro e w' ⟨rfl, rfl⟩)
    | (go_at_call 43; refine (flag_any _ _).mono ?_; rintro e w' ⟨rfl, rfl⟩)
    | (go_at_call 44; refine (cut_wrap _ _).mono ?_; rintro e w' ⟨rfl, rfl⟩)
    | (go_at_call 44; refine (cut_mod _ _).mono ?_; rintro e w' ⟨rfl, rfl⟩))
    go_ret3
    exact ⟨ret_three _ v1.out v2.out, rfl⟩
  · have t : (b == 0) = false := by simp [h0]
    go_enter Try.func15, Try.ntmps15
    go_wp2_with (first
    | (go_at_call 42; refine (rsigned_any _ _ (by assumption)).mono ?_; rintro e w' ⟨rfl, rfl⟩)
    | (go_at_call 43; refine (flag_any _ _).mono ?_; rintro e w' ⟨rfl, rfl⟩)
    | (go_at_call 44; refine (cut_wrap _ _).mono ?_; rintro e w' ⟨rfl, rfl⟩)
    | (go_at_call 44; refine (cut_mod _ _).mono ?_; rintro e w' ⟨rfl, rfl⟩))
    refine (remainder_s a b _ ha hb h0).mono ?_
    rintro e w' ⟨rfl, rfl⟩
    go_wp2
    go_ret3
    exact ⟨rfl, rfl⟩
set_option maxRecDepth 100000 in
set_option maxHeartbeats 2000000 in
theorem bin_130 (a b : Int) (w : World) (ha : U a) (hb : U b) : Calls Try.prog 15 #[.int .i64 130, .int .u64 a, .int .u64 b, .int .i64 32] w (QPost a b 112 w) := by
  have hb0 : 0 ≤ b := hb.1
  by_cases h0 : b = 0
  · have v1 := Lib.hid (show (0 : Int) = M.val 112 a b from (show M.val 112 a b = M.remu a b from rfl) ▸ (by unfold M.remu; rw [if_pos h0]))
    have v2 := Lib.hid (show (2 : Int) = M.trap 112 a b from (show M.trap 112 a b = M.divT b from rfl) ▸ (by unfold M.divT; rw [if_pos h0]))
    have t : (b == 0) = true := by simp [h0]
    clear h0
    go_enter Try.func15, Try.ntmps15
    go_wp2_with (first
    | (go_at_call 42; refine (rsigned_any _ _ (by assumption)).mono ?_; rintro e w' ⟨rfl, rfl⟩)
    | (go_at_call 43; refine (flag_any _ _).mono ?_; rintro e w' ⟨rfl, rfl⟩)
    | (go_at_call 44; refine (cut_wrap _ _).mono ?_; rintro e w' ⟨rfl, rfl⟩)
    | (go_at_call 44; refine (cut_mod _ _).mono ?_; rintro e w' ⟨rfl, rfl⟩))
    go_ret3
    exact ⟨ret_three _ v1.out v2.out, rfl⟩
  · have t : (b == 0) = false := by simp [h0]
    go_enter Try.func15, Try.ntmps15
    go_wp2_with (first
    | (go_at_call 42; refine (rsigned_any _ _ (by assumption)).mono ?_; rintro e w' ⟨rfl, rfl⟩)
    | (go_at_call 43; refine (flag_any _ _).mono ?_; rintro e w' ⟨rfl, rfl⟩)
    | (go_at_call 44; refine (cut_wrap _ _).mono ?_; rintro e w' ⟨rfl, rfl⟩)
    | (go_at_call 44; refine (cut_mod _ _).mono ?_; rintro e w' ⟨rfl, rfl⟩))
    refine (remainder_u a b _ ha hb h0).mono ?_
    rintro e w' ⟨rfl, rfl⟩
    go_wp2
    go_ret3
    exact ⟨rfl, rfl⟩
set_option maxRecDepth 100000 in
set_option maxHeartbeats 2000000 in
theorem bin_131 (a b : Int) (w : World) (ha : U a) (hb : U b) : Calls Try.prog 15 #[.int .i64 131, .int .u64 a, .int .u64 b, .int .i64 32] w (QPost a b 113 w) := by
  have hb0 : 0 ≤ b := hb.1
  have hv := Lib.hid (u64_and a b ha.1 (by have := ha.2; omega) hb.1 (by have := hb.2; omega))
  go_enter Try.func15, Try.ntmps15
  go_wp2_with (first
    | (go_at_call 42; refine (rsigned_any _ _ (by assumption)).mono ?_; rintro e w' ⟨rfl, rfl⟩)
    | (go_at_call 43; refine (flag_any _ _).mono ?_; rintro e w' ⟨rfl, rfl⟩)
    | (go_at_call 44; refine (cut_wrap _ _).mono ?_; rintro e w' ⟨rfl, rfl⟩)
    | (go_at_call 44; refine (cut_mod _ _).mono ?_; rintro e w' ⟨rfl, rfl⟩))
  go_ret3
  exact ⟨ret_three _ hv.out rfl, rfl⟩
set_option maxRecDepth 100000 in
set_option maxHeartbeats 2000000 in
theorem bin_132 (a b : Int) (w : World) (ha : U a) (hb : U b) : Calls Try.prog 15 #[.int .i64 132, .int .u64 a, .int .u64 b, .int .i64 32] w (QPost a b 114 w) := by
  have hb0 : 0 ≤ b := hb.1
  have hv := Lib.hid (u64_or a b ha.1 (by have := ha.2; omega) hb.1 (by have := hb.2; omega))
  go_enter Try.func15, Try.ntmps15
  go_wp2_with (first
    | (go_at_call 42; refine (rsigned_any _ _ (by assumption)).mono ?_; rintro e w' ⟨rfl, rfl⟩)
    | (go_at_call 43; refine (flag_any _ _).mono ?_; rintro e w' ⟨rfl, rfl⟩)
    | (go_at_call 44; refine (cut_wrap _ _).mono ?_; rintro e w' ⟨rfl, rfl⟩)
    | (go_at_call 44; refine (cut_mod _ _).mono ?_; rintro e w' ⟨rfl, rfl⟩))
  go_ret3
  exact ⟨ret_three _ hv.out rfl, rfl⟩
set_option maxRecDepth 100000 in
set_option maxHeartbeats 2000000 in
theorem bin_133 (a b : Int) (w : World) (ha : U a) (hb : U b) : Calls Try.prog 15 #[.int .i64 133, .int .u64 a, .int .u64 b, .int .i64 32] w (QPost a b 115 w) := by
  have hb0 : 0 ≤ b := hb.1
  have hv := Lib.hid (u64_xor a b ha.1 (by have := ha.2; omega) hb.1 (by have := hb.2; omega))
  go_enter Try.func15, Try.ntmps15
  go_wp2_with (first
    | (go_at_call 42; refine (rsigned_any _ _ (by assumption)).mono ?_; rintro e w' ⟨rfl, rfl⟩)
    | (go_at_call 43; refine (flag_any _ _).mono ?_; rintro e w' ⟨rfl, rfl⟩)
    | (go_at_call 44; refine (cut_wrap _ _).mono ?_; rintro e w' ⟨rfl, rfl⟩)
    | (go_at_call 44; refine (cut_mod _ _).mono ?_; rintro e w' ⟨rfl, rfl⟩))
  go_ret3
  exact ⟨ret_three _ hv.out rfl, rfl⟩
set_option maxRecDepth 100000 in
set_option maxHeartbeats 2000000 in
theorem bin_134 (a b : Int) (w : World) (ha : U a) (hb : U b) : Calls Try.prog 15 #[.int .i64 134, .int .u64 a, .int .u64 b, .int .i64 32] w (QPost a b 116 w) := by
  have hb0 : 0 ≤ b := hb.1
  obtain ⟨k, hk⟩ : ∃ k, b % 32 = k := ⟨_, rfl⟩
  have h0 : 0 ≤ k := by omega
  have h1 : k < 32 := by omega
  have m1 : (min k.toNat 64 : Nat) = k.toNat := by omega
  have hv := Lib.hid (show M.md (a * 2 ^ k.toNat) = M.val 116 a b from (show M.val 116 a b = M.md (a * 2 ^ M.sh b) from rfl) ▸ (by rw [← hk]; rfl))
  go_enter Try.func15, Try.ntmps15
  go_wp2_with (first
    | (go_at_call 42; refine (rsigned_any _ _ (by assumption)).mono ?_; rintro e w' ⟨rfl, rfl⟩)
    | (go_at_call 43; refine (flag_any _ _).mono ?_; rintro e w' ⟨rfl, rfl⟩)
    | (go_at_call 44; refine (cut_wrap _ _).mono ?_; rintro e w' ⟨rfl, rfl⟩)
    | (go_at_call 44; refine (cut_mod _ _).mono ?_; rintro e w' ⟨rfl, rfl⟩))
  go_ret3
  exact ⟨ret_three _ hv.out rfl, rfl⟩
set_option maxRecDepth 100000 in
set_option maxHeartbeats 2000000 in
theorem bin_135 (a b : Int) (w : World) (ha : U a) (hb : U b) : Calls Try.prog 15 #[.int .i64 135, .int .u64 a, .int .u64 b, .int .i64 32] w (QPost a b 117 w) := by
  have hb0 : 0 ≤ b := hb.1
  obtain ⟨k, hk⟩ : ∃ k, b % 32 = k := ⟨_, rfl⟩
  have h0 : 0 ≤ k := by omega
  have h1 : k < 32 := by omega
  have m1 : (min k.toNat 64 : Nat) = k.toNat := by omega
  have hv := Lib.hid (show M.md (M.sg a / 2 ^ k.toNat) = M.val 117 a b from (show M.val 117 a b = M.md (M.sg a / 2 ^ M.sh b) from rfl) ▸ (by rw [← hk]; rfl))
  go_enter Try.func15, Try.ntmps15
  go_wp2_with (first
    | (go_at_call 42; refine (rsigned_any _ _ (by assumption)).mono ?_; rintro e w' ⟨rfl, rfl⟩)
    | (go_at_call 43; refine (flag_any _ _).mono ?_; rintro e w' ⟨rfl, rfl⟩)
    | (go_at_call 44; refine (cut_wrap _ _).mono ?_; rintro e w' ⟨rfl, rfl⟩)
    | (go_at_call 44; refine (cut_mod _ _).mono ?_; rintro e w' ⟨rfl, rfl⟩))
  go_ret3
  exact ⟨ret_three _ hv.out rfl, rfl⟩
set_option maxRecDepth 100000 in
set_option maxHeartbeats 2000000 in
theorem bin_136 (a b : Int) (w : World) (ha : U a) (hb : U b) : Calls Try.prog 15 #[.int .i64 136, .int .u64 a, .int .u64 b, .int .i64 32] w (QPost a b 118 w) := by
  have hb0 : 0 ≤ b := hb.1
  obtain ⟨k, hk⟩ : ∃ k, b % 32 = k := ⟨_, rfl⟩
  have h0 : 0 ≤ k := by omega
  have h1 : k < 32 := by omega
  have m1 : (min k.toNat 64 : Nat) = k.toNat := by omega
  have hv := Lib.hid (show a / 2 ^ k.toNat = M.val 118 a b from (show M.val 118 a b = a / 2 ^ M.sh b from rfl) ▸ (by rw [← hk]; rfl))
  go_enter Try.func15, Try.ntmps15
  go_wp2_with (first
    | (go_at_call 42; refine (rsigned_any _ _ (by assumption)).mono ?_; rintro e w' ⟨rfl, rfl⟩)
    | (go_at_call 43; refine (flag_any _ _).mono ?_; rintro e w' ⟨rfl, rfl⟩)
    | (go_at_call 44; refine (cut_wrap _ _).mono ?_; rintro e w' ⟨rfl, rfl⟩)
    | (go_at_call 44; refine (cut_mod _ _).mono ?_; rintro e w' ⟨rfl, rfl⟩))
  go_ret3
  exact ⟨ret_three _ hv.out rfl, rfl⟩
set_option maxRecDepth 100000 in
set_option maxHeartbeats 2000000 in
theorem bin_137 (a b : Int) (w : World) (ha : U a) (hb : U b) : Calls Try.prog 15 #[.int .i64 137, .int .u64 a, .int .u64 b, .int .i64 32] w (QPost a b 119 w) := by
  have hb0 : 0 ≤ b := hb.1
  obtain ⟨k, hk⟩ : ∃ k, b % 32 = k := ⟨_, rfl⟩
  have h0 : 0 ≤ k := by omega
  have h1 : k < 32 := by omega
  have m1 : (min k.toNat 64 : Nat) = k.toNat := by omega
  have hv := Lib.hid (show M.rot a k.toNat = M.val 119 a b from (show M.val 119 a b = M.rot a (M.sh b) from rfl) ▸ (by rw [← hk]; rfl))
  go_enter Try.func15, Try.ntmps15
  go_wp2_with (first
    | (go_at_call 42; refine (rsigned_any _ _ (by assumption)).mono ?_; rintro e w' ⟨rfl, rfl⟩)
    | (go_at_call 43; refine (flag_any _ _).mono ?_; rintro e w' ⟨rfl, rfl⟩)
    | (go_at_call 44; refine (cut_wrap _ _).mono ?_; rintro e w' ⟨rfl, rfl⟩)
    | (go_at_call 44; refine (cut_mod _ _).mono ?_; rintro e w' ⟨rfl, rfl⟩)
    | (go_at_call 46; refine (turned_any _ _ _ ha h0 h1).mono ?_; rintro e w' ⟨rfl, rfl⟩))
  go_ret3
  exact ⟨ret_three _ hv.out rfl, rfl⟩
set_option maxRecDepth 100000 in
set_option maxHeartbeats 2000000 in
theorem bin_138 (a b : Int) (w : World) (ha : U a) (hb : U b) : Calls Try.prog 15 #[.int .i64 138, .int .u64 a, .int .u64 b, .int .i64 32] w (QPost a b 120 w) := by
  have hb0 : 0 ≤ b := hb.1
  obtain ⟨k, hk⟩ : ∃ k, b % 32 = k := ⟨_, rfl⟩
  have h0 : 0 ≤ k := by omega
  have h1 : k < 32 := by omega
  have m1 : (min k.toNat 64 : Nat) = k.toNat := by omega
  have hv := Lib.hid (show M.rot a (-k % 32).toNat = M.val 120 a b from (show M.val 120 a b = M.rot a (M.sh (-b)) from rfl) ▸ (by unfold M.sh; rw [show -b % 32 = -k % 32 by omega]))
  go_enter Try.func15, Try.ntmps15
  go_wp2_with (first
    | (go_at_call 42; refine (rsigned_any _ _ (by assumption)).mono ?_; rintro e w' ⟨rfl, rfl⟩)
    | (go_at_call 43; refine (flag_any _ _).mono ?_; rintro e w' ⟨rfl, rfl⟩)
    | (go_at_call 44; refine (cut_wrap _ _).mono ?_; rintro e w' ⟨rfl, rfl⟩)
    | (go_at_call 44; refine (cut_mod _ _).mono ?_; rintro e w' ⟨rfl, rfl⟩)
    | (go_at_call 46; refine (turned_any _ _ _ ha (by omega) (by omega)).mono ?_; rintro e w' ⟨rfl, rfl⟩))
  go_ret3
  exact ⟨ret_three _ hv.out rfl, rfl⟩
set_option maxRecDepth 100000 in
set_option maxHeartbeats 2000000 in
theorem bin_0 (a b : Int) (w : World) (ha : U a) (hb : U b) : Calls Try.prog 15 #[.int .i64 0, .int .u64 a, .int .u64 b, .int .i64 32] w fun e w' => e = .returned (.tuple #[.int .u64 0, .int .i64 0, .bool false]) ∧ w = w' := by
  go_enter Try.func15, Try.ntmps15
  go_wp2_with (first
    | (go_at_call 42; refine (rsigned_any _ _ (by assumption)).mono ?_; rintro e w' ⟨rfl, rfl⟩)
    | (go_at_call 43; refine (flag_any _ _).mono ?_; rintro e w' ⟨rfl, rfl⟩)
    | (go_at_call 44; refine (cut_wrap _ _).mono ?_; rintro e w' ⟨rfl, rfl⟩)
    | (go_at_call 44; refine (cut_mod _ _).mono ?_; rintro e w' ⟨rfl, rfl⟩))
  go_ret3
  exact ⟨rfl, rfl⟩
set_option maxRecDepth 100000 in
set_option maxHeartbeats 2000000 in
theorem bin_80 (a b : Int) (w : World) (ha : U a) (hb : U b) : Calls Try.prog 15 #[.int .i64 80, .int .u64 a, .int .u64 b, .int .i64 32] w fun e w' => e = .returned (.tuple #[.int .u64 0, .int .i64 0, .bool false]) ∧ w = w' := by
  go_enter Try.func15, Try.ntmps15
  go_wp2_with (first
    | (go_at_call 42; refine (rsigned_any _ _ (by assumption)).mono ?_; rintro e w' ⟨rfl, rfl⟩)
    | (go_at_call 43; refine (flag_any _ _).mono ?_; rintro e w' ⟨rfl, rfl⟩)
    | (go_at_call 44; refine (cut_wrap _ _).mono ?_; rintro e w' ⟨rfl, rfl⟩)
    | (go_at_call 44; refine (cut_mod _ _).mono ?_; rintro e w' ⟨rfl, rfl⟩))
  go_ret3
  exact ⟨rfl, rfl⟩
set_option maxRecDepth 100000 in
set_option maxHeartbeats 2000000 in
theorem bin_121 (a b : Int) (w : World) (ha : U a) (hb : U b) : Calls Try.prog 15 #[.int .i64 121, .int .u64 a, .int .u64 b, .int .i64 32] w fun e w' => e = .returned (.tuple #[.int .u64 0, .int .i64 0, .bool false]) ∧ w = w' := by
  go_enter Try.func15, Try.ntmps15
  go_wp2_with (first
    | (go_at_call 42; refine (rsigned_any _ _ (by assumption)).mono ?_; rintro e w' ⟨rfl, rfl⟩)
    | (go_at_call 43; refine (flag_any _ _).mono ?_; rintro e w' ⟨rfl, rfl⟩)
    | (go_at_call 44; refine (cut_wrap _ _).mono ?_; rintro e w' ⟨rfl, rfl⟩)
    | (go_at_call 44; refine (cut_mod _ _).mono ?_; rintro e w' ⟨rfl, rfl⟩))
  go_ret3
  exact ⟨rfl, rfl⟩
set_option maxRecDepth 100000 in
set_option maxHeartbeats 2000000 in
theorem bin_122 (a b : Int) (w : World) (ha : U a) (hb : U b) : Calls Try.prog 15 #[.int .i64 122, .int .u64 a, .int .u64 b, .int .i64 32] w fun e w' => e = .returned (.tuple #[.int .u64 0, .int .i64 0, .bool false]) ∧ w = w' := by
  go_enter Try.func15, Try.ntmps15
  go_wp2_with (first
    | (go_at_call 42; refine (rsigned_any _ _ (by assumption)).mono ?_; rintro e w' ⟨rfl, rfl⟩)
    | (go_at_call 43; refine (flag_any _ _).mono ?_; rintro e w' ⟨rfl, rfl⟩)
    | (go_at_call 44; refine (cut_wrap _ _).mono ?_; rintro e w' ⟨rfl, rfl⟩)
    | (go_at_call 44; refine (cut_mod _ _).mono ?_; rintro e w' ⟨rfl, rfl⟩))
  go_ret3
  exact ⟨rfl, rfl⟩
set_option maxRecDepth 100000 in
set_option maxHeartbeats 2000000 in
theorem bin_123 (a b : Int) (w : World) (ha : U a) (hb : U b) : Calls Try.prog 15 #[.int .i64 123, .int .u64 a, .int .u64 b, .int .i64 32] w fun e w' => e = .returned (.tuple #[.int .u64 0, .int .i64 0, .bool false]) ∧ w = w' := by
  go_enter Try.func15, Try.ntmps15
  go_wp2_with (first
    | (go_at_call 42; refine (rsigned_any _ _ (by assumption)).mono ?_; rintro e w' ⟨rfl, rfl⟩)
    | (go_at_call 43; refine (flag_any _ _).mono ?_; rintro e w' ⟨rfl, rfl⟩)
    | (go_at_call 44; refine (cut_wrap _ _).mono ?_; rintro e w' ⟨rfl, rfl⟩)
    | (go_at_call 44; refine (cut_mod _ _).mono ?_; rintro e w' ⟨rfl, rfl⟩))
  go_ret3
  exact ⟨rfl, rfl⟩
end Go.Proofs.Ytpolbefcgbpmmaa
