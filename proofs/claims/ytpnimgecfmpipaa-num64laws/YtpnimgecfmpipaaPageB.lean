/-
  What the page answers for each operation of two numbers, and for all others; condition: the numbers are of 64 bits.
-/
import Derived.Test.YtpnimgecfmpipaaPage
namespace Go.Proofs.Ytpnimgecfmpipaa
open Go.RowKit
set_option maxRecDepth 100000 in
set_option maxHeartbeats 2000000 in
theorem bin_81 (a b : Int) (w : World) (ha : U a) (hb : U b) : Calls Try.prog 20 #[.int .i64 81, .int .u64 a, .int .u64 b, .int .i64 64] w (QPost a b 81 w) := by
  have hb0 : 0 ≤ b := hb.1
  go_enter Try.func20, Try.ntmps20
  go_wp2_with (first
    | (go_at_call 48; refine (rsigned_any _ _ (by assumption)).mono ?_; rintro e w' ⟨rfl, rfl⟩)
    | (go_at_call 49; refine (flag_any _ _).mono ?_; rintro e w' ⟨rfl, rfl⟩)
    | (go_at_call 50; refine (cut_wrap _ _).mono ?_; rintro e w' ⟨rfl, rfl⟩)
    | (go_at_call 50; refine (cut_mod _ _).mono ?_; rintro e w' ⟨rfl, rfl⟩))
  go_ret3
  exact ⟨ret_three _ (by first | rfl | exact (congrArg M.fl (by simp [bne, beq_eq_decide]))) rfl, rfl⟩
set_option maxRecDepth 100000 in
set_option maxHeartbeats 2000000 in
theorem bin_82 (a b : Int) (w : World) (ha : U a) (hb : U b) : Calls Try.prog 20 #[.int .i64 82, .int .u64 a, .int .u64 b, .int .i64 64] w (QPost a b 82 w) := by
  have hb0 : 0 ≤ b := hb.1
  go_enter Try.func20, Try.ntmps20
  go_wp2_with (first
    | (go_at_call 48; refine (rsigned_any _ _ (by assumption)).mono ?_; rintro e w' ⟨rfl, rfl⟩)
    | (go_at_call 49; refine (flag_any _ _).mono ?_; rintro e w' ⟨rfl, rfl⟩)
    | (go_at_call 50; refine (cut_wrap _ _).mono ?_; rintro e w' ⟨rfl, rfl⟩)
    | (go_at_call 50; refine (cut_mod _ _).mono ?_; rintro e w' ⟨rfl, rfl⟩))
  go_ret3
  exact ⟨ret_three _ (by first | rfl | exact (congrArg M.fl (by simp [bne, beq_eq_decide]))) rfl, rfl⟩
set_option maxRecDepth 100000 in
set_option maxHeartbeats 2000000 in
theorem bin_83 (a b : Int) (w : World) (ha : U a) (hb : U b) : Calls Try.prog 20 #[.int .i64 83, .int .u64 a, .int .u64 b, .int .i64 64] w (QPost a b 83 w) := by
  have hb0 : 0 ≤ b := hb.1
  go_enter Try.func20, Try.ntmps20
  go_wp2_with (first
    | (go_at_call 48; refine (rsigned_any _ _ (by assumption)).mono ?_; rintro e w' ⟨rfl, rfl⟩)
    | (go_at_call 49; refine (flag_any _ _).mono ?_; rintro e w' ⟨rfl, rfl⟩)
    | (go_at_call 50; refine (cut_wrap _ _).mono ?_; rintro e w' ⟨rfl, rfl⟩)
    | (go_at_call 50; refine (cut_mod _ _).mono ?_; rintro e w' ⟨rfl, rfl⟩))
  go_ret3
  exact ⟨ret_three _ rfl rfl, rfl⟩
set_option maxRecDepth 100000 in
set_option maxHeartbeats 2000000 in
theorem bin_84 (a b : Int) (w : World) (ha : U a) (hb : U b) : Calls Try.prog 20 #[.int .i64 84, .int .u64 a, .int .u64 b, .int .i64 64] w (QPost a b 84 w) := by
  have hb0 : 0 ≤ b := hb.1
  go_enter Try.func20, Try.ntmps20
  go_wp2_with (first
    | (go_at_call 48; refine (rsigned_any _ _ (by assumption)).mono ?_; rintro e w' ⟨rfl, rfl⟩)
    | (go_at_call 49; refine (flag_any _ _).mono ?_; rintro e w' ⟨rfl, rfl⟩)
    | (go_at_call 50; refine (cut_wrap _ _).mono ?_; rintro e w' ⟨rfl, rfl⟩)
    | (go_at_call 50; refine (cut_mod _ _).mono ?_; rintro e w' ⟨rfl, rfl⟩))
  go_ret3
  exact ⟨ret_three _ rfl rfl, rfl⟩
set_option maxRecDepth 100000 in
set_option maxHeartbeats 2000000 in
theorem bin_85 (a b : Int) (w : World) (ha : U a) (hb : U b) : Calls Try.prog 20 #[.int .i64 85, .int .u64 a, .int .u64 b, .int .i64 64] w (QPost a b 85 w) := by
  have hb0 : 0 ≤ b := hb.1
  go_enter Try.func20, Try.ntmps20
  go_wp2_with (first
    | (go_at_call 48; refine (rsigned_any _ _ (by assumption)).mono ?_; rintro e w' ⟨rfl, rfl⟩)
    | (go_at_call 49; refine (flag_any _ _).mono ?_; rintro e w' ⟨rfl, rfl⟩)
    | (go_at_call 50; refine (cut_wrap _ _).mono ?_; rintro e w' ⟨rfl, rfl⟩)
    | (go_at_call 50; refine (cut_mod _ _).mono ?_; rintro e w' ⟨rfl, rfl⟩))
  go_ret3
  exact ⟨ret_three _ rfl rfl, rfl⟩
set_option maxRecDepth 100000 in
set_option maxHeartbeats 2000000 in
theorem bin_86 (a b : Int) (w : World) (ha : U a) (hb : U b) : Calls Try.prog 20 #[.int .i64 86, .int .u64 a, .int .u64 b, .int .i64 64] w (QPost a b 86 w) := by
  have hb0 : 0 ≤ b := hb.1
  go_enter Try.func20, Try.ntmps20
  go_wp2_with (first
    | (go_at_call 48; refine (rsigned_any _ _ (by assumption)).mono ?_; rintro e w' ⟨rfl, rfl⟩)
    | (go_at_call 49; refine (flag_any _ _).mono ?_; rintro e w' ⟨rfl, rfl⟩)
    | (go_at_call 50; refine (cut_wrap _ _).mono ?_; rintro e w' ⟨rfl, rfl⟩)
    | (go_at_call 50; refine (cut_mod _ _).mono ?_; rintro e w' ⟨rfl, rfl⟩))
  go_ret3
  exact ⟨ret_three _ rfl rfl, rfl⟩
set_option maxRecDepth 100000 in
set_option maxHeartbeats 2000000 in
theorem bin_87 (a b : Int) (w : World) (ha : U a) (hb : U b) : Calls Try.prog 20 #[.int .i64 87, .int .u64 a, .int .u64 b, .int .i64 64] w (QPost a b 87 w) := by
  have hb0 : 0 ≤ b := hb.1
  go_enter Try.func20, Try.ntmps20
  go_wp2_with (first
    | (go_at_call 48; refine (rsigned_any _ _ (by assumption)).mono ?_; rintro e w' ⟨rfl, rfl⟩)
    | (go_at_call 49; refine (flag_any _ _).mono ?_; rintro e w' ⟨rfl, rfl⟩)
    | (go_at_call 50; refine (cut_wrap _ _).mono ?_; rintro e w' ⟨rfl, rfl⟩)
    | (go_at_call 50; refine (cut_mod _ _).mono ?_; rintro e w' ⟨rfl, rfl⟩))
  go_ret3
  exact ⟨ret_three _ rfl rfl, rfl⟩
set_option maxRecDepth 100000 in
set_option maxHeartbeats 2000000 in
theorem bin_88 (a b : Int) (w : World) (ha : U a) (hb : U b) : Calls Try.prog 20 #[.int .i64 88, .int .u64 a, .int .u64 b, .int .i64 64] w (QPost a b 88 w) := by
  have hb0 : 0 ≤ b := hb.1
  go_enter Try.func20, Try.ntmps20
  go_wp2_with (first
    | (go_at_call 48; refine (rsigned_any _ _ (by assumption)).mono ?_; rintro e w' ⟨rfl, rfl⟩)
    | (go_at_call 49; refine (flag_any _ _).mono ?_; rintro e w' ⟨rfl, rfl⟩)
    | (go_at_call 50; refine (cut_wrap _ _).mono ?_; rintro e w' ⟨rfl, rfl⟩)
    | (go_at_call 50; refine (cut_mod _ _).mono ?_; rintro e w' ⟨rfl, rfl⟩))
  go_ret3
  exact ⟨ret_three _ rfl rfl, rfl⟩
set_option maxRecDepth 100000 in
set_option maxHeartbeats 2000000 in
theorem bin_89 (a b : Int) (w : World) (ha : U a) (hb : U b) : Calls Try.prog 20 #[.int .i64 89, .int .u64 a, .int .u64 b, .int .i64 64] w (QPost a b 89 w) := by
  have hb0 : 0 ≤ b := hb.1
  go_enter Try.func20, Try.ntmps20
  go_wp2_with (first
    | (go_at_call 48; refine (rsigned_any _ _ (by assumption)).mono ?_; rintro e w' ⟨rfl, rfl⟩)
    | (go_at_call 49; refine (flag_any _ _).mono ?_; rintro e w' ⟨rfl, rfl⟩)
    | (go_at_call 50; refine (cut_wrap _ _).mono ?_; rintro e w' ⟨rfl, rfl⟩)
    | (go_at_call 50; refine (cut_mod _ _).mono ?_; rintro e w' ⟨rfl, rfl⟩))
  go_ret3
  exact ⟨ret_three _ rfl rfl, rfl⟩
set_option maxRecDepth 100000 in
set_option maxHeartbeats 2000000 in
theorem bin_90 (a b : Int) (w : World) (ha : U a) (hb : U b) : Calls Try.prog 20 #[.int .i64 90, .int .u64 a, .int .u64 b, .int .i64 64] w (QPost a b 90 w) := by
  have hb0 : 0 ≤ b := hb.1
  go_enter Try.func20, Try.ntmps20
  go_wp2_with (first
    | (go_at_call 48; refine (rsigned_any _ _ (by assumption)).mono ?_; rintro e w' ⟨rfl, rfl⟩)
    | (go_at_call 49; refine (flag_any _ _).mono ?_; rintro e w' ⟨rfl, rfl⟩)
    | (go_at_call 50; refine (cut_wrap _ _).mono ?_; rintro e w' ⟨rfl, rfl⟩)
    | (go_at_call 50; refine (cut_mod _ _).mono ?_; rintro e w' ⟨rfl, rfl⟩))
  go_ret3
  exact ⟨ret_three _ rfl rfl, rfl⟩
set_option maxRecDepth 100000 in
set_option maxHeartbeats 2000000 in
theorem bin_124 (a b : Int) (w : World) (ha : U a) (hb : U b) : Calls Try.prog 20 #[.int .i64 124, .int .u64 a, .int .u64 b, .int .i64 64] w (QPost a b 124 w) := by
  have hb0 : 0 ≤ b := hb.1
  go_enter Try.func20, Try.ntmps20
  go_wp2_with (first
    | (go_at_call 48; refine (rsigned_any _ _ (by assumption)).mono ?_; rintro e w' ⟨rfl, rfl⟩)
    | (go_at_call 49; refine (flag_any _ _).mono ?_; rintro e w' ⟨rfl, rfl⟩)
    | (go_at_call 50; refine (cut_wrap _ _).mono ?_; rintro e w' ⟨rfl, rfl⟩)
    | (go_at_call 50; refine (cut_mod _ _).mono ?_; rintro e w' ⟨rfl, rfl⟩))
  go_ret3
  exact ⟨ret_three _ rfl rfl, rfl⟩
set_option maxRecDepth 100000 in
set_option maxHeartbeats 2000000 in
theorem bin_125 (a b : Int) (w : World) (ha : U a) (hb : U b) : Calls Try.prog 20 #[.int .i64 125, .int .u64 a, .int .u64 b, .int .i64 64] w (QPost a b 125 w) := by
  have hb0 : 0 ≤ b := hb.1
  go_enter Try.func20, Try.ntmps20
  go_wp2_with (first
    | (go_at_call 48; refine (rsigned_any _ _ (by assumption)).mono ?_; rintro e w' ⟨rfl, rfl⟩)
    | (go_at_call 49; refine (flag_any _ _).mono ?_; rintro e w' ⟨rfl, rfl⟩)
    | (go_at_call 50; refine (cut_wrap _ _).mono ?_; rintro e w' ⟨rfl, rfl⟩)
    | (go_at_call 50; refine (cut_mod _ _).mono ?_; rintro e w' ⟨rfl, rfl⟩))
  go_ret3
  exact ⟨ret_three _ rfl rfl, rfl⟩
set_option maxRecDepth 100000 in
set_option maxHeartbeats 2000000 in
theorem bin_126 (a b : Int) (w : World) (ha : U a) (hb : U b) : Calls Try.prog 20 #[.int .i64 126, .int .u64 a, .int .u64 b, .int .i64 64] w (QPost a b 126 w) := by
  have hb0 : 0 ≤ b := hb.1
  go_enter Try.func20, Try.ntmps20
  go_wp2_with (first
    | (go_at_call 48; refine (rsigned_any _ _ (by assumption)).mono ?_; rintro e w' ⟨rfl, rfl⟩)
    | (go_at_call 49; refine (flag_any _ _).mono ?_; rintro e w' ⟨rfl, rfl⟩)
    | (go_at_call 50; refine (cut_wrap _ _).mono ?_; rintro e w' ⟨rfl, rfl⟩)
    | (go_at_call 50; refine (cut_mod _ _).mono ?_; rintro e w' ⟨rfl, rfl⟩))
  go_ret3
  exact ⟨ret_three _ rfl rfl, rfl⟩
set_option maxRecDepth 100000 in
set_option maxHeartbeats 2000000 in
theorem bin_127 (a b : Int) (w : World) (ha : U a) (hb : U b) : Calls Try.prog 20 #[.int .i64 127, .int .u64 a, .int .u64 b, .int .i64 64] w (QPost a b 127 w) := by
  have hb0 : 0 ≤ b := hb.1
  by_cases h0 : b = 0
  · have v1 := Lib.hid (show (0 : Int) = M.val 127 a b from (show M.val 127 a b = M.divs a b from rfl) ▸ (by unfold M.divs; rw [if_pos h0]))
    have v2 := Lib.hid (show (2 : Int) = M.trap 127 a b from (show M.trap 127 a b = M.divsT a b from rfl) ▸ (by unfold M.divsT; rw [if_pos h0]))
    have t : (b == 0) = true := by simp [h0]
    clear h0
    go_enter Try.func20, Try.ntmps20
    go_wp2_with (first
    | (go_at_call 48; refine (rsigned_any _ _ (by assumption)).mono ?_; rintro e w' ⟨rfl, rfl⟩)
    | (go_at_call 49; refine (flag_any _ _).mono ?_; rintro e w' ⟨rfl, rfl⟩)
    | (go_at_call 50; refine (cut_wrap _ _).mono ?_; rintro e w' ⟨rfl, rfl⟩)
    | (go_at_call 50; refine (cut_mod _ _).mono ?_; rintro e w' ⟨rfl, rfl⟩))
    go_ret3
    exact ⟨ret_three _ v1.out v2.out, rfl⟩
  · have t : (b == 0) = false := by simp [h0]
    go_enter Try.func20, Try.ntmps20
    go_wp2_with (first
    | (go_at_call 48; refine (rsigned_any _ _ (by assumption)).mono ?_; rintro e w' ⟨rfl, rfl⟩)
    | (go_at_call 49; refine (flag_any _ _).mono ?_; rintro e w' ⟨rfl, rfl⟩)
    | (go_at_call 50; refine (cut_wrap _ _).mono ?_; rintro e w' ⟨rfl, rfl⟩)
    | (go_at_call 50; refine (cut_mod _ _).mono ?_; rintro e w' ⟨rfl, rfl⟩))
    refine (quotient_s a b _ ha hb h0).mono ?_
    rintro e w' ⟨rfl, rfl⟩
    go_wp2
    go_ret3
    exact ⟨rfl, rfl⟩
set_option maxRecDepth 100000 in
set_option maxHeartbeats 2000000 in
theorem bin_128 (a b : Int) (w : World) (ha : U a) (hb : U b) : Calls Try.prog 20 #[.int .i64 128, .int .u64 a, .int .u64 b, .int .i64 64] w (QPost a b 128 w) := by
  have hb0 : 0 ≤ b := hb.1
  by_cases h0 : b = 0
  · have v1 := Lib.hid (show (0 : Int) = M.val 128 a b from (show M.val 128 a b = M.divu a b from rfl) ▸ (by unfold M.divu; rw [if_pos h0]))
    have v2 := Lib.hid (show (2 : Int) = M.trap 128 a b from (show M.trap 128 a b = M.divT b from rfl) ▸ (by unfold M.divT; rw [if_pos h0]))
    have t : (b == 0) = true := by simp [h0]
    clear h0
    go_enter Try.func20, Try.ntmps20
    go_wp2_with (first
    | (go_at_call 48; refine (rsigned_any _ _ (by assumption)).mono ?_; rintro e w' ⟨rfl, rfl⟩)
    | (go_at_call 49; refine (flag_any _ _).mono ?_; rintro e w' ⟨rfl, rfl⟩)
    | (go_at_call 50; refine (cut_wrap _ _).mono ?_; rintro e w' ⟨rfl, rfl⟩)
    | (go_at_call 50; refine (cut_mod _ _).mono ?_; rintro e w' ⟨rfl, rfl⟩))
    go_ret3
    exact ⟨ret_three _ v1.out v2.out, rfl⟩
  · have t : (b == 0) = false := by simp [h0]
    go_enter Try.func20, Try.ntmps20
    go_wp2_with (first
    | (go_at_call 48; refine (rsigned_any _ _ (by assumption)).mono ?_; rintro e w' ⟨rfl, rfl⟩)
    | (go_at_call 49; refine (flag_any _ _).mono ?_; rintro e w' ⟨rfl, rfl⟩)
    | (go_at_call 50; refine (cut_wrap _ _).mono ?_; rintro e w' ⟨rfl, rfl⟩)
    | (go_at_call 50; refine (cut_mod _ _).mono ?_; rintro e w' ⟨rfl, rfl⟩))
    refine (quotient_u a b _ ha hb h0).mono ?_
    rintro e w' ⟨rfl, rfl⟩
    go_wp2
    go_ret3
    exact ⟨rfl, rfl⟩
set_option maxRecDepth 100000 in
set_option maxHeartbeats 2000000 in
theorem bin_129 (a b : Int) (w : World) (ha : U a) (hb : U b) : Calls Try.prog 20 #[.int .i64 129, .int .u64 a, .int .u64 b, .int .i64 64] w (QPost a b 129 w) := by
  have hb0 : 0 ≤ b := hb.1
  by_cases h0 : b = 0
  · have v1 := Lib.hid (show (0 : Int) = M.val 129 a b from (show M.val 129 a b = M.rems a b from rfl) ▸ (by unfold M.rems; rw [if_pos h0]))
    have v2 := Lib.hid (show (2 : Int) = M.trap 129 a b from (show M.trap 129 a b = M.divT b from rfl) ▸ (by unfold M.divT; rw [if_pos h0]))
    have t : (b == 0) = true := by simp [h0]
    clear h0
    go_enter Try.func20, Try.ntmps20
    go_wp2_with (first
    | (go_at_call 48; refine (rsigned_any _ _ (by assumption)).mono ?_; rintro e w' ⟨rfl, rfl⟩)
    | (go_at_call 49; refine (flag_any _ _).mono ?_; rintro e w' ⟨rfl, rfl⟩)
    | (go_at_call 50; refine (cut_wrap _ _).mono ?_; rintro e w' ⟨rfl, rfl⟩)
    | (go_at_call 50; refine (cut_mod _ _).mono ?_; rintro e w' ⟨rfl, rfl⟩))
    go_ret3
    exact ⟨ret_three _ v1.out v2.out, rfl⟩
  · have t : (b == 0) = false := by simp [h0]
    go_enter Try.func20, Try.ntmps20
    go_wp2_with (first
    | (go_at_call 48; refine (rsigned_any _ _ (by assumption)).mono ?_; rintro e w' ⟨rfl, rfl⟩)
    | (go_at_call 49; refine (flag_any _ _).mono ?_; rintro e w' ⟨rfl, rfl⟩)
    | (go_at_call 50; refine (cut_wrap _ _).mono ?_; rintro e w' ⟨rfl, rfl⟩)
    | (go_at_call 50; refine (cut_mod _ _).mono ?_; rintro e w' ⟨rfl, rfl⟩))
    refine (remainder_s a b _ ha hb h0).mono ?_
    rintro e w' ⟨rfl, rfl⟩
    go_wp2
    go_ret3
    exact ⟨rfl, rfl⟩
set_option maxRecDepth 100000 in
set_option maxHeartbeats 2000000 in
theorem bin_130 (a b : Int) (w : World) (ha : U a) (hb : U b) : Calls Try.prog 20 #[.int .i64 130, .int .u64 a, .int .u64 b, .int .i64 64] w (QPost a b 130 w) := by
  have hb0 : 0 ≤ b := hb.1
  by_cases h0 : b = 0
  · have v1 := Lib.hid (show (0 : Int) = M.val 130 a b from (show M.val 130 a b = M.remu a b from rfl) ▸ (by unfold M.remu; rw [if_pos h0]))
    have v2 := Lib.hid (show (2 : Int) = M.trap 130 a b from (show M.trap 130 a b = M.divT b from rfl) ▸ (by unfold M.divT; rw [if_pos h0]))
    have t : (b == 0) = true := by simp [h0]
    clear h0
    go_enter Try.func20, Try.ntmps20
    go_wp2_with (first
    | (go_at_call 48; refine (rsigned_any _ _ (by assumption)).mono ?_; rintro e w' ⟨rfl, rfl⟩)
    | (go_at_call 49; refine (flag_any _ _).mono ?_; rintro e w' ⟨rfl, rfl⟩)
    | (go_at_call 50; refine (cut_wrap _ _).mono ?_; rintro e w' ⟨rfl, rfl⟩)
    | (go_at_call 50; refine (cut_mod _ _).mono ?_; rintro e w' ⟨rfl, rfl⟩))
    go_ret3
    exact ⟨ret_three _ v1.out v2.out, rfl⟩
  · have t : (b == 0) = false := by simp [h0]
    go_enter Try.func20, Try.ntmps20
    go_wp2_with (first
    | (go_at_call 48; refine (rsigned_any _ _ (by assumption)).mono ?_; rintro e w' ⟨rfl, rfl⟩)
    | (go_at_call 49; refine (flag_any _ _).mono ?_; rintro e w' ⟨rfl, rfl⟩)
    | (go_at_call 50; refine (cut_wrap _ _).mono ?_; rintro e w' ⟨rfl, rfl⟩)
    | (go_at_call 50; refine (cut_mod _ _).mono ?_; rintro e w' ⟨rfl, rfl⟩))
    refine (remainder_u a b _ ha hb h0).mono ?_
    rintro e w' ⟨rfl, rfl⟩
    go_wp2
    go_ret3
    exact ⟨rfl, rfl⟩
set_option maxRecDepth 100000 in
set_option maxHeartbeats 2000000 in
theorem bin_131 (a b : Int) (w : World) (ha : U a) (hb : U b) : Calls Try.prog 20 #[.int .i64 131, .int .u64 a, .int .u64 b, .int .i64 64] w (QPost a b 131 w) := by
  have hb0 : 0 ≤ b := hb.1
  have hv := Lib.hid (u64_and a b ha.1 (by have := ha.2; omega) hb.1 (by have := hb.2; omega))
  go_enter Try.func20, Try.ntmps20
  go_wp2_with (first
    | (go_at_call 48; refine (rsigned_any _ _ (by assumption)).mono ?_; rintro e w' ⟨rfl, rfl⟩)
    | (go_at_call 49; refine (flag_any _ _).mono ?_; rintro e w' ⟨rfl, rfl⟩)
    | (go_at_call 50; refine (cut_wrap _ _).mono ?_; rintro e w' ⟨rfl, rfl⟩)
    | (go_at_call 50; refine (cut_mod _ _).mono ?_; rintro e w' ⟨rfl, rfl⟩))
  go_ret3
  exact ⟨ret_three _ hv.out rfl, rfl⟩
set_option maxRecDepth 100000 in
set_option maxHeartbeats 2000000 in
theorem bin_132 (a b : Int) (w : World) (ha : U a) (hb : U b) : Calls Try.prog 20 #[.int .i64 132, .int .u64 a, .int .u64 b, .int .i64 64] w (QPost a b 132 w) := by
  have hb0 : 0 ≤ b := hb.1
  have hv := Lib.hid (u64_or a b ha.1 (by have := ha.2; omega) hb.1 (by have := hb.2; omega))
  go_enter Try.func20, Try.ntmps20
  go_wp2_with (first
    | (go_at_call 48; refine (rsigned_any _ _ (by assumption)).mono ?_; rintro e w' ⟨rfl, rfl⟩)
    | (go_at_call 49; refine (flag_any _ _).mono ?_; rintro e w' ⟨rfl, rfl⟩)
    | (go_at_call 50; refine (cut_wrap _ _).mono ?_; rintro e w' ⟨rfl, rfl⟩)
    | (go_at_call 50; refine (cut_mod _ _).mono ?_; rintro e w' ⟨rfl, rfl⟩))
  go_ret3
  exact ⟨ret_three _ hv.out rfl, rfl⟩
set_option maxRecDepth 100000 in
set_option maxHeartbeats 2000000 in
theorem bin_133 (a b : Int) (w : World) (ha : U a) (hb : U b) : Calls Try.prog 20 #[.int .i64 133, .int .u64 a, .int .u64 b, .int .i64 64] w (QPost a b 133 w) := by
  have hb0 : 0 ≤ b := hb.1
  have hv := Lib.hid (u64_xor a b ha.1 (by have := ha.2; omega) hb.1 (by have := hb.2; omega))
  go_enter Try.func20, Try.ntmps20
  go_wp2_with (first
    | (go_at_call 48; refine (rsigned_any _ _ (by assumption)).mono ?_; rintro e w' ⟨rfl, rfl⟩)
    | (go_at_call 49; refine (flag_any _ _).mono ?_; rintro e w' ⟨rfl, rfl⟩)
    | (go_at_call 50; refine (cut_wrap _ _).mono ?_; rintro e w' ⟨rfl, rfl⟩)
    | (go_at_call 50; refine (cut_mod _ _).mono ?_; rintro e w' ⟨rfl, rfl⟩))
  go_ret3
  exact ⟨ret_three _ hv.out rfl, rfl⟩
set_option maxRecDepth 100000 in
set_option maxHeartbeats 2000000 in
theorem bin_134 (a b : Int) (w : World) (ha : U a) (hb : U b) : Calls Try.prog 20 #[.int .i64 134, .int .u64 a, .int .u64 b, .int .i64 64] w (QPost a b 134 w) := by
  have hb0 : 0 ≤ b := hb.1
  obtain ⟨k, hk⟩ : ∃ k, b % 64 = k := ⟨_, rfl⟩
  have h0 : 0 ≤ k := by omega
  have h1 : k < 64 := by omega
  have m1 : (min k.toNat 64 : Nat) = k.toNat := by omega
  have hv := Lib.hid (show M.md (a * 2 ^ k.toNat) = M.val 134 a b from (show M.val 134 a b = M.md (a * 2 ^ M.sh b) from rfl) ▸ (by rw [← hk]; rfl))
  go_enter Try.func20, Try.ntmps20
  go_wp2_with (first
    | (go_at_call 48; refine (rsigned_any _ _ (by assumption)).mono ?_; rintro e w' ⟨rfl, rfl⟩)
    | (go_at_call 49; refine (flag_any _ _).mono ?_; rintro e w' ⟨rfl, rfl⟩)
    | (go_at_call 50; refine (cut_wrap _ _).mono ?_; rintro e w' ⟨rfl, rfl⟩)
    | (go_at_call 50; refine (cut_mod _ _).mono ?_; rintro e w' ⟨rfl, rfl⟩))
  go_ret3
  exact ⟨ret_three _ hv.out rfl, rfl⟩
set_option maxRecDepth 100000 in
set_option maxHeartbeats 2000000 in
theorem bin_135 (a b : Int) (w : World) (ha : U a) (hb : U b) : Calls Try.prog 20 #[.int .i64 135, .int .u64 a, .int .u64 b, .int .i64 64] w (QPost a b 135 w) := by
  have hb0 : 0 ≤ b := hb.1
  obtain ⟨k, hk⟩ : ∃ k, b % 64 = k := ⟨_, rfl⟩
  have h0 : 0 ≤ k := by omega
  have h1 : k < 64 := by omega
  have m1 : (min k.toNat 64 : Nat) = k.toNat := by omega
  have hv := Lib.hid (show M.md (M.sg a / 2 ^ k.toNat) = M.val 135 a b from (show M.val 135 a b = M.md (M.sg a / 2 ^ M.sh b) from rfl) ▸ (by rw [← hk]; rfl))
  go_enter Try.func20, Try.ntmps20
  go_wp2_with (first
    | (go_at_call 48; refine (rsigned_any _ _ (by assumption)).mono ?_; rintro e w' ⟨rfl, rfl⟩)
    | (go_at_call 49; refine (flag_any _ _).mono ?_; rintro e w' ⟨rfl, rfl⟩)
    | (go_at_call 50; refine (cut_wrap _ _).mono ?_; rintro e w' ⟨rfl, rfl⟩)
    | (go_at_call 50; refine (cut_mod _ _).mono ?_; rintro e w' ⟨rfl, rfl⟩))
  go_ret3
  exact ⟨ret_three _ hv.out rfl, rfl⟩
set_option maxRecDepth 100000 in
set_option maxHeartbeats 2000000 in
theorem bin_136 (a b : Int) (w : World) (ha : U a) (hb : U b) : Calls Try.prog 20 #[.int .i64 136, .int .u64 a, .int .u64 b, .int .i64 64] w (QPost a b 136 w) := by
  have hb0 : 0 ≤ b := hb.1
  obtain ⟨k, hk⟩ : ∃ k, b % 64 = k := ⟨_, rfl⟩
  have h0 : 0 ≤ k := by omega
  have h1 : k < 64 := by omega
  have m1 : (min k.toNat 64 : Nat) = k.toNat := by omega
  have hv := Lib.hid (show a / 2 ^ k.toNat = M.val 136 a b from (show M.val 136 a b = a / 2 ^ M.sh b from rfl) ▸ (by rw [← hk]; rfl))
  go_enter Try.func20, Try.ntmps20
  go_wp2_with (first
    | (go_at_call 48; refine (rsigned_any _ _ (by assumption)).mono ?_; rintro e w' ⟨rfl, rfl⟩)
    | (go_at_call 49; refine (flag_any _ _).mono ?_; rintro e w' ⟨rfl, rfl⟩)
    | (go_at_call 50; refine (cut_wrap _ _).mono ?_; rintro e w' ⟨rfl, rfl⟩)
    | (go_at_call 50; refine (cut_mod _ _).mono ?_; rintro e w' ⟨rfl, rfl⟩))
  go_ret3
  exact ⟨ret_three _ hv.out rfl, rfl⟩
set_option maxRecDepth 100000 in
set_option maxHeartbeats 2000000 in
theorem bin_137 (a b : Int) (w : World) (ha : U a) (hb : U b) : Calls Try.prog 20 #[.int .i64 137, .int .u64 a, .int .u64 b, .int .i64 64] w (QPost a b 137 w) := by
  have hb0 : 0 ≤ b := hb.1
  obtain ⟨k, hk⟩ : ∃ k, b % 64 = k := ⟨_, rfl⟩
  have h0 : 0 ≤ k := by omega
  have h1 : k < 64 := by omega
  have m1 : (min k.toNat 64 : Nat) = k.toNat := by omega
  have hv := Lib.hid (show M.rot a k.toNat = M.val 137 a b from (show M.val 137 a b = M.rot a (M.sh b) from rfl) ▸ (by rw [← hk]; rfl))
  go_enter Try.func20, Try.ntmps20
  go_wp2_with (first
    | (go_at_call 48; refine (rsigned_any _ _ (by assumption)).mono ?_; rintro e w' ⟨rfl, rfl⟩)
    | (go_at_call 49; refine (flag_any _ _).mono ?_; rintro e w' ⟨rfl, rfl⟩)
    | (go_at_call 50; refine (cut_wrap _ _).mono ?_; rintro e w' ⟨rfl, rfl⟩)
    | (go_at_call 50; refine (cut_mod _ _).mono ?_; rintro e w' ⟨rfl, rfl⟩)
    | (go_at_call 52; refine (turned_any _ _ _ ha h0 h1).mono ?_; rintro e w' ⟨rfl, rfl⟩))
  go_ret3
  exact ⟨ret_three _ hv.out rfl, rfl⟩
set_option maxRecDepth 100000 in
set_option maxHeartbeats 2000000 in
theorem bin_138 (a b : Int) (w : World) (ha : U a) (hb : U b) : Calls Try.prog 20 #[.int .i64 138, .int .u64 a, .int .u64 b, .int .i64 64] w (QPost a b 138 w) := by
  have hb0 : 0 ≤ b := hb.1
  obtain ⟨k, hk⟩ : ∃ k, b % 64 = k := ⟨_, rfl⟩
  have h0 : 0 ≤ k := by omega
  have h1 : k < 64 := by omega
  have m1 : (min k.toNat 64 : Nat) = k.toNat := by omega
  have hv := Lib.hid (show M.rot a (-k % 64).toNat = M.val 138 a b from (show M.val 138 a b = M.rot a (M.sh (-b)) from rfl) ▸ (by unfold M.sh; rw [show -b % 64 = -k % 64 by omega]))
  go_enter Try.func20, Try.ntmps20
  go_wp2_with (first
    | (go_at_call 48; refine (rsigned_any _ _ (by assumption)).mono ?_; rintro e w' ⟨rfl, rfl⟩)
    | (go_at_call 49; refine (flag_any _ _).mono ?_; rintro e w' ⟨rfl, rfl⟩)
    | (go_at_call 50; refine (cut_wrap _ _).mono ?_; rintro e w' ⟨rfl, rfl⟩)
    | (go_at_call 50; refine (cut_mod _ _).mono ?_; rintro e w' ⟨rfl, rfl⟩)
    | (go_at_call 52; refine (turned_any _ _ _ ha (by omega) (by omega)).mono ?_; rintro e w' ⟨rfl, rfl⟩))
  go_ret3
  exact ⟨ret_three _ hv.out rfl, rfl⟩
set_option maxRecDepth 100000 in
set_option maxHeartbeats 2000000 in
theorem bin_none (op a b : Int) (w : World) (ha : U a) (hb : U b) (h : ¬ M.isBin op) : Calls Try.prog 20 #[.int .i64 op, .int .u64 a, .int .u64 b, .int .i64 64] w fun e w' => e = .returned (.tuple #[.int .u64 0, .int .i64 0, .bool false]) ∧ w = w' := by
  unfold M.isBin at h
  have n81 : op ≠ 81 := by omega
  have n82 : op ≠ 82 := by omega
  have n83 : op ≠ 83 := by omega
  have n84 : op ≠ 84 := by omega
  have n85 : op ≠ 85 := by omega
  have n86 : op ≠ 86 := by omega
  have n87 : op ≠ 87 := by omega
  have n88 : op ≠ 88 := by omega
  have n89 : op ≠ 89 := by omega
  have n90 : op ≠ 90 := by omega
  have n124 : op ≠ 124 := by omega
  have n125 : op ≠ 125 := by omega
  have n126 : op ≠ 126 := by omega
  have n127 : op ≠ 127 := by omega
  have n128 : op ≠ 128 := by omega
  have n129 : op ≠ 129 := by omega
  have n130 : op ≠ 130 := by omega
  have n131 : op ≠ 131 := by omega
  have n132 : op ≠ 132 := by omega
  have n133 : op ≠ 133 := by omega
  have n134 : op ≠ 134 := by omega
  have n135 : op ≠ 135 := by omega
  have n136 : op ≠ 136 := by omega
  have n137 : op ≠ 137 := by omega
  have n138 : op ≠ 138 := by omega
  clear h
  go_enter Try.func20, Try.ntmps20
  go_wp2_with (first
    | (go_at_call 48; refine (rsigned_any _ _ (by assumption)).mono ?_; rintro e w' ⟨rfl, rfl⟩)
    | (go_at_call 49; refine (flag_any _ _).mono ?_; rintro e w' ⟨rfl, rfl⟩)
    | (go_at_call 50; refine (cut_wrap _ _).mono ?_; rintro e w' ⟨rfl, rfl⟩)
    | (go_at_call 50; refine (cut_mod _ _).mono ?_; rintro e w' ⟨rfl, rfl⟩))
  go_ret3
  exact ⟨rfl, rfl⟩
end Go.Proofs.Ytpnimgecfmpipaa
