/-
  What the page answers for sums, differences, products and bits of 32 bits: the low 32 bits of what they are with 64; condition: the numbers are of 32 bits.
-/
import Derived.Test.YtpnimgecfmpipaaConv
namespace Go.Proofs.Ytpnimgecfmpipaa
open Go.RowKit
/-- Numbers of 32 bits. -/
def U32 (a : Int) : Prop := 0 ≤ a ∧ a ≤ 4294967295
theorem U32.wide {a : Int} (h : U32 a) : U a := by obtain ⟨h0, h1⟩ := h; unfold U; omega
/-- A number of 32 bits read with a sign. -/
def M.sg32 (a : Int) : Int := if a < 2147483648 then a else a - 4294967296
theorem rsigned32 (a : Int) (w : World) (ha : U32 a) : Calls Try.prog 48 #[.int .u64 a, .int .i64 32] w fun e w' => e = .returned (.int .i64 (M.sg32 a)) ∧ w = w' := by
  obtain ⟨h0, h1⟩ := ha
  go_enter Try.func48, Try.ntmps48
  go_wp2
  go_ret
  exact ⟨ret_one (by unfold wrap64 wrap32 M.sg32; split <;> omega), rfl⟩
theorem cut32 (a : Int) (w : World) (h0 : 0 ≤ a) (h1 : a < 18446744073709551616) : Calls Try.prog 50 #[.int .u64 a, .int .i64 32] w fun e w' => e = .returned (.int .u64 (M.lo a)) ∧ w = w' := by
  have h := and32w a h0 h1
  go_enter Try.func50, Try.ntmps50
  go_wp2
  go_ret
  exact ⟨rfl, rfl⟩
theorem cut32_wrap (z : Int) (w : World) : Calls Try.prog 50 #[.int .u64 (IntKind.u64.wrap z), .int .i64 32] w fun e w' => e = .returned (.int .u64 (M.lo (M.md z))) ∧ w = w' := by
  rw [show IntKind.u64.wrap z = M.md z from IntKind.wrap_u64 z]
  exact cut32 _ _ (M.md_range z).1 (by have := (M.md_range z).2; omega)
def SPost (v : Int) (w : World) (e : Ending) (w' : World) : Prop := e = .returned (.tuple #[.int .u64 v, .int .i64 0, .bool true]) ∧ w = w'
theorem wide_high (op : Int) (w : World) (h0 : 103 ≤ op) (h1 : op ≤ 120) : Calls Try.prog 22 #[.int .i64 op] w fun e w' => e = .returned (.int .i64 (op + 18)) ∧ w = w' := by
  go_enter Try.func22, Try.ntmps22
  go_wp2
  go_ret
  exact ⟨rfl, rfl⟩
theorem land_lo (a b : Int) (h0 : 0 ≤ a) (h1 : a ≤ 4294967295) : M.lo (M.land a b) = M.land a b := by
  unfold M.lo M.land
  have : a.toNat &&& b.toNat ≤ a.toNat := Nat.and_le_left
  omega
theorem lor_lo (a b : Int) (h0 : 0 ≤ a) (h1 : a ≤ 4294967295) (g0 : 0 ≤ b) (g1 : b ≤ 4294967295) : M.lo (M.lor a b) = M.lor a b := by
  unfold M.lo M.lor
  have : a.toNat ||| b.toNat < 2 ^ 32 := Nat.or_lt_two_pow (by omega) (by omega)
  omega
theorem lxor_lo (a b : Int) (h0 : 0 ≤ a) (h1 : a ≤ 4294967295) (g0 : 0 ≤ b) (g1 : b ≤ 4294967295) : M.lo (M.lxor a b) = M.lxor a b := by
  unfold M.lo M.lxor
  have : a.toNat ^^^ b.toNat < 2 ^ 32 := Nat.xor_lt_two_pow (by omega) (by omega)
  omega
set_option maxRecDepth 100000 in
set_option maxHeartbeats 2000000 in
theorem low_124 (a b : Int) (w : World) (ha : U32 a) (hb : U32 b) : Calls Try.prog 20 #[.int .i64 124, .int .u64 a, .int .u64 b, .int .i64 32] w (SPost (M.lo (M.val 124 a b)) w) := by
  have hb0 : 0 ≤ b := hb.1
  go_enter Try.func20, Try.ntmps20
  go_wp2_with (first
    | (go_at_call 48; refine (rsigned32 _ _ (by assumption)).mono ?_; rintro e w' ⟨rfl, rfl⟩)
    | (go_at_call 50; refine (cut32_wrap _ _).mono ?_; rintro e w' ⟨rfl, rfl⟩))
  go_ret3
  exact ⟨ret_three _ rfl rfl, rfl⟩
set_option maxRecDepth 100000 in
set_option maxHeartbeats 2000000 in
theorem low_125 (a b : Int) (w : World) (ha : U32 a) (hb : U32 b) : Calls Try.prog 20 #[.int .i64 125, .int .u64 a, .int .u64 b, .int .i64 32] w (SPost (M.lo (M.val 125 a b)) w) := by
  have hb0 : 0 ≤ b := hb.1
  go_enter Try.func20, Try.ntmps20
  go_wp2_with (first
    | (go_at_call 48; refine (rsigned32 _ _ (by assumption)).mono ?_; rintro e w' ⟨rfl, rfl⟩)
    | (go_at_call 50; refine (cut32_wrap _ _).mono ?_; rintro e w' ⟨rfl, rfl⟩))
  go_ret3
  exact ⟨ret_three _ rfl rfl, rfl⟩
set_option maxRecDepth 100000 in
set_option maxHeartbeats 2000000 in
theorem low_126 (a b : Int) (w : World) (ha : U32 a) (hb : U32 b) : Calls Try.prog 20 #[.int .i64 126, .int .u64 a, .int .u64 b, .int .i64 32] w (SPost (M.lo (M.val 126 a b)) w) := by
  have hb0 : 0 ≤ b := hb.1
  go_enter Try.func20, Try.ntmps20
  go_wp2_with (first
    | (go_at_call 48; refine (rsigned32 _ _ (by assumption)).mono ?_; rintro e w' ⟨rfl, rfl⟩)
    | (go_at_call 50; refine (cut32_wrap _ _).mono ?_; rintro e w' ⟨rfl, rfl⟩))
  go_ret3
  exact ⟨ret_three _ rfl rfl, rfl⟩
set_option maxRecDepth 100000 in
set_option maxHeartbeats 2000000 in
theorem low_131 (a b : Int) (w : World) (ha : U32 a) (hb : U32 b) : Calls Try.prog 20 #[.int .i64 131, .int .u64 a, .int .u64 b, .int .i64 32] w (SPost (M.lo (M.val 131 a b)) w) := by
  have hb0 : 0 ≤ b := hb.1
  have hv := Lib.hid ((u64_and a b ha.1 (by have := ha.2; omega) hb.1 (by have := hb.2; omega)).trans (land_lo a b ha.1 ha.2).symm)
  go_enter Try.func20, Try.ntmps20
  go_wp2_with (first
    | (go_at_call 48; refine (rsigned32 _ _ (by assumption)).mono ?_; rintro e w' ⟨rfl, rfl⟩)
    | (go_at_call 50; refine (cut32_wrap _ _).mono ?_; rintro e w' ⟨rfl, rfl⟩))
  go_ret3
  exact ⟨ret_three _ hv.out rfl, rfl⟩
set_option maxRecDepth 100000 in
set_option maxHeartbeats 2000000 in
theorem low_132 (a b : Int) (w : World) (ha : U32 a) (hb : U32 b) : Calls Try.prog 20 #[.int .i64 132, .int .u64 a, .int .u64 b, .int .i64 32] w (SPost (M.lo (M.val 132 a b)) w) := by
  have hb0 : 0 ≤ b := hb.1
  have hv := Lib.hid ((u64_or a b ha.1 (by have := ha.2; omega) hb.1 (by have := hb.2; omega)).trans (lor_lo a b ha.1 ha.2 hb.1 hb.2).symm)
  go_enter Try.func20, Try.ntmps20
  go_wp2_with (first
    | (go_at_call 48; refine (rsigned32 _ _ (by assumption)).mono ?_; rintro e w' ⟨rfl, rfl⟩)
    | (go_at_call 50; refine (cut32_wrap _ _).mono ?_; rintro e w' ⟨rfl, rfl⟩))
  go_ret3
  exact ⟨ret_three _ hv.out rfl, rfl⟩
set_option maxRecDepth 100000 in
set_option maxHeartbeats 2000000 in
theorem low_133 (a b : Int) (w : World) (ha : U32 a) (hb : U32 b) : Calls Try.prog 20 #[.int .i64 133, .int .u64 a, .int .u64 b, .int .i64 32] w (SPost (M.lo (M.val 133 a b)) w) := by
  have hb0 : 0 ≤ b := hb.1
  have hv := Lib.hid ((u64_xor a b ha.1 (by have := ha.2; omega) hb.1 (by have := hb.2; omega)).trans (lxor_lo a b ha.1 ha.2 hb.1 hb.2).symm)
  go_enter Try.func20, Try.ntmps20
  go_wp2_with (first
    | (go_at_call 48; refine (rsigned32 _ _ (by assumption)).mono ?_; rintro e w' ⟨rfl, rfl⟩)
    | (go_at_call 50; refine (cut32_wrap _ _).mono ?_; rintro e w' ⟨rfl, rfl⟩))
  go_ret3
  exact ⟨ret_three _ hv.out rfl, rfl⟩
theorem Bin32_of (op a b v : Int) (w : World) (ha : U32 a) (hb : U32 b) (h0 : 103 ≤ op) (h1 : op ≤ 120)
    (hbin : Calls Try.prog 20 #[.int .i64 (op + 18), .int .u64 a, .int .u64 b, .int .i64 32] w (SPost (M.lo v) w)) :
    Calls Try.prog 17 #[.int .i64 op, .int .u32 a, .int .u32 b] w fun e w' => e = .returned (.tuple #[.int .u32 (M.lo v), .int .i64 0, .bool true]) ∧ w = w' := by
  obtain ⟨a0, a1⟩ := ha
  obtain ⟨b0, b1⟩ := hb
  obtain ⟨x, hx⟩ : ∃ x, M.lo v = x := ⟨_, rfl⟩
  have v0 : 0 ≤ x := by rw [← hx]; unfold M.lo; omega
  have v1 : x ≤ 4294967295 := by rw [← hx]; unfold M.lo; omega
  rw [hx] at hbin ⊢
  clear hx
  replace hbin := Lib.hid hbin
  go_enter Try.func17, Try.ntmps17
  go_wp2_with (go_at_call 22; refine (wide_high _ _ h0 h1).mono ?_; rintro e w1 ⟨rfl, rfl⟩)
  refine hbin.out.mono ?_
  rintro e w1 ⟨rfl, rfl⟩
  go_wp2
  go_ret3
  exact ⟨rfl, rfl⟩
def isLow (op : Int) : Prop := op = 124 ∨ op = 125 ∨ op = 126 ∨ op = 131 ∨ op = 132 ∨ op = 133
theorem Bin32_low (op a b : Int) (w : World) (ha : U32 a) (hb : U32 b) (h : isLow op) :
    Calls Try.prog 17 #[.int .i64 (op - 18), .int .u32 a, .int .u32 b] w fun e w' => e = .returned (.tuple #[.int .u32 (M.lo (M.val op a b)), .int .i64 0, .bool true]) ∧ w = w' := by
  rcases h with rfl | rfl | rfl | rfl | rfl | rfl
  · exact Bin32_of 106 a b (M.val 124 a b) w ha hb (by decide) (by decide) (low_124 a b w ha hb)
  · exact Bin32_of 107 a b (M.val 125 a b) w ha hb (by decide) (by decide) (low_125 a b w ha hb)
  · exact Bin32_of 108 a b (M.val 126 a b) w ha hb (by decide) (by decide) (low_126 a b w ha hb)
  · exact Bin32_of 113 a b (M.val 131 a b) w ha hb (by decide) (by decide) (low_131 a b w ha hb)
  · exact Bin32_of 114 a b (M.val 132 a b) w ha hb (by decide) (by decide) (low_132 a b w ha hb)
  · exact Bin32_of 115 a b (M.val 133 a b) w ha hb (by decide) (by decide) (low_133 a b w ha hb)
end Go.Proofs.Ytpnimgecfmpipaa
