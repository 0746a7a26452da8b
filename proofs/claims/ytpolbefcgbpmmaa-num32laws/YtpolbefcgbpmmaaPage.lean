/-
  What the page's own small functions answer; conditions: the numbers' ranges.
-/
import Derived.Test.YtpolbefcgbpmmaaMeth
namespace Go.Proofs.Ytpolbefcgbpmmaa
open Go.RowKit
theorem flag_any (s : Bool) (w : World) : Calls Try.prog 43 #[.bool s] w fun e w' => e = .returned (.int .u64 (M.fl s)) ∧ w = w' := by
  cases s
  all_goals
    go_enter Try.func43, Try.ntmps43
    go_wp2
    go_ret
    exact ⟨rfl, rfl⟩
theorem rsigned_any (a : Int) (w : World) (ha : U a) : Calls Try.prog 42 #[.int .u64 a, .int .i64 32] w fun e w' => e = .returned (.int .i64 (M.sg a)) ∧ w = w' := by
  obtain ⟨h0, h1⟩ := ha
  have hv := Lib.hid (M.sg_eq a h0 h1)
  go_enter Try.func42, Try.ntmps42
  go_wp2
  go_ret
  exact ⟨ret_one (by have r := M.sg_range a h0 h1; have e := hv.out; unfold wrap64 wrap32; omega), rfl⟩
theorem and32w (b : Int) (h0 : 0 ≤ b) (h1 : b < 18446744073709551616) : bits .and .u64 b 4294967295 = M.md b := by
  rw [u64_and b 4294967295 h0 (by omega) (by omega) (by omega), show (4294967295 : Int).toNat = 2 ^ 32 - 1 by rfl, Nat.and_two_pow_sub_one_eq_mod]
  unfold M.md
  omega
theorem cut_any (a : Int) (w : World) (h0 : 0 ≤ a) (h1 : a < 18446744073709551616) : Calls Try.prog 44 #[.int .u64 a, .int .i64 32] w fun e w' => e = .returned (.int .u64 (M.md a)) ∧ w = w' := by
  have h := and32w a h0 h1
  go_enter Try.func44, Try.ntmps44
  go_wp2
  go_ret
  exact ⟨rfl, rfl⟩
theorem wide_low (op : Int) (w : World) (h0 : 69 ≤ op) (h1 : op ≤ 79) : Calls Try.prog 16 #[.int .i64 op] w fun e w' => e = .returned (.int .i64 (op + 11)) ∧ w = w' := by
  go_enter Try.func16, Try.ntmps16
  go_wp2
  go_ret
  exact ⟨rfl, rfl⟩
theorem wide_high (op : Int) (w : World) (h0 : 103 ≤ op) (h1 : op ≤ 120) : Calls Try.prog 16 #[.int .i64 op] w fun e w' => e = .returned (.int .i64 (op + 18)) ∧ w = w' := by
  go_enter Try.func16, Try.ntmps16
  go_wp2
  go_ret
  exact ⟨rfl, rfl⟩
theorem wide_none (op : Int) (w : World) (h : op < 69 ∨ (79 < op ∧ op < 103) ∨ 120 < op) : Calls Try.prog 16 #[.int .i64 op] w fun e w' => e = .returned (.int .i64 0) ∧ w = w' := by
  rcases h with h | ⟨h, h'⟩ | h
  all_goals
    go_enter Try.func16, Try.ntmps16
    go_wp2
    go_ret
    exact ⟨rfl, rfl⟩
theorem bits64_range (op : BinOp) (x y : Int) : 0 ≤ bits op .u64 x y ∧ bits op .u64 x y < 18446744073709551616 := by
  unfold bits
  simp only [IntKind.wrap_u64]
  omega
/-- A number turned left, as the page turns it. -/
theorem rot_page (X n : Nat) (hX : X < 4294967296) (hn : n < 32) : M.md (bits .or .u64 ((X : Int) * 2 ^ n) ((X : Int) / 2 ^ (32 - n))) = M.rot (X : Int) n := by
  have h1 : X * 2 ^ n < 18446744073709551616 := by
    have : 2 ^ n < 2 ^ 32 := Nat.pow_lt_pow_right (by decide) hn
    calc X * 2 ^ n ≤ X * 2 ^ 32 := Nat.mul_le_mul_left _ (Nat.le_of_lt this)
      _ < 4294967296 * 2 ^ 32 := Nat.mul_lt_mul_of_pos_right hX (by decide)
      _ = 18446744073709551616 := by decide
  have h2 : X / 2 ^ (32 - n) < 4294967296 := Nat.lt_of_le_of_lt (Nat.div_le_self _ _) hX
  have e1 : (X : Int) * 2 ^ n = ((X * 2 ^ n : Nat) : Int) := by simp
  have e2 : (X : Int) / 2 ^ (32 - n) = ((X / 2 ^ (32 - n) : Nat) : Int) := by simp
  rw [e1, e2, u64_or_nat _ _ h1 (by omega), ← M.rot_cast, ← M.rot_or_nat X n hX hn]
  unfold M.md
  have h3 := Nat.or_mod_two_pow (a := X * 2 ^ n) (b := X / 2 ^ (32 - n)) (n := 32)
  rw [show (2 ^ 32 : Nat) = 4294967296 by decide, Nat.mod_eq_of_lt h2] at h3
  rw [← h3]
  rfl
theorem rot_zero (a : Int) (ha : U a) : M.rot a 0 = a := by
  obtain ⟨h0, h1⟩ := ha
  unfold M.rot
  simp
  omega
theorem turned_any (a k : Int) (w : World) (ha : U a) (h0 : 0 ≤ k) (h1 : k < 32) : Calls Try.prog 46 #[.int .u64 a, .int .u64 k, .int .i64 32] w fun e w' => e = .returned (.int .u64 (M.rot a k.toNat)) ∧ w = w' := by
  by_cases hk : k = 0
  · subst hk
    have hr := Lib.hid (rot_zero a ha)
    go_enter Try.func46, Try.ntmps46
    go_wp2
    go_ret
    exact ⟨ret_one hr.out.symm, rfl⟩
  · obtain ⟨X, rfl⟩ := Int.eq_ofNat_of_zero_le ha.1
    have hX : X < 4294967296 := by have := ha.2; omega
    have hp : (0 : Int) ≤ (X : Int) * 2 ^ k.toNat := Int.mul_nonneg (by omega) (Int.pow_nonneg (by decide))
    have m1 : (min k.toNat 64 : Nat) = k.toNat := by omega
    have m2 : (min (32 - k).toNat 64 : Nat) = (32 - k).toNat := by omega
    have hb : (X : Int) * 2 ^ k.toNat < 18446744073709551616 := by
      have : 2 ^ k.toNat < 2 ^ 32 := Nat.pow_lt_pow_right (by decide) (by omega)
      have h2 : X * 2 ^ k.toNat < 18446744073709551616 := by
        calc X * 2 ^ k.toNat ≤ X * 2 ^ 32 := Nat.mul_le_mul_left _ (Nat.le_of_lt this)
          _ < 4294967296 * 2 ^ 32 := Nat.mul_lt_mul_of_pos_right hX (by decide)
          _ = 18446744073709551616 := by decide
      have e1 : (X : Int) * 2 ^ k.toNat = ((X * 2 ^ k.toNat : Nat) : Int) := by simp
      rw [e1]; omega
    have hr := rot_page X k.toNat hX (by omega)
    rw [show 32 - k.toNat = (32 - k).toNat by omega] at hr
    obtain ⟨y, hy⟩ : ∃ y, (X : Int) * 2 ^ k.toNat = y := ⟨_, rfl⟩
    obtain ⟨z, hz⟩ : ∃ z, bits .or .u64 y ((X : Int) / 2 ^ (32 - k).toNat) = z := ⟨_, rfl⟩
    have hz0 : 0 ≤ z ∧ z < 18446744073709551616 := by
      rw [← hz]; exact bits64_range _ _ _
    rw [hy] at hr hp hb
    rw [hz] at hr
    have hz1 := hz0.1
    have hz2 := hz0.2
    clear hz0
    replace hr := Lib.hid hr
    go_enter Try.func46, Try.ntmps46
    go_wp2_with fail
    refine (cut_any _ _ hz1 hz2).mono ?_
    rintro e w' ⟨rfl, rfl⟩
    go_wp2
    go_ret
    exact ⟨ret_one hr.out, rfl⟩
def QPost (a b op : Int) (w : World) (e : Ending) (w' : World) : Prop := e = .returned (.tuple #[.int .u64 (M.val op a b), .int .i64 (M.trap op a b), .bool true]) ∧ w = w'
theorem ret_three {a b c d : Int} (s : Bool) (h : a = b) (h' : c = d) : Ending.returned (.tuple #[.int .u64 a, .int .i64 c, .bool s]) = .returned (.tuple #[.int .u64 b, .int .i64 d, .bool s]) := by rw [h, h']
theorem md_u64 (z : Int) : M.md (z % 18446744073709551616) = M.md z := by unfold M.md; omega
theorem cut_wrap (z : Int) (w : World) : Calls Try.prog 44 #[.int .u64 (IntKind.u64.wrap z), .int .i64 32] w fun e w' => e = .returned (.int .u64 (M.md z)) ∧ w = w' := by
  have h := cut_any (IntKind.u64.wrap z) w (by rw [IntKind.wrap_u64]; omega) (by rw [IntKind.wrap_u64]; omega)
  rw [show M.md (IntKind.u64.wrap z) = M.md z by rw [IntKind.wrap_u64, md_u64]] at h
  exact h
theorem quotient_u (a b : Int) (w : World) (ha : U a) (hb : U b) (h0 : b ≠ 0) : Calls Try.prog 45 #[.int .i64 128, .int .u64 a, .int .u64 b, .int .i64 32] w (QPost a b 110 w) := by
  have v1 := Lib.hid (show IntKind.u64.wrap (a.tdiv b) = M.val 110 a b from (show M.val 110 a b = M.divu a b from rfl) ▸ (by unfold M.divu; rw [if_neg h0, IntKind.wrap_u64, ← M.tdiv_md a b ha.1 ha.2 (by have := hb.1; omega)]; have e := M.tdiv_md a b ha.1 ha.2 (by have := hb.1; omega); have := M.divu_range a b ha.1 ha.2 hb.1; unfold M.divu at this; rw [if_neg h0] at this; have e2 := Int.tdiv_eq_ediv_of_nonneg (b := b) ha.1; omega))
  have v2 := Lib.hid (show (0 : Int) = M.trap 110 a b from (show M.trap 110 a b = M.divT b from rfl) ▸ (by unfold M.divT; rw [if_neg h0]))
  go_enter Try.func45, Try.ntmps45
  go_wp2_with (go_at_call 42; refine (rsigned_any _ _ (by assumption)).mono ?_; rintro e w' ⟨rfl, rfl⟩)
  go_ret3
  exact ⟨ret_three _ v1.out v2.out, rfl⟩
theorem remainder_u (a b : Int) (w : World) (ha : U a) (hb : U b) (h0 : b ≠ 0) : Calls Try.prog 45 #[.int .i64 130, .int .u64 a, .int .u64 b, .int .i64 32] w (QPost a b 112 w) := by
  have v1 := Lib.hid (show a % b = M.val 112 a b from (show M.val 112 a b = M.remu a b from rfl) ▸ (by unfold M.remu; rw [if_neg h0]))
  have v2 := Lib.hid (show (0 : Int) = M.trap 112 a b from (show M.trap 112 a b = M.divT b from rfl) ▸ (by unfold M.divT; rw [if_neg h0]))
  have k1 : 0 ≤ a := ha.1
  have k2 : 0 < b := by have := hb.1; omega
  go_enter Try.func45, Try.ntmps45
  go_wp2_with (go_at_call 42; refine (rsigned_any _ _ (by assumption)).mono ?_; rintro e w' ⟨rfl, rfl⟩)
  go_ret3
  exact ⟨ret_three _ v1.out v2.out, rfl⟩
theorem quotient_s (a b : Int) (w : World) (ha : U a) (hb : U b) (h0 : b ≠ 0) : Calls Try.prog 45 #[.int .i64 127, .int .u64 a, .int .u64 b, .int .i64 32] w (QPost a b 109 w) := by
  have hm := M.sg_min a ha.1 ha.2
  have ho := M.sg_one b hb.1 hb.2
  have hz := M.sg_zero b hb.1 hb.2
  have ra := M.sg_range a ha.1 ha.2
  have rb := M.sg_range b hb.1 hb.2
  have e0 : M.sg b ≠ 0 := fun h => h0 (hz.1 h)
  by_cases h1 : M.sg b = -1
  · by_cases h2 : a = 2147483648
    · have v1 := Lib.hid (show (0 : Int) = M.val 109 a b from (show M.val 109 a b = M.divs a b from rfl) ▸ (by unfold M.divs; rw [if_neg h0, if_pos ⟨h2, ho.1 h1⟩]))
      have v2 := Lib.hid (show (3 : Int) = M.trap 109 a b from (show M.trap 109 a b = M.divsT a b from rfl) ▸ (by unfold M.divsT; rw [if_neg h0, if_pos ⟨h2, ho.1 h1⟩]))
      have t : (a == 2147483648) = true := by simp [h2]
      clear hm ho hz ra rb h2
      go_enter Try.func45, Try.ntmps45
      go_wp2_with (go_at_call 42; refine (rsigned_any _ _ (by assumption)).mono ?_; rintro e w' ⟨rfl, rfl⟩)
      go_ret3
      exact ⟨ret_three _ v1.out v2.out, rfl⟩
    · have hn : ¬ (a = 2147483648 ∧ b = 4294967295) := fun h => h2 h.1
      have v1 := Lib.hid (show M.md (-M.sg a) = M.val 109 a b from (show M.val 109 a b = M.divs a b from rfl) ▸ (by unfold M.divs; rw [if_neg h0, if_neg hn, h1, Int.tdiv_neg, Int.tdiv_one]))
      have v2 := Lib.hid (show (0 : Int) = M.trap 109 a b from (show M.trap 109 a b = M.divsT a b from rfl) ▸ (by unfold M.divsT; rw [if_neg h0, if_neg hn]))
      obtain ⟨ra1, ra2⟩ := ra
      clear hm ho hz rb hn
      go_enter Try.func45, Try.ntmps45
      go_wp2_with (first | (go_at_call 42; refine (rsigned_any _ _ (by assumption)).mono ?_; rintro e w' ⟨rfl, rfl⟩) | (go_at_call 44; refine (cut_wrap _ _).mono ?_; rintro e w' ⟨rfl, rfl⟩))
      go_ret3
      exact ⟨ret_three _ v1.out v2.out, rfl⟩
  · have hn : ¬ (a = 2147483648 ∧ b = 4294967295) := fun h => h1 (ho.2 h.2)
    obtain ⟨q, hq⟩ : ∃ q, (M.sg a).tdiv (M.sg b) = q := ⟨_, rfl⟩
    have hq1 : -2147483648 ≤ q ∧ q ≤ 2147483648 := by
      have := Int.natAbs_tdiv_le_natAbs (M.sg a) (M.sg b)
      omega
    have v1 := Lib.hid (show M.md q = M.val 109 a b from (show M.val 109 a b = M.divs a b from rfl) ▸ (by unfold M.divs; rw [if_neg h0, if_neg hn, hq]))
    have v2 := Lib.hid (show (0 : Int) = M.trap 109 a b from (show M.trap 109 a b = M.divsT a b from rfl) ▸ (by unfold M.divsT; rw [if_neg h0, if_neg hn]))
    obtain ⟨hq1, hq2⟩ := hq1
    clear hm ho hz ra rb hn
    go_enter Try.func45, Try.ntmps45
    go_wp2_with (first | (go_at_call 42; refine (rsigned_any _ _ (by assumption)).mono ?_; rintro e w' ⟨rfl, rfl⟩) | (go_at_call 44; refine (cut_wrap _ _).mono ?_; rintro e w' ⟨rfl, rfl⟩))
    go_ret3
    exact ⟨ret_three _ v1.out v2.out, rfl⟩
theorem remainder_s (a b : Int) (w : World) (ha : U a) (hb : U b) (h0 : b ≠ 0) : Calls Try.prog 45 #[.int .i64 129, .int .u64 a, .int .u64 b, .int .i64 32] w (QPost a b 111 w) := by
  have hz := M.sg_zero b hb.1 hb.2
  have ra := M.sg_range a ha.1 ha.2
  have e0 : M.sg b ≠ 0 := fun h => h0 (hz.1 h)
  have v2 := Lib.hid (show (0 : Int) = M.trap 111 a b from (show M.trap 111 a b = M.divT b from rfl) ▸ (by unfold M.divT; rw [if_neg h0]))
  by_cases h1 : M.sg b = -1
  · have v1 := Lib.hid (show (0 : Int) = M.val 111 a b from (show M.val 111 a b = M.rems a b from rfl) ▸ (by unfold M.rems; rw [if_neg h0, h1, Int.tmod_neg, Int.tmod_one]; rfl))
    clear hz ra
    go_enter Try.func45, Try.ntmps45
    go_wp2_with (go_at_call 42; refine (rsigned_any _ _ (by assumption)).mono ?_; rintro e w' ⟨rfl, rfl⟩)
    go_ret3
    exact ⟨ret_three _ v1.out v2.out, rfl⟩
  · obtain ⟨q, hq⟩ : ∃ q, (M.sg a).tmod (M.sg b) = q := ⟨_, rfl⟩
    have v1 := Lib.hid (show M.md q = M.val 111 a b from (show M.val 111 a b = M.rems a b from rfl) ▸ (by unfold M.rems; rw [if_neg h0, hq]))
    clear hz ra
    go_enter Try.func45, Try.ntmps45
    go_wp2_with (first | (go_at_call 42; refine (rsigned_any _ _ (by assumption)).mono ?_; rintro e w' ⟨rfl, rfl⟩) | (go_at_call 44; refine (cut_wrap _ _).mono ?_; rintro e w' ⟨rfl, rfl⟩))
    go_ret3
    exact ⟨ret_three _ v1.out v2.out, rfl⟩
end Go.Proofs.Ytpolbefcgbpmmaa
