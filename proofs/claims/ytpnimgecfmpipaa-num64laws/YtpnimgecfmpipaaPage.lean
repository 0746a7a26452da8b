/-
  What the page's own small functions answer; conditions: the numbers' ranges.
-/
import Derived.Test.YtpnimgecfmpipaaMeth
namespace Go.Proofs.Ytpnimgecfmpipaa
open Go.RowKit
theorem flag_any (s : Bool) (w : World) : Calls Try.prog 49 #[.bool s] w fun e w' => e = .returned (.int .u64 (M.fl s)) ∧ w = w' := by
  cases s
  all_goals
    go_enter Try.func49, Try.ntmps49
    go_wp2
    go_ret
    exact ⟨rfl, rfl⟩
theorem rsigned_any (a : Int) (w : World) (ha : U a) : Calls Try.prog 48 #[.int .u64 a, .int .i64 64] w fun e w' => e = .returned (.int .i64 (M.sg a)) ∧ w = w' := by
  obtain ⟨h0, h1⟩ := ha
  have hv := Lib.hid (M.sg_eq a h0 h1)
  go_enter Try.func48, Try.ntmps48
  go_wp2
  go_ret
  exact ⟨ret_one (by have e := hv.out; unfold wrap64; exact e), rfl⟩
theorem cut_any (a : Int) (w : World) : Calls Try.prog 50 #[.int .u64 a, .int .i64 64] w fun e w' => e = .returned (.int .u64 a) ∧ w = w' := by
  go_enter Try.func50, Try.ntmps50
  go_wp2
  go_ret
  exact ⟨rfl, rfl⟩
theorem bits64_range (op : BinOp) (x y : Int) : 0 ≤ bits op .u64 x y ∧ bits op .u64 x y < 18446744073709551616 := by
  unfold bits
  simp only [IntKind.wrap_u64]
  omega
theorem rot_zero (a : Int) (ha : U a) : M.rot a 0 = a := by
  obtain ⟨h0, h1⟩ := ha
  unfold M.rot
  simp
  omega
theorem turned_any (a k : Int) (w : World) (ha : U a) (h0 : 0 ≤ k) (h1 : k < 64) : Calls Try.prog 52 #[.int .u64 a, .int .u64 k, .int .i64 64] w fun e w' => e = .returned (.int .u64 (M.rot a k.toNat)) ∧ w = w' := by
  by_cases hk : k = 0
  · subst hk
    have hr := Lib.hid (rot_zero a ha)
    go_enter Try.func52, Try.ntmps52
    go_wp2
    go_ret
    exact ⟨ret_one hr.out.symm, rfl⟩
  · obtain ⟨X, rfl⟩ := Int.eq_ofNat_of_zero_le ha.1
    have hX : X < 18446744073709551616 := by have := ha.2; omega
    have m1 : (min k.toNat 64 : Nat) = k.toNat := by omega
    have m2 : (min (64 - k).toNat 64 : Nat) = (64 - k).toNat := by omega
    have hr := rot_lib X k.toNat hX (by omega)
    rw [show 64 - k.toNat = (64 - k).toNat by omega] at hr
    replace hr := Lib.hid hr
    go_enter Try.func52, Try.ntmps52
    go_wp2_with fail
    refine (cut_any _ _).mono ?_
    rintro e w' ⟨rfl, rfl⟩
    go_wp2
    go_ret
    exact ⟨ret_one hr.out, rfl⟩
def QPost (a b op : Int) (w : World) (e : Ending) (w' : World) : Prop := e = .returned (.tuple #[.int .u64 (M.val op a b), .int .i64 (M.trap op a b), .bool true]) ∧ w = w'
theorem ret_three {a b c d : Int} (s : Bool) (h : a = b) (h' : c = d) : Ending.returned (.tuple #[.int .u64 a, .int .i64 c, .bool s]) = .returned (.tuple #[.int .u64 b, .int .i64 d, .bool s]) := by rw [h, h']
theorem cut_wrap (z : Int) (w : World) : Calls Try.prog 50 #[.int .u64 (IntKind.u64.wrap z), .int .i64 64] w fun e w' => e = .returned (.int .u64 (M.md z)) ∧ w = w' := by
  have h := cut_any (IntKind.u64.wrap z) w
  rw [show IntKind.u64.wrap z = M.md z from IntKind.wrap_u64 z] at h ⊢
  exact h
theorem cut_mod (z : Int) (w : World) : Calls Try.prog 50 #[.int .u64 (z % 18446744073709551616), .int .i64 64] w fun e w' => e = .returned (.int .u64 (M.md z)) ∧ w = w' :=
  cut_any (z % 18446744073709551616) w
theorem quotient_u (a b : Int) (w : World) (ha : U a) (hb : U b) (h0 : b ≠ 0) : Calls Try.prog 51 #[.int .i64 128, .int .u64 a, .int .u64 b, .int .i64 64] w (QPost a b 128 w) := by
  have v1 := Lib.hid (show IntKind.u64.wrap (a.tdiv b) = M.val 128 a b from (show M.val 128 a b = M.divu a b from rfl) ▸ (by unfold M.divu; rw [if_neg h0, IntKind.wrap_u64, ← M.tdiv_md a b ha.1 ha.2 (by have := hb.1; omega)]))
  have v2 := Lib.hid (show (0 : Int) = M.trap 128 a b from (show M.trap 128 a b = M.divT b from rfl) ▸ (by unfold M.divT; rw [if_neg h0]))
  go_enter Try.func51, Try.ntmps51
  go_wp2_with (go_at_call 48; refine (rsigned_any _ _ (by assumption)).mono ?_; rintro e w' ⟨rfl, rfl⟩)
  go_ret3
  exact ⟨ret_three _ (by first | exact v1.out | (unfold wrap64; exact (M.md_wrap _).trans v1.out)) v2.out, rfl⟩
theorem remainder_u (a b : Int) (w : World) (ha : U a) (hb : U b) (h0 : b ≠ 0) : Calls Try.prog 51 #[.int .i64 130, .int .u64 a, .int .u64 b, .int .i64 64] w (QPost a b 130 w) := by
  have v1 := Lib.hid (show a % b = M.val 130 a b from (show M.val 130 a b = M.remu a b from rfl) ▸ (by unfold M.remu; rw [if_neg h0]))
  have v2 := Lib.hid (show (0 : Int) = M.trap 130 a b from (show M.trap 130 a b = M.divT b from rfl) ▸ (by unfold M.divT; rw [if_neg h0]))
  have k1 : 0 ≤ a := ha.1
  have k2 : 0 < b := by have := hb.1; omega
  go_enter Try.func51, Try.ntmps51
  go_wp2_with (go_at_call 48; refine (rsigned_any _ _ (by assumption)).mono ?_; rintro e w' ⟨rfl, rfl⟩)
  go_ret3
  exact ⟨ret_three _ (by first | exact v1.out | (unfold wrap64; exact (M.md_wrap _).trans v1.out)) v2.out, rfl⟩
theorem quotient_s (a b : Int) (w : World) (ha : U a) (hb : U b) (h0 : b ≠ 0) : Calls Try.prog 51 #[.int .i64 127, .int .u64 a, .int .u64 b, .int .i64 64] w (QPost a b 127 w) := by
  have hm := M.sg_min a ha.1 ha.2
  have ho := M.sg_one b hb.1 hb.2
  have hz := M.sg_zero b hb.1 hb.2
  have ra := M.sg_range a ha.1 ha.2
  have rb := M.sg_range b hb.1 hb.2
  have e0 : M.sg b ≠ 0 := fun h => h0 (hz.1 h)
  by_cases h1 : M.sg b = -1
  · by_cases h2 : a = 9223372036854775808
    · have v1 := Lib.hid (show (0 : Int) = M.val 127 a b from (show M.val 127 a b = M.divs a b from rfl) ▸ (by unfold M.divs; rw [if_neg h0, if_pos ⟨h2, ho.1 h1⟩]))
      have v2 := Lib.hid (show (3 : Int) = M.trap 127 a b from (show M.trap 127 a b = M.divsT a b from rfl) ▸ (by unfold M.divsT; rw [if_neg h0, if_pos ⟨h2, ho.1 h1⟩]))
      have t : (a == 9223372036854775808) = true := by simp [h2]
      clear hm ho hz ra rb h2
      go_enter Try.func51, Try.ntmps51
      go_wp2_with (go_at_call 48; refine (rsigned_any _ _ (by assumption)).mono ?_; rintro e w' ⟨rfl, rfl⟩)
      go_ret3
      exact ⟨ret_three _ (by first | exact v1.out | (unfold wrap64; exact (M.md_wrap _).trans v1.out)) v2.out, rfl⟩
    · have hn : ¬ (a = 9223372036854775808 ∧ b = 18446744073709551615) := fun h => h2 h.1
      have v1 := Lib.hid (show M.md (-M.sg a) = M.val 127 a b from (show M.val 127 a b = M.divs a b from rfl) ▸ (by unfold M.divs; rw [if_neg h0, if_neg hn, h1, Int.tdiv_neg, Int.tdiv_one]))
      have v2 := Lib.hid (show (0 : Int) = M.trap 127 a b from (show M.trap 127 a b = M.divsT a b from rfl) ▸ (by unfold M.divsT; rw [if_neg h0, if_neg hn]))
      obtain ⟨ra1, ra2⟩ := ra
      clear hm ho hz rb hn
      go_enter Try.func51, Try.ntmps51
      go_wp2_with (first | (go_at_call 48; refine (rsigned_any _ _ (by assumption)).mono ?_; rintro e w' ⟨rfl, rfl⟩) | (go_at_call 50; refine (cut_wrap _ _).mono ?_; rintro e w' ⟨rfl, rfl⟩))
      go_ret3
      exact ⟨ret_three _ (by first | exact v1.out | (unfold wrap64; exact (M.md_wrap _).trans v1.out)) v2.out, rfl⟩
  · have hn : ¬ (a = 9223372036854775808 ∧ b = 18446744073709551615) := fun h => h1 (ho.2 h.2)
    obtain ⟨q, hq⟩ : ∃ q, (M.sg a).tdiv (M.sg b) = q := ⟨_, rfl⟩
    have hq1 : -9223372036854775808 ≤ q ∧ q ≤ 9223372036854775808 := by
      have := Int.natAbs_tdiv_le_natAbs (M.sg a) (M.sg b)
      omega
    have v1 := Lib.hid (show M.md q = M.val 127 a b from (show M.val 127 a b = M.divs a b from rfl) ▸ (by unfold M.divs; rw [if_neg h0, if_neg hn, hq]))
    have v2 := Lib.hid (show (0 : Int) = M.trap 127 a b from (show M.trap 127 a b = M.divsT a b from rfl) ▸ (by unfold M.divsT; rw [if_neg h0, if_neg hn]))
    obtain ⟨hq1, hq2⟩ := hq1
    clear hm ho hz ra rb hn
    go_enter Try.func51, Try.ntmps51
    go_wp2_with (first | (go_at_call 48; refine (rsigned_any _ _ (by assumption)).mono ?_; rintro e w' ⟨rfl, rfl⟩) | (go_at_call 50; refine (cut_wrap _ _).mono ?_; rintro e w' ⟨rfl, rfl⟩))
    go_ret3
    exact ⟨ret_three _ (by first | exact v1.out | (unfold wrap64; exact (M.md_wrap _).trans v1.out)) v2.out, rfl⟩
theorem remainder_s (a b : Int) (w : World) (ha : U a) (hb : U b) (h0 : b ≠ 0) : Calls Try.prog 51 #[.int .i64 129, .int .u64 a, .int .u64 b, .int .i64 64] w (QPost a b 129 w) := by
  have hz := M.sg_zero b hb.1 hb.2
  have ra := M.sg_range a ha.1 ha.2
  have e0 : M.sg b ≠ 0 := fun h => h0 (hz.1 h)
  have v2 := Lib.hid (show (0 : Int) = M.trap 129 a b from (show M.trap 129 a b = M.divT b from rfl) ▸ (by unfold M.divT; rw [if_neg h0]))
  by_cases h1 : M.sg b = -1
  · have v1 := Lib.hid (show (0 : Int) = M.val 129 a b from (show M.val 129 a b = M.rems a b from rfl) ▸ (by unfold M.rems; rw [if_neg h0, h1, Int.tmod_neg, Int.tmod_one]; rfl))
    clear hz ra
    go_enter Try.func51, Try.ntmps51
    go_wp2_with (go_at_call 48; refine (rsigned_any _ _ (by assumption)).mono ?_; rintro e w' ⟨rfl, rfl⟩)
    go_ret3
    exact ⟨ret_three _ (by first | exact v1.out | (unfold wrap64; exact (M.md_wrap _).trans v1.out)) v2.out, rfl⟩
  · obtain ⟨q, hq⟩ : ∃ q, (M.sg a).tmod (M.sg b) = q := ⟨_, rfl⟩
    have v1 := Lib.hid (show M.md q = M.val 129 a b from (show M.val 129 a b = M.rems a b from rfl) ▸ (by unfold M.rems; rw [if_neg h0, hq]))
    clear hz ra
    go_enter Try.func51, Try.ntmps51
    go_wp2_with (first | (go_at_call 48; refine (rsigned_any _ _ (by assumption)).mono ?_; rintro e w' ⟨rfl, rfl⟩) | (go_at_call 50; refine (cut_wrap _ _).mono ?_; rintro e w' ⟨rfl, rfl⟩))
    go_ret3
    exact ⟨ret_three _ (by first | exact v1.out | (unfold wrap64; exact (M.md_wrap _).trans v1.out)) v2.out, rfl⟩
end Go.Proofs.Ytpnimgecfmpipaa
