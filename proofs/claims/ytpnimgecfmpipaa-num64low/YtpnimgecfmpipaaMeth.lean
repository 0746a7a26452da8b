/-
  What each operation with two numbers answers (the code's methods), for every two numbers of 64 bits; no condition beyond their range.
-/
import Derived.Test.YtpnimgecfmpipaaTab
import Derived.Test.YtpnimgecfmpipaaMathB
import Derived.Laws.BitsAllLaws
namespace Go.Proofs.Ytpnimgecfmpipaa
open Go.RowKit
/-- Numbers of 64 bits. -/
def U (a : Int) : Prop := 0 ≤ a ∧ a ≤ 18446744073709551615
theorem truth_any (s : Bool) (w : World) : Calls Try.prog 55 #[.bool s] w fun e w' => e = .returned (.tuple #[.int .u64 (M.fl s), .int .i64 0]) ∧ w = w' := by
  cases s
  all_goals
    go_enter Try.func55, Try.ntmps55
    go_wp2
    go_ret2
    exact ⟨rfl, rfl⟩
theorem ret_two {k k' : IntKind} {a b c d : Int} (h : a = b) (h' : c = d) : Ending.returned (.tuple #[.int k a, .int k' c]) = .returned (.tuple #[.int k b, .int k' d]) := by rw [h, h']
theorem pair_cell0 (w : World) (u v : Value) (t : TypeId) : (w.alloc (.cells #[u, v] t)).drew.cell? ⟨w.heap.size, 0, none⟩ = some u := (show (w.alloc (.cells #[u, v] t)).drew.cell? ⟨w.heap.size, 0, none⟩ = (w.alloc (.cells #[u, v] t)).cell? ⟨w.heap.size, 0, none⟩ from rfl).trans (cell_of_row _ _ _ _ _ _ (heap_alloc_last w _))
theorem pair_cell1 (w : World) (u v : Value) (t : TypeId) : (w.alloc (.cells #[u, v] t)).drew.cell? ⟨w.heap.size, 1, none⟩ = some v := (show (w.alloc (.cells #[u, v] t)).drew.cell? ⟨w.heap.size, 1, none⟩ = (w.alloc (.cells #[u, v] t)).cell? ⟨w.heap.size, 1, none⟩ from rfl).trans (cell_of_row _ _ _ _ _ _ (heap_alloc_last w _))
theorem ret_one {k : IntKind} {a b : Int} (h : a = b) : Ending.returned (.int k a) = .returned (.int k b) := by rw [h]
theorem signed_any (a b : Int) (w : World) (ha : U a) (hb : U b) : Calls Try.prog 56 #[.agg #[.int .u64 a, .int .u64 b]] w fun e w' => e = .returned (.tuple #[.int .i64 (M.sg a), .int .i64 (M.sg b)]) ∧ Below w.heap.size w w' := by
  go_enter Try.func56, Try.ntmps56
  go_wp2
  go_quiet (fail)
  go_wp2
  go_ret2
  exact ⟨ret_two (by unfold wrap64; exact M.sg_eq a ha.1 ha.2) (by unfold wrap64; exact M.sg_eq b hb.1 hb.2), below_drewN ((Below.refl _ _).alloc (Nat.le_refl _) _) _⟩
theorem and63 (b : Int) (h0 : 0 ≤ b) (h1 : b ≤ 18446744073709551615) : bits .and .u64 b 63 = b % 64 := by
  rw [u64_and b 63 h0 (by omega) (by omega) (by omega), show (63 : Int).toNat = 2 ^ 6 - 1 by rfl, Nat.and_two_pow_sub_one_eq_mod]
  omega
theorem and63w (b : Int) (h0 : 0 ≤ b) (h1 : b < 18446744073709551616) : bits .and .u64 b 63 = b % 64 := by
  rw [u64_and b 63 h0 (by omega) (by omega) (by omega), show (63 : Int).toNat = 2 ^ 6 - 1 by rfl, Nat.and_two_pow_sub_one_eq_mod]
  omega
theorem shift_any (a b s : Int) (w : World) (hb : U b) (hs : b % 64 = s) : Calls Try.prog 57 #[.agg #[.int .u64 a, .int .u64 b]] w fun e w' => e = .returned (.int .i64 s) ∧ Below w.heap.size w w' := by
  have h := (and63 b hb.1 hb.2).trans hs
  have h0 : 0 ≤ s := by omega
  have h1 : s < 64 := by omega
  replace hs := Lib.hid hs
  go_enter Try.func57, Try.ntmps57
  go_wp2
  go_ret
  exact ⟨rfl, (Below.refl _ _).alloc (Nat.le_refl _) _⟩
/-- A number turned left, as the library turns it. -/
theorem rot_lib (X n : Nat) (hX : X < 18446744073709551616) (hn : n < 64) : bits .or .u64 ((X : Int) * 2 ^ n % 18446744073709551616) ((X : Int) / 2 ^ (64 - n)) = M.rot (X : Int) n := by
  rw [← M.rot_cast, ← M.rot_or_nat X n hX hn]
  have e1 : (X : Int) * 2 ^ n % 18446744073709551616 = ((X * 2 ^ n % 18446744073709551616 : Nat) : Int) := by simp
  have e2 : (X : Int) / 2 ^ (64 - n) = ((X / 2 ^ (64 - n) : Nat) : Int) := by simp
  rw [e1, e2]
  exact u64_or_nat _ _ (Nat.mod_lt _ (by decide)) (Nat.lt_of_le_of_lt (Nat.div_le_self _ _) hX)
theorem rotl_any (x k s : Int) (w : World) (hx : U x) (hk0 : -64 < k) (hk1 : k < 64) (hs : k % 64 = s) : Calls Try.prog 58 #[.int .u64 x, .int .i64 k] w fun e w' => e = .returned (.int .u64 (M.rot x s.toNat)) ∧ w = w' := by
  have h : bits .and .u64 (IntKind.u64.wrap k) 63 = s := by
    rw [IntKind.wrap_u64, and63w _ (by omega) (by omega)]; omega
  have h0 : 0 ≤ s := by omega
  have h1 : s < 64 := by omega
  obtain ⟨X, rfl⟩ := Int.eq_ofNat_of_zero_le hx.1
  have hX : X < 18446744073709551616 := by have := hx.2; omega
  have m1 : (min s.toNat 64 : Nat) = s.toNat := by omega
  have m2 : (min (64 - s).toNat 64 : Nat) = 64 - s.toNat := by omega
  have hr := Lib.hid (rot_lib X s.toNat hX (by omega))
  replace hs := Lib.hid hs
  go_enter Try.func58, Try.ntmps58
  go_wp2
  go_ret
  refine ⟨ret_one ?_, rfl⟩
  rw [show (64 - s).toNat = 64 - s.toNat by omega]
  exact hr.out
theorem equal_any (a b : Int) (w : World) (ha : U a) (hb : U b) : Calls Try.prog 23 #[.agg #[.int .u64 a, .int .u64 b]] w fun e w' => e = .returned (.tuple #[.int .u64 (M.val 81 a b), .int .i64 (M.trap 81 a b)]) ∧ Below w.heap.size w w' := by
  go_enter Try.func23, Try.ntmps23
  go_wp2_with (go_at_call 55; refine (truth_any _ _).mono ?_; rintro e w2 ⟨rfl, rfl⟩)
  go_ret2
  exact ⟨ret_two (by first | rfl | exact (congrArg M.fl (by simp [bne, beq_eq_decide]))) rfl, (Below.refl _ _).alloc (Nat.le_refl _) _⟩
theorem unequal_any (a b : Int) (w : World) (ha : U a) (hb : U b) : Calls Try.prog 24 #[.agg #[.int .u64 a, .int .u64 b]] w fun e w' => e = .returned (.tuple #[.int .u64 (M.val 82 a b), .int .i64 (M.trap 82 a b)]) ∧ Below w.heap.size w w' := by
  go_enter Try.func24, Try.ntmps24
  go_wp2_with (go_at_call 55; refine (truth_any _ _).mono ?_; rintro e w2 ⟨rfl, rfl⟩)
  go_ret2
  exact ⟨ret_two (by first | rfl | exact (congrArg M.fl (by simp [bne, beq_eq_decide]))) rfl, (Below.refl _ _).alloc (Nat.le_refl _) _⟩
theorem less_any (a b : Int) (w : World) (ha : U a) (hb : U b) : Calls Try.prog 26 #[.agg #[.int .u64 a, .int .u64 b]] w fun e w' => e = .returned (.tuple #[.int .u64 (M.val 84 a b), .int .i64 (M.trap 84 a b)]) ∧ Below w.heap.size w w' := by
  go_enter Try.func26, Try.ntmps26
  go_wp2_with (go_at_call 55; refine (truth_any _ _).mono ?_; rintro e w2 ⟨rfl, rfl⟩)
  go_ret2
  exact ⟨ret_two (by first | rfl | exact (congrArg M.fl (by simp [bne, beq_eq_decide]))) rfl, (Below.refl _ _).alloc (Nat.le_refl _) _⟩
theorem greater_any (a b : Int) (w : World) (ha : U a) (hb : U b) : Calls Try.prog 28 #[.agg #[.int .u64 a, .int .u64 b]] w fun e w' => e = .returned (.tuple #[.int .u64 (M.val 86 a b), .int .i64 (M.trap 86 a b)]) ∧ Below w.heap.size w w' := by
  go_enter Try.func28, Try.ntmps28
  go_wp2_with (go_at_call 55; refine (truth_any _ _).mono ?_; rintro e w2 ⟨rfl, rfl⟩)
  go_ret2
  exact ⟨ret_two (by first | rfl | exact (congrArg M.fl (by simp [bne, beq_eq_decide]))) rfl, (Below.refl _ _).alloc (Nat.le_refl _) _⟩
theorem notGreater_any (a b : Int) (w : World) (ha : U a) (hb : U b) : Calls Try.prog 30 #[.agg #[.int .u64 a, .int .u64 b]] w fun e w' => e = .returned (.tuple #[.int .u64 (M.val 88 a b), .int .i64 (M.trap 88 a b)]) ∧ Below w.heap.size w w' := by
  go_enter Try.func30, Try.ntmps30
  go_wp2_with (go_at_call 55; refine (truth_any _ _).mono ?_; rintro e w2 ⟨rfl, rfl⟩)
  go_ret2
  exact ⟨ret_two (by first | rfl | exact (congrArg M.fl (by simp [bne, beq_eq_decide]))) rfl, (Below.refl _ _).alloc (Nat.le_refl _) _⟩
theorem notLess_any (a b : Int) (w : World) (ha : U a) (hb : U b) : Calls Try.prog 32 #[.agg #[.int .u64 a, .int .u64 b]] w fun e w' => e = .returned (.tuple #[.int .u64 (M.val 90 a b), .int .i64 (M.trap 90 a b)]) ∧ Below w.heap.size w w' := by
  go_enter Try.func32, Try.ntmps32
  go_wp2_with (go_at_call 55; refine (truth_any _ _).mono ?_; rintro e w2 ⟨rfl, rfl⟩)
  go_ret2
  exact ⟨ret_two (by first | rfl | exact (congrArg M.fl (by simp [bne, beq_eq_decide]))) rfl, (Below.refl _ _).alloc (Nat.le_refl _) _⟩
theorem lessSigned_any (a b : Int) (w : World) (ha : U a) (hb : U b) : Calls Try.prog 25 #[.agg #[.int .u64 a, .int .u64 b]] w fun e w' => e = .returned (.tuple #[.int .u64 (M.val 83 a b), .int .i64 (M.trap 83 a b)]) ∧ Below w.heap.size w w' := by
  go_enter Try.func25, Try.ntmps25
  go_wp2_with (first | (go_at_call 55; refine (truth_any _ _).mono ?_; rintro e w2 ⟨rfl, rfl⟩) | (go_at_call 56; refine (signed_any _ _ _ ha hb).mono ?_; rintro e w1 ⟨rfl, bb⟩))
  go_ret2
  exact ⟨ret_two rfl rfl, ((Below.refl _ _).alloc (Nat.le_refl _) _).trans (bb.mono (by simp))⟩
theorem greaterSigned_any (a b : Int) (w : World) (ha : U a) (hb : U b) : Calls Try.prog 27 #[.agg #[.int .u64 a, .int .u64 b]] w fun e w' => e = .returned (.tuple #[.int .u64 (M.val 85 a b), .int .i64 (M.trap 85 a b)]) ∧ Below w.heap.size w w' := by
  go_enter Try.func27, Try.ntmps27
  go_wp2_with (first | (go_at_call 55; refine (truth_any _ _).mono ?_; rintro e w2 ⟨rfl, rfl⟩) | (go_at_call 56; refine (signed_any _ _ _ ha hb).mono ?_; rintro e w1 ⟨rfl, bb⟩))
  go_ret2
  exact ⟨ret_two rfl rfl, ((Below.refl _ _).alloc (Nat.le_refl _) _).trans (bb.mono (by simp))⟩
theorem notGreaterSigned_any (a b : Int) (w : World) (ha : U a) (hb : U b) : Calls Try.prog 29 #[.agg #[.int .u64 a, .int .u64 b]] w fun e w' => e = .returned (.tuple #[.int .u64 (M.val 87 a b), .int .i64 (M.trap 87 a b)]) ∧ Below w.heap.size w w' := by
  go_enter Try.func29, Try.ntmps29
  go_wp2_with (first | (go_at_call 55; refine (truth_any _ _).mono ?_; rintro e w2 ⟨rfl, rfl⟩) | (go_at_call 56; refine (signed_any _ _ _ ha hb).mono ?_; rintro e w1 ⟨rfl, bb⟩))
  go_ret2
  exact ⟨ret_two rfl rfl, ((Below.refl _ _).alloc (Nat.le_refl _) _).trans (bb.mono (by simp))⟩
theorem notLessSigned_any (a b : Int) (w : World) (ha : U a) (hb : U b) : Calls Try.prog 31 #[.agg #[.int .u64 a, .int .u64 b]] w fun e w' => e = .returned (.tuple #[.int .u64 (M.val 89 a b), .int .i64 (M.trap 89 a b)]) ∧ Below w.heap.size w w' := by
  go_enter Try.func31, Try.ntmps31
  go_wp2_with (first | (go_at_call 55; refine (truth_any _ _).mono ?_; rintro e w2 ⟨rfl, rfl⟩) | (go_at_call 56; refine (signed_any _ _ _ ha hb).mono ?_; rintro e w1 ⟨rfl, bb⟩))
  go_ret2
  exact ⟨ret_two rfl rfl, ((Below.refl _ _).alloc (Nat.le_refl _) _).trans (bb.mono (by simp))⟩
theorem sum_any (a b : Int) (w : World) (ha : U a) (hb : U b) : Calls Try.prog 33 #[.agg #[.int .u64 a, .int .u64 b]] w fun e w' => e = .returned (.tuple #[.int .u64 (M.val 124 a b), .int .i64 (M.trap 124 a b)]) ∧ Below w.heap.size w w' := by
  go_enter Try.func33, Try.ntmps33
  go_wp2
  go_ret2
  exact ⟨ret_two rfl rfl, (Below.refl _ _).alloc (Nat.le_refl _) _⟩
theorem difference_any (a b : Int) (w : World) (ha : U a) (hb : U b) : Calls Try.prog 34 #[.agg #[.int .u64 a, .int .u64 b]] w fun e w' => e = .returned (.tuple #[.int .u64 (M.val 125 a b), .int .i64 (M.trap 125 a b)]) ∧ Below w.heap.size w w' := by
  go_enter Try.func34, Try.ntmps34
  go_wp2
  go_ret2
  exact ⟨ret_two rfl rfl, (Below.refl _ _).alloc (Nat.le_refl _) _⟩
theorem product_any (a b : Int) (w : World) (ha : U a) (hb : U b) : Calls Try.prog 35 #[.agg #[.int .u64 a, .int .u64 b]] w fun e w' => e = .returned (.tuple #[.int .u64 (M.val 126 a b), .int .i64 (M.trap 126 a b)]) ∧ Below w.heap.size w w' := by
  go_enter Try.func35, Try.ntmps35
  go_wp2
  go_ret2
  exact ⟨ret_two rfl rfl, (Below.refl _ _).alloc (Nat.le_refl _) _⟩
theorem and_any (a b : Int) (w : World) (ha : U a) (hb : U b) : Calls Try.prog 40 #[.agg #[.int .u64 a, .int .u64 b]] w fun e w' => e = .returned (.tuple #[.int .u64 (M.val 131 a b), .int .i64 (M.trap 131 a b)]) ∧ Below w.heap.size w w' := by
  have hv := Lib.hid (u64_and a b ha.1 (by have := ha.2; omega) hb.1 (by have := hb.2; omega))
  go_enter Try.func40, Try.ntmps40
  go_wp2
  go_ret2
  exact ⟨ret_two hv.out rfl, (Below.refl _ _).alloc (Nat.le_refl _) _⟩
theorem or_any (a b : Int) (w : World) (ha : U a) (hb : U b) : Calls Try.prog 41 #[.agg #[.int .u64 a, .int .u64 b]] w fun e w' => e = .returned (.tuple #[.int .u64 (M.val 132 a b), .int .i64 (M.trap 132 a b)]) ∧ Below w.heap.size w w' := by
  have hv := Lib.hid (u64_or a b ha.1 (by have := ha.2; omega) hb.1 (by have := hb.2; omega))
  go_enter Try.func41, Try.ntmps41
  go_wp2
  go_ret2
  exact ⟨ret_two hv.out rfl, (Below.refl _ _).alloc (Nat.le_refl _) _⟩
theorem exclusiveOr_any (a b : Int) (w : World) (ha : U a) (hb : U b) : Calls Try.prog 42 #[.agg #[.int .u64 a, .int .u64 b]] w fun e w' => e = .returned (.tuple #[.int .u64 (M.val 133 a b), .int .i64 (M.trap 133 a b)]) ∧ Below w.heap.size w w' := by
  have hv := Lib.hid (u64_xor a b ha.1 (by have := ha.2; omega) hb.1 (by have := hb.2; omega))
  go_enter Try.func42, Try.ntmps42
  go_wp2
  go_ret2
  exact ⟨ret_two hv.out rfl, (Below.refl _ _).alloc (Nat.le_refl _) _⟩
theorem quotientSigned_any (a b : Int) (w : World) (ha : U a) (hb : U b) : Calls Try.prog 36 #[.agg #[.int .u64 a, .int .u64 b]] w fun e w' => e = .returned (.tuple #[.int .u64 (M.val 127 a b), .int .i64 (M.trap 127 a b)]) ∧ Below w.heap.size w w' := by
  have hz := M.sg_zero b hb.1 hb.2
  have hm := M.sg_min a ha.1 ha.2
  have ho := M.sg_one b hb.1 hb.2
  by_cases h0 : b = 0
  · have e1 : M.sg b = 0 := hz.2 h0
    have v1 := Lib.hid (show (0 : Int) = M.val 127 a b from (show M.val 127 a b = M.divs a b from rfl) ▸ (by unfold M.divs; rw [if_pos h0]))
    have v2 := Lib.hid (show (2 : Int) = M.trap 127 a b from (show M.trap 127 a b = M.divsT a b from rfl) ▸ (by unfold M.divsT; rw [if_pos h0]))
    clear hz hm ho h0
    go_enter Try.func36, Try.ntmps36
    go_wp2_with (go_at_call 56; refine (signed_any _ _ _ ha hb).mono ?_; rintro e w1 ⟨rfl, bb⟩)
    go_ret2
    exact ⟨ret_two v1.out v2.out, ((Below.refl _ _).alloc (Nat.le_refl _) _).trans (bb.mono (by simp))⟩
  · have e0 : M.sg b ≠ 0 := fun h => h0 (hz.1 h)
    by_cases h1 : a = 9223372036854775808 ∧ b = 18446744073709551615
    · have e1 : M.sg a = -9223372036854775808 := hm.2 h1.1
      have e2 : M.sg b = -1 := ho.2 h1.2
      have v1 := Lib.hid (show (0 : Int) = M.val 127 a b from (show M.val 127 a b = M.divs a b from rfl) ▸ (by unfold M.divs; rw [if_neg h0, if_pos h1]))
      have v2 := Lib.hid (show (3 : Int) = M.trap 127 a b from (show M.trap 127 a b = M.divsT a b from rfl) ▸ (by unfold M.divsT; rw [if_neg h0, if_pos h1]))
      clear hz hm ho h0 h1
      go_enter Try.func36, Try.ntmps36
      go_wp2_with (go_at_call 56; refine (signed_any _ _ _ ha hb).mono ?_; rintro e w1 ⟨rfl, bb⟩)
      go_ret2
      exact ⟨ret_two v1.out v2.out, ((Below.refl _ _).alloc (Nat.le_refl _) _).trans (bb.mono (by simp))⟩
    · have v1 : M.md ((M.sg a).tdiv (M.sg b)) = M.val 127 a b := (show M.val 127 a b = M.divs a b from rfl) ▸ (by unfold M.divs; rw [if_neg h0, if_neg h1])
      have v2 := Lib.hid (show (0 : Int) = M.trap 127 a b from (show M.trap 127 a b = M.divsT a b from rfl) ▸ (by unfold M.divsT; rw [if_neg h0, if_neg h1]))
      have hx : M.sg a ≠ -9223372036854775808 ∨ (M.sg a = -9223372036854775808 ∧ M.sg b ≠ -1) := by
        by_cases h2 : M.sg a = -9223372036854775808
        · exact .inr ⟨h2, fun h => h1 ⟨hm.1 h2, ho.1 h⟩⟩
        · exact .inl h2
      clear hz hm ho h0 h1
      replace v1 := Lib.hid v1
      rcases hx with hx | ⟨hx, hy⟩
      all_goals
        go_enter Try.func36, Try.ntmps36
        go_wp2_with (go_at_call 56; refine (signed_any _ _ _ ha hb).mono ?_; rintro e w1 ⟨rfl, bb⟩)
        go_ret2
        exact ⟨ret_two (by have h := v1.out; rw [← M.md_wrap] at h; unfold wrap64; first | exact h | (rw [hx, Int.neg_tdiv] at h; exact h)) v2.out, ((Below.refl _ _).alloc (Nat.le_refl _) _).trans (bb.mono (by simp))⟩
theorem quotient_any (a b : Int) (w : World) (ha : U a) (hb : U b) : Calls Try.prog 37 #[.agg #[.int .u64 a, .int .u64 b]] w fun e w' => e = .returned (.tuple #[.int .u64 (M.val 128 a b), .int .i64 (M.trap 128 a b)]) ∧ Below w.heap.size w w' := by
  by_cases h0 : b = 0
  · have v1 := Lib.hid (show (0 : Int) = M.val 128 a b from (show M.val 128 a b = M.divu a b from rfl) ▸ (by unfold M.divu; rw [if_pos h0]))
    have v2 := Lib.hid (show (2 : Int) = M.trap 128 a b from (show M.trap 128 a b = M.divT b from rfl) ▸ (by unfold M.divT; rw [if_pos h0]))
    go_enter Try.func37, Try.ntmps37
    go_wp2
    go_ret2
    exact ⟨ret_two v1.out v2.out, (Below.refl _ _).alloc (Nat.le_refl _) _⟩
  · have v1 := Lib.hid (show a.tdiv b % 18446744073709551616 = M.val 128 a b from (show M.val 128 a b = M.divu a b from rfl) ▸ (by unfold M.divu; rw [if_neg h0]; exact M.tdiv_md a b ha.1 ha.2 (by have := hb.1; omega)))
    have v2 := Lib.hid (show (0 : Int) = M.trap 128 a b from (show M.trap 128 a b = M.divT b from rfl) ▸ (by unfold M.divT; rw [if_neg h0]))
    go_enter Try.func37, Try.ntmps37
    go_wp2
    go_ret2
    exact ⟨ret_two v1.out v2.out, (Below.refl _ _).alloc (Nat.le_refl _) _⟩
theorem leftOverSigned_any (a b : Int) (w : World) (ha : U a) (hb : U b) : Calls Try.prog 38 #[.agg #[.int .u64 a, .int .u64 b]] w fun e w' => e = .returned (.tuple #[.int .u64 (M.val 129 a b), .int .i64 (M.trap 129 a b)]) ∧ Below w.heap.size w w' := by
  have hz := M.sg_zero b hb.1 hb.2
  by_cases h0 : b = 0
  · have e1 : M.sg b = 0 := hz.2 h0
    have v1 := Lib.hid (show (0 : Int) = M.val 129 a b from (show M.val 129 a b = M.rems a b from rfl) ▸ (by unfold M.rems; rw [if_pos h0]))
    have v2 := Lib.hid (show (2 : Int) = M.trap 129 a b from (show M.trap 129 a b = M.divT b from rfl) ▸ (by unfold M.divT; rw [if_pos h0]))
    clear hz h0
    go_enter Try.func38, Try.ntmps38
    go_wp2_with (go_at_call 56; refine (signed_any _ _ _ ha hb).mono ?_; rintro e w1 ⟨rfl, bb⟩)
    go_ret2
    exact ⟨ret_two v1.out v2.out, ((Below.refl _ _).alloc (Nat.le_refl _) _).trans (bb.mono (by simp))⟩
  · have e0 : M.sg b ≠ 0 := fun h => h0 (hz.1 h)
    have v1 := Lib.hid (show M.md ((M.sg a).tmod (M.sg b)) = M.val 129 a b from (show M.val 129 a b = M.rems a b from rfl) ▸ (by unfold M.rems; rw [if_neg h0]))
    have v2 := Lib.hid (show (0 : Int) = M.trap 129 a b from (show M.trap 129 a b = M.divT b from rfl) ▸ (by unfold M.divT; rw [if_neg h0]))
    clear hz h0
    go_enter Try.func38, Try.ntmps38
    go_wp2_with (go_at_call 56; refine (signed_any _ _ _ ha hb).mono ?_; rintro e w1 ⟨rfl, bb⟩)
    go_ret2
    exact ⟨ret_two v1.out v2.out, ((Below.refl _ _).alloc (Nat.le_refl _) _).trans (bb.mono (by simp))⟩
theorem leftOver_any (a b : Int) (w : World) (ha : U a) (hb : U b) : Calls Try.prog 39 #[.agg #[.int .u64 a, .int .u64 b]] w fun e w' => e = .returned (.tuple #[.int .u64 (M.val 130 a b), .int .i64 (M.trap 130 a b)]) ∧ Below w.heap.size w w' := by
  by_cases h0 : b = 0
  · have v1 := Lib.hid (show (0 : Int) = M.val 130 a b from (show M.val 130 a b = M.remu a b from rfl) ▸ (by unfold M.remu; rw [if_pos h0]))
    have v2 := Lib.hid (show (2 : Int) = M.trap 130 a b from (show M.trap 130 a b = M.divT b from rfl) ▸ (by unfold M.divT; rw [if_pos h0]))
    go_enter Try.func39, Try.ntmps39
    go_wp2
    go_ret2
    exact ⟨ret_two v1.out v2.out, (Below.refl _ _).alloc (Nat.le_refl _) _⟩
  · have v1 := Lib.hid (show a % b = M.val 130 a b from (show M.val 130 a b = M.remu a b from rfl) ▸ (by unfold M.remu; rw [if_neg h0]))
    have v2 := Lib.hid (show (0 : Int) = M.trap 130 a b from (show M.trap 130 a b = M.divT b from rfl) ▸ (by unfold M.divT; rw [if_neg h0]))
    have k1 : 0 ≤ a := ha.1
    have k2 : 0 < b := by have := hb.1; omega
    go_enter Try.func39, Try.ntmps39
    go_wp2
    go_ret2
    exact ⟨ret_two v1.out v2.out, (Below.refl _ _).alloc (Nat.le_refl _) _⟩
theorem shiftLeft_v (a b s : Int) (ha : U a) (hs : b % 64 = s) : a * 2 ^ s.toNat % 18446744073709551616 = M.val 134 a b := by
  rw [show M.val 134 a b = M.md (a * 2 ^ M.sh b) from rfl]
  subst hs
  rfl
theorem shiftRightSigned_v (a b s : Int) (ha : U a) (hs : b % 64 = s) : IntKind.u64.wrap (IntKind.i64.wrap a / 2 ^ s.toNat) = M.val 135 a b := by
  rw [show M.val 135 a b = M.md (M.sg a / 2 ^ M.sh b) from rfl]
  subst hs
  rw [IntKind.wrap_u64, IntKind.wrap_i64, M.sg_eq a ha.1 ha.2]
  rfl
theorem shiftRight_v (a b s : Int) (ha : U a) (hs : b % 64 = s) : a / 2 ^ s.toNat = M.val 136 a b := by
  rw [show M.val 136 a b = a / 2 ^ M.sh b from rfl]
  subst hs
  rfl
theorem turnLeft_v (a b s : Int) (ha : U a) (hs : b % 64 = s) : M.rot a s.toNat = M.val 137 a b := by
  rw [show M.val 137 a b = M.rot a (M.sh b) from rfl]
  subst hs
  rfl
theorem turnRight_v (a b s : Int) (ha : U a) (hs : b % 64 = s) : M.rot a (-s % 64).toNat = M.val 138 a b := by
  rw [show M.val 138 a b = M.rot a (M.sh (-b)) from rfl]
  subst hs
  unfold M.sh
  rw [show (-(b % 64) : Int) % 64 = -b % 64 by omega]
end Go.Proofs.Ytpnimgecfmpipaa
