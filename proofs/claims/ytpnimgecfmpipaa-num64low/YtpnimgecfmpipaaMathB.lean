/-
  Facts on the answers of Math: how the code's and the page's arithmetic comes to them; no program.
-/
import Derived.Test.YtpnimgecfmpipaaMath
namespace Go.Proofs.Ytpnimgecfmpipaa.M
theorem sg_eq (a : Int) (h0 : 0 ≤ a) (h1 : a ≤ 18446744073709551615) : (a + 9223372036854775808) % 18446744073709551616 - 9223372036854775808 = sg a := by
  unfold sg; split <;> omega
theorem sg_range (a : Int) (h0 : 0 ≤ a) (h1 : a ≤ 18446744073709551615) : -9223372036854775808 ≤ sg a ∧ sg a ≤ 9223372036854775807 := by
  unfold sg; split <;> omega
theorem sg_mod (a : Int) (h0 : 0 ≤ a) (h1 : a ≤ 18446744073709551615) : sg a % 18446744073709551616 = a := by
  unfold sg; split <;> omega
theorem sg_zero (a : Int) (h0 : 0 ≤ a) (h1 : a ≤ 18446744073709551615) : sg a = 0 ↔ a = 0 := by
  unfold sg; split <;> omega
theorem sg_min (a : Int) (h0 : 0 ≤ a) (h1 : a ≤ 18446744073709551615) : sg a = -9223372036854775808 ↔ a = 9223372036854775808 := by
  unfold sg; split <;> omega
theorem sg_one (a : Int) (h0 : 0 ≤ a) (h1 : a ≤ 18446744073709551615) : sg a = -1 ↔ a = 18446744073709551615 := by
  unfold sg; split <;> omega
theorem sg_inj (a b : Int) (h0 : 0 ≤ a) (h1 : a ≤ 18446744073709551615) (g0 : 0 ≤ b) (g1 : b ≤ 18446744073709551615) : sg a = sg b ↔ a = b := by
  unfold sg; split <;> split <;> omega
theorem md_wrap (z : Int) : ((z + 9223372036854775808) % 18446744073709551616 - 9223372036854775808) % 18446744073709551616 = md z := by unfold md; omega
theorem md_range (z : Int) : 0 ≤ md z ∧ md z ≤ 18446744073709551615 := by unfold md; omega
theorem tdiv_md (a b : Int) (h0 : 0 ≤ a) (h1 : a ≤ 18446744073709551615) (g0 : 0 < b) : a.tdiv b % 18446744073709551616 = a / b := by
  rw [Int.tdiv_eq_ediv_of_nonneg h0]
  have := Int.ediv_nonneg h0 (Int.le_of_lt g0)
  have h2 := Int.ediv_le_self b h0
  omega
theorem rot_or_nat (X n : Nat) (hX : X < 18446744073709551616) (hn : n < 64) : (X * 2 ^ n % 18446744073709551616) ||| (X / 2 ^ (64 - n)) = X * 2 ^ n % 18446744073709551616 + X / 2 ^ (64 - n) := by
  have e : (18446744073709551616 : Nat) = 2 ^ (64 - n) * 2 ^ n := by rw [← Nat.pow_add, show 64 - n + n = 64 by omega]
  have h1 : X / 2 ^ (64 - n) < 2 ^ n := by
    rw [Nat.div_lt_iff_lt_mul (Nat.two_pow_pos _), Nat.mul_comm, ← e]; exact hX
  have h2 : X * 2 ^ n % 18446744073709551616 = 2 ^ n * (X % 2 ^ (64 - n)) := by
    rw [e, Nat.mul_mod_mul_right, Nat.mul_comm]
  rw [h2, Nat.two_pow_add_eq_or_of_lt h1]
theorem rot_lt_nat (X n : Nat) (hX : X < 18446744073709551616) (hn : n < 64) : X * 2 ^ n % 18446744073709551616 + X / 2 ^ (64 - n) < 18446744073709551616 := by
  rw [← rot_or_nat X n hX hn]
  have e : (18446744073709551616 : Nat) = 2 ^ 64 := by decide
  rw [e]
  refine Nat.or_lt_two_pow ?_ ?_
  · exact Nat.mod_lt _ (by decide)
  · rw [← e]; exact Nat.lt_of_le_of_lt (Nat.div_le_self _ _) hX
theorem rot_cast (X n : Nat) : ((X * 2 ^ n % 18446744073709551616 + X / 2 ^ (64 - n) : Nat) : Int) = rot (X : Int) n := by
  unfold rot; simp
theorem sh_lt (b : Int) : sh b < 64 := by unfold sh; omega
theorem sh_cast (b : Int) : ((sh b : Nat) : Int) = b % 64 := by unfold sh; omega
theorem rot_range (a : Int) (n : Nat) (h0 : 0 ≤ a) (h1 : a ≤ 18446744073709551615) (hn : n < 64) : 0 ≤ rot a n ∧ rot a n ≤ 18446744073709551615 := by
  obtain ⟨X, rfl⟩ := Int.eq_ofNat_of_zero_le h0
  have := rot_lt_nat X n (by omega) hn
  rw [← rot_cast]
  generalize X * 2 ^ n % 18446744073709551616 + X / 2 ^ (64 - n) = y at this ⊢
  omega
theorem land_range (a b : Int) (h0 : 0 ≤ a) (h1 : a ≤ 18446744073709551615) : 0 ≤ land a b ∧ land a b ≤ 18446744073709551615 := by
  unfold land
  have : a.toNat &&& b.toNat ≤ a.toNat := Nat.and_le_left
  omega
theorem lor_range (a b : Int) (h0 : 0 ≤ a) (h1 : a ≤ 18446744073709551615) (g0 : 0 ≤ b) (g1 : b ≤ 18446744073709551615) : 0 ≤ lor a b ∧ lor a b ≤ 18446744073709551615 := by
  unfold lor
  have : a.toNat ||| b.toNat < 2 ^ 64 := Nat.or_lt_two_pow (by omega) (by omega)
  omega
theorem lxor_range (a b : Int) (h0 : 0 ≤ a) (h1 : a ≤ 18446744073709551615) (g0 : 0 ≤ b) (g1 : b ≤ 18446744073709551615) : 0 ≤ lxor a b ∧ lxor a b ≤ 18446744073709551615 := by
  unfold lxor
  have : a.toNat ^^^ b.toNat < 2 ^ 64 := Nat.xor_lt_two_pow (by omega) (by omega)
  omega
theorem fl_range (s : Bool) : 0 ≤ fl s ∧ fl s ≤ 1 := by cases s <;> decide
theorem fl_range' (s : Bool) : 0 ≤ fl s ∧ fl s ≤ 18446744073709551615 := by cases s <;> decide
theorem divu_range (a b : Int) (h0 : 0 ≤ a) (h1 : a ≤ 18446744073709551615) (g0 : 0 ≤ b) : 0 ≤ divu a b ∧ divu a b ≤ 18446744073709551615 := by
  unfold divu; split
  · omega
  · have := Int.ediv_nonneg h0 g0
    have h2 := Int.ediv_le_self b h0
    omega
theorem remu_range (a b : Int) (g0 : 0 ≤ b) (g1 : b ≤ 18446744073709551615) : 0 ≤ remu a b ∧ remu a b ≤ 18446744073709551615 := by
  unfold remu; split
  · omega
  · have := Int.emod_nonneg a (show b ≠ 0 by assumption)
    have h2 := Int.emod_lt_of_pos a (show 0 < b by omega)
    omega
theorem divs_range (a b : Int) : 0 ≤ divs a b ∧ divs a b ≤ 18446744073709551615 := by
  unfold divs; split
  · omega
  · split
    · omega
    · exact md_range _
theorem rems_range (a b : Int) : 0 ≤ rems a b ∧ rems a b ≤ 18446744073709551615 := by
  unfold rems; split
  · omega
  · exact md_range _
theorem shr_range (a : Int) (n : Nat) (h0 : 0 ≤ a) (h1 : a ≤ 18446744073709551615) : 0 ≤ a / 2 ^ n ∧ a / 2 ^ n ≤ 18446744073709551615 := by
  have := Int.ediv_nonneg h0 (show (0 : Int) ≤ 2 ^ n from Int.pow_nonneg (by decide))
  have h2 := Int.ediv_le_self (2 ^ n) h0
  omega
def Rng (x : Int) : Prop := 0 ≤ x ∧ x ≤ 18446744073709551615
theorem rng_ite {c : Prop} [Decidable c] {x y : Int} (hx : Rng x) (hy : Rng y) : Rng (if c then x else y) := by split <;> assumption
theorem val_range (op a b : Int) (h0 : 0 ≤ a) (h1 : a ≤ 18446744073709551615) (g0 : 0 ≤ b) (g1 : b ≤ 18446744073709551615) : 0 ≤ val op a b ∧ val op a b ≤ 18446744073709551615 := by
  have h : Rng (val op a b) := by
    unfold val
    repeat' with_reducible refine rng_ite ?_ ?_
    all_goals unfold Rng
    all_goals first
      | exact fl_range' _
      | exact md_range _
      | exact divs_range _ _
      | exact divu_range _ _ h0 h1 g0
      | exact rems_range _ _
      | exact remu_range _ _ g0 g1
      | exact land_range _ _ h0 h1
      | exact lor_range _ _ h0 h1 g0 g1
      | exact lxor_range _ _ h0 h1 g0 g1
      | exact shr_range _ _ h0 h1
      | exact rot_range _ _ h0 h1 (sh_lt _)
      | omega
  exact h
end Go.Proofs.Ytpnimgecfmpipaa.M
