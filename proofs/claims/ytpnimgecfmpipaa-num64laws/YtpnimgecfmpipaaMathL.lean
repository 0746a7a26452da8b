/-
  What follows for the answers of two numbers: sums and products both ways, quotients, turns, shifts, comparisons; no program.
-/
import Derived.Test.YtpnimgecfmpipaaMathB
namespace Go.Proofs.Ytpnimgecfmpipaa.M
theorem both_ways (op a b : Int) (h : op = 124 ∨ op = 126 ∨ op = 131 ∨ op = 132 ∨ op = 133) : val op a b = val op b a ∧ isBin op ∧ (∀ x y, trap op x y = 0) := by
  rcases h with rfl | rfl | rfl | rfl | rfl
  · exact ⟨by show md (a + b) = md (b + a); rw [Int.add_comm], by unfold isBin; omega, fun _ _ => rfl⟩
  · exact ⟨by show md (a * b) = md (b * a); rw [Int.mul_comm], by unfold isBin; omega, fun _ _ => rfl⟩
  · exact ⟨by show land a b = land b a; unfold land; rw [Nat.and_comm], by unfold isBin; omega, fun _ _ => rfl⟩
  · exact ⟨by show lor a b = lor b a; unfold lor; rw [Nat.or_comm], by unfold isBin; omega, fun _ _ => rfl⟩
  · exact ⟨by show lxor a b = lxor b a; unfold lxor; rw [Nat.xor_comm], by unfold isBin; omega, fun _ _ => rfl⟩
theorem sub_add (a b : Int) (h0 : 0 ≤ a) (h1 : a ≤ 18446744073709551615) : val 124 (val 125 a b) b = a := by
  show md (md (a - b) + b) = a
  unfold md; omega
theorem mod_add_mod (x y : Int) : (x % 18446744073709551616 + y % 18446744073709551616) % 18446744073709551616 = (x + y) % 18446744073709551616 := by omega
theorem quo_s (a b : Int) (h0 : 0 ≤ a) (h1 : a ≤ 18446744073709551615) : (md ((sg a).tdiv (sg b)) * b % 18446744073709551616 + md ((sg a).tmod (sg b))) % 18446744073709551616 = a := by
  unfold md
  have e := Int.mul_tdiv_add_tmod (sg a) (sg b)
  have hb : ∃ k, b = sg b + 18446744073709551616 * k := by unfold sg; split; exact ⟨0, by omega⟩; exact ⟨1, by omega⟩
  have ha := sg_mod a h0 h1
  obtain ⟨k, hk⟩ := hb
  generalize (sg a).tmod (sg b) = r at e ⊢
  generalize (sg a).tdiv (sg b) = q at e ⊢
  generalize sg b = y at e hk
  generalize sg a = x at e ha
  rw [mod_add_mod]
  have h2 : (q % 18446744073709551616 * b + r) % 18446744073709551616 = (q * b + r) % 18446744073709551616 := by
    rw [Int.add_emod, Int.mul_emod, Int.emod_emod_of_dvd _ (Int.dvd_refl _), ← Int.mul_emod, ← Int.add_emod]
  rw [h2, hk, Int.mul_add]
  have h3 : q * y + q * (18446744073709551616 * k) + r = (y * q + r) + 18446744073709551616 * (q * k) := by
    rw [Int.mul_left_comm, Int.mul_comm q y]; omega
  rw [h3, Int.add_mul_emod_self_left, e]
  exact ha
theorem quo_u (a b : Int) (h0 : 0 ≤ a) (h1 : a ≤ 18446744073709551615) (hb : 0 ≤ b) : (a / b * b % 18446744073709551616 + a % b) % 18446744073709551616 = a := by
  have e := Int.mul_ediv_add_emod a b
  have h2 : 0 ≤ a / b := Int.ediv_nonneg h0 hb
  rw [Int.mul_comm]
  generalize b * (a / b) = z at e ⊢
  generalize a % b = r at e ⊢
  omega
theorem quo_cases (q a b : Int) (hq : q = 0 ∨ q = 1) (h0 : 0 ≤ a) (h1 : a ≤ 18446744073709551615) (g0 : 0 ≤ b) :
    (b = 0 ∧ trap (127 + q) a b = 2 ∧ trap (129 + q) a b = 2) ∨ (b ≠ 0 ∧ trap (127 + q) a b = 3 ∧ trap (129 + q) a b = 0) ∨
    (b ≠ 0 ∧ trap (127 + q) a b = 0 ∧ trap (129 + q) a b = 0 ∧ (val (127 + q) a b * b % 18446744073709551616 + val (129 + q) a b) % 18446744073709551616 = a) := by
  rcases hq with rfl | rfl
  · show (b = 0 ∧ divsT a b = 2 ∧ divT b = 2) ∨ (b ≠ 0 ∧ divsT a b = 3 ∧ divT b = 0) ∨ (b ≠ 0 ∧ divsT a b = 0 ∧ divT b = 0 ∧ (divs a b * b % 18446744073709551616 + rems a b) % 18446744073709551616 = a)
    by_cases hb : b = 0
    · exact .inl ⟨hb, by simp [divsT, hb], by simp [divT, hb]⟩
    · by_cases ho : a = 9223372036854775808 ∧ b = 18446744073709551615
      · exact .inr (.inl ⟨hb, by unfold divsT; rw [if_neg hb, if_pos ho], by simp [divT, hb]⟩)
      · refine .inr (.inr ⟨hb, by unfold divsT; rw [if_neg hb, if_neg ho], by simp [divT, hb], ?_⟩)
        unfold divs rems
        rw [if_neg hb, if_neg hb, if_neg ho]
        exact quo_s a b h0 h1
  · show (b = 0 ∧ divT b = 2 ∧ divT b = 2) ∨ (b ≠ 0 ∧ divT b = 3 ∧ divT b = 0) ∨ (b ≠ 0 ∧ divT b = 0 ∧ divT b = 0 ∧ (divu a b * b % 18446744073709551616 + remu a b) % 18446744073709551616 = a)
    by_cases hb : b = 0
    · exact .inl ⟨hb, by simp [divT, hb], by simp [divT, hb]⟩
    · refine .inr (.inr ⟨hb, by simp [divT, hb], by simp [divT, hb], ?_⟩)
      unfold divu remu
      rw [if_neg hb, if_neg hb]
      exact quo_u a b h0 h1 g0
theorem rot_nat_back (X n : Nat) (hX : X < 18446744073709551616) (hn : n < 64) (hn0 : 0 < n) :
    (X * 2 ^ n % 18446744073709551616 + X / 2 ^ (64 - n)) * 2 ^ (64 - n) % 18446744073709551616 + (X * 2 ^ n % 18446744073709551616 + X / 2 ^ (64 - n)) / 2 ^ n = X := by
  have e : (18446744073709551616 : Nat) = 2 ^ (64 - n) * 2 ^ n := by rw [← Nat.pow_add, show 64 - n + n = 64 by omega]
  have h1 : X / 2 ^ (64 - n) < 2 ^ n := by
    rw [Nat.div_lt_iff_lt_mul (Nat.two_pow_pos _), Nat.mul_comm, ← e]; exact hX
  have h2 : X * 2 ^ n % 18446744073709551616 = 2 ^ n * (X % 2 ^ (64 - n)) := by
    rw [e, Nat.mul_mod_mul_right, Nat.mul_comm]
  rw [h2]
  have h3 : (2 ^ n * (X % 2 ^ (64 - n)) + X / 2 ^ (64 - n)) / 2 ^ n = X % 2 ^ (64 - n) := by
    rw [Nat.mul_add_div (Nat.two_pow_pos _), Nat.div_eq_of_lt h1]; omega
  have h4 : (2 ^ n * (X % 2 ^ (64 - n)) + X / 2 ^ (64 - n)) * 2 ^ (64 - n) % 18446744073709551616 = X / 2 ^ (64 - n) * 2 ^ (64 - n) := by
    rw [Nat.add_mul]
    have h5 : 2 ^ n * (X % 2 ^ (64 - n)) * 2 ^ (64 - n) = 18446744073709551616 * (X % 2 ^ (64 - n)) := by
      rw [Nat.mul_right_comm, Nat.mul_comm (2 ^ n), ← e]
    rw [h5, Nat.mul_add_mod, Nat.mod_eq_of_lt]
    have := Nat.div_mul_le_self X (2 ^ (64 - n))
    omega
  rw [h3, h4, Nat.mul_comm]
  exact Nat.div_add_mod X (2 ^ (64 - n))
theorem rot_back (a b : Int) (h0 : 0 ≤ a) (h1 : a ≤ 18446744073709551615) : val 138 (val 137 a b) b = a := by
  show rot (rot a (sh b)) (sh (-b)) = a
  obtain ⟨X, rfl⟩ := Int.eq_ofNat_of_zero_le h0
  have hl := sh_lt b
  have hX : X < 18446744073709551616 := by omega
  by_cases hz : sh b = 0
  · have hz2 : sh (-b) = 0 := by unfold sh at hz ⊢; omega
    rw [hz, hz2]
    unfold rot
    simp
    omega
  · have hz2 : sh (-b) = 64 - sh b := by unfold sh at hz ⊢; omega
    rw [hz2]
    have h2 := rot_nat_back X (sh b) hX hl (by omega)
    rw [← rot_cast X (sh b), ← rot_cast, show 64 - (64 - sh b) = sh b by omega]
    exact congrArg _ h2
theorem shift_more (a b : Int) (g0 : 0 ≤ b) (g1 : b ≤ 18446744073709551615) : val 134 a ((b + 64) % 18446744073709551616) = val 134 a b := by
  show md (a * 2 ^ sh ((b + 64) % 18446744073709551616)) = md (a * 2 ^ sh b)
  rw [show sh ((b + 64) % 18446744073709551616) = sh b by unfold sh; omega]
theorem tests (q a b : Int) (hq : q = 0 ∨ q = 1) (h0 : 0 ≤ a) (h1 : a ≤ 18446744073709551615) (g0 : 0 ≤ b) (g1 : b ≤ 18446744073709551615) :
    ∃ l m s : Int, val (83 + q) a b = l ∧ val (85 + q) a b = m ∧ val 81 a b = s ∧ val (87 + q) a b = l + s ∧ val (89 + q) a b = m + s ∧
      0 ≤ l ∧ 0 ≤ m ∧ 0 ≤ s ∧ l ≤ 1 ∧ m ≤ 1 ∧ s ≤ 1 ∧ l + m + s = 1 := by
  have hi := sg_inj a b h0 h1 g0 g1
  rcases hq with rfl | rfl
  · refine ⟨fl (decide (sg a < sg b)), fl (decide (sg b < sg a)), fl (decide (a = b)), rfl, rfl, rfl, ?_⟩
    show fl (decide (sg a ≤ sg b)) = _ ∧ fl (decide (sg b ≤ sg a)) = _ ∧ _
    rcases Int.lt_trichotomy (sg a) (sg b) with h | h | h
    · have h2 : ¬ a = b := fun e => by rw [e] at h; omega
      have k1 : sg a ≤ sg b := by omega
      have k2 : ¬ sg b ≤ sg a := by omega
      have k3 : ¬ sg b < sg a := by omega
      simp [fl, h, h2, k1, k2, k3]
    · have h2 : a = b := hi.1 h
      subst h2
      simp [fl]
    · have h2 : ¬ a = b := fun e => by rw [e] at h; omega
      have k1 : sg b ≤ sg a := by omega
      have k2 : ¬ sg a ≤ sg b := by omega
      have k3 : ¬ sg a < sg b := by omega
      simp [fl, h, h2, k1, k2, k3]
  · refine ⟨fl (decide (a < b)), fl (decide (b < a)), fl (decide (a = b)), rfl, rfl, rfl, ?_⟩
    show fl (decide (a ≤ b)) = _ ∧ fl (decide (b ≤ a)) = _ ∧ _
    rcases Int.lt_trichotomy a b with h | h | h
    · have h2 : ¬ a = b := by omega
      have k1 : a ≤ b := by omega
      have k2 : ¬ b ≤ a := by omega
      have k3 : ¬ b < a := by omega
      simp [fl, h, h2, k1, k2, k3]
    · subst h
      simp [fl]
    · have h2 : ¬ a = b := by omega
      have k1 : b ≤ a := by omega
      have k2 : ¬ a ≤ b := by omega
      have k3 : ¬ a < b := by omega
      simp [fl, h, h2, k1, k2, k3]
theorem trap_test (op a b : Int) (h : op < 127) : trap op a b = 0 := by
  unfold trap
  rw [if_neg (by omega), if_neg (by omega)]
end Go.Proofs.Ytpnimgecfmpipaa.M
