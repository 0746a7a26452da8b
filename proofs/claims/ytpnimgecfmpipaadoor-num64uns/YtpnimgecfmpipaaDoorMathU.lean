/-
  What the operations with one number of 64 bits answer, as plain mathematics: highest and lowest noughts, ones; no program.
-/
import Derived.Test.YtpnimgecfmpipaaDoorMathB
import Derived.Lib.BitFns
namespace Go.Proofs.YtpnimgecfmpipaaDoor.M
/-- So many of the 64 highest bits are 0. -/
def LZ (X h : Nat) : Prop := (X = 0 ∧ h = 64) ∨ (h < 64 ∧ 2 ^ (63 - h) ≤ X ∧ X < 2 ^ (64 - h))
/-- So many of the 64 lowest bits are 0. -/
def TZ (X t : Nat) : Prop := (X = 0 ∧ t = 64) ∨ (t < 64 ∧ X % 2 ^ t = 0 ∧ X / 2 ^ t % 2 = 1)
def onesTo (X : Nat) : Nat → Nat
  | 0 => 0
  | i + 1 => onesTo X i + X / 2 ^ i % 2
theorem LZ_le {X h : Nat} (H : LZ X h) : h ≤ 64 := by rcases H with ⟨_, h⟩ | ⟨h, _⟩ <;> omega
theorem TZ_le {X h : Nat} (H : TZ X h) : h ≤ 64 := by rcases H with ⟨_, h⟩ | ⟨h, _⟩ <;> omega
theorem LZ_lt {X h h' : Nat} (hh : h < h') (h1 : 2 ^ (63 - h) ≤ X) (h2 : h' < 64) (h3 : X < 2 ^ (64 - h')) : False := by
  have : 2 ^ (64 - h') ≤ 2 ^ (63 - h) := Nat.pow_le_pow_right (by decide) (by omega)
  omega
theorem LZ_one {X h h' : Nat} (H : LZ X h) (H' : LZ X h') : h = h' := by
  rcases H with ⟨e, h1⟩ | ⟨h1, h2, h3⟩
  · rcases H' with ⟨_, h4⟩ | ⟨h4, h5, h6⟩
    · omega
    · have := Nat.two_pow_pos (63 - h'); omega
  · rcases H' with ⟨e, h4⟩ | ⟨h4, h5, h6⟩
    · have := Nat.two_pow_pos (63 - h); omega
    · rcases Nat.lt_trichotomy h h' with hh | hh | hh
      · exact (LZ_lt hh h2 h4 h6).elim
      · exact hh
      · exact (LZ_lt hh h5 h1 h3).elim
theorem TZ_lt {X t t' : Nat} (hh : t < t') (h1 : X / 2 ^ t % 2 = 1) (h2 : X % 2 ^ t' = 0) : False := by
  obtain ⟨q, hq⟩ := Nat.dvd_of_mod_eq_zero h2
  have e : 2 ^ t' = 2 ^ t * (2 * 2 ^ (t' - t - 1)) := by
    rw [← Nat.pow_succ', ← Nat.pow_add]; congr 1; omega
  rw [hq, e, Nat.mul_assoc, Nat.mul_div_cancel_left _ (Nat.two_pow_pos t), Nat.mul_assoc, Nat.mul_mod_right] at h1
  omega
theorem TZ_one {X t t' : Nat} (H : TZ X t) (H' : TZ X t') : t = t' := by
  rcases H with ⟨e, h1⟩ | ⟨h1, h2, h3⟩
  · rcases H' with ⟨_, h4⟩ | ⟨h4, h5, h6⟩
    · omega
    · subst e; simp at h6
  · rcases H' with ⟨e, h4⟩ | ⟨h4, h5, h6⟩
    · subst e; simp at h3
    · rcases Nat.lt_trichotomy t t' with hh | hh | hh
      · exact (TZ_lt hh h3 h5).elim
      · exact hh
      · exact (TZ_lt hh h6 h2).elim
theorem len_bounds : ∀ (f x : Nat), x < 2 ^ f → x ≠ 0 → 1 ≤ Lib.bitLenAux f x ∧ 2 ^ (Lib.bitLenAux f x - 1) ≤ x ∧ x < 2 ^ Lib.bitLenAux f x
  | 0, x, h, h0 => by simp at h; omega
  | f + 1, x, h, h0 => by
    have e : Lib.bitLenAux (f + 1) x = 1 + Lib.bitLenAux f (x / 2) := by simp [Lib.bitLenAux, h0]
    by_cases h1 : x / 2 = 0
    · have e2 : Lib.bitLenAux f (x / 2) = 0 := by rw [h1]; cases f <;> simp [Lib.bitLenAux]
      rw [e, e2]
      simp; omega
    · obtain ⟨i1, i2, i3⟩ := len_bounds f (x / 2) (by rw [Nat.pow_succ] at h; omega) h1
      rw [e]
      obtain ⟨m, hm⟩ : ∃ m, Lib.bitLenAux f (x / 2) = m + 1 := ⟨Lib.bitLenAux f (x / 2) - 1, by omega⟩
      rw [hm] at i2 i3 ⊢
      simp only [Nat.add_sub_cancel] at i2
      rw [show 1 + (m + 1) - 1 = m + 1 by omega, show 1 + (m + 1) = (m + 1) + 1 by omega]
      rw [Nat.pow_succ] at i3 ⊢
      rw [Nat.pow_succ, Nat.pow_succ]
      omega
theorem LZ_len (X : Nat) (h : X < 18446744073709551616) : LZ X (64 - Lib.bitLen X) := by
  by_cases h0 : X = 0
  · subst h0; left; exact ⟨rfl, by decide⟩
  · obtain ⟨h1, h2, h3⟩ := len_bounds 64 X (by omega) h0
    have h4 := Lib.bitLen_le X 64 (by decide) (by omega)
    unfold Lib.bitLen at h4 ⊢
    right
    refine ⟨by omega, ?_, ?_⟩
    · rw [show 63 - (64 - Lib.bitLenAux 64 X) = Lib.bitLenAux 64 X - 1 by omega]; exact h2
    · rw [show 64 - (64 - Lib.bitLenAux 64 X) = Lib.bitLenAux 64 X by omega]; exact h3
theorem TZ_some : ∀ (k X : Nat), 0 < X → X < 2 ^ k → ∃ t, t < k ∧ X % 2 ^ t = 0 ∧ X / 2 ^ t % 2 = 1
  | 0, X, h0, h => by simp at h; omega
  | k + 1, X, h0, h => by
    by_cases h1 : X % 2 = 1
    · exact ⟨0, by omega, by simp; omega, by simpa using h1⟩
    · obtain ⟨t, i1, i2, i3⟩ := TZ_some k (X / 2) (by omega) (by rw [Nat.pow_succ] at h; omega)
      refine ⟨t + 1, by omega, ?_, ?_⟩
      · have e : X = 2 * (X / 2) := by omega
        rw [Nat.pow_succ, Nat.mul_comm, e, Nat.mul_mod_mul_left, i2]
      · rw [Nat.pow_succ, Nat.mul_comm, ← Nat.div_div_eq_div_mul]; exact i3
theorem TZ_ex (X : Nat) (h : X < 18446744073709551616) : ∃ t, TZ X t := by
  by_cases h0 : X = 0
  · exact ⟨64, .inl ⟨h0, rfl⟩⟩
  · obtain ⟨t, h1, h2, h3⟩ := TZ_some 64 X (by omega) h
    exact ⟨t, .inr ⟨h1, h2, h3⟩⟩
/-- The lowest bit alone. -/
theorem low_bit (s m : Nat) (h : 2 * m + 1 < 2 ^ s) : (2 * m + 1) &&& (2 ^ s - (2 * m + 1)) = 1 := by
  have hs : 0 < s := by
    rcases Nat.eq_zero_or_pos s with rfl | h1
    · simp at h
    · exact h1
  apply Nat.eq_of_testBit_eq
  intro i
  rw [Nat.testBit_and, Nat.testBit_two_pow_sub_succ (by omega : 2 * m < 2 ^ s)]
  cases i with
  | zero => simp [hs]
  | succ i =>
    rw [Nat.testBit_succ, Nat.testBit_succ, Nat.testBit_succ]
    rw [show (2 * m + 1) / 2 = m by omega, show 2 * m / 2 = m by omega]
    simp
    intro h _
    exact h
theorem low_and (X t : Nat) (hX : X < 18446744073709551616) (ht : t < 64) (h1 : X % 2 ^ t = 0) (h2 : X / 2 ^ t % 2 = 1) : X &&& (18446744073709551616 - X) = 2 ^ t := by
  obtain ⟨m, hm⟩ : ∃ m, X / 2 ^ t = 2 * m + 1 := ⟨X / 2 ^ t / 2, by omega⟩
  have e : X = (2 * m + 1) * 2 ^ t := by
    have := Nat.div_add_mod X (2 ^ t)
    rw [h1, hm, Nat.mul_comm] at this
    omega
  have e2 : (18446744073709551616 : Nat) = 2 ^ (64 - t) * 2 ^ t := by rw [← Nat.pow_add, show 64 - t + t = 64 by omega]
  have hlt : 2 * m + 1 < 2 ^ (64 - t) := by
    have : (2 * m + 1) * 2 ^ t < 2 ^ (64 - t) * 2 ^ t := by rw [← e, ← e2]; exact hX
    exact Nat.lt_of_mul_lt_mul_right this
  have e3 : 18446744073709551616 - X = (2 ^ (64 - t) - (2 * m + 1)) * 2 ^ t := by
    rw [Nat.sub_mul, ← e2, ← e]
  rw [e3]
  rw [e]
  rw [← Nat.shiftLeft_eq, ← Nat.shiftLeft_eq, ← Nat.shiftLeft_and_distrib, low_bit _ _ hlt, Nat.one_shiftLeft]
theorem ones_unroll (X : Nat) : onesTo X 64 = onesTo X 8 + onesTo (X / 256) 8 + onesTo (X / 65536) 8 + onesTo (X / 16777216) 8 + onesTo (X / 4294967296) 8 + onesTo (X / 1099511627776) 8 + onesTo (X / 281474976710656) 8 + onesTo (X / 72057594037927936) 8 := by
  simp [onesTo, Nat.div_div_eq_div_mul]
  omega
theorem ones8_tab : ∀ b : Fin 256, onesTo b.val 8 = Lib.onesCount b.val := by decide +kernel
theorem ones8_mod (X : Nat) : onesTo X 8 = onesTo (X % 256) 8 := by
  simp [onesTo]
  omega
theorem ones8 (X : Nat) : onesTo X 8 = Lib.onesCount (X % 256) := by rw [ones8_mod]; exact ones8_tab ⟨X % 256, Nat.mod_lt _ (by decide)⟩
theorem ones_le (X : Nat) : ∀ i, onesTo X i ≤ i
  | 0 => by simp [onesTo]
  | i + 1 => by have := ones_le X i; have := Nat.mod_lt (X / 2 ^ i) (show 0 < 2 by decide); simp only [onesTo]; omega
open Classical in
noncomputable def lz (a : Int) : Int := if h : ∃ k, LZ a.toNat k then ((Classical.choose h : Nat) : Int) else 0
open Classical in
noncomputable def tz (a : Int) : Int := if h : ∃ k, TZ a.toNat k then ((Classical.choose h : Nat) : Int) else 0
theorem lz_eq (a : Int) (h : Nat) (H : LZ a.toNat h) : (h : Int) = lz a := by
  unfold lz
  have hx : ∃ k, LZ a.toNat k := ⟨h, H⟩
  rw [dif_pos hx]
  exact congrArg _ (LZ_one H (Classical.choose_spec hx))
theorem tz_eq (a : Int) (h : Nat) (H : TZ a.toNat h) : (h : Int) = tz a := by
  unfold tz
  have hx : ∃ k, TZ a.toNat k := ⟨h, H⟩
  rw [dif_pos hx]
  exact congrArg _ (TZ_one H (Classical.choose_spec hx))
noncomputable def uval (op a : Int) : Int :=
  if op = 80 then fl (decide (a = 0)) else if op = 121 then lz a else if op = 122 then tz a else if op = 123 then ((onesTo a.toNat 64 : Nat) : Int) else 0
def isUn (op : Int) : Prop := op = 80 ∨ op = 121 ∨ op = 122 ∨ op = 123
end Go.Proofs.YtpnimgecfmpipaaDoor.M
