/-
  The shortest bytes of a number, read again, are the number; plain facts, no condition; nothing of the program is named here.
-/
import Derived.Test.YtjapcalndolamaaLMath
namespace Go.Proofs.Ytjapcalndolamaa.M
theorem lenOf_zero {f : Nat → Nat} {L : Nat} (h : ∀ i, i + 1 < L → 128 ≤ f i) : ∀ m, m < L → lenOf f m = 0 := by
  intro m
  induction m with
  | zero => intro _; rfl
  | succ m ih => intro hm; exact lenOf_go (ih (by omega)) (by have := h m hm; omega)
theorem lenOf_full {f : Nat → Nat} {L : Nat} (h1 : 1 ≤ L) (h : ∀ i, i + 1 < L → 128 ≤ f i) (hl : f (L - 1) < 128) (m : Nat) (hm : L ≤ m) : lenOf f m = L := by
  have h0 := lenOf_zero h (L - 1) (by omega)
  have := lenOf_stopped h0 hl (show L - 1 < m by omega)
  omega
theorem low_head (f : Nat → Nat) (k : Nat) : low f (k + 1) = f 0 % 128 + 128 * low (fun i => f (i + 1)) k := by
  induction k with
  | zero => simp [low]
  | succ k ih =>
    rw [low_succ, ih, low_succ, show (k + 1) * 7 = k * 7 + 7 by omega, Nat.pow_add, Nat.mul_add]
    have : f (k + 1) % 128 * (2 ^ (k * 7) * 2 ^ 7) = 128 * (f (k + 1) % 128 * 2 ^ (k * 7)) := by
      rw [← Nat.mul_assoc, Nat.mul_comm]
    omega
theorem sval_head (f : Nat → Nat) (k : Nat) : sval f (k + 2) = ((f 0 % 128 : Nat) : Int) + 128 * sval (fun i => f (i + 1)) (k + 1) := by
  have e : dig f (k + 2) = dig (fun i => f (i + 1)) (k + 1) := rfl
  unfold sval
  rw [e]
  simp only [show k + 2 - 1 = k + 1 from rfl, show k + 1 - 1 = k from rfl]
  rw [low_head f k, show (k + 1) * 7 = k * 7 + 7 by omega, Int.pow_add, Int.mul_add]
  push_cast
  have : dig (fun i => f (i + 1)) (k + 1) * (2 ^ (k * 7) * 128) = 128 * (dig (fun i => f (i + 1)) (k + 1) * 2 ^ (k * 7)) := by
    rw [← Int.mul_assoc, Int.mul_comm]
  rw [this]
  omega
theorem getD_cons_succ' (x : Nat) (l : List Nat) (i : Nat) : (x :: l).getD (i + 1) 0 = l.getD i 0 := by simp
/-- The bytes of n, whatever stands behind, sum up to n. -/
theorem low_putU (j n : Nat) (f : Nat → Nat) (h : n < 2 ^ (7 * j + 1)) (hf : ∀ i, i < (putU (j + 1) n).length → f i = (putU (j + 1) n).getD i 0) : low f (putU (j + 1) n).length = n := by
  induction j generalizing n f with
  | zero =>
    have h1 : n < 128 := by simp at h; omega
    rw [putU_last 0 n h1] at hf ⊢
    have h0 := hf 0 (by simp)
    simp at h0
    simp [low, h0]; omega
  | succ j ih =>
    by_cases h1 : n < 128
    · rw [putU_last (j + 1) n h1] at hf ⊢
      have h0 := hf 0 (by simp)
      simp at h0
      simp [low, h0]; omega
    · rw [putU_more (j + 1) n h1] at hf ⊢
      obtain ⟨i0, e, hlt⟩ := fuel_pos n (j + 1) h (by omega)
      have e0 : j = i0 := by omega
      subst e0
      have h0 := hf 0 (by simp)
      simp at h0
      have := ih (n / 128) (fun i => f (i + 1)) hlt (fun i hi => by
        have := hf (i + 1) (by simpa using hi)
        rw [this, getD_cons_succ'])
      rw [List.length_cons, low_head, this, h0]
      omega
theorem putS_last_lt (j : Nat) (n : Int) (h : -2 ^ (7 * j) ≤ n ∧ n < 2 ^ (7 * j)) : (putS (j + 1) n).getD ((putS (j + 1) n).length - 1) 0 < 128 := by
  have hl := putS_length (j + 1) n
  have := putS_flags j n h ((putS (j + 1) n).length - 1) (by omega)
  omega
theorem sval_putS (j : Nat) (n : Int) (f : Nat → Nat) (h : -2 ^ (7 * j) ≤ n ∧ n < 2 ^ (7 * j)) (hf : ∀ i, i < (putS (j + 1) n).length → f i = (putS (j + 1) n).getD i 0) : sval f (putS (j + 1) n).length = n := by
  have one : ∀ (n : Int) (f : Nat → Nat), -64 ≤ n ∧ n < 64 → f 0 = (n % 128).toNat → sval f 1 = n := by
    intro n f hn h0
    unfold sval dig
    simp [low, h0]
    split <;> omega
  induction j generalizing n f with
  | zero =>
    have h1 : -64 ≤ n ∧ n < 64 := by simp at h; omega
    rw [putS_last 0 n h1] at hf ⊢
    have h0 := hf 0 (by simp)
    simp at h0
    exact one n f h1 h0
  | succ j ih =>
    by_cases h1 : -64 ≤ n ∧ n < 64
    · rw [putS_last (j + 1) n h1] at hf ⊢
      have h0 := hf 0 (by simp)
      simp at h0
      exact one n f h1 h0
    · rw [putS_more (j + 1) n h1] at hf ⊢
      obtain ⟨i0, e, hlt⟩ := fuelS_pos n (j + 1) h h1
      have e0 : j = i0 := by omega
      subst e0
      have h0 := hf 0 (by simp)
      simp at h0
      have hl := putS_length (j + 1) (n / 128)
      have := ih (n / 128) (fun i => f (i + 1)) hlt (fun i hi => by
        have := hf (i + 1) (by simpa using hi)
        rw [this, getD_cons_succ'])
      obtain ⟨k, hk⟩ : ∃ k, (putS (j + 1) (n / 128)).length = k + 1 := ⟨_, (Nat.sub_add_cancel hl.1).symm⟩
      rw [List.length_cons, hk, sval_head, ← hk, this, h0]
      omega
theorem putU_short (m j n : Nat) (h : n < 2 ^ (7 * (m + 1))) : (putU j n).length ≤ m + 1 := by
  induction m generalizing j n with
  | zero =>
    rcases j with _ | j
    · simp [putU]
    · rw [putU_last j n (by simpa using h)]; simp
  | succ m ih =>
    rcases j with _ | j
    · simp [putU]
    · by_cases h1 : n < 128
      · rw [putU_last j n h1]; simp
      · rw [putU_more j n h1, List.length_cons]
        have := ih j (n / 128) (by
          rw [show 7 * (m + 1 + 1) = 7 * (m + 1) + 7 by omega, Nat.pow_add] at h
          omega)
        omega
theorem putS_short (m j : Nat) (n : Int) (h : -2 ^ (7 * m + 6) ≤ n ∧ n < 2 ^ (7 * m + 6)) : (putS j n).length ≤ m + 1 := by
  induction m generalizing j n with
  | zero =>
    rcases j with _ | j
    · simp [putS]
    · rw [putS_last j n (by simpa using h)]; simp
  | succ m ih =>
    rcases j with _ | j
    · simp [putS]
    · by_cases h1 : -64 ≤ n ∧ n < 64
      · rw [putS_last j n h1]; simp
      · rw [putS_more j n h1, List.length_cons]
        have := ih j (n / 128) (by
          rw [show 7 * (m + 1) + 6 = (7 * m + 6) + 7 by omega, Int.pow_add] at h
          generalize (2 : Int) ^ (7 * m + 6) = R at *
          omega)
        omega
theorem putU_groups (n b : Nat) (h1 : 1 ≤ b) (h : n < 2 ^ b) : (putU 10 n).length ≤ (b + 6) / 7 := by
  obtain ⟨m, hm⟩ : ∃ m, (b + 6) / 7 = m + 1 := ⟨(b + 6) / 7 - 1, by omega⟩
  rw [hm]
  refine putU_short m 10 n (Nat.lt_of_lt_of_le h (Nat.pow_le_pow_right (by omega) (by omega)))
theorem putS_groups (n : Int) (b : Nat) (h1 : 1 ≤ b) (h : -2 ^ (b - 1) ≤ n ∧ n < 2 ^ (b - 1)) : (putS 10 n).length ≤ (b + 6) / 7 := by
  obtain ⟨m, hm⟩ : ∃ m, (b + 6) / 7 = m + 1 := ⟨(b + 6) / 7 - 1, by omega⟩
  rw [hm]
  have hp := Nat.pow_le_pow_right (n := 2) (by omega) (show b - 1 ≤ 7 * m + 6 by omega)
  refine putS_short m 10 n ?_
  rw [← pow_int] at h ⊢
  omega
theorem putU_flags10 (n : Nat) (h : n < 18446744073709551616) : ∀ i, i < (putU 10 n).length → (128 ≤ (putU 10 n).getD i 0 ↔ i + 1 < (putU 10 n).length) := putU_flags 9 n (by simpa using h)
theorem putS_flags10 (n : Int) (h : -9223372036854775808 ≤ n ∧ n < 9223372036854775808) : ∀ i, i < (putS 10 n).length → (128 ≤ (putS 10 n).getD i 0 ↔ i + 1 < (putS 10 n).length) := putS_flags 9 n (by simpa using h)
theorem low_putU10 (n : Nat) (f : Nat → Nat) (h : n < 18446744073709551616) (hf : ∀ i, i < (putU 10 n).length → f i = (putU 10 n).getD i 0) : low f (putU 10 n).length = n := low_putU 9 n f (by simpa using h) hf
theorem sval_putS10 (n : Int) (f : Nat → Nat) (h : -9223372036854775808 ≤ n ∧ n < 9223372036854775808) (hf : ∀ i, i < (putS 10 n).length → f i = (putS 10 n).getD i 0) : sval f (putS 10 n).length = n := sval_putS 9 n f (by simpa using h) hf
end Go.Proofs.Ytjapcalndolamaa.M
