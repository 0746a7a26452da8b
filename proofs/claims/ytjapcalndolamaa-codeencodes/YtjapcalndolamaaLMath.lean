/-
  Plain facts on numbers by groups of seven bits: how long a number's bytes are, what they sum to, and the shortest bytes of a number. No condition; nothing of the program is named here.
-/
import Derived.Laws.BitsAllLaws
import Derived.Laws.BitsLemmas
namespace Go.Proofs.Ytjapcalndolamaa.M
/-- How many bytes the number has that begins with f, of at most the given many; 0: none ends there. -/
def lenOf (f : Nat → Nat) : Nat → Nat
  | 0 => 0
  | k + 1 => if lenOf f k = 0 then (if f k < 128 then k + 1 else 0) else lenOf f k
theorem lenOf_succ (f : Nat → Nat) (k : Nat) : lenOf f (k + 1) = if lenOf f k = 0 then (if f k < 128 then k + 1 else 0) else lenOf f k := rfl
theorem lenOf_stop {f : Nat → Nat} {k : Nat} (h : lenOf f k = 0) (hf : f k < 128) : lenOf f (k + 1) = k + 1 := by rw [lenOf_succ, if_pos h, if_pos hf]
theorem lenOf_go {f : Nat → Nat} {k : Nat} (h : lenOf f k = 0) (hf : ¬ f k < 128) : lenOf f (k + 1) = 0 := by rw [lenOf_succ, if_pos h, if_neg hf]
theorem lenOf_stays {f : Nat → Nat} {k m : Nat} (h : lenOf f k ≠ 0) (hm : k ≤ m) : lenOf f m = lenOf f k := by
  induction m with
  | zero => have : k = 0 := by omega
            subst this; rfl
  | succ m ih =>
    by_cases e : k = m + 1
    · subst e; rfl
    · have := ih (by omega)
      rw [lenOf_succ, this, if_neg h]
theorem lenOf_stopped {f : Nat → Nat} {k m : Nat} (h : lenOf f k = 0) (hf : f k < 128) (hm : k < m) : lenOf f m = k + 1 := by
  have h1 := lenOf_stop h hf
  rw [lenOf_stays (k := k + 1) (by omega) (by omega), h1]
theorem lenOf_spec (f : Nat → Nat) (m : Nat) (h : lenOf f m ≠ 0) : 1 ≤ lenOf f m ∧ lenOf f m ≤ m ∧ f (lenOf f m - 1) < 128 ∧ ∀ i, i + 1 < lenOf f m → 128 ≤ f i := by
  induction m with
  | zero => exact absurd rfl h
  | succ m ih =>
    rw [lenOf_succ] at h ⊢
    by_cases e : lenOf f m = 0
    · rw [if_pos e] at h ⊢
      by_cases g : f m < 128
      · rw [if_pos g]
        refine ⟨by omega, by omega, by simpa using g, fun i hi => ?_⟩
        have key : ∀ k, lenOf f k = 0 → ∀ i, i < k → 128 ≤ f i := by
          intro k
          induction k with
          | zero => intro _ i hi; omega
          | succ k ihk =>
            intro hk i hi
            rw [lenOf_succ] at hk
            by_cases e2 : lenOf f k = 0
            · rw [if_pos e2] at hk
              by_cases g2 : f k < 128
              · rw [if_pos g2] at hk; omega
              · by_cases e3 : i = k
                · subst e3; omega
                · exact ihk e2 i (by omega)
            · rw [if_neg e2] at hk; exact absurd hk e2
        exact key m e i (by omega)
      · rw [if_neg g] at h; exact absurd rfl h
    · rw [if_neg e] at h ⊢
      obtain ⟨a, b, c, d⟩ := ih e
      exact ⟨a, by omega, c, d⟩
theorem lenOf_le (f : Nat → Nat) (m : Nat) : lenOf f m ≤ m := by
  by_cases h : lenOf f m = 0
  · omega
  · exact (lenOf_spec f m h).2.1
/-- The low seven bits of the first k bytes, put together. -/
def low (f : Nat → Nat) : Nat → Nat
  | 0 => 0
  | k + 1 => low f k + f k % 128 * 2 ^ (k * 7)
theorem low_succ (f : Nat → Nat) (k : Nat) : low f (k + 1) = low f k + f k % 128 * 2 ^ (k * 7) := rfl
theorem low_lt (f : Nat → Nat) (k : Nat) : low f k < 2 ^ (k * 7) := by
  induction k with
  | zero => simp [low]
  | succ k ih =>
    rw [low_succ, show (k + 1) * 7 = k * 7 + 7 by omega, Nat.pow_add]
    have h1 : f k % 128 ≤ 127 := by omega
    have h2 : f k % 128 * 2 ^ (k * 7) ≤ 127 * 2 ^ (k * 7) := Nat.mul_le_mul_right _ h1
    omega
theorem pow_le_63 (k : Nat) (h : k ≤ 9) : 2 ^ (k * 7) ≤ 9223372036854775808 := by
  have := Nat.pow_le_pow_right (n := 2) (by omega) (show k * 7 ≤ 63 by omega)
  simpa using this
theorem low_lt_63 (f : Nat → Nat) (k : Nat) (h : k ≤ 9) : low f k < 9223372036854775808 := Nat.lt_of_lt_of_le (low_lt f k) (pow_le_63 k h)
theorem low_congr {f g : Nat → Nat} {k : Nat} (h : ∀ i, i < k → f i = g i) : low f k = low g k := by
  induction k with
  | zero => rfl
  | succ k ih => rw [low_succ, low_succ, ih (fun i hi => h i (by omega)), h k (by omega)]
theorem lenOf_congr {f g : Nat → Nat} {k : Nat} (h : ∀ i, i < k → f i = g i) : lenOf f k = lenOf g k := by
  induction k with
  | zero => rfl
  | succ k ih => rw [lenOf_succ, lenOf_succ, ih (fun i hi => h i (by omega)), h k (by omega)]
/-- 'x | y' where y lies below x's lowest bit. -/
theorem or_add (k x y : Nat) (hy : y < 2 ^ k) : (x * 2 ^ k) ||| y = x * 2 ^ k + y := nat_join k _ _ (by simp) hy
theorem or_add' (k x y : Nat) (hy : y < 2 ^ k) : y ||| (x * 2 ^ k) = y + x * 2 ^ k := by rw [Nat.or_comm, or_add k x y hy]; omega
/-- One round of the sum. -/
theorem low_step (f : Nat → Nat) (k : Nat) (hk : k ≤ 8) (hf : f k < 256) :
    bits .or .u64 (low f k : Int) (IntKind.u64.wrap (IntKind.u64.wrap (bits .and .u8 (f k : Int) 127) * 2 ^ (k * 7))) = (low f (k + 1) : Int) := by
  have h0 : bits .and .u8 (f k : Int) 127 = ((f k % 128 : Nat) : Int) := by
    rw [show (127 : Int) = ((127 : Nat) : Int) from rfl, u8_and_nat _ _ hf (by omega), nat_mask7]
  have h1 : f k % 128 ≤ 127 := by omega
  have h2 := low_lt f k
  have h3 := low_lt_63 f (k + 1) (by omega)
  rw [low_succ] at h3
  rw [h0, IntKind.wrap_u64 ((f k % 128 : Nat) : Int), Int.emod_eq_of_lt (by omega) (by omega)]
  have h4 : ((f k % 128 : Nat) : Int) * 2 ^ (k * 7) = ((f k % 128 * 2 ^ (k * 7) : Nat) : Int) := by push_cast; rfl
  rw [h4, IntKind.wrap_u64, Int.emod_eq_of_lt (by omega) (by omega), u64_or_nat _ _ (by omega) (by omega), or_add' _ _ _ h2, low_succ]
theorem and128 (x : Nat) (h : x < 256) : bits .and .u8 (x : Int) 128 = if x < 128 then 0 else 128 := by
  rw [show (128 : Int) = ((128 : Nat) : Int) from rfl, u8_and_nat _ _ h (by omega), show (128 : Nat) = 2 ^ 7 from rfl, nat_bit]
  split <;> omega
theorem and128_lo (x : Nat) (h : x < 128) : (bits .and .u8 (x : Int) 128 == 0) = true := by rw [and128 x (by omega), if_pos h]; rfl
theorem and128_hi (x : Nat) (h : x < 256) (h' : ¬ x < 128) : (bits .and .u8 (x : Int) 128 == 0) = false := by rw [and128 x h, if_neg h']; rfl
/-- How many bits a number may have, by its groups. -/
theorem groups (b : Nat) (h1 : 1 ≤ b) (h2 : b ≤ 64) : 1 ≤ (b + 6) / 7 ∧ (b + 6) / 7 ≤ 10 ∧ ((b + 6) / 7 - 1) * 7 < b := by omega
theorem pow_split (b s : Nat) (h : s ≤ b) : (2 : Nat) ^ b = 2 ^ (b - s) * 2 ^ s := by rw [← Nat.pow_add]; congr 1; omega
/-- The last group fits just if the sum does. -/
theorem fits (f : Nat → Nat) (n b : Nat) (h1 : 1 ≤ n) (hl : f (n - 1) < 128) (hb : (n - 1) * 7 < b) : low f n < 2 ^ b ↔ f (n - 1) < 2 ^ (b - (n - 1) * 7) := by
  obtain ⟨m, rfl⟩ : ∃ m, n = m + 1 := ⟨n - 1, by omega⟩
  simp only [Nat.add_sub_cancel] at hl hb ⊢
  rw [low_succ, Nat.mod_eq_of_lt hl, pow_split b (m * 7) (by omega)]
  have h2 := low_lt f m
  generalize 2 ^ (b - m * 7) = R
  generalize 2 ^ (m * 7) = S at *
  constructor
  · intro h
    refine Nat.lt_of_not_le fun hle => ?_
    have := Nat.mul_le_mul_right S hle
    omega
  · intro h
    have : (f m + 1) * S ≤ R * S := Nat.mul_le_mul_right S (by omega)
    rw [Nat.add_mul] at this
    omega
theorem last_of (f : Nat → Nat) (n : Nat) (h1 : 1 ≤ n) (hl : f (n - 1) < 128) : low f n = f (n - 1) * 2 ^ ((n - 1) * 7) + low f (n - 1) := by
  obtain ⟨m, rfl⟩ : ∃ m, n = m + 1 := ⟨n - 1, by omega⟩
  simp only [Nat.add_sub_cancel] at hl ⊢
  rw [low_succ, Nat.mod_eq_of_lt hl]; omega
theorem div_zero_iff (x r : Nat) : ((x : Int) / 2 ^ r != 0) = decide (2 ^ r ≤ x) := by
  have h : ((x : Int) / 2 ^ r) = ((x / 2 ^ r : Nat) : Int) := by push_cast; rfl
  rw [h, Bool.eq_iff_iff, bne_iff_ne, decide_eq_true_iff]
  have hp : 0 < 2 ^ r := Nat.pow_pos (by omega)
  constructor
  · intro h1
    exact Nat.le_of_not_lt fun hlt => h1 (by rw [Nat.div_eq_of_lt hlt]; rfl)
  · intro h1 h2
    have := Nat.div_pos h1 hp
    omega
/-- The last group's place, and the groups ahead of it. -/
theorem u_join (f : Nat → Nat) (n b : Nat) (h1 : 1 ≤ n) (hl : f (n - 1) < 128) (hb : b ≤ 64) (hlt : low f n < 2 ^ b) :
    bits .or .u64 (IntKind.u64.wrap ((f (n - 1) : Int) * 2 ^ ((n - 1) * 7))) (low f (n - 1) : Int) = (low f n : Int) := by
  have h64 : (2 : Nat) ^ b ≤ 18446744073709551616 := by
    have := Nat.pow_le_pow_right (n := 2) (by omega) hb
    simpa using this
  have e := last_of f n h1 hl
  have h3 := low_lt f (n - 1)
  have h4 : (f (n - 1) : Int) * 2 ^ ((n - 1) * 7) = ((f (n - 1) * 2 ^ ((n - 1) * 7) : Nat) : Int) := by push_cast; rfl
  rw [h4, IntKind.wrap_u64, Int.emod_eq_of_lt (by omega) (by omega), u64_or_nat _ _ (by omega) (by omega), or_add _ _ _ h3, e]
/-- The last group with its sign. -/
def dig (f : Nat → Nat) (n : Nat) : Int := if f (n - 1) < 64 then (f (n - 1) : Int) else (f (n - 1) : Int) - 128
/-- The signed number of n bytes. -/
def sval (f : Nat → Nat) (n : Nat) : Int := dig f n * 2 ^ ((n - 1) * 7) + (low f (n - 1) : Int)
theorem pow_int (k : Nat) : ((2 ^ k : Nat) : Int) = 2 ^ k := by push_cast; rfl
theorem pow_pos_int (k : Nat) : (0 : Int) < 2 ^ k := by rw [← pow_int]; have := Nat.pow_pos (n := k) (show 0 < 2 by omega); omega
theorem or_i64 (s : Nat) (hs : s ≤ 63) (D : Int) (y : Nat) (hy : y < 2 ^ s) (h1 : -9223372036854775808 ≤ D * 2 ^ s) (h2 : D * 2 ^ s + (y : Int) < 9223372036854775808) :
    bits .or .i64 (D * 2 ^ s) (y : Int) = D * 2 ^ s + (y : Int) := by
  have hp := pow_pos_int s
  have h64 : (2 : Int) ^ 64 = 2 ^ s * 2 ^ (64 - s) := by rw [← Int.pow_add]; congr 1; omega
  have hm : (D * 2 ^ s) % 2 ^ 64 = 2 ^ s * (D % 2 ^ (64 - s)) := by
    rw [h64, Int.mul_comm D, Int.mul_emod_mul_of_pos _ _ hp]
  have hq := Int.emod_nonneg D (Int.ne_of_gt (pow_pos_int (64 - s)))
  have hlt : 2 ^ s * (D % 2 ^ (64 - s)) < 18446744073709551616 := by rw [← hm]; exact Int.emod_lt_of_pos _ (by decide)
  have hk : 2 ^ s * (D % 2 ^ (64 - s)) + (y : Int) < 18446744073709551616 := by
    have h3 : D % 2 ^ (64 - s) + 1 ≤ 2 ^ (64 - s) := Int.emod_lt_of_pos _ (pow_pos_int _)
    have h4 : 2 ^ s * (D % 2 ^ (64 - s) + 1) ≤ 2 ^ s * 2 ^ (64 - s) := Int.mul_le_mul_of_nonneg_left h3 (Int.le_of_lt hp)
    rw [← h64, Int.mul_add, Int.mul_one] at h4
    have h5 : (y : Int) < 2 ^ s := by rw [← pow_int]; omega
    have h6 : (2 : Int) ^ 64 = 18446744073709551616 := by decide
    omega
  obtain ⟨q, hqe⟩ := Int.eq_ofNat_of_zero_le hq
  have hy63 : (y : Int) < 18446744073709551616 := by
    have : (0 : Int) ≤ 2 ^ s * (D % 2 ^ (64 - s)) := Int.mul_nonneg (Int.le_of_lt hp) hq
    omega
  show IntKind.i64.wrap ((BitVec.ofInt 64 (D * 2 ^ s) ||| BitVec.ofInt 64 (y : Int)).toNat : Int) = _
  have ea : (BitVec.ofInt 64 (D * 2 ^ s)).toNat = q * 2 ^ s := by
    rw [BitVec.toNat_ofInt]
    have : ((2 ^ 64 : Nat) : Int) = 2 ^ 64 := by decide
    rw [this, hm, hqe]
    have : (2 : Int) ^ s * (q : Int) = ((q * 2 ^ s : Nat) : Int) := by push_cast; rw [Int.mul_comm]
    rw [this, Int.toNat_natCast]
  have eb : (BitVec.ofInt 64 (y : Int)).toNat = y := ofInt_u64 y (by omega)
  rw [BitVec.toNat_or, ea, eb, or_add s q y hy, IntKind.wrap_i64]
  have e2 : ((q * 2 ^ s + y : Nat) : Int) = (D * 2 ^ s) % 2 ^ 64 + (y : Int) := by
    rw [hm, hqe]; push_cast; rw [Int.mul_comm]
  rw [e2]
  have h6 : (2 : Int) ^ 64 = 18446744073709551616 := by decide
  rw [h6]
  generalize D * 2 ^ s = X at *
  omega
theorem and64 (x : Nat) (h : x < 128) : bits .and .i64 (x : Int) 64 = if x < 64 then 0 else 64 := by
  have hx : x &&& 64 = if x < 64 then 0 else 64 := by
    rw [show (64 : Nat) = 2 ^ 6 from rfl, nat_bit]; split <;> omega
  show IntKind.i64.wrap ((BitVec.ofInt 64 (x : Int) &&& BitVec.ofInt 64 (64 : Int)).toNat : Int) = _
  rw [BitVec.toNat_and, ofInt_u64 x (by omega), show (64 : Int) = ((64 : Nat) : Int) from rfl, ofInt_u64 64 (by omega), hx, IntKind.wrap_i64]
  split <;> rfl
theorem and64_lo (x : Nat) (h : x < 64) : (bits .and .i64 (x : Int) 64 != 0) = false := by rw [and64 x (by omega), if_pos h]; rfl
theorem and64_hi (x : Nat) (h : x < 128) (h' : ¬ x < 64) : (bits .and .i64 (x : Int) 64 != 0) = true := by rw [and64 x h, if_neg h']; rfl
theorem fits_s (f : Nat → Nat) (n b : Nat) (hb : (n - 1) * 7 < b) :
    (-2 ^ (b - 1) ≤ sval f n ∧ sval f n < 2 ^ (b - 1)) ↔ (-2 ^ (b - (n - 1) * 7 - 1) ≤ dig f n ∧ dig f n < 2 ^ (b - (n - 1) * 7 - 1)) := by
  have e : (2 : Int) ^ (b - 1) = 2 ^ (b - (n - 1) * 7 - 1) * 2 ^ ((n - 1) * 7) := by rw [← Int.pow_add]; congr 1; omega
  have h2 : (low f (n - 1) : Int) < 2 ^ ((n - 1) * 7) := by rw [← pow_int]; have := low_lt f (n - 1); omega
  have h3 := pow_pos_int ((n - 1) * 7)
  unfold sval
  rw [e]
  generalize (2 : Int) ^ (b - (n - 1) * 7 - 1) = R
  generalize (2 : Int) ^ ((n - 1) * 7) = S at *
  generalize dig f n = D
  constructor
  · rintro ⟨a, c⟩
    constructor
    · refine Int.le_of_not_gt fun hlt => ?_
      have : (D + 1) * S ≤ (-R) * S := Int.mul_le_mul_of_nonneg_right (by omega) (Int.le_of_lt h3)
      rw [Int.add_mul, Int.neg_mul] at this
      omega
    · refine Int.lt_of_not_ge fun hge => ?_
      have : R * S ≤ D * S := Int.mul_le_mul_of_nonneg_right hge (Int.le_of_lt h3)
      omega
  · rintro ⟨a, c⟩
    constructor
    · have : (-R) * S ≤ D * S := Int.mul_le_mul_of_nonneg_right a (Int.le_of_lt h3)
      rw [Int.neg_mul] at this
      omega
    · have : (D + 1) * S ≤ R * S := Int.mul_le_mul_of_nonneg_right (by omega) (Int.le_of_lt h3)
      rw [Int.add_mul] at this
      omega
theorem s_join (f : Nat → Nat) (n b : Nat) (h2 : n ≤ 10) (hb1 : 1 ≤ b) (hb : b ≤ 64) (h : -2 ^ (b - 1) ≤ sval f n ∧ sval f n < 2 ^ (b - 1)) :
    bits .or .i64 (IntKind.i64.wrap (dig f n * 2 ^ ((n - 1) * 7))) (IntKind.i64.wrap (low f (n - 1) : Int)) = sval f n := by
  have h63 : (2 : Int) ^ (b - 1) ≤ 9223372036854775808 := by
    have := Nat.pow_le_pow_right (n := 2) (by omega) (show b - 1 ≤ 63 by omega)
    have h3 : (2 : Nat) ^ 63 = 9223372036854775808 := by decide
    rw [h3] at this
    rw [← pow_int]; omega
  have hl := low_lt f (n - 1)
  have hl2 := low_lt_63 f (n - 1) (by omega)
  have hS : (low f (n - 1) : Int) < 2 ^ ((n - 1) * 7) := by rw [← pow_int]; omega
  have hD : -9223372036854775808 ≤ dig f n * 2 ^ ((n - 1) * 7) := by
    obtain ⟨a, c⟩ := h
    have hd : -9223372036854775808 ≤ sval f n := by omega
    refine Int.le_of_not_gt fun hlt => ?_
    have e : (9223372036854775808 : Int) = 2 ^ (63 - (n - 1) * 7) * 2 ^ ((n - 1) * 7) := by
      rw [← Int.pow_add, show 63 - (n - 1) * 7 + (n - 1) * 7 = 63 by omega]; decide
    unfold sval at hd
    have h3 := pow_pos_int ((n - 1) * 7)
    rw [e] at hd hlt
    generalize (2 : Int) ^ (63 - (n - 1) * 7) = R at *
    generalize (2 : Int) ^ ((n - 1) * 7) = S at *
    generalize dig f n = D at *
    have h4 : D < -R := by
      refine Int.lt_of_not_ge fun hge => ?_
      have := Int.mul_le_mul_of_nonneg_right hge (Int.le_of_lt h3)
      rw [Int.neg_mul] at this
      omega
    have h5 : (D + 1) * S ≤ (-R) * S := Int.mul_le_mul_of_nonneg_right (by omega) (Int.le_of_lt h3)
    rw [Int.add_mul, Int.neg_mul] at h5
    omega
  have hE : dig f n * 2 ^ ((n - 1) * 7) + (low f (n - 1) : Int) = sval f n := rfl
  rw [IntKind.wrap_i64, IntKind.wrap_i64]
  have e1 : (dig f n * 2 ^ ((n - 1) * 7) + 9223372036854775808) % 18446744073709551616 - 9223372036854775808 = dig f n * 2 ^ ((n - 1) * 7) := by omega
  have e2 : ((low f (n - 1) : Int) + 9223372036854775808) % 18446744073709551616 - 9223372036854775808 = (low f (n - 1) : Int) := by omega
  rw [e1, e2, or_i64 _ (by omega) _ _ hl hD (by omega), hE]
theorem ediv_zero (D R : Int) (h0 : 0 ≤ D) (h1 : D < R) : D / R = 0 := Int.ediv_eq_zero_of_lt h0 h1
theorem ediv_neg_one (D R : Int) (h0 : D < 0) (h1 : -R ≤ D) : D / R = -1 := by
  have hR : 0 < R := by omega
  have := Int.ediv_emod_unique hR (a := D) (r := D + R) (q := -1)
  exact (this.2 ⟨by omega, by omega, by omega⟩).1
/-- The shortest bytes of a number, with fuel. -/
def putU : Nat → Nat → List Nat
  | 0, n => [n % 128]
  | j + 1, n => if n < 128 then [n] else (n % 128 + 128) :: putU j (n / 128)
theorem putU_last (j n : Nat) (h : n < 128) : putU (j + 1) n = [n] := by show (if n < 128 then _ else _) = _; rw [if_pos h]
theorem putU_more (j n : Nat) (h : ¬ n < 128) : putU (j + 1) n = (n % 128 + 128) :: putU j (n / 128) := by show (if n < 128 then _ else _) = _; rw [if_neg h]
/-- The shortest bytes of a signed number, with fuel. -/
def putS : Nat → Int → List Nat
  | 0, n => [(n % 128).toNat]
  | j + 1, n => if -64 ≤ n ∧ n < 64 then [(n % 128).toNat] else ((n % 128).toNat + 128) :: putS j (n / 128)
theorem putS_last (j : Nat) (n : Int) (h : -64 ≤ n ∧ n < 64) : putS (j + 1) n = [(n % 128).toNat] := by show (if -64 ≤ n ∧ n < 64 then _ else _) = _; rw [if_pos h]
theorem putS_more (j : Nat) (n : Int) (h : ¬ (-64 ≤ n ∧ n < 64)) : putS (j + 1) n = ((n % 128).toNat + 128) :: putS j (n / 128) := by show (if -64 ≤ n ∧ n < 64 then _ else _) = _; rw [if_neg h]
theorem or128 (x : Nat) (h : x < 128) : bits .or .u8 (x : Int) 128 = ((x + 128 : Nat) : Int) := by
  rw [show (128 : Int) = ((128 : Nat) : Int) from rfl, u8_or_nat _ _ (by omega) (by omega), Nat.or_comm, show (128 : Nat) = 1 * 2 ^ 7 from rfl, or_add 7 1 x (by omega)]
  congr 1; omega
theorem and127 (m : Nat) (h : m < 18446744073709551616) : bits .and .u64 (m : Int) 127 = ((m % 128 : Nat) : Int) := by
  rw [show (127 : Int) = ((127 : Nat) : Int) from rfl, u64_and_nat _ _ h (by omega), nat_mask7]
theorem byteU (m : Nat) (h : m < 18446744073709551616) : bits .or .u8 (bits .and .u64 (m : Int) 127 % 256) 128 = ((m % 128 + 128 : Nat) : Int) := by
  rw [and127 m h, Int.emod_eq_of_lt (by omega) (by omega), or128 _ (by omega)]
theorem and127i (m : Int) : bits .and .i64 m 127 = m % 128 := by
  show IntKind.i64.wrap ((BitVec.ofInt 64 m &&& BitVec.ofInt 64 (127 : Int)).toNat : Int) = _
  rw [BitVec.toNat_and, show (127 : Int) = ((127 : Nat) : Int) from rfl, ofInt_u64 127 (by omega), nat_mask7, BitVec.toNat_ofInt, IntKind.wrap_i64]
  have : ((2 ^ 64 : Nat) : Int) = 18446744073709551616 := by decide
  rw [this]
  omega
theorem byteS (m : Int) : bits .or .u8 (bits .and .i64 m 127 % 256) 128 = (((m % 128).toNat + 128 : Nat) : Int) := by
  rw [and127i m]
  have e : m % 128 % 256 = (((m % 128).toNat : Nat) : Int) := by omega
  rw [e, or128 _ (by omega)]
theorem byteSl (m : Int) : bits .and .i64 m 127 % 256 = (((m % 128).toNat : Nat) : Int) := by
  rw [and127i m]; omega
theorem fuel_pos (m j : Nat) (h : m < 2 ^ (7 * j + 1)) (h' : 127 < m) : ∃ i, j = i + 1 ∧ m / 128 < 2 ^ (7 * i + 1) := by
  rcases j with _ | i
  · simp at h; omega
  · refine ⟨i, rfl, ?_⟩
    rw [show 7 * (i + 1) + 1 = (7 * i + 1) + 7 by omega, Nat.pow_add] at h
    omega
theorem fuel_lt (m j : Nat) (h : m < 2 ^ (7 * j + 1)) (hj : j ≤ 9) : m < 18446744073709551616 := by
  have := Nat.pow_le_pow_right (n := 2) (by omega) (show 7 * j + 1 ≤ 64 by omega)
  have h3 : (2 : Nat) ^ 64 = 18446744073709551616 := by decide
  omega
theorem byteR (m : Nat) (_h : m < 18446744073709551616) : bits .or .u8 ((m : Int) % 128) 128 = ((m % 128 + 128 : Nat) : Int) := by
  rw [show (m : Int) % 128 = ((m % 128 : Nat) : Int) by omega, or128 _ (by omega)]
theorem wrapdiv (m : Nat) (h : m < 18446744073709551616) : IntKind.u64.wrap ((m : Int) / 128) = ((m / 128 : Nat) : Int) := by rw [IntKind.wrap_u64]; omega
theorem fuelS_pos (m : Int) (j : Nat) (h : -2 ^ (7 * j) ≤ m ∧ m < 2 ^ (7 * j)) (h' : ¬ (-64 ≤ m ∧ m < 64)) : ∃ i, j = i + 1 ∧ (-2 ^ (7 * i) ≤ m / 128 ∧ m / 128 < 2 ^ (7 * i)) := by
  rcases j with _ | i
  · simp at h; omega
  · refine ⟨i, rfl, ?_⟩
    rw [show 7 * (i + 1) = 7 * i + 7 by omega, Int.pow_add] at h
    generalize (2 : Int) ^ (7 * i) = R at *
    omega
theorem fuelS_lt (m : Int) (j : Nat) (h : -2 ^ (7 * j) ≤ m ∧ m < 2 ^ (7 * j)) (hj : j ≤ 9) : -9223372036854775808 ≤ m ∧ m < 9223372036854775808 := by
  have := Nat.pow_le_pow_right (n := 2) (by omega) (show 7 * j ≤ 63 by omega)
  have h3 : (2 : Nat) ^ 63 = 9223372036854775808 := by decide
  rw [← pow_int] at h
  omega
theorem putU_lt (j n : Nat) : ∀ b ∈ putU j n, b < 256 := by
  induction j generalizing n with
  | zero => intro b hb; simp [putU] at hb; omega
  | succ j ih =>
    intro b hb
    by_cases h : n < 128
    · rw [putU_last j n h] at hb; simp at hb; omega
    · rw [putU_more j n h] at hb
      rcases List.mem_cons.1 hb with rfl | hb
      · omega
      · exact ih _ b hb
theorem putU_length (j n : Nat) : 1 ≤ (putU j n).length ∧ (putU j n).length ≤ j + 1 := by
  induction j generalizing n with
  | zero => simp [putU]
  | succ j ih =>
    by_cases h : n < 128
    · rw [putU_last j n h]; simp
    · rw [putU_more j n h]; have := ih (n / 128); simp; omega
theorem putS_lt (j : Nat) (n : Int) : ∀ b ∈ putS j n, b < 256 := by
  induction j generalizing n with
  | zero => intro b hb; simp [putS] at hb; omega
  | succ j ih =>
    intro b hb
    by_cases h : -64 ≤ n ∧ n < 64
    · rw [putS_last j n h] at hb; simp at hb; omega
    · rw [putS_more j n h] at hb
      rcases List.mem_cons.1 hb with rfl | hb
      · omega
      · exact ih _ b hb
theorem putS_length (j : Nat) (n : Int) : 1 ≤ (putS j n).length ∧ (putS j n).length ≤ j + 1 := by
  induction j generalizing n with
  | zero => simp [putS]
  | succ j ih =>
    by_cases h : -64 ≤ n ∧ n < 64
    · rw [putS_last j n h]; simp
    · rw [putS_more j n h]; have := ih (n / 128); simp; omega
theorem putU_flags (j n : Nat) (h : n < 2 ^ (7 * j + 1)) : ∀ i, i < (putU (j + 1) n).length → (128 ≤ (putU (j + 1) n).getD i 0 ↔ i + 1 < (putU (j + 1) n).length) := by
  induction j generalizing n with
  | zero =>
    have : n < 128 := by simp at h; omega
    rw [putU_last 0 n this]
    intro i hi
    simp at hi
    subst hi
    simp; omega
  | succ j ih =>
    by_cases h1 : n < 128
    · rw [putU_last (j + 1) n h1]
      intro i hi
      simp at hi
      subst hi
      simp; omega
    · rw [putU_more (j + 1) n h1]
      obtain ⟨i0, e, hlt⟩ := fuel_pos n (j + 1) h (by omega)
      have e0 : j = i0 := by omega
      subst e0
      have hl := putU_length (j + 1) (n / 128)
      intro i hi
      rcases i with _ | i
      · simp; omega
      · have := ih (n / 128) hlt i (by simpa using hi)
        simpa using this
theorem putS_flags (j : Nat) (n : Int) (h : -2 ^ (7 * j) ≤ n ∧ n < 2 ^ (7 * j)) : ∀ i, i < (putS (j + 1) n).length → (128 ≤ (putS (j + 1) n).getD i 0 ↔ i + 1 < (putS (j + 1) n).length) := by
  induction j generalizing n with
  | zero =>
    have : -64 ≤ n ∧ n < 64 := by simp at h; omega
    rw [putS_last 0 n this]
    intro i hi
    simp at hi
    subst hi
    simp; omega
  | succ j ih =>
    by_cases h1 : -64 ≤ n ∧ n < 64
    · rw [putS_last (j + 1) n h1]
      intro i hi
      simp at hi
      subst hi
      simp; omega
    · rw [putS_more (j + 1) n h1]
      obtain ⟨i0, e, hlt⟩ := fuelS_pos n (j + 1) h h1
      have e0 : j = i0 := by omega
      subst e0
      have hl := putS_length (j + 1) (n / 128)
      intro i hi
      rcases i with _ | i
      · simp; omega
      · have := ih (n / 128) hlt i (by simpa using hi)
        simpa using this
theorem low_mono (f : Nat → Nat) {k n : Nat} (h : k ≤ n) : low f k ≤ low f n := by
  induction n with
  | zero => have : k = 0 := by omega
            subst this; exact Nat.le_refl _
  | succ n ih =>
    by_cases e : k = n + 1
    · subst e; exact Nat.le_refl _
    · have := ih (by omega); rw [low_succ]; omega
theorem pow_eq_63 : (2 : Nat) ^ (9 * 7) = 9223372036854775808 := by decide
theorem top_lt (f : Nat → Nat) (h : low f 10 < 18446744073709551616) : f 9 % 128 < 2 := by
  rw [low_succ, pow_eq_63] at h; omega
theorem top_ge (f : Nat → Nat) (h : ¬ low f 10 < 18446744073709551616) : 2 ≤ f 9 % 128 := by
  have h1 := low_lt_63 f 9 (by omega)
  rw [low_succ, pow_eq_63] at h; omega
/-- One round of the page's own sum. -/
theorem low_stepR (f : Nat → Nat) (k : Nat) (h3 : low f (k + 1) < 18446744073709551616) :
    bits .or .u64 (low f k : Int) (IntKind.u64.wrap ((f k : Int) % 128 * 2 ^ (7 * k))) = (low f (k + 1) : Int) := by
  have h2 := low_lt f k
  rw [low_succ] at h3
  have h4 : (f k : Int) % 128 * 2 ^ (7 * k) = ((f k % 128 * 2 ^ (k * 7) : Nat) : Int) := by push_cast; rw [Nat.mul_comm]
  rw [h4, IntKind.wrap_u64, Int.emod_eq_of_lt (by omega) (by omega), u64_or_nat _ _ (by omega) (by omega), or_add' _ _ _ h2, low_succ]
theorem low_small (f : Nat → Nat) (k : Nat) (h : k ≤ 8) : low f (k + 1) < 18446744073709551616 := by have := low_lt_63 f (k + 1) (by omega); omega
/-- The highest t groups of n, with the sign. -/
def vt (f : Nat → Nat) (n : Nat) : Nat → Int
  | 0 => if f (n - 1) < 64 then 0 else -1
  | t + 1 => vt f n t * 128 + ((f (n - 1 - t) % 128 : Nat) : Int)
/-- The groups from the mth on. -/
def V (f : Nat → Nat) (n m : Nat) : Int := vt f n (n - m)
theorem V_step (f : Nat → Nat) (n m : Nat) (h : m < n) : V f n m = V f n (m + 1) * 128 + ((f m % 128 : Nat) : Int) := by
  unfold V
  rw [show n - m = (n - (m + 1)) + 1 by omega]
  show vt f n (n - (m + 1)) * 128 + ((f (n - 1 - (n - (m + 1))) % 128 : Nat) : Int) = _
  rw [show n - 1 - (n - (m + 1)) = m by omega]
theorem V_all (f : Nat → Nat) (n m : Nat) (h1 : 1 ≤ n) (hl : f (n - 1) < 128) (h : m ≤ n) : sval f n = V f n m * 2 ^ (m * 7) + (low f m : Int) := by
  obtain ⟨d, hd⟩ : ∃ d, n = m + d := ⟨n - m, by omega⟩
  induction d generalizing m with
  | zero =>
    have : n = m := by omega
    subst this
    obtain ⟨k, rfl⟩ : ∃ k, n = k + 1 := ⟨n - 1, by omega⟩
    have e : V f (k + 1) (k + 1) = if f k < 64 then 0 else -1 := by unfold V; rw [Nat.sub_self]; rfl
    rw [e]
    unfold sval dig
    simp only [Nat.add_sub_cancel] at hl ⊢
    rw [low_succ, Nat.mod_eq_of_lt hl, show (k + 1) * 7 = k * 7 + 7 by omega, Int.pow_add]
    have hp : (((f k * 2 ^ (k * 7) : Nat)) : Int) = (f k : Int) * 2 ^ (k * 7) := by push_cast; rfl
    split
    · push_cast; omega
    · push_cast; rw [Int.sub_mul]; omega
  | succ d ih =>
    rw [ih (m + 1) (by omega) (by omega), V_step f n m (by omega), low_succ, show (m + 1) * 7 = m * 7 + 7 by omega, Int.pow_add]
    push_cast
    rw [Int.add_mul, Int.mul_assoc, Int.mul_comm (2 ^ (m * 7)) 128]
    omega
theorem V_fits (f : Nat → Nat) (n m : Nat) (h1 : 1 ≤ n) (hl : f (n - 1) < 128) (h : m + 1 ≤ n) (hs : -9223372036854775808 ≤ sval f n ∧ sval f n < 9223372036854775808) :
    -72057594037927936 ≤ V f n (m + 1) ∧ V f n (m + 1) < 72057594037927936 := by
  have e := V_all f n (m + 1) h1 hl h
  have h2 : (low f (m + 1) : Int) < 2 ^ ((m + 1) * 7) := by rw [← pow_int]; have := low_lt f (m + 1); omega
  have h3 : (128 : Int) ≤ 2 ^ ((m + 1) * 7) := by
    rw [show (m + 1) * 7 = m * 7 + 7 by omega, Int.pow_add]
    have := pow_pos_int (m * 7)
    have h7 : (2 : Int) ^ 7 = 128 := by decide
    rw [h7]; omega
  rw [e] at hs
  generalize (2 : Int) ^ ((m + 1) * 7) = S at *
  generalize V f n (m + 1) = v at *
  have h4 : (0 : Int) ≤ (low f (m + 1) : Int) := by omega
  generalize (low f (m + 1) : Int) = L at *
  constructor
  · refine Int.le_of_not_gt fun hlt => ?_
    have a1 : (v + 1) * S ≤ -72057594037927936 * S := Int.mul_le_mul_of_nonneg_right (by omega) (by omega)
    have a2 : -72057594037927936 * S ≤ -72057594037927936 * 128 := Int.mul_le_mul_of_nonpos_left (by omega) h3
    rw [Int.add_mul] at a1
    omega
  · refine Int.lt_of_not_ge fun hge => ?_
    have a1 : 72057594037927936 * S ≤ v * S := Int.mul_le_mul_of_nonneg_right hge (by omega)
    have a2 : 72057594037927936 * 128 ≤ 72057594037927936 * S := Int.mul_le_mul_of_nonneg_left h3 (by omega)
    omega
theorem V_round (f : Nat → Nat) (n m : Nat) (h : m < n) (h1 : -72057594037927936 ≤ V f n (m + 1)) (h2 : V f n (m + 1) < 72057594037927936) :
    bits .or .i64 (V f n (m + 1) * 128) ((f m : Int) % 128) = V f n m := by
  rw [V_step f n m h]
  have e7 : (128 : Int) = 2 ^ 7 := by decide
  rw [show (f m : Int) % 128 = ((f m % 128 : Nat) : Int) by omega, e7, or_i64 7 (by omega) _ _ (by omega) (by omega) (by omega)]
theorem and64u (x : Nat) (h : x < 128) : bits .and .u8 (x : Int) 64 = if x < 64 then 0 else 64 := by
  rw [show (64 : Int) = ((64 : Nat) : Int) from rfl, u8_and_nat _ _ (by omega) (by omega), show (64 : Nat) = 2 ^ 6 from rfl, nat_bit]
  split <;> omega
theorem and64u_lo (x : Nat) (h : x < 64) : (bits .and .u8 (x : Int) 64 != 0) = false := by rw [and64u x (by omega), if_pos h]; rfl
theorem and64u_hi (x : Nat) (h : x < 128) (h' : ¬ x < 64) : (bits .and .u8 (x : Int) 64 != 0) = true := by rw [and64u x h, if_neg h']; rfl
theorem V_top_lo (f : Nat → Nat) (n : Nat) (h : f (n - 1) < 64) : V f n n = 0 := by unfold V; rw [Nat.sub_self]; show (if _ then _ else _) = _; rw [if_pos h]
theorem V_top_hi (f : Nat → Nat) (n : Nat) (h : ¬ f (n - 1) < 64) : V f n n = -1 := by unfold V; rw [Nat.sub_self]; show (if _ then _ else _) = _; rw [if_neg h]
theorem V_zero (f : Nat → Nat) (n : Nat) (h1 : 1 ≤ n) (hl : f (n - 1) < 128) : V f n 0 = sval f n := by
  have := V_all f n 0 h1 hl (by omega)
  simp [low] at this
  exact this.symm
theorem pow_62 (b : Nat) (h2 : b < 64) : (2 : Int) ^ (b - 1) ≤ 4611686018427387904 ∧ 0 < (2 : Int) ^ (b - 1) := by
  have := Nat.pow_le_pow_right (n := 2) (by omega) (show b - 1 ≤ 62 by omega)
  have h3 : (2 : Nat) ^ 62 = 4611686018427387904 := by decide
  rw [h3] at this
  refine ⟨?_, pow_pos_int _⟩
  rw [← pow_int]; omega
theorem wrap_pow (b : Nat) (h2 : b < 64) : IntKind.i64.wrap (2 ^ (b - 1)) = 2 ^ (b - 1) := by
  have := pow_62 b h2; rw [IntKind.wrap_i64]; omega
theorem wrap_npow (b : Nat) (h2 : b < 64) : IntKind.i64.wrap (-2 ^ (b - 1)) = -2 ^ (b - 1) := by
  have := pow_62 b h2; rw [IntKind.wrap_i64]; omega
end Go.Proofs.Ytjapcalndolamaa.M
