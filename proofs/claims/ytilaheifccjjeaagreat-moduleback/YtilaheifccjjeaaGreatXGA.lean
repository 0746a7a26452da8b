/-
  The ground of the proofs of this seat, put together: LMath, LMathB, CMath, CMathB, CMathC, Codec. No condition beyond what each text names.
-/
import Derived.Laws.BitsAllLaws
import Derived.Laws.BitsLemmas
namespace Go.Proofs.YtilaheifccjjeaaGreat.M
/-- How many bytes the number has that begins with f, of at most the given many; 0: none ends there. -/
def lenOf (f : Nat → Nat) : Nat → Nat
  | 0 => 0
  | k + 1 => if lenOf f k = 0 then (if f k < 128 then k + 1 else 0) else lenOf f k
theorem lenOf_succ (f : Nat → Nat) (k : Nat) : lenOf f (k + 1) = if lenOf f k = 0 then (if f k < 128 then k + 1 else 0) else lenOf f k := rfl
theorem lenOf_stop {f : Nat → Nat} {k : Nat} (h : lenOf f k = 0) (hf : f k < 128) : lenOf f (k + 1) = k + 1 := by rw [lenOf_succ, if_pos h, if_pos hf]
theorem lenOf_go {f : Nat → Nat} {k : Nat} (h : lenOf f k = 0) (hf : ¬ f k < 128) : lenOf f (k + 1) = 0 := by rw [lenOf_succ, if_pos h, if_neg hf]
theorem lenOf_stays {f : Nat → Nat} {k m : Nat} (h : lenOf f k ≠ 0) (hm : k ≤ m) : lenOf f m = lenOf f k := by
  induction m with
  | zero => have : k = 0 := by omega
            subst this; rfl
  | succ m ih =>
    by_cases e : k = m + 1
    · subst e; rfl
    · have := ih (by omega)
      rw [lenOf_succ, this, if_neg h]
theorem lenOf_stopped {f : Nat → Nat} {k m : Nat} (h : lenOf f k = 0) (hf : f k < 128) (hm : k < m) : lenOf f m = k + 1 := by
  have h1 := lenOf_stop h hf
  rw [lenOf_stays (k := k + 1) (by omega) (by omega), h1]
theorem lenOf_spec (f : Nat → Nat) (m : Nat) (h : lenOf f m ≠ 0) : 1 ≤ lenOf f m ∧ lenOf f m ≤ m ∧ f (lenOf f m - 1) < 128 ∧ ∀ i, i + 1 < lenOf f m → 128 ≤ f i := by
  induction m with
  | zero => exact absurd rfl h
  | succ m ih =>
    rw [lenOf_succ] at h ⊢
    by_cases e : lenOf f m = 0
    · rw [if_pos e] at h ⊢
      by_cases g : f m < 128
      · rw [if_pos g]
        refine ⟨by omega, by omega, by simpa using g, fun i hi => ?_⟩
        have key : ∀ k, lenOf f k = 0 → ∀ i, i < k → 128 ≤ f i := by
          intro k
          induction k with
          | zero => intro _ i hi; omega
          | succ k ihk =>
            intro hk i hi
            rw [lenOf_succ] at hk
            by_cases e2 : lenOf f k = 0
            · rw [if_pos e2] at hk
              by_cases g2 : f k < 128
              · rw [if_pos g2] at hk; omega
              · by_cases e3 : i = k
                · subst e3; omega
                · exact ihk e2 i (by omega)
            · rw [if_neg e2] at hk; exact absurd hk e2
        exact key m e i (by omega)
      · rw [if_neg g] at h; exact absurd rfl h
    · rw [if_neg e] at h ⊢
      obtain ⟨a, b, c, d⟩ := ih e
      exact ⟨a, by omega, c, d⟩
theorem lenOf_le (f : Nat → Nat) (m : Nat) : lenOf f m ≤ m := by
  by_cases h : lenOf f m = 0
  · omega
  · exact (lenOf_spec f m h).2.1
/-- The low seven bits of the first k bytes, put together. -/
def low (f : Nat → Nat) : Nat → Nat
  | 0 => 0
  | k + 1 => low f k + f k % 128 * 2 ^ (k * 7)
theorem low_succ (f : Nat → Nat) (k : Nat) : low f (k + 1) = low f k + f k % 128 * 2 ^ (k * 7) := rfl
theorem low_lt (f : Nat → Nat) (k : Nat) : low f k < 2 ^ (k * 7) := by
  induction k with
  | zero => simp [low]
  | succ k ih =>
    rw [low_succ, show (k + 1) * 7 = k * 7 + 7 by omega, Nat.pow_add]
    have h1 : f k % 128 ≤ 127 := by omega
    have h2 : f k % 128 * 2 ^ (k * 7) ≤ 127 * 2 ^ (k * 7) := Nat.mul_le_mul_right _ h1
    omega
theorem pow_le_63 (k : Nat) (h : k ≤ 9) : 2 ^ (k * 7) ≤ 9223372036854775808 := by
  have := Nat.pow_le_pow_right (n := 2) (by omega) (show k * 7 ≤ 63 by omega)
  simpa using this
theorem low_lt_63 (f : Nat → Nat) (k : Nat) (h : k ≤ 9) : low f k < 9223372036854775808 := Nat.lt_of_lt_of_le (low_lt f k) (pow_le_63 k h)
theorem low_congr {f g : Nat → Nat} {k : Nat} (h : ∀ i, i < k → f i = g i) : low f k = low g k := by
  induction k with
  | zero => rfl
  | succ k ih => rw [low_succ, low_succ, ih (fun i hi => h i (by omega)), h k (by omega)]
theorem lenOf_congr {f g : Nat → Nat} {k : Nat} (h : ∀ i, i < k → f i = g i) : lenOf f k = lenOf g k := by
  induction k with
  | zero => rfl
  | succ k ih => rw [lenOf_succ, lenOf_succ, ih (fun i hi => h i (by omega)), h k (by omega)]
/-- 'x | y' where y lies below x's lowest bit. -/
theorem or_add (k x y : Nat) (hy : y < 2 ^ k) : (x * 2 ^ k) ||| y = x * 2 ^ k + y := nat_join k _ _ (by simp) hy
theorem or_add' (k x y : Nat) (hy : y < 2 ^ k) : y ||| (x * 2 ^ k) = y + x * 2 ^ k := by rw [Nat.or_comm, or_add k x y hy]; omega
/-- One round of the sum. -/
theorem low_step (f : Nat → Nat) (k : Nat) (hk : k ≤ 8) (hf : f k < 256) :
    bits .or .u64 (low f k : Int) (IntKind.u64.wrap (IntKind.u64.wrap (bits .and .u8 (f k : Int) 127) * 2 ^ (k * 7))) = (low f (k + 1) : Int) := by
  have h0 : bits .and .u8 (f k : Int) 127 = ((f k % 128 : Nat) : Int) := by
    rw [show (127 : Int) = ((127 : Nat) : Int) from rfl, u8_and_nat _ _ hf (by omega), nat_mask7]
  have h1 : f k % 128 ≤ 127 := by omega
  have h2 := low_lt f k
  have h3 := low_lt_63 f (k + 1) (by omega)
  rw [low_succ] at h3
  rw [h0, IntKind.wrap_u64 ((f k % 128 : Nat) : Int), Int.emod_eq_of_lt (by omega) (by omega)]
  have h4 : ((f k % 128 : Nat) : Int) * 2 ^ (k * 7) = ((f k % 128 * 2 ^ (k * 7) : Nat) : Int) := by push_cast; rfl
  rw [h4, IntKind.wrap_u64, Int.emod_eq_of_lt (by omega) (by omega), u64_or_nat _ _ (by omega) (by omega), or_add' _ _ _ h2, low_succ]
theorem and128 (x : Nat) (h : x < 256) : bits .and .u8 (x : Int) 128 = if x < 128 then 0 else 128 := by
  rw [show (128 : Int) = ((128 : Nat) : Int) from rfl, u8_and_nat _ _ h (by omega), show (128 : Nat) = 2 ^ 7 from rfl, nat_bit]
  split <;> omega
theorem and128_lo (x : Nat) (h : x < 128) : (bits .and .u8 (x : Int) 128 == 0) = true := by rw [and128 x (by omega), if_pos h]; rfl
theorem and128_hi (x : Nat) (h : x < 256) (h' : ¬ x < 128) : (bits .and .u8 (x : Int) 128 == 0) = false := by rw [and128 x h, if_neg h']; rfl
/-- How many bits a number may have, by its groups. -/
theorem groups (b : Nat) (h1 : 1 ≤ b) (h2 : b ≤ 64) : 1 ≤ (b + 6) / 7 ∧ (b + 6) / 7 ≤ 10 ∧ ((b + 6) / 7 - 1) * 7 < b := by omega
theorem pow_split (b s : Nat) (h : s ≤ b) : (2 : Nat) ^ b = 2 ^ (b - s) * 2 ^ s := by rw [← Nat.pow_add]; congr 1; omega
/-- The last group fits just if the sum does. -/
theorem fits (f : Nat → Nat) (n b : Nat) (h1 : 1 ≤ n) (hl : f (n - 1) < 128) (hb : (n - 1) * 7 < b) : low f n < 2 ^ b ↔ f (n - 1) < 2 ^ (b - (n - 1) * 7) := by
  obtain ⟨m, rfl⟩ : ∃ m, n = m + 1 := ⟨n - 1, by omega⟩
  simp only [Nat.add_sub_cancel] at hl hb ⊢
  rw [low_succ, Nat.mod_eq_of_lt hl, pow_split b (m * 7) (by omega)]
  have h2 := low_lt f m
  generalize 2 ^ (b - m * 7) = R
  generalize 2 ^ (m * 7) = S at *
  constructor
  · intro h
    refine Nat.lt_of_not_le fun hle => ?_
    have := Nat.mul_le_mul_right S hle
    omega
  · intro h
    have : (f m + 1) * S ≤ R * S := Nat.mul_le_mul_right S (by omega)
    rw [Nat.add_mul] at this
    omega
theorem last_of (f : Nat → Nat) (n : Nat) (h1 : 1 ≤ n) (hl : f (n - 1) < 128) : low f n = f (n - 1) * 2 ^ ((n - 1) * 7) + low f (n - 1) := by
  obtain ⟨m, rfl⟩ : ∃ m, n = m + 1 := ⟨n - 1, by omega⟩
  simp only [Nat.add_sub_cancel] at hl ⊢
  rw [low_succ, Nat.mod_eq_of_lt hl]; omega
theorem div_zero_iff (x r : Nat) : ((x : Int) / 2 ^ r != 0) = decide (2 ^ r ≤ x) := by
  have h : ((x : Int) / 2 ^ r) = ((x / 2 ^ r : Nat) : Int) := by push_cast; rfl
  rw [h, Bool.eq_iff_iff, bne_iff_ne, decide_eq_true_iff]
  have hp : 0 < 2 ^ r := Nat.pow_pos (by omega)
  constructor
  · intro h1
    exact Nat.le_of_not_lt fun hlt => h1 (by rw [Nat.div_eq_of_lt hlt]; rfl)
  · intro h1 h2
    have := Nat.div_pos h1 hp
    omega
/-- The last group's place, and the groups ahead of it. -/
theorem u_join (f : Nat → Nat) (n b : Nat) (h1 : 1 ≤ n) (hl : f (n - 1) < 128) (hb : b ≤ 64) (hlt : low f n < 2 ^ b) :
    bits .or .u64 (IntKind.u64.wrap ((f (n - 1) : Int) * 2 ^ ((n - 1) * 7))) (low f (n - 1) : Int) = (low f n : Int) := by
  have h64 : (2 : Nat) ^ b ≤ 18446744073709551616 := by
    have := Nat.pow_le_pow_right (n := 2) (by omega) hb
    simpa using this
  have e := last_of f n h1 hl
  have h3 := low_lt f (n - 1)
  have h4 : (f (n - 1) : Int) * 2 ^ ((n - 1) * 7) = ((f (n - 1) * 2 ^ ((n - 1) * 7) : Nat) : Int) := by push_cast; rfl
  rw [h4, IntKind.wrap_u64, Int.emod_eq_of_lt (by omega) (by omega), u64_or_nat _ _ (by omega) (by omega), or_add _ _ _ h3, e]
/-- The last group with its sign. -/
def dig (f : Nat → Nat) (n : Nat) : Int := if f (n - 1) < 64 then (f (n - 1) : Int) else (f (n - 1) : Int) - 128
/-- The signed number of n bytes. -/
def sval (f : Nat → Nat) (n : Nat) : Int := dig f n * 2 ^ ((n - 1) * 7) + (low f (n - 1) : Int)
theorem pow_int (k : Nat) : ((2 ^ k : Nat) : Int) = 2 ^ k := by push_cast; rfl
theorem pow_pos_int (k : Nat) : (0 : Int) < 2 ^ k := by rw [← pow_int]; have := Nat.pow_pos (n := k) (show 0 < 2 by omega); omega
theorem or_i64 (s : Nat) (hs : s ≤ 63) (D : Int) (y : Nat) (hy : y < 2 ^ s) (h1 : -9223372036854775808 ≤ D * 2 ^ s) (h2 : D * 2 ^ s + (y : Int) < 9223372036854775808) :
    bits .or .i64 (D * 2 ^ s) (y : Int) = D * 2 ^ s + (y : Int) := by
  have hp := pow_pos_int s
  have h64 : (2 : Int) ^ 64 = 2 ^ s * 2 ^ (64 - s) := by rw [← Int.pow_add]; congr 1; omega
  have hm : (D * 2 ^ s) % 2 ^ 64 = 2 ^ s * (D % 2 ^ (64 - s)) := by
    rw [h64, Int.mul_comm D, Int.mul_emod_mul_of_pos _ _ hp]
  have hq := Int.emod_nonneg D (Int.ne_of_gt (pow_pos_int (64 - s)))
  have hlt : 2 ^ s * (D % 2 ^ (64 - s)) < 18446744073709551616 := by rw [← hm]; exact Int.emod_lt_of_pos _ (by decide)
  have hk : 2 ^ s * (D % 2 ^ (64 - s)) + (y : Int) < 18446744073709551616 := by
    have h3 : D % 2 ^ (64 - s) + 1 ≤ 2 ^ (64 - s) := Int.emod_lt_of_pos _ (pow_pos_int _)
    have h4 : 2 ^ s * (D % 2 ^ (64 - s) + 1) ≤ 2 ^ s * 2 ^ (64 - s) := Int.mul_le_mul_of_nonneg_left h3 (Int.le_of_lt hp)
    rw [← h64, Int.mul_add, Int.mul_one] at h4
    have h5 : (y : Int) < 2 ^ s := by rw [← pow_int]; omega
    have h6 : (2 : Int) ^ 64 = 18446744073709551616 := by decide
    omega
  obtain ⟨q, hqe⟩ := Int.eq_ofNat_of_zero_le hq
  have hy63 : (y : Int) < 18446744073709551616 := by
    have : (0 : Int) ≤ 2 ^ s * (D % 2 ^ (64 - s)) := Int.mul_nonneg (Int.le_of_lt hp) hq
    omega
  show IntKind.i64.wrap ((BitVec.ofInt 64 (D * 2 ^ s) ||| BitVec.ofInt 64 (y : Int)).toNat : Int) = _
  have ea : (BitVec.ofInt 64 (D * 2 ^ s)).toNat = q * 2 ^ s := by
    rw [BitVec.toNat_ofInt]
    have : ((2 ^ 64 : Nat) : Int) = 2 ^ 64 := by decide
    rw [this, hm, hqe]
    have : (2 : Int) ^ s * (q : Int) = ((q * 2 ^ s : Nat) : Int) := by push_cast; rw [Int.mul_comm]
    rw [this, Int.toNat_natCast]
  have eb : (BitVec.ofInt 64 (y : Int)).toNat = y := ofInt_u64 y (by omega)
  rw [BitVec.toNat_or, ea, eb, or_add s q y hy, IntKind.wrap_i64]
  have e2 : ((q * 2 ^ s + y : Nat) : Int) = (D * 2 ^ s) % 2 ^ 64 + (y : Int) := by
    rw [hm, hqe]; push_cast; rw [Int.mul_comm]
  rw [e2]
  have h6 : (2 : Int) ^ 64 = 18446744073709551616 := by decide
  rw [h6]
  generalize D * 2 ^ s = X at *
  omega
theorem and64 (x : Nat) (h : x < 128) : bits .and .i64 (x : Int) 64 = if x < 64 then 0 else 64 := by
  have hx : x &&& 64 = if x < 64 then 0 else 64 := by
    rw [show (64 : Nat) = 2 ^ 6 from rfl, nat_bit]; split <;> omega
  show IntKind.i64.wrap ((BitVec.ofInt 64 (x : Int) &&& BitVec.ofInt 64 (64 : Int)).toNat : Int) = _
  rw [BitVec.toNat_and, ofInt_u64 x (by omega), show (64 : Int) = ((64 : Nat) : Int) from rfl, ofInt_u64 64 (by omega), hx, IntKind.wrap_i64]
  split <;> rfl
theorem and64_lo (x : Nat) (h : x < 64) : (bits .and .i64 (x : Int) 64 != 0) = false := by rw [and64 x (by omega), if_pos h]; rfl
theorem and64_hi (x : Nat) (h : x < 128) (h' : ¬ x < 64) : (bits .and .i64 (x : Int) 64 != 0) = true := by rw [and64 x h, if_neg h']; rfl
theorem fits_s (f : Nat → Nat) (n b : Nat) (hb : (n - 1) * 7 < b) :
    (-2 ^ (b - 1) ≤ sval f n ∧ sval f n < 2 ^ (b - 1)) ↔ (-2 ^ (b - (n - 1) * 7 - 1) ≤ dig f n ∧ dig f n < 2 ^ (b - (n - 1) * 7 - 1)) := by
  have e : (2 : Int) ^ (b - 1) = 2 ^ (b - (n - 1) * 7 - 1) * 2 ^ ((n - 1) * 7) := by rw [← Int.pow_add]; congr 1; omega
  have h2 : (low f (n - 1) : Int) < 2 ^ ((n - 1) * 7) := by rw [← pow_int]; have := low_lt f (n - 1); omega
  have h3 := pow_pos_int ((n - 1) * 7)
  unfold sval
  rw [e]
  generalize (2 : Int) ^ (b - (n - 1) * 7 - 1) = R
  generalize (2 : Int) ^ ((n - 1) * 7) = S at *
  generalize dig f n = D
  constructor
  · rintro ⟨a, c⟩
    constructor
    · refine Int.le_of_not_gt fun hlt => ?_
      have : (D + 1) * S ≤ (-R) * S := Int.mul_le_mul_of_nonneg_right (by omega) (Int.le_of_lt h3)
      rw [Int.add_mul, Int.neg_mul] at this
      omega
    · refine Int.lt_of_not_ge fun hge => ?_
      have : R * S ≤ D * S := Int.mul_le_mul_of_nonneg_right hge (Int.le_of_lt h3)
      omega
  · rintro ⟨a, c⟩
    constructor
    · have : (-R) * S ≤ D * S := Int.mul_le_mul_of_nonneg_right a (Int.le_of_lt h3)
      rw [Int.neg_mul] at this
      omega
    · have : (D + 1) * S ≤ R * S := Int.mul_le_mul_of_nonneg_right (by omega) (Int.le_of_lt h3)
      rw [Int.add_mul] at this
      omega
theorem s_join (f : Nat → Nat) (n b : Nat) (h2 : n ≤ 10) (hb1 : 1 ≤ b) (hb : b ≤ 64) (h : -2 ^ (b - 1) ≤ sval f n ∧ sval f n < 2 ^ (b - 1)) :
    bits .or .i64 (IntKind.i64.wrap (dig f n * 2 ^ ((n - 1) * 7))) (IntKind.i64.wrap (low f (n - 1) : Int)) = sval f n := by
  have h63 : (2 : Int) ^ (b - 1) ≤ 9223372036854775808 := by
    have := Nat.pow_le_pow_right (n := 2) (by omega) (show b - 1 ≤ 63 by omega)
    have h3 : (2 : Nat) ^ 63 = 9223372036854775808 := by decide
    rw [h3] at this
    rw [← pow_int]; omega
  have hl := low_lt f (n - 1)
  have hl2 := low_lt_63 f (n - 1) (by omega)
  have hS : (low f (n - 1) : Int) < 2 ^ ((n - 1) * 7) := by rw [← pow_int]; omega
  have hD : -9223372036854775808 ≤ dig f n * 2 ^ ((n - 1) * 7) := by
    obtain ⟨a, c⟩ := h
    have hd : -9223372036854775808 ≤ sval f n := by omega
    refine Int.le_of_not_gt fun hlt => ?_
    have e : (9223372036854775808 : Int) = 2 ^ (63 - (n - 1) * 7) * 2 ^ ((n - 1) * 7) := by
      rw [← Int.pow_add, show 63 - (n - 1) * 7 + (n - 1) * 7 = 63 by omega]; decide
    unfold sval at hd
    have h3 := pow_pos_int ((n - 1) * 7)
    rw [e] at hd hlt
    generalize (2 : Int) ^ (63 - (n - 1) * 7) = R at *
    generalize (2 : Int) ^ ((n - 1) * 7) = S at *
    generalize dig f n = D at *
    have h4 : D < -R := by
      refine Int.lt_of_not_ge fun hge => ?_
      have := Int.mul_le_mul_of_nonneg_right hge (Int.le_of_lt h3)
      rw [Int.neg_mul] at this
      omega
    have h5 : (D + 1) * S ≤ (-R) * S := Int.mul_le_mul_of_nonneg_right (by omega) (Int.le_of_lt h3)
    rw [Int.add_mul, Int.neg_mul] at h5
    omega
  have hE : dig f n * 2 ^ ((n - 1) * 7) + (low f (n - 1) : Int) = sval f n := rfl
  rw [IntKind.wrap_i64, IntKind.wrap_i64]
  have e1 : (dig f n * 2 ^ ((n - 1) * 7) + 9223372036854775808) % 18446744073709551616 - 9223372036854775808 = dig f n * 2 ^ ((n - 1) * 7) := by omega
  have e2 : ((low f (n - 1) : Int) + 9223372036854775808) % 18446744073709551616 - 9223372036854775808 = (low f (n - 1) : Int) := by omega
  rw [e1, e2, or_i64 _ (by omega) _ _ hl hD (by omega), hE]
theorem ediv_zero (D R : Int) (h0 : 0 ≤ D) (h1 : D < R) : D / R = 0 := Int.ediv_eq_zero_of_lt h0 h1
theorem ediv_neg_one (D R : Int) (h0 : D < 0) (h1 : -R ≤ D) : D / R = -1 := by
  have hR : 0 < R := by omega
  have := Int.ediv_emod_unique hR (a := D) (r := D + R) (q := -1)
  exact (this.2 ⟨by omega, by omega, by omega⟩).1
/-- The shortest bytes of a number, with fuel. -/
def putU : Nat → Nat → List Nat
  | 0, n => [n % 128]
  | j + 1, n => if n < 128 then [n] else (n % 128 + 128) :: putU j (n / 128)
theorem putU_last (j n : Nat) (h : n < 128) : putU (j + 1) n = [n] := by show (if n < 128 then _ else _) = _; rw [if_pos h]
theorem putU_more (j n : Nat) (h : ¬ n < 128) : putU (j + 1) n = (n % 128 + 128) :: putU j (n / 128) := by show (if n < 128 then _ else _) = _; rw [if_neg h]
/-- The shortest bytes of a signed number, with fuel. -/
def putS : Nat → Int → List Nat
  | 0, n => [(n % 128).toNat]
  | j + 1, n => if -64 ≤ n ∧ n < 64 then [(n % 128).toNat] else ((n % 128).toNat + 128) :: putS j (n / 128)
theorem putS_last (j : Nat) (n : Int) (h : -64 ≤ n ∧ n < 64) : putS (j + 1) n = [(n % 128).toNat] := by show (if -64 ≤ n ∧ n < 64 then _ else _) = _; rw [if_pos h]
theorem putS_more (j : Nat) (n : Int) (h : ¬ (-64 ≤ n ∧ n < 64)) : putS (j + 1) n = ((n % 128).toNat + 128) :: putS j (n / 128) := by show (if -64 ≤ n ∧ n < 64 then _ else _) = _; rw [if_neg h]
theorem or128 (x : Nat) (h : x < 128) : bits .or .u8 (x : Int) 128 = ((x + 128 : Nat) : Int) := by
  rw [show (128 : Int) = ((128 : Nat) : Int) from rfl, u8_or_nat _ _ (by omega) (by omega), Nat.or_comm, show (128 : Nat) = 1 * 2 ^ 7 from rfl, or_add 7 1 x (by omega)]
  congr 1; omega
theorem and127 (m : Nat) (h : m < 18446744073709551616) : bits .and .u64 (m : Int) 127 = ((m % 128 : Nat) : Int) := by
  rw [show (127 : Int) = ((127 : Nat) : Int) from rfl, u64_and_nat _ _ h (by omega), nat_mask7]
theorem byteU (m : Nat) (h : m < 18446744073709551616) : bits .or .u8 (bits .and .u64 (m : Int) 127 % 256) 128 = ((m % 128 + 128 : Nat) : Int) := by
  rw [and127 m h, Int.emod_eq_of_lt (by omega) (by omega), or128 _ (by omega)]
theorem and127i (m : Int) : bits .and .i64 m 127 = m % 128 := by
  show IntKind.i64.wrap ((BitVec.ofInt 64 m &&& BitVec.ofInt 64 (127 : Int)).toNat : Int) = _
  rw [BitVec.toNat_and, show (127 : Int) = ((127 : Nat) : Int) from rfl, ofInt_u64 127 (by omega), nat_mask7, BitVec.toNat_ofInt, IntKind.wrap_i64]
  have : ((2 ^ 64 : Nat) : Int) = 18446744073709551616 := by decide
  rw [this]
  omega
theorem byteS (m : Int) : bits .or .u8 (bits .and .i64 m 127 % 256) 128 = (((m % 128).toNat + 128 : Nat) : Int) := by
  rw [and127i m]
  have e : m % 128 % 256 = (((m % 128).toNat : Nat) : Int) := by omega
  rw [e, or128 _ (by omega)]
theorem byteSl (m : Int) : bits .and .i64 m 127 % 256 = (((m % 128).toNat : Nat) : Int) := by
  rw [and127i m]; omega
theorem fuel_pos (m j : Nat) (h : m < 2 ^ (7 * j + 1)) (h' : 127 < m) : ∃ i, j = i + 1 ∧ m / 128 < 2 ^ (7 * i + 1) := by
  rcases j with _ | i
  · simp at h; omega
  · refine ⟨i, rfl, ?_⟩
    rw [show 7 * (i + 1) + 1 = (7 * i + 1) + 7 by omega, Nat.pow_add] at h
    omega
theorem fuel_lt (m j : Nat) (h : m < 2 ^ (7 * j + 1)) (hj : j ≤ 9) : m < 18446744073709551616 := by
  have := Nat.pow_le_pow_right (n := 2) (by omega) (show 7 * j + 1 ≤ 64 by omega)
  have h3 : (2 : Nat) ^ 64 = 18446744073709551616 := by decide
  omega
theorem fuelS_pos (m : Int) (j : Nat) (h : -2 ^ (7 * j) ≤ m ∧ m < 2 ^ (7 * j)) (h' : ¬ (-64 ≤ m ∧ m < 64)) : ∃ i, j = i + 1 ∧ (-2 ^ (7 * i) ≤ m / 128 ∧ m / 128 < 2 ^ (7 * i)) := by
  rcases j with _ | i
  · simp at h; omega
  · refine ⟨i, rfl, ?_⟩
    rw [show 7 * (i + 1) = 7 * i + 7 by omega, Int.pow_add] at h
    generalize (2 : Int) ^ (7 * i) = R at *
    omega
theorem fuelS_lt (m : Int) (j : Nat) (h : -2 ^ (7 * j) ≤ m ∧ m < 2 ^ (7 * j)) (hj : j ≤ 9) : -9223372036854775808 ≤ m ∧ m < 9223372036854775808 := by
  have := Nat.pow_le_pow_right (n := 2) (by omega) (show 7 * j ≤ 63 by omega)
  have h3 : (2 : Nat) ^ 63 = 9223372036854775808 := by decide
  rw [← pow_int] at h
  omega
theorem putU_lt (j n : Nat) : ∀ b ∈ putU j n, b < 256 := by
  induction j generalizing n with
  | zero => intro b hb; simp [putU] at hb; omega
  | succ j ih =>
    intro b hb
    by_cases h : n < 128
    · rw [putU_last j n h] at hb; simp at hb; omega
    · rw [putU_more j n h] at hb
      rcases List.mem_cons.1 hb with rfl | hb
      · omega
      · exact ih _ b hb
theorem putU_length (j n : Nat) : 1 ≤ (putU j n).length ∧ (putU j n).length ≤ j + 1 := by
  induction j generalizing n with
  | zero => simp [putU]
  | succ j ih =>
    by_cases h : n < 128
    · rw [putU_last j n h]; simp
    · rw [putU_more j n h]; have := ih (n / 128); simp; omega
theorem putS_lt (j : Nat) (n : Int) : ∀ b ∈ putS j n, b < 256 := by
  induction j generalizing n with
  | zero => intro b hb; simp [putS] at hb; omega
  | succ j ih =>
    intro b hb
    by_cases h : -64 ≤ n ∧ n < 64
    · rw [putS_last j n h] at hb; simp at hb; omega
    · rw [putS_more j n h] at hb
      rcases List.mem_cons.1 hb with rfl | hb
      · omega
      · exact ih _ b hb
theorem putS_length (j : Nat) (n : Int) : 1 ≤ (putS j n).length ∧ (putS j n).length ≤ j + 1 := by
  induction j generalizing n with
  | zero => simp [putS]
  | succ j ih =>
    by_cases h : -64 ≤ n ∧ n < 64
    · rw [putS_last j n h]; simp
    · rw [putS_more j n h]; have := ih (n / 128); simp; omega
theorem putU_flags (j n : Nat) (h : n < 2 ^ (7 * j + 1)) : ∀ i, i < (putU (j + 1) n).length → (128 ≤ (putU (j + 1) n).getD i 0 ↔ i + 1 < (putU (j + 1) n).length) := by
  induction j generalizing n with
  | zero =>
    have : n < 128 := by simp at h; omega
    rw [putU_last 0 n this]
    intro i hi
    simp at hi
    subst hi
    simp; omega
  | succ j ih =>
    by_cases h1 : n < 128
    · rw [putU_last (j + 1) n h1]
      intro i hi
      simp at hi
      subst hi
      simp; omega
    · rw [putU_more (j + 1) n h1]
      obtain ⟨i0, e, hlt⟩ := fuel_pos n (j + 1) h (by omega)
      have e0 : j = i0 := by omega
      subst e0
      have hl := putU_length (j + 1) (n / 128)
      intro i hi
      rcases i with _ | i
      · simp; omega
      · have := ih (n / 128) hlt i (by simpa using hi)
        simpa using this
theorem putS_flags (j : Nat) (n : Int) (h : -2 ^ (7 * j) ≤ n ∧ n < 2 ^ (7 * j)) : ∀ i, i < (putS (j + 1) n).length → (128 ≤ (putS (j + 1) n).getD i 0 ↔ i + 1 < (putS (j + 1) n).length) := by
  induction j generalizing n with
  | zero =>
    have : -64 ≤ n ∧ n < 64 := by simp at h; omega
    rw [putS_last 0 n this]
    intro i hi
    simp at hi
    subst hi
    simp; omega
  | succ j ih =>
    by_cases h1 : -64 ≤ n ∧ n < 64
    · rw [putS_last (j + 1) n h1]
      intro i hi
      simp at hi
      subst hi
      simp; omega
    · rw [putS_more (j + 1) n h1]
      obtain ⟨i0, e, hlt⟩ := fuelS_pos n (j + 1) h h1
      have e0 : j = i0 := by omega
      subst e0
      have hl := putS_length (j + 1) (n / 128)
      intro i hi
      rcases i with _ | i
      · simp; omega
      · have := ih (n / 128) hlt i (by simpa using hi)
        simpa using this
end Go.Proofs.YtilaheifccjjeaaGreat.M
namespace Go.Proofs.YtilaheifccjjeaaGreat.M
theorem lenOf_zero {f : Nat → Nat} {L : Nat} (h : ∀ i, i + 1 < L → 128 ≤ f i) : ∀ m, m < L → lenOf f m = 0 := by
  intro m
  induction m with
  | zero => intro _; rfl
  | succ m ih => intro hm; exact lenOf_go (ih (by omega)) (by have := h m hm; omega)
theorem lenOf_full {f : Nat → Nat} {L : Nat} (h1 : 1 ≤ L) (h : ∀ i, i + 1 < L → 128 ≤ f i) (hl : f (L - 1) < 128) (m : Nat) (hm : L ≤ m) : lenOf f m = L := by
  have h0 := lenOf_zero h (L - 1) (by omega)
  have := lenOf_stopped h0 hl (show L - 1 < m by omega)
  omega
theorem low_head (f : Nat → Nat) (k : Nat) : low f (k + 1) = f 0 % 128 + 128 * low (fun i => f (i + 1)) k := by
  induction k with
  | zero => simp [low]
  | succ k ih =>
    rw [low_succ, ih, low_succ, show (k + 1) * 7 = k * 7 + 7 by omega, Nat.pow_add, Nat.mul_add]
    have : f (k + 1) % 128 * (2 ^ (k * 7) * 2 ^ 7) = 128 * (f (k + 1) % 128 * 2 ^ (k * 7)) := by
      rw [← Nat.mul_assoc, Nat.mul_comm]
    omega
theorem sval_head (f : Nat → Nat) (k : Nat) : sval f (k + 2) = ((f 0 % 128 : Nat) : Int) + 128 * sval (fun i => f (i + 1)) (k + 1) := by
  have e : dig f (k + 2) = dig (fun i => f (i + 1)) (k + 1) := rfl
  unfold sval
  rw [e]
  simp only [show k + 2 - 1 = k + 1 from rfl, show k + 1 - 1 = k from rfl]
  rw [low_head f k, show (k + 1) * 7 = k * 7 + 7 by omega, Int.pow_add, Int.mul_add]
  push_cast
  have : dig (fun i => f (i + 1)) (k + 1) * (2 ^ (k * 7) * 128) = 128 * (dig (fun i => f (i + 1)) (k + 1) * 2 ^ (k * 7)) := by
    rw [← Int.mul_assoc, Int.mul_comm]
  rw [this]
  omega
theorem getD_cons_succ' (x : Nat) (l : List Nat) (i : Nat) : (x :: l).getD (i + 1) 0 = l.getD i 0 := by simp
/-- The bytes of n, whatever stands behind, sum up to n. -/
theorem low_putU (j n : Nat) (f : Nat → Nat) (h : n < 2 ^ (7 * j + 1)) (hf : ∀ i, i < (putU (j + 1) n).length → f i = (putU (j + 1) n).getD i 0) : low f (putU (j + 1) n).length = n := by
  induction j generalizing n f with
  | zero =>
    have h1 : n < 128 := by simp at h; omega
    rw [putU_last 0 n h1] at hf ⊢
    have h0 := hf 0 (by simp)
    simp at h0
    simp [low, h0]; omega
  | succ j ih =>
    by_cases h1 : n < 128
    · rw [putU_last (j + 1) n h1] at hf ⊢
      have h0 := hf 0 (by simp)
      simp at h0
      simp [low, h0]; omega
    · rw [putU_more (j + 1) n h1] at hf ⊢
      obtain ⟨i0, e, hlt⟩ := fuel_pos n (j + 1) h (by omega)
      have e0 : j = i0 := by omega
      subst e0
      have h0 := hf 0 (by simp)
      simp at h0
      have := ih (n / 128) (fun i => f (i + 1)) hlt (fun i hi => by
        have := hf (i + 1) (by simpa using hi)
        rw [this, getD_cons_succ'])
      rw [List.length_cons, low_head, this, h0]
      omega
theorem sval_putS (j : Nat) (n : Int) (f : Nat → Nat) (h : -2 ^ (7 * j) ≤ n ∧ n < 2 ^ (7 * j)) (hf : ∀ i, i < (putS (j + 1) n).length → f i = (putS (j + 1) n).getD i 0) : sval f (putS (j + 1) n).length = n := by
  have one : ∀ (n : Int) (f : Nat → Nat), -64 ≤ n ∧ n < 64 → f 0 = (n % 128).toNat → sval f 1 = n := by
    intro n f hn h0
    unfold sval dig
    simp [low, h0]
    split <;> omega
  induction j generalizing n f with
  | zero =>
    have h1 : -64 ≤ n ∧ n < 64 := by simp at h; omega
    rw [putS_last 0 n h1] at hf ⊢
    have h0 := hf 0 (by simp)
    simp at h0
    exact one n f h1 h0
  | succ j ih =>
    by_cases h1 : -64 ≤ n ∧ n < 64
    · rw [putS_last (j + 1) n h1] at hf ⊢
      have h0 := hf 0 (by simp)
      simp at h0
      exact one n f h1 h0
    · rw [putS_more (j + 1) n h1] at hf ⊢
      obtain ⟨i0, e, hlt⟩ := fuelS_pos n (j + 1) h h1
      have e0 : j = i0 := by omega
      subst e0
      have h0 := hf 0 (by simp)
      simp at h0
      have hl := putS_length (j + 1) (n / 128)
      have := ih (n / 128) (fun i => f (i + 1)) hlt (fun i hi => by
        have := hf (i + 1) (by simpa using hi)
        rw [this, getD_cons_succ'])
      obtain ⟨k, hk⟩ : ∃ k, (putS (j + 1) (n / 128)).length = k + 1 := ⟨_, (Nat.sub_add_cancel hl.1).symm⟩
      rw [List.length_cons, hk, sval_head, ← hk, this, h0]
      omega
theorem putU_short (m j n : Nat) (h : n < 2 ^ (7 * (m + 1))) : (putU j n).length ≤ m + 1 := by
  induction m generalizing j n with
  | zero =>
    rcases j with _ | j
    · simp [putU]
    · rw [putU_last j n (by simpa using h)]; simp
  | succ m ih =>
    rcases j with _ | j
    · simp [putU]
    · by_cases h1 : n < 128
      · rw [putU_last j n h1]; simp
      · rw [putU_more j n h1, List.length_cons]
        have := ih j (n / 128) (by
          rw [show 7 * (m + 1 + 1) = 7 * (m + 1) + 7 by omega, Nat.pow_add] at h
          omega)
        omega
theorem putS_short (m j : Nat) (n : Int) (h : -2 ^ (7 * m + 6) ≤ n ∧ n < 2 ^ (7 * m + 6)) : (putS j n).length ≤ m + 1 := by
  induction m generalizing j n with
  | zero =>
    rcases j with _ | j
    · simp [putS]
    · rw [putS_last j n (by simpa using h)]; simp
  | succ m ih =>
    rcases j with _ | j
    · simp [putS]
    · by_cases h1 : -64 ≤ n ∧ n < 64
      · rw [putS_last j n h1]; simp
      · rw [putS_more j n h1, List.length_cons]
        have := ih j (n / 128) (by
          rw [show 7 * (m + 1) + 6 = (7 * m + 6) + 7 by omega, Int.pow_add] at h
          generalize (2 : Int) ^ (7 * m + 6) = R at *
          omega)
        omega
theorem putU_groups (n b : Nat) (h1 : 1 ≤ b) (h : n < 2 ^ b) : (putU 10 n).length ≤ (b + 6) / 7 := by
  obtain ⟨m, hm⟩ : ∃ m, (b + 6) / 7 = m + 1 := ⟨(b + 6) / 7 - 1, by omega⟩
  rw [hm]
  refine putU_short m 10 n (Nat.lt_of_lt_of_le h (Nat.pow_le_pow_right (by omega) (by omega)))
theorem putS_groups (n : Int) (b : Nat) (h1 : 1 ≤ b) (h : -2 ^ (b - 1) ≤ n ∧ n < 2 ^ (b - 1)) : (putS 10 n).length ≤ (b + 6) / 7 := by
  obtain ⟨m, hm⟩ : ∃ m, (b + 6) / 7 = m + 1 := ⟨(b + 6) / 7 - 1, by omega⟩
  rw [hm]
  have hp := Nat.pow_le_pow_right (n := 2) (by omega) (show b - 1 ≤ 7 * m + 6 by omega)
  refine putS_short m 10 n ?_
  rw [← pow_int] at h ⊢
  omega
theorem putU_flags10 (n : Nat) (h : n < 18446744073709551616) : ∀ i, i < (putU 10 n).length → (128 ≤ (putU 10 n).getD i 0 ↔ i + 1 < (putU 10 n).length) := putU_flags 9 n (by simpa using h)
theorem putS_flags10 (n : Int) (h : -9223372036854775808 ≤ n ∧ n < 9223372036854775808) : ∀ i, i < (putS 10 n).length → (128 ≤ (putS 10 n).getD i 0 ↔ i + 1 < (putS 10 n).length) := putS_flags 9 n (by simpa using h)
theorem low_putU10 (n : Nat) (f : Nat → Nat) (h : n < 18446744073709551616) (hf : ∀ i, i < (putU 10 n).length → f i = (putU 10 n).getD i 0) : low f (putU 10 n).length = n := low_putU 9 n f (by simpa using h) hf
theorem sval_putS10 (n : Int) (f : Nat → Nat) (h : -9223372036854775808 ≤ n ∧ n < 9223372036854775808) (hf : ∀ i, i < (putS 10 n).length → f i = (putS 10 n).getD i 0) : sval f (putS 10 n).length = n := sval_putS 9 n f (by simpa using h) hf
end Go.Proofs.YtilaheifccjjeaaGreat.M
namespace Go.Proofs.YtilaheifccjjeaaGreat.M
/-- What an instruction has of its own: its byte and its numbers. -/
structure Hd where
  op : Int
  ty : Int
  ix : Int
  al : Int
  ofs : Int
  val : Int
  labels : List Int
/-- Instructions, one behind the other, each with its body and what stands behind else. -/
inductive L where
  | nil : L
  | cons (h : Hd) (b e r : L) : L
def L.len : L → Nat
  | .nil => 0
  | .cons _ _ _ r => r.len + 1
/-- How much they weigh: instructions and labels, all of them. -/
def L.sz : L → Nat
  | .nil => 0
  | .cons h b e r => h.labels.length + b.sz + e.sz + r.sz + 1
def L.nth : L → Nat → Option (Hd × L × L)
  | .nil, _ => none
  | .cons h b e _, 0 => some (h, b, e)
  | .cons _ _ _ r, k + 1 => r.nth k
def L.app : L → L → L
  | .nil, m => m
  | .cons h b e r, m => .cons h b e (r.app m)
/-- What stands behind an instruction's byte: its kind; 0: it is none. -/
def kind (op : Int) : Nat :=
  if op = 0 ∨ op = 1 ∨ op = 15 ∨ op = 26 ∨ op = 27 then 1
  else if 2 ≤ op ∧ op ≤ 4 then 2
  else if op = 12 ∨ op = 13 ∨ op = 16 ∨ (32 ≤ op ∧ op ≤ 36) then 3
  else if op = 14 then 4
  else if op = 17 then 5
  else if op = 40 ∨ op = 41 ∨ (44 ≤ op ∧ op ≤ 55) ∨ (58 ≤ op ∧ op ≤ 62) then 6
  else if op = 63 ∨ op = 64 then 7
  else if op = 65 then 8
  else if op = 66 then 9
  else if (69 ≤ op ∧ op ≤ 90) ∨ (103 ≤ op ∧ op ≤ 138) ∨ op = 167 ∨ op = 172 ∨ op = 173 then 1
  else 0
theorem kind_le (op : Int) : kind op ≤ 9 := by
  unfold kind
  repeat' split
  all_goals omega
theorem kind_op (op : Int) (h : kind op ≠ 0) : 0 ≤ op ∧ op < 256 := by
  unfold kind at h
  repeat' (split at h)
  all_goals omega
theorem kind_small (op : Int) : kind op = 8 ↔ op = 65 := by
  unfold kind
  repeat' split
  all_goals omega
theorem kind_block (op : Int) : kind op = 2 ↔ 2 ≤ op ∧ op ≤ 4 := by
  unfold kind
  repeat' split
  all_goals omega
theorem kind_cases (op : Int) : kind op = 0 ∨ kind op = 1 ∨ kind op = 2 ∨ kind op = 3 ∨ kind op = 4 ∨ kind op = 5 ∨ kind op = 6 ∨ kind op = 7 ∨ kind op = 8 ∨ kind op = 9 := by
  have := kind_le op
  omega
def tyOk (t : Int) : Prop := t = 64 ∨ t = 127 ∨ t = 126
instance (t : Int) : Decidable (tyOk t) := by unfold tyOk; infer_instance
def inR (n : Int) : Prop := 0 ≤ n ∧ n < 4294967296
instance (t : Int) : Decidable (inR t) := by unfold inR; infer_instance
def hd0 (op : Int) : Hd := ⟨op, 0, 0, 0, 0, 0, []⟩
/-- Whether an instruction's own numbers may be, by its kind. -/
def flatK (k : Nat) (h : Hd) : Prop :=
  match k with
  | 1 => h = hd0 h.op
  | 2 => h = { hd0 h.op with ty := h.ty } ∧ tyOk h.ty
  | 3 => h = { hd0 h.op with ix := h.ix } ∧ inR h.ix
  | 4 => h = { hd0 h.op with ix := h.ix, labels := h.labels } ∧ inR h.ix ∧ ∀ x ∈ h.labels, inR x
  | 5 => h = { hd0 h.op with ix := h.ix } ∧ inR h.ix
  | 6 => h = { hd0 h.op with al := h.al, ofs := h.ofs } ∧ inR h.al ∧ inR h.ofs
  | 7 => h = hd0 h.op
  | 8 => h = { hd0 h.op with val := h.val } ∧ -2147483648 ≤ h.val ∧ h.val < 2147483648
  | 9 => h = { hd0 h.op with val := h.val } ∧ -9223372036854775808 ≤ h.val ∧ h.val < 9223372036854775808
  | _ => False
def flat (h : Hd) : Prop := flatK (kind h.op) h
theorem flat_of {h : Hd} {k : Nat} (hk : kind h.op = k) (hf : flatK k h) : flat h := by unfold flat; rw [hk]; exact hf
theorem flat_to {h : Hd} {k : Nat} (hk : kind h.op = k) (hf : flat h) : flatK k h := by unfold flat at hf; rw [hk] at hf; exact hf
/-- Whether they may be, with so many blocks around them still to come. -/
def ok : Nat → L → Prop
  | _, .nil => True
  | d, .cons h b e r => flat h ∧ (kind h.op = 2 → 0 < d ∧ ok (d - 1) b ∧ ok (d - 1) e) ∧ (kind h.op ≠ 2 → b = .nil) ∧ (h.op ≠ 4 → e = .nil) ∧ ok d r
def U (n : Int) : List Nat := putU 10 n.toNat
def Us : List Int → List Nat
  | [] => []
  | x :: t => U x ++ Us t
def S (n : Int) : List Nat := putS 10 n
/-- The bytes. -/
def enc : L → List Nat
  | .nil => []
  | .cons h b e r =>
    h.op.toNat :: ((match kind h.op with
      | 2 => h.ty.toNat :: (enc b ++ (match e with | .nil => [] | .cons .. => 5 :: enc e) ++ [11])
      | 3 => U h.ix
      | 4 => U h.labels.length ++ Us h.labels ++ U h.ix
      | 5 => U h.ix ++ [0]
      | 6 => U h.al ++ U h.ofs
      | 7 => [0]
      | 8 => S h.val
      | 9 => S h.val
      | _ => []) ++ enc r)
def bf (bs : List Nat) : Nat → Nat := fun i => bs.getD i 0
def num (bs : List Nat) : Option (Int × List Nat) :=
  if lenOf (bf bs) (min bs.length 5) ≠ 0 ∧ low (bf bs) (lenOf (bf bs) (min bs.length 5)) < 4294967296 then
    some ((low (bf bs) (lenOf (bf bs) (min bs.length 5)) : Nat), bs.drop (lenOf (bf bs) (min bs.length 5))) else none
def sgn (b : Nat) (bs : List Nat) : Option (Int × List Nat) :=
  if lenOf (bf bs) (min bs.length ((b + 6) / 7)) ≠ 0 ∧ (-2 ^ (b - 1) ≤ sval (bf bs) (lenOf (bf bs) (min bs.length ((b + 6) / 7))) ∧ sval (bf bs) (lenOf (bf bs) (min bs.length ((b + 6) / 7))) < 2 ^ (b - 1)) then
    some (sval (bf bs) (lenOf (bf bs) (min bs.length ((b + 6) / 7))), bs.drop (lenOf (bf bs) (min bs.length ((b + 6) / 7)))) else none
def nums : Nat → List Nat → Option (List Int × List Nat)
  | 0, bs => some ([], bs)
  | k + 1, bs => (num bs).bind fun p => (nums k p.2).bind fun q => some (p.1 :: q.1, q.2)
theorem bf_app (bs x : List Nat) (i : Nat) (h : i < bs.length) : bf (bs ++ x) i = bf bs i := by
  simp [bf, List.getD_eq_getElem?_getD, List.getElem?_append_left h]
/-- What is read as a number: how many bytes. -/
theorem lenOf_app (bs x : List Nat) (m : Nat) (h : lenOf (bf bs) (min bs.length m) ≠ 0) : lenOf (bf (bs ++ x)) (min (bs ++ x).length m) = lenOf (bf bs) (min bs.length m) := by
  have h1 : lenOf (bf (bs ++ x)) (min bs.length m) = lenOf (bf bs) (min bs.length m) := lenOf_congr fun i hi => bf_app bs x i (by omega)
  rw [← h1]
  exact lenOf_stays (by rw [h1]; exact h) (by simp; omega)
theorem dig_congr {f g : Nat → Nat} {n : Nat} (h : f (n - 1) = g (n - 1)) : dig f n = dig g n := by unfold dig; rw [h]
theorem sval_congr {f g : Nat → Nat} {n : Nat} (h1 : 1 ≤ n) (h : ∀ i, i < n → f i = g i) : sval f n = sval g n := by
  unfold sval
  rw [dig_congr (h (n - 1) (by omega)), low_congr fun i hi => h i (by omega)]
theorem num_app {bs r : List Nat} {v : Int} (x : List Nat) (h : num bs = some (v, r)) : num (bs ++ x) = some (v, r ++ x) := by
  unfold num at h
  split at h
  case isFalse => cases h
  case isTrue hc =>
    have h2 := lenOf_le (bf bs) (min bs.length 5)
    have h1 := lenOf_app bs x 5 hc.1
    have h3 : low (bf (bs ++ x)) (lenOf (bf bs) (min bs.length 5)) = low (bf bs) (lenOf (bf bs) (min bs.length 5)) := low_congr fun i hi => bf_app bs x i (by omega)
    unfold num
    rw [h1, h3, if_pos hc, List.drop_append_of_le_length (by omega)]
    simp only [Option.some.injEq, Prod.mk.injEq] at h ⊢
    exact ⟨h.1, by rw [h.2]⟩
theorem sgn_app {b : Nat} {bs r : List Nat} {v : Int} (x : List Nat) (h : sgn b bs = some (v, r)) : sgn b (bs ++ x) = some (v, r ++ x) := by
  unfold sgn at h
  split at h
  case isFalse => cases h
  case isTrue hc =>
    have h2 := lenOf_le (bf bs) (min bs.length ((b + 6) / 7))
    have h1 := lenOf_app bs x ((b + 6) / 7) hc.1
    have h3 : sval (bf (bs ++ x)) (lenOf (bf bs) (min bs.length ((b + 6) / 7))) = sval (bf bs) (lenOf (bf bs) (min bs.length ((b + 6) / 7))) := sval_congr (by have := hc.1; omega) fun i hi => bf_app bs x i (by omega)
    unfold sgn
    rw [h1, h3, if_pos hc, List.drop_append_of_le_length (by omega)]
    simp only [Option.some.injEq, Prod.mk.injEq] at h ⊢
    exact ⟨h.1, by rw [h.2]⟩
theorem num_back (v : Int) (r : List Nat) (h : inR v) : num (U v ++ r) = some (v, r) := by
  obtain ⟨n, rfl⟩ := Int.eq_ofNat_of_zero_le h.1
  have hn : n < 4294967296 := by have := h.2; omega
  have hU : U (n : Int) = putU 10 n := by unfold U; rw [Int.toNat_natCast]
  rw [hU]
  have h1 := putU_groups n 32 (by omega) (by simpa using hn)
  have h2 := putU_length 10 n
  have hf : ∀ i, i < (putU 10 n).length → bf (putU 10 n ++ r) i = (putU 10 n).getD i 0 := fun i hi => bf_app _ _ _ hi
  have hfl := putU_flags10 n (by omega)
  have hL : lenOf (bf (putU 10 n ++ r)) (min (putU 10 n ++ r).length 5) = (putU 10 n).length := by
    refine lenOf_full (by omega) (fun i hi => ?_) ?_ _ ?_
    · rw [hf i (by omega)]; exact (hfl i (by omega)).2 hi
    · rw [hf _ (by omega)]
      have := hfl ((putU 10 n).length - 1) (by omega)
      omega
    · simp; omega
  have hlow := low_putU10 n (bf (putU 10 n ++ r)) (by omega) hf
  unfold num
  rw [hL, hlow, if_pos ⟨by omega, hn⟩, List.drop_left]
theorem sgn_back (b : Nat) (v : Int) (r : List Nat) (h1 : 1 ≤ b) (h2 : b ≤ 64) (h : -2 ^ (b - 1) ≤ v ∧ v < 2 ^ (b - 1)) : sgn b (S v ++ r) = some (v, r) := by
  have h63 : (2 : Int) ^ (b - 1) ≤ 9223372036854775808 := by
    have := Nat.pow_le_pow_right (n := 2) (by omega) (show b - 1 ≤ 63 by omega)
    have h3 : (2 : Nat) ^ 63 = 9223372036854775808 := by decide
    rw [h3] at this
    rw [← pow_int]; omega
  unfold S
  have h3 := putS_groups v b h1 h
  have h4 := putS_length 10 v
  have hf : ∀ i, i < (putS 10 v).length → bf (putS 10 v ++ r) i = (putS 10 v).getD i 0 := fun i hi => bf_app _ _ _ hi
  have hfl := putS_flags10 v (by omega)
  have hL : lenOf (bf (putS 10 v ++ r)) (min (putS 10 v ++ r).length ((b + 6) / 7)) = (putS 10 v).length := by
    refine lenOf_full (by omega) (fun i hi => ?_) ?_ _ ?_
    · rw [hf i (by omega)]; exact (hfl i (by omega)).2 hi
    · rw [hf _ (by omega)]
      have := hfl ((putS 10 v).length - 1) (by omega)
      omega
    · simp; omega
  have hlow := sval_putS10 v (bf (putS 10 v ++ r)) (by omega) hf
  unfold sgn
  rw [hL, hlow, if_pos ⟨by omega, h⟩, List.drop_left]
theorem num_short {bs r : List Nat} {v : Int} (h : num bs = some (v, r)) : inR v ∧ (U v).length + r.length ≤ bs.length ∧ r.length < bs.length := by
  unfold num at h
  split at h
  case isFalse => cases h
  case isTrue hc =>
    simp only [Option.some.injEq, Prod.mk.injEq] at h
    obtain ⟨rfl, rfl⟩ := h
    have h2 := lenOf_le (bf bs) (min bs.length 5)
    obtain ⟨hn, hlt⟩ := hc
    generalize lenOf (bf bs) (min bs.length 5) = n at *
    have h3 := low_lt (bf bs) n
    obtain ⟨m, rfl⟩ : ∃ m, n = m + 1 := ⟨n - 1, by omega⟩
    have h4 := putU_short m 10 (low (bf bs) (m + 1)) (by rw [show 7 * (m + 1) = (m + 1) * 7 by omega]; exact h3)
    refine ⟨⟨by omega, by omega⟩, ?_, ?_⟩
    · unfold U
      rw [Int.toNat_natCast, List.length_drop]
      omega
    · rw [List.length_drop]; omega
theorem sgn_short {b : Nat} {bs r : List Nat} {v : Int} (h : sgn b bs = some (v, r)) : (-2 ^ (b - 1) ≤ v ∧ v < 2 ^ (b - 1)) ∧ (S v).length + r.length ≤ bs.length ∧ r.length < bs.length := by
  unfold sgn at h
  split at h
  case isFalse => cases h
  case isTrue hc =>
    simp only [Option.some.injEq, Prod.mk.injEq] at h
    obtain ⟨rfl, rfl⟩ := h
    have h2 := lenOf_le (bf bs) (min bs.length ((b + 6) / 7))
    obtain ⟨hn, hlt⟩ := hc
    have hs := (lenOf_spec (bf bs) _ hn).2.2.1
    generalize lenOf (bf bs) (min bs.length ((b + 6) / 7)) = n at *
    obtain ⟨m, rfl⟩ : ∃ m, n = m + 1 := ⟨n - 1, by omega⟩
    refine ⟨hlt, ?_, ?_⟩
    · have h5 : -2 ^ (7 * m + 6) ≤ sval (bf bs) (m + 1) ∧ sval (bf bs) (m + 1) < 2 ^ (7 * m + 6) := by
        have h6 : (low (bf bs) m : Int) < 2 ^ (m * 7) := by rw [← pow_int]; have := low_lt (bf bs) m; omega
        have h7 : (2 : Int) ^ (7 * m + 6) = 64 * 2 ^ (m * 7) := by rw [Int.pow_add, show 7 * m = m * 7 by omega, Int.mul_comm]; rfl
        have h8 : -64 ≤ dig (bf bs) (m + 1) ∧ dig (bf bs) (m + 1) ≤ 63 := by unfold dig; split <;> omega
        have hp := pow_pos_int (m * 7)
        unfold sval
        rw [h7]
        simp only [Nat.add_sub_cancel]
        generalize dig (bf bs) (m + 1) = D at *
        generalize (2 : Int) ^ (m * 7) = R at *
        have h9 : -64 * R ≤ D * R := Int.mul_le_mul_of_nonneg_right h8.1 (Int.le_of_lt hp)
        have h10 : D * R ≤ 63 * R := Int.mul_le_mul_of_nonneg_right h8.2 (Int.le_of_lt hp)
        omega
      have h4 := putS_short m 10 _ h5
      unfold S
      rw [List.length_drop]
      omega
    · rw [List.length_drop]; omega
end Go.Proofs.YtilaheifccjjeaaGreat.M
namespace Go.Proofs.YtilaheifccjjeaaGreat.M
/-- One instruction, read: what it has, its body, what stands behind else. -/
abbrev It := Hd × L × L
abbrev Rd := List Nat → Option (L × List Nat)
def endB : List Nat → Option (List Nat)
  | [] => none
  | b :: r => if b = 11 then some r else none
def elsB (sub : Rd) (op : Nat) : List Nat → Option (L × List Nat)
  | [] => some (.nil, [])
  | b :: r => if b = 5 ∧ op = 4 then sub r else some (.nil, b :: r)
def blkB (sub : Rd) (op : Nat) : List Nat → Option (It × List Nat)
  | [] => none
  | t :: r => if tyOk t then (sub r).bind fun p => (elsB sub op p.2).bind fun q => (endB q.2).bind fun s => some (({ hd0 op with ty := t }, p.1, q.1), s) else none
def zeroB : List Nat → Option (List Nat)
  | [] => none
  | b :: r => if b = 0 then some r else none
/-- What stands behind the byte op. -/
def ins (sub : Rd) (op : Nat) (bs : List Nat) : Option (It × List Nat) :=
  match kind op with
  | 1 => some ((hd0 op, .nil, .nil), bs)
  | 2 => blkB sub op bs
  | 3 => (num bs).bind fun p => some (({ hd0 op with ix := p.1 }, .nil, .nil), p.2)
  | 4 => (num bs).bind fun c => (nums c.1.toNat c.2).bind fun t => (num t.2).bind fun p => some (({ hd0 op with ix := p.1, labels := t.1 }, .nil, .nil), p.2)
  | 5 => (num bs).bind fun p => (zeroB p.2).bind fun r => some (({ hd0 op with ix := p.1 }, .nil, .nil), r)
  | 6 => (num bs).bind fun p => (num p.2).bind fun q => some (({ hd0 op with al := p.1, ofs := q.1 }, .nil, .nil), q.2)
  | 7 => (zeroB bs).bind fun r => some ((hd0 op, .nil, .nil), r)
  | 8 => (sgn 32 bs).bind fun p => some (({ hd0 op with val := p.1 }, .nil, .nil), p.2)
  | 9 => (sgn 64 bs).bind fun p => some (({ hd0 op with val := p.1 }, .nil, .nil), p.2)
  | _ => none
def lst (sub : Rd) : Nat → List Nat → Option (L × List Nat)
  | 0, _ => none
  | _ + 1, [] => some (.nil, [])
  | n + 1, b :: r => if b = 5 ∨ b = 11 then some (.nil, b :: r) else (ins sub b r).bind fun p => (lst sub n p.2).bind fun q => some (.cons p.1.1 p.1.2.1 p.1.2.2 q.1, q.2)
/-- Instructions with which bytes begin, up to 5, 11 or the end; d: how many blocks may still be opened. -/
def dec : Nat → Rd
  | 0 => fun bs => lst (fun _ => none) (bs.length + 1) bs
  | d + 1 => fun bs => lst (dec d) (bs.length + 1) bs
def subOf : Nat → Rd
  | 0 => fun _ => none
  | d + 1 => dec d
theorem dec_eq (d : Nat) (bs : List Nat) : dec d bs = lst (subOf d) (bs.length + 1) bs := by cases d <;> rfl
/-- The expression with which bytes begin, and how many bytes it has. -/
def expr (bs : List Nat) : Option (L × Nat) := (dec 40 bs).bind fun p => (endB p.2).bind fun r => some (p.1, bs.length - r.length)
/-- A reader that leaves no more than there was. -/
def Less (sub : Rd) : Prop := ∀ bs p, sub bs = some p → p.2.length ≤ bs.length
theorem endB_some {bs r : List Nat} (h : endB bs = some r) : bs = 11 :: r := by
  cases bs with
  | nil => cases h
  | cons b t =>
    simp only [endB] at h
    split at h
    · rename_i hb; subst hb; cases h; rfl
    · cases h
theorem zeroB_some {bs r : List Nat} (h : zeroB bs = some r) : bs = 0 :: r := by
  cases bs with
  | nil => cases h
  | cons b t =>
    simp only [zeroB] at h
    split at h
    · rename_i hb; subst hb; cases h; rfl
    · cases h
theorem nums_some {k : Nat} {bs : List Nat} {p : List Int × List Nat} (h : nums k bs = some p) : p.1.length = k ∧ (∀ x ∈ p.1, inR x) ∧ (Us p.1).length + p.2.length ≤ bs.length ∧ p.1.length + p.2.length ≤ bs.length := by
  induction k generalizing bs p with
  | zero =>
    simp only [nums, Option.some.injEq] at h
    subst h
    simp [Us]
  | succ k ih =>
    simp only [nums, Option.bind_eq_some_iff] at h
    obtain ⟨⟨v, r⟩, h1, ⟨t, r'⟩, h2, h3⟩ := h
    cases h3
    obtain ⟨a1, a2, a3⟩ := num_short h1
    obtain ⟨b1, b2, b3, b4⟩ := ih h2
    simp only at *
    refine ⟨by simp [b1], ?_, ?_, ?_⟩
    · intro x hx
      rcases List.mem_cons.1 hx with rfl | hx
      · exact a1
      · exact b2 x hx
    · simp only [Us, List.length_append]; omega
    · simp only [List.length_cons]; omega
theorem ins_less {sub : Rd} (hs : Less sub) {op : Nat} {bs : List Nat} {p : It × List Nat} (h : ins sub op bs = some p) : p.2.length ≤ bs.length := by
  unfold ins at h
  split at h
  case h_1 => cases h; exact Nat.le_refl _
  case h_2 =>
    cases bs with
    | nil => cases h
    | cons t r =>
      simp only [blkB] at h
      split at h
      · simp only [Option.bind_eq_some_iff] at h
        obtain ⟨⟨b, r1⟩, h1, ⟨e, r2⟩, h2, r3, h3, h4⟩ := h
        cases h4
        have a1 := hs _ _ h1
        have a3 := endB_some h3
        simp only at a1 a3 h2 ⊢
        have a2 : r2.length ≤ r1.length := by
          cases r1 with
          | nil => simp only [elsB] at h2; cases h2; exact Nat.le_refl _
          | cons c t' =>
            simp only [elsB] at h2
            split at h2
            · have := hs _ _ h2; simp only [List.length_cons] at this ⊢; omega
            · cases h2; exact Nat.le_refl _
        rw [a3] at a2
        simp only [List.length_cons] at a2 ⊢
        omega
      · cases h
  case h_10 => cases h
  all_goals
    simp only [Option.bind_eq_some_iff] at h
  case h_3 =>
    obtain ⟨⟨v, r⟩, h1, h2⟩ := h
    cases h2
    have := (num_short h1).2.2
    simp only; omega
  case h_4 =>
    obtain ⟨⟨c, r⟩, h1, ⟨t, r1⟩, h2, ⟨v, r2⟩, h3, h4⟩ := h
    cases h4
    have a1 := (num_short h1).2.2
    have a2 := (nums_some h2).2.2.1
    have a3 := (num_short h3).2.2
    simp only at *; omega
  case h_5 =>
    obtain ⟨⟨v, r⟩, h1, r1, h2, h3⟩ := h
    cases h3
    have a1 := (num_short h1).2.2
    have a2 := zeroB_some h2
    simp only at a2 ⊢
    rw [a2] at a1
    simp only [List.length_cons] at a1; omega
  case h_6 =>
    obtain ⟨⟨v, r⟩, h1, ⟨v2, r2⟩, h2, h3⟩ := h
    cases h3
    have a1 := (num_short h1).2.2
    have a2 := (num_short h2).2.2
    simp only at *; omega
  case h_7 =>
    obtain ⟨r, h1, h2⟩ := h
    cases h2
    have a2 := zeroB_some h1
    rw [a2]
    simp
  all_goals
    obtain ⟨⟨v, r⟩, h1, h2⟩ := h
    cases h2
    have := (sgn_short h1).2.2
    simp only; omega
theorem lst_fuel {sub : Rd} (hs : Less sub) : ∀ (n m : Nat) (bs : List Nat), bs.length < n → bs.length < m → lst sub n bs = lst sub m bs := by
  intro n
  induction n with
  | zero => intro m bs h; omega
  | succ n ih =>
    intro m bs h1 h2
    cases m with
    | zero => omega
    | succ m =>
      cases bs with
      | nil => rfl
      | cons b r =>
        simp only [lst]
        split
        · rfl
        · cases hi : ins sub b r with
          | none => rfl
          | some p =>
            have h3 := ins_less hs hi
            simp only [List.length_cons] at h1 h2
            simp only [Option.bind_some]
            rw [ih m p.2 (by omega) (by omega)]
theorem lst_less {sub : Rd} (hs : Less sub) : ∀ (n : Nat), Less (lst sub n) := by
  intro n
  induction n with
  | zero => intro bs p h; cases h
  | succ n ih =>
    intro bs p h
    cases bs with
    | nil => simp only [lst] at h; cases h; exact Nat.le_refl _
    | cons b r =>
      simp only [lst] at h
      split at h
      · cases h; exact Nat.le_refl _
      · simp only [Option.bind_eq_some_iff] at h
        obtain ⟨x, h1, q, h2, h3⟩ := h
        cases h3
        have a1 := ins_less hs h1
        have a2 := ih _ _ h2
        simp only [List.length_cons]; omega
theorem sub_less : ∀ d, Less (subOf d)
  | 0 => fun _ _ h => by cases h
  | d + 1 => by
    intro bs p h
    have h : dec d bs = some p := h
    rw [dec_eq] at h
    exact lst_less (sub_less d) _ _ _ h
theorem dec_less (d : Nat) : Less (dec d) := sub_less (d + 1)
/-- One step of reading. -/
theorem dec_nil (d : Nat) : dec d [] = some (.nil, []) := by rw [dec_eq]; rfl
theorem dec_stop (d : Nat) (b : Nat) (r : List Nat) (h : b = 5 ∨ b = 11) : dec d (b :: r) = some (.nil, b :: r) := by rw [dec_eq]; simp only [List.length_cons, lst, if_pos h]
theorem dec_step (d : Nat) (b : Nat) (r : List Nat) (h : ¬ (b = 5 ∨ b = 11)) : dec d (b :: r) = (ins (subOf d) b r).bind fun p => (dec d p.2).bind fun q => some (.cons p.1.1 p.1.2.1 p.1.2.2 q.1, q.2) := by
  rw [dec_eq]
  simp only [List.length_cons, lst, if_neg h]
  cases hi : ins (subOf d) b r with
  | none => rfl
  | some p =>
    have h3 := ins_less (sub_less d) hi
    simp only [Option.bind_some]
    rw [dec_eq, lst_fuel (sub_less d) (r.length + 1) (p.2.length + 1) p.2 (by omega) (by omega)]
/-- What is left begins with 5 or 11, or nothing is left. -/
def Ends (r : List Nat) : Prop := r = [] ∨ ∃ b t, r = b :: t ∧ (b = 5 ∨ b = 11)
end Go.Proofs.YtilaheifccjjeaaGreat.M
namespace Go.Proofs.YtilaheifccjjeaaGreat.M
/-- A reader that reads the same with more behind. -/
def Ext (sub : Rd) : Prop := ∀ bs l b r x, sub bs = some (l, b :: r) → sub (bs ++ x) = some (l, b :: r ++ x)
theorem nums_app {k : Nat} {bs r : List Nat} {t : List Int} (x : List Nat) (h : nums k bs = some (t, r)) : nums k (bs ++ x) = some (t, r ++ x) := by
  induction k generalizing bs t with
  | zero => simp only [nums, Option.some.injEq, Prod.mk.injEq] at h ⊢; exact ⟨h.1, by rw [h.2]⟩
  | succ k ih =>
    simp only [nums, Option.bind_eq_some_iff] at h ⊢
    obtain ⟨⟨v, r1⟩, h1, ⟨t', r2⟩, h2, h3⟩ := h
    cases h3
    exact ⟨_, num_app x h1, _, ih h2, rfl⟩
theorem zeroB_app {bs r : List Nat} (x : List Nat) (h : zeroB bs = some r) : zeroB (bs ++ x) = some (r ++ x) := by rw [zeroB_some h]; rfl
theorem endB_app {bs r : List Nat} (x : List Nat) (h : endB bs = some r) : endB (bs ++ x) = some (r ++ x) := by rw [endB_some h]; rfl
theorem ins_app {sub : Rd} (hs : Ext sub) {op : Nat} {bs r : List Nat} {p : It} (x : List Nat) (h : ins sub op bs = some (p, r)) : ins sub op (bs ++ x) = some (p, r ++ x) := by
  unfold ins at h ⊢
  split at h
  case h_1 => cases h; rfl
  case h_10 => cases h
  case h_2 =>
    cases bs with
    | nil => cases h
    | cons t r0 =>
      simp only [blkB] at h
      split at h
      case isFalse => cases h
      case isTrue ht =>
        simp only [Option.bind_eq_some_iff] at h
        obtain ⟨⟨b, r1⟩, h1, ⟨e, r2⟩, h2, r3, h3, h4⟩ := h
        simp only at h2 h3 h4
        cases h4
        simp only [List.cons_append, blkB, if_pos ht]
        have a3 := endB_some h3
        cases r1 with
        | nil =>
          simp only [elsB, Option.some.injEq, Prod.mk.injEq] at h2
          rw [← h2.2] at a3
          cases a3
        | cons c t' =>
          rw [hs _ _ _ _ x h1]
          simp only [Option.bind_some]
          have a2 : elsB sub op (c :: t' ++ x) = some (e, r2 ++ x) := by
            simp only [elsB, List.cons_append] at h2 ⊢
            split at h2
            · rename_i hc
              rw [if_pos hc]
              rw [a3] at h2 ⊢
              exact hs _ _ _ _ x h2
            · rename_i hc
              rw [if_neg hc]
              cases h2
              rfl
          rw [a2]
          simp only [Option.bind_some, endB_app x h3]
  all_goals
    simp only [Option.bind_eq_some_iff] at h ⊢
  case h_3 =>
    obtain ⟨⟨v, r1⟩, h1, h2⟩ := h
    cases h2
    exact ⟨_, num_app x h1, rfl⟩
  case h_4 =>
    obtain ⟨⟨c, r1⟩, h1, ⟨t, r2⟩, h2, ⟨v, r3⟩, h3, h4⟩ := h
    cases h4
    exact ⟨_, num_app x h1, _, nums_app x h2, _, num_app x h3, rfl⟩
  case h_5 =>
    obtain ⟨⟨v, r1⟩, h1, r2, h2, h3⟩ := h
    cases h3
    exact ⟨_, num_app x h1, _, zeroB_app x h2, rfl⟩
  case h_6 =>
    obtain ⟨⟨v, r1⟩, h1, ⟨v2, r2⟩, h2, h3⟩ := h
    cases h3
    exact ⟨_, num_app x h1, _, num_app x h2, rfl⟩
  case h_7 =>
    obtain ⟨r1, h1, h2⟩ := h
    cases h2
    exact ⟨_, zeroB_app x h1, rfl⟩
  all_goals
    obtain ⟨⟨v, r1⟩, h1, h2⟩ := h
    cases h2
    exact ⟨_, sgn_app x h1, rfl⟩
theorem dec_ext_of {d : Nat} (hs : Ext (subOf d)) : ∀ (n : Nat) (bs : List Nat) (l : L) (b : Nat) (r x : List Nat), bs.length ≤ n → dec d bs = some (l, b :: r) → dec d (bs ++ x) = some (l, b :: r ++ x) := by
  intro n
  induction n with
  | zero =>
    intro bs l b r x hn h
    have : bs = [] := List.eq_nil_of_length_eq_zero (by omega)
    subst this
    rw [dec_nil] at h
    cases h
  | succ n ih =>
    intro bs l b r x hn h
    cases bs with
    | nil => rw [dec_nil] at h; cases h
    | cons c t =>
      rw [List.cons_append]
      by_cases hb : c = 5 ∨ c = 11
      · rw [dec_stop d c _ hb] at h ⊢
        cases h
        rfl
      · rw [dec_step d c _ hb] at h ⊢
        simp only [Option.bind_eq_some_iff] at h ⊢
        obtain ⟨⟨y, ry⟩, h1, ⟨q, rq⟩, h2, h3⟩ := h
        cases h3
        have := ins_less (sub_less d) h1
        simp only [List.length_cons] at hn
        exact ⟨_, ins_app hs x h1, _, ih ry q b r x (by simp only at this; omega) h2, rfl⟩
theorem sub_ext : ∀ d, Ext (subOf d)
  | 0 => fun _ _ _ _ _ h => by cases h
  | d + 1 => fun bs l b r x h => dec_ext_of (sub_ext d) bs.length bs l b r x (Nat.le_refl _) h
theorem dec_ext (d : Nat) : Ext (dec d) := sub_ext (d + 1)
theorem nums_back (t : List Int) (r : List Nat) (h : ∀ x ∈ t, inR x) : nums t.length (Us t ++ r) = some (t, r) := by
  induction t with
  | nil => rfl
  | cons x t ih =>
    simp only [List.length_cons, nums, Us, List.append_assoc]
    rw [num_back x _ (h x (by simp))]
    simp only [Option.bind_some]
    rw [ih (fun y hy => h y (by simp [hy]))]
    rfl
theorem toNat_cast {x : Int} (h : 0 ≤ x) : ((x.toNat : Nat) : Int) = x := by omega
/-- What is written is read. -/
theorem dec_enc (l : L) : ∀ (d : Nat) (r : List Nat), ok d l → l.sz < 4294967296 → Ends r → dec d (enc l ++ r) = some (l, r) := by
  induction l with
  | nil =>
    intro d r _ _ hr
    simp only [enc, List.nil_append]
    rcases hr with rfl | ⟨b, t, rfl, hb⟩
    · exact dec_nil d
    · exact dec_stop d b t hb
  | cons h b e rest ihb ihe ihr =>
    intro d r hok hsz hr
    simp only [ok] at hok
    obtain ⟨hf, h2, h3, h4, h5⟩ := hok
    simp only [L.sz] at hsz
    have hk : kind h.op ≠ 0 := fun hk => flat_to hk hf
    have hop := kind_op h.op hk
    have hc := toNat_cast hop.1
    have hst : ¬ (h.op.toNat = 5 ∨ h.op.toNat = 11) := by
      rintro (h6 | h6)
      · exact hk (by rw [show h.op = 5 by omega]; decide)
      · exact hk (by rw [show h.op = 11 by omega]; decide)
    simp only [enc, List.cons_append]
    rw [dec_step d _ _ hst]
    have key : ∀ p, ins (subOf d) h.op.toNat (p ++ enc rest ++ r) = some ((h, b, e), enc rest ++ r) →
        ((ins (subOf d) h.op.toNat (p ++ enc rest ++ r)).bind fun p => (dec d p.2).bind fun q => some (L.cons p.1.1 p.1.2.1 p.1.2.2 q.1, q.2)) = some (L.cons h b e rest, r) := by
      intro p hp
      rw [hp]
      simp only [Option.bind_some]
      rw [ihr d r h5 (by omega) hr]
      rfl
    refine key _ ?_
    have hnil : kind h.op ≠ 2 → b = .nil ∧ e = .nil := fun hn => ⟨h3 hn, h4 fun h6 => hn (by rw [h6]; decide)⟩
    unfold ins
    rw [hc]
    rcases kind_cases h.op with k | k | k | k | k | k | k | k | k | k
    · exact absurd k hk
    all_goals replace hf := flat_to k hf; rw [k]; simp only [flatK] at hf ⊢
    case inr.inr.inl =>
      obtain ⟨h6, h7, h8⟩ := h2 k
      obtain ⟨h9, h10⟩ := hf
      obtain ⟨d', rfl⟩ : ∃ d', d = d' + 1 := ⟨d - 1, by omega⟩
      simp only [Nat.add_sub_cancel] at h7 h8
      have ht : ((h.ty.toNat : Nat) : Int) = h.ty := toNat_cast (by unfold tyOk at h10; omega)
      have hsub : subOf (d' + 1) = dec d' := rfl
      simp only [List.cons_append, List.append_assoc, blkB, hsub]
      rw [ht, if_pos h10]
      cases e with
      | nil =>
        simp only [List.nil_append]
        rw [ihb d' _ h7 (by omega) (.inr ⟨11, _, rfl, .inr rfl⟩)]
        simp only [Option.bind_some, elsB]
        rw [if_neg (by omega)]
        simp only [Option.bind_some, endB, if_true]
        rw [hc, ← h9]
      | cons he1 eb ee er =>
        simp only [List.cons_append]
        have h11 : h.op.toNat = 4 := by
          have : h.op = 4 := Decidable.byContradiction fun hn => by cases h4 hn
          omega
        rw [ihb d' _ h7 (by simp only [L.sz] at *; omega) (.inr ⟨5, _, rfl, .inl rfl⟩)]
        simp only [Option.bind_some, elsB]
        rw [if_pos ⟨trivial, h11⟩]
        have := ihe d' ([11] ++ (enc rest ++ r)) h8 (by simp only [L.sz] at *; omega) (.inr ⟨11, _, rfl, .inr rfl⟩)
        simp only [List.cons_append, List.nil_append] at this ⊢
        rw [this]
        simp only [Option.bind_some, endB, if_true]
        rw [hc, ← h9]
    all_goals
      obtain ⟨hb0, he0⟩ := hnil (by omega)
      subst hb0
      subst he0
    case inr.inl =>
      rw [← hf]; rfl
    case inr.inr.inr.inl =>
      rw [List.append_assoc, num_back _ _ hf.2]
      simp only [Option.bind_some]
      rw [← hf.1]
    case inr.inr.inr.inr.inl =>
      obtain ⟨a1, a2, a3⟩ := hf
      simp only [List.append_assoc]
      rw [num_back _ _ ⟨by omega, by omega⟩]
      simp only [Option.bind_some, Int.toNat_natCast]
      rw [nums_back _ _ a3]
      simp only [Option.bind_some]
      rw [num_back _ _ a2]
      simp only [Option.bind_some]
      rw [← a1]
    case inr.inr.inr.inr.inr.inl =>
      simp only [List.append_assoc]
      rw [num_back _ _ hf.2]
      simp only [Option.bind_some, List.cons_append, List.nil_append, zeroB, if_true]
      rw [← hf.1]
    case inr.inr.inr.inr.inr.inr.inl =>
      obtain ⟨a1, a2, a3⟩ := hf
      simp only [List.append_assoc]
      rw [num_back _ _ a2]
      simp only [Option.bind_some]
      rw [num_back _ _ a3]
      simp only [Option.bind_some]
      rw [← a1]
    case inr.inr.inr.inr.inr.inr.inr.inl =>
      simp only [List.cons_append, List.nil_append, zeroB, if_true, Option.bind_some]
      rw [← hf]
    case inr.inr.inr.inr.inr.inr.inr.inr.inl =>
      rw [List.append_assoc, sgn_back 32 _ _ (by omega) (by omega) (by simpa using hf.2)]
      simp only [Option.bind_some]
      rw [← hf.1]
    case inr.inr.inr.inr.inr.inr.inr.inr.inr =>
      rw [List.append_assoc, sgn_back 64 _ _ (by omega) (by omega) (by simpa using hf.2)]
      simp only [Option.bind_some]
      rw [← hf.1]
/-- What one instruction's bytes are behind the first. -/
def tailK (k : Nat) (h : Hd) (b e : L) : List Nat :=
  match k with
  | 2 => h.ty.toNat :: (enc b ++ (match e with | .nil => [] | .cons .. => 5 :: enc e) ++ [11])
  | 3 => U h.ix
  | 4 => U h.labels.length ++ Us h.labels ++ U h.ix
  | 5 => U h.ix ++ [0]
  | 6 => U h.al ++ U h.ofs
  | 7 => [0]
  | 8 => S h.val
  | 9 => S h.val
  | _ => []
def tailOf (h : Hd) (b e : L) : List Nat := tailK (kind h.op) h b e
theorem tail_of {h : Hd} {b e : L} {k : Nat} (hk : kind h.op = k) : tailOf h b e = tailK k h b e := by unfold tailOf; rw [hk]
theorem enc_cons (h : Hd) (b e r : L) : enc (.cons h b e r) = h.op.toNat :: (tailOf h b e ++ enc r) := rfl
/-- What a reader reads may be, and is written no longer. -/
def Sound (d : Nat) (sub : Rd) : Prop := ∀ bs l r, sub bs = some (l, r) → 0 < d ∧ ok (d - 1) l ∧ (enc l).length + r.length ≤ bs.length
theorem els_len (e : L) : (match e with | .nil => [] | .cons .. => 5 :: enc e).length ≤ (enc e).length + 1 := by cases e <;> simp
theorem ins_sound {d : Nat} {sub : Rd} (hs : Sound d sub) {op : Nat} {bs r : List Nat} {h : Hd} {b e : L} (hi : ins sub op bs = some ((h, b, e), r)) :
    h.op = op ∧ flat h ∧ (kind h.op = 2 → 0 < d ∧ ok (d - 1) b ∧ ok (d - 1) e) ∧ (kind h.op ≠ 2 → b = .nil) ∧ (h.op ≠ 4 → e = .nil) ∧ (tailOf h b e).length + r.length ≤ bs.length := by
  unfold ins at hi
  rcases kind_cases (op : Int) with k | k | k | k | k | k | k | k | k | k
  all_goals rw [k] at hi; simp only at hi
  case inl => cases hi
  case inr.inr.inl =>
    cases bs with
    | nil => cases hi
    | cons t r0 =>
      simp only [blkB] at hi
      split at hi
      case isFalse => cases hi
      case isTrue ht =>
        simp only [Option.bind_eq_some_iff] at hi
        obtain ⟨⟨b1, r1⟩, h1, ⟨e1, r2⟩, h2, r3, h3, h4⟩ := hi
        cases h4
        have a3 := endB_some h3
        obtain ⟨s1, s2, s3⟩ := hs _ _ _ h1
        simp only at a3 h2
        have a2 : ok (d - 1) e1 ∧ (¬ (op : Int) = 4 → e1 = .nil) ∧ (match e1 with | .nil => [] | .cons .. => 5 :: enc e1).length + r2.length ≤ r1.length := by
          cases r1 with
          | nil =>
            simp only [elsB, Option.some.injEq, Prod.mk.injEq] at h2
            rw [← h2.2] at a3
            cases a3
          | cons c t' =>
            simp only [elsB] at h2
            split at h2
            · rename_i hc
              obtain ⟨u1, u2, u3⟩ := hs _ _ _ h2
              have := els_len e1
              simp only [List.length_cons]
              exact ⟨u2, fun h6 => absurd (by omega) h6, by omega⟩
            · cases h2
              exact ⟨trivial, fun _ => rfl, by simp⟩
        obtain ⟨v1, v2, v3⟩ := a2
        have hf : flat { hd0 op with ty := t } := by
          exact flat_of k ⟨rfl, ht⟩
        refine ⟨rfl, hf, fun _ => ⟨s1, s2, v1⟩, fun h6 => absurd k h6, v2, ?_⟩
        rw [tail_of k]
        simp only [tailK, List.length_cons, List.length_append, List.length_nil]
        rw [a3] at v3
        simp only [List.length_cons] at v3
        omega
  all_goals try simp only [Option.bind_eq_some_iff] at hi
  case inr.inl =>
    cases hi
    refine ⟨rfl, ?_, fun h6 => ?_, fun _ => rfl, fun _ => rfl, ?_⟩
    · exact flat_of k rfl
    · have h6 : kind (op : Int) = 2 := h6
      omega
    · rw [tail_of k]; simp [tailK]
  case inr.inr.inr.inl =>
    obtain ⟨⟨v, r1⟩, h1, h2⟩ := hi
    cases h2
    obtain ⟨a1, a2, _⟩ := num_short h1
    refine ⟨rfl, ?_, fun h6 => ?_, fun _ => rfl, fun _ => rfl, ?_⟩
    · exact flat_of k ⟨rfl, a1⟩
    · have h6 : kind (op : Int) = 2 := h6
      omega
    · rw [tail_of k]; exact a2
  case inr.inr.inr.inr.inl =>
    obtain ⟨⟨c, r1⟩, h1, ⟨t, r2⟩, h2, ⟨v, r3⟩, h3, h4⟩ := hi
    cases h4
    obtain ⟨a1, a2, _⟩ := num_short h1
    obtain ⟨b1, b2, b3, _⟩ := nums_some h2
    obtain ⟨c1, c2, _⟩ := num_short h3
    simp only at a1 a2 b1 b2 b3 c1 c2
    refine ⟨rfl, ?_, fun h6 => ?_, fun _ => rfl, fun _ => rfl, ?_⟩
    · exact flat_of k ⟨rfl, c1, b2⟩
    · have h6 : kind (op : Int) = 2 := h6
      omega
    · rw [tail_of k]
      simp only [tailK, List.length_append]
      rw [show ((t.length : Nat) : Int) = c by have := a1.1; omega]
      omega
  case inr.inr.inr.inr.inr.inl =>
    obtain ⟨⟨v, r1⟩, h1, r2, h2, h3⟩ := hi
    cases h3
    obtain ⟨a1, a2, _⟩ := num_short h1
    have a3 := zeroB_some h2
    simp only at a3
    rw [a3] at a2
    refine ⟨rfl, ?_, fun h6 => ?_, fun _ => rfl, fun _ => rfl, ?_⟩
    · exact flat_of k ⟨rfl, a1⟩
    · have h6 : kind (op : Int) = 2 := h6
      omega
    · rw [tail_of k]
      simp only [tailK, List.length_append, List.length_cons, List.length_nil] at a2 ⊢
      omega
  case inr.inr.inr.inr.inr.inr.inl =>
    obtain ⟨⟨v, r1⟩, h1, ⟨v2, r2⟩, h2, h3⟩ := hi
    cases h3
    obtain ⟨a1, a2, _⟩ := num_short h1
    obtain ⟨b1, b2, _⟩ := num_short h2
    simp only at a1 a2 b1 b2
    refine ⟨rfl, ?_, fun h6 => ?_, fun _ => rfl, fun _ => rfl, ?_⟩
    · exact flat_of k ⟨rfl, a1, b1⟩
    · have h6 : kind (op : Int) = 2 := h6
      omega
    · rw [tail_of k]
      simp only [tailK, List.length_append]
      omega
  case inr.inr.inr.inr.inr.inr.inr.inl =>
    obtain ⟨r1, h1, h2⟩ := hi
    cases h2
    rw [zeroB_some h1]
    refine ⟨rfl, ?_, fun h6 => ?_, fun _ => rfl, fun _ => rfl, ?_⟩
    · exact flat_of k rfl
    · have h6 : kind (op : Int) = 2 := h6
      omega
    · rw [tail_of k]
      simp only [tailK, List.length_cons, List.length_nil]
      omega
  case inr.inr.inr.inr.inr.inr.inr.inr.inl =>
    obtain ⟨⟨v, r1⟩, h1, h2⟩ := hi
    cases h2
    obtain ⟨a1, a2, _⟩ := sgn_short h1
    refine ⟨rfl, ?_, fun h6 => ?_, fun _ => rfl, fun _ => rfl, ?_⟩
    · exact flat_of k ⟨rfl, by simpa using a1⟩
    · have h6 : kind (op : Int) = 2 := h6
      omega
    · rw [tail_of k]; exact a2
  case inr.inr.inr.inr.inr.inr.inr.inr.inr =>
    obtain ⟨⟨v, r1⟩, h1, h2⟩ := hi
    cases h2
    obtain ⟨a1, a2, _⟩ := sgn_short h1
    refine ⟨rfl, ?_, fun h6 => ?_, fun _ => rfl, fun _ => rfl, ?_⟩
    · exact flat_of k ⟨rfl, by simpa using a1⟩
    · have h6 : kind (op : Int) = 2 := h6
      omega
    · rw [tail_of k]; exact a2
theorem dec_sound_of {d : Nat} (hs : Sound d (subOf d)) : ∀ (n : Nat) (bs : List Nat) (l : L) (r : List Nat), bs.length ≤ n → dec d bs = some (l, r) → ok d l ∧ (enc l).length + r.length ≤ bs.length := by
  intro n
  induction n with
  | zero =>
    intro bs l r hn h
    have : bs = [] := List.eq_nil_of_length_eq_zero (by omega)
    subst this
    rw [dec_nil] at h
    cases h
    exact ⟨trivial, by simp [enc]⟩
  | succ n ih =>
    intro bs l r hn h
    cases bs with
    | nil => rw [dec_nil] at h; cases h; exact ⟨trivial, by simp [enc]⟩
    | cons c t =>
      by_cases hb : c = 5 ∨ c = 11
      · rw [dec_stop d c _ hb] at h
        cases h
        exact ⟨trivial, by simp [enc]⟩
      · rw [dec_step d c _ hb] at h
        simp only [Option.bind_eq_some_iff] at h
        obtain ⟨⟨⟨y, yb, ye⟩, ry⟩, h1, ⟨q, rq⟩, h2, h3⟩ := h
        cases h3
        have hl := ins_less (sub_less d) h1
        simp only [List.length_cons] at hn hl
        obtain ⟨s0, s1, s2, s3, s4, s5⟩ := ins_sound hs h1
        obtain ⟨t1, t2⟩ := ih ry q rq (by omega) h2
        refine ⟨⟨s1, s2, s3, s4, t1⟩, ?_⟩
        simp only
        rw [enc_cons]
        simp only [List.length_cons, List.length_append]
        omega
theorem sub_sound : ∀ d, Sound d (subOf d)
  | 0 => fun _ _ _ h => by cases h
  | d + 1 => fun bs l r h => ⟨by omega, by simpa using dec_sound_of (sub_sound d) bs.length bs l r (Nat.le_refl _) h⟩
theorem dec_sound {d : Nat} {bs r : List Nat} {l : L} (h : dec d bs = some (l, r)) : ok d l ∧ (enc l).length + r.length ≤ bs.length := dec_sound_of (sub_sound d) bs.length bs l r (Nat.le_refl _) h
theorem expr_some {bs : List Nat} {l : L} {n : Nat} (h : expr bs = some (l, n)) : ∃ r, dec 40 bs = some (l, 11 :: r) ∧ r.length + n = bs.length ∧ 1 ≤ n := by
  simp only [expr, Option.bind_eq_some_iff] at h
  obtain ⟨⟨m, r1⟩, h1, r2, h2, h3⟩ := h
  cases h3
  have h4 := endB_some h2
  simp only at h4
  rw [h4] at h1
  have := dec_less 40 _ _ h1
  simp only [List.length_cons] at this
  exact ⟨r2, h1, by omega, by omega⟩
theorem expr_of {bs : List Nat} {l : L} {r : List Nat} (h : dec 40 bs = some (l, 11 :: r)) : expr bs = some (l, bs.length - r.length) := by
  unfold expr
  rw [h]
  rfl
theorem expr_app {bs : List Nat} {l : L} {n : Nat} (x : List Nat) (h : expr bs = some (l, n)) : expr (bs ++ x) = some (l, n) := by
  obtain ⟨r, h1, h2, h3⟩ := expr_some h
  have h4 := dec_ext 40 _ _ _ _ x h1
  rw [List.cons_append] at h4
  rw [expr_of h4]
  simp only [List.length_append, Option.some.injEq, Prod.mk.injEq, true_and]
  omega
theorem expr_back {l : L} (x : List Nat) (h : ok 40 l) (hs : l.sz < 4294967296) : expr (enc l ++ 11 :: x) = some (l, (enc l).length + 1) := by
  rw [expr_of (dec_enc l 40 (11 :: x) h hs (.inr ⟨11, x, rfl, .inr rfl⟩))]
  simp only [List.length_append, List.length_cons, Option.some.injEq, Prod.mk.injEq, true_and]
  omega
theorem expr_sound {bs : List Nat} {l : L} {n : Nat} (h : expr bs = some (l, n)) : ok 40 l ∧ (enc l).length + 1 ≤ n ∧ n ≤ bs.length := by
  obtain ⟨r, h1, h2, h3⟩ := expr_some h
  obtain ⟨h4, h5⟩ := dec_sound h1
  simp only [List.length_cons] at h5
  exact ⟨h4, by omega, by omega⟩
/-- How long things are. -/
theorem app_len (l m : L) : (l.app m).len = l.len + m.len := by
  induction l with
  | nil => simp [L.app, L.len]
  | cons h b e r _ _ ih => simp only [L.app, L.len, ih]; omega
theorem app_nil (l : L) : l.app .nil = l := by
  induction l with
  | nil => rfl
  | cons h b e r _ _ ih => simp only [L.app, ih]
theorem app_assoc (l m n : L) : (l.app m).app n = l.app (m.app n) := by
  induction l with
  | nil => rfl
  | cons h b e r _ _ ih => simp only [L.app, ih]
theorem nth_some {l : L} {k : Nat} {h : Hd} {b e : L} (hn : l.nth k = some (h, b, e)) : k < l.len ∧ h.labels.length + b.sz + e.sz + 1 ≤ l.sz := by
  induction l generalizing k with
  | nil => cases hn
  | cons h' b' e' r _ _ ih =>
    cases k with
    | zero => simp only [L.nth, Option.some.injEq, Prod.mk.injEq] at hn; obtain ⟨rfl, rfl, rfl⟩ := hn; simp only [L.len, L.sz]; omega
    | succ k => have := ih hn; simp only [L.len, L.sz]; omega
theorem nth_of {l : L} {k : Nat} (hk : k < l.len) : ∃ h b e, l.nth k = some (h, b, e) := by
  induction l generalizing k with
  | nil => simp [L.len] at hk
  | cons h' b' e' r _ _ ih =>
    cases k with
    | zero => exact ⟨h', b', e', rfl⟩
    | succ k => exact ih (by simp only [L.len] at hk; omega)
def L.drop : Nat → L → L
  | 0, l => l
  | _ + 1, .nil => .nil
  | k + 1, .cons _ _ _ r => L.drop k r
def L.take : Nat → L → L
  | 0, _ => .nil
  | _ + 1, .nil => .nil
  | k + 1, .cons h b e r => .cons h b e (L.take k r)
theorem drop_zero (l : L) : L.drop 0 l = l := by cases l <;> rfl
theorem take_zero (l : L) : L.take 0 l = .nil := by cases l <;> rfl
theorem take_nth {l : L} {k : Nat} {h : Hd} {b e : L} (hn : l.nth k = some (h, b, e)) : L.take (k + 1) l = (L.take k l).app (.cons h b e .nil) := by
  induction l generalizing k with
  | nil => cases hn
  | cons h' b' e' r _ _ ih =>
    cases k with
    | zero => simp only [L.nth, Option.some.injEq, Prod.mk.injEq] at hn; obtain ⟨rfl, rfl, rfl⟩ := hn; simp only [L.take, L.app]
    | succ k => rw [show L.take (k + 1 + 1) (L.cons h' b' e' r) = .cons h' b' e' (L.take (k + 1) r) from rfl, ih hn]; rfl
theorem take_all (l : L) {k : Nat} (h : l.len ≤ k) : L.take k l = l := by
  induction l generalizing k with
  | nil => cases k <;> rfl
  | cons h' b' e' r _ _ ih =>
    cases k with
    | zero => simp [L.len] at h
    | succ k => simp only [L.take]; rw [ih (by simp only [L.len] at h; omega)]
theorem len_zero {l : L} (h : l.len = 0) : l = .nil := by cases l with | nil => rfl | cons => simp [L.len] at h
theorem sz_app (l m : L) : (l.app m).sz = l.sz + m.sz := by
  induction l with
  | nil => simp [L.app, L.sz]
  | cons h b e r _ _ ih => simp only [L.app, L.sz, ih]; omega
theorem enc_app (l m : L) : enc (l.app m) = enc l ++ enc m := by
  induction l with
  | nil => rfl
  | cons h b e r _ _ ih => simp only [L.app]; rw [enc_cons, enc_cons, ih]; simp
end Go.Proofs.YtilaheifccjjeaaGreat.M
namespace Go.Proofs.YtilaheifccjjeaaGreat.M
/-- A reader and a writer: what is written is read, whatever stands behind; what is read may be, and is written no longer. -/
structure Codec (α : Type) where
  rd : List Nat → Option (α × List Nat)
  wr : α → List Nat
  ok : α → Prop
  back : ∀ x r, ok x → rd (wr x ++ r) = some (x, r)
  app : ∀ bs x r t, rd bs = some (x, r) → rd (bs ++ t) = some (x, r ++ t)
  sound : ∀ bs x r, bs.length ≤ 2147483648 → rd bs = some (x, r) → ok x ∧ (wr x).length + r.length ≤ bs.length
theorem U_short (n : Int) (k : Nat) (h0 : 0 ≤ n) (h : n.toNat < 2 ^ (7 * (k + 1))) : (U n).length ≤ k + 1 := by
  unfold U
  exact putU_short k 10 n.toNat h
/-- A number. -/
def cNum : Codec Int where
  rd := num
  wr := U
  ok := inR
  back := fun x r h => num_back x r h
  app := fun _ _ _ t h => num_app t h
  sound := fun _ _ _ _ h => ⟨(num_short h).1, (num_short h).2.1⟩
/-- One behind the other, the second as the first says. -/
def cSeq {α β : Type} (a : Codec α) (b : α → Codec β) : Codec (α × β) where
  rd := fun bs => (a.rd bs).bind fun p => ((b p.1).rd p.2).bind fun q => some ((p.1, q.1), q.2)
  wr := fun x => a.wr x.1 ++ (b x.1).wr x.2
  ok := fun x => a.ok x.1 ∧ (b x.1).ok x.2
  back := fun x r h => by rw [List.append_assoc, a.back _ _ h.1, Option.bind_some, (b x.1).back _ _ h.2]; rfl
  app := fun bs x r t h => by
    obtain ⟨⟨x1, r1⟩, h1, h2⟩ := Option.bind_eq_some_iff.1 h
    obtain ⟨⟨x2, r2⟩, h3, h4⟩ := Option.bind_eq_some_iff.1 h2
    cases h4
    rw [a.app _ _ _ t h1, Option.bind_some, (b x1).app _ _ _ t h3]
    rfl
  sound := fun bs x r hl h => by
    obtain ⟨⟨x1, r1⟩, h1, h2⟩ := Option.bind_eq_some_iff.1 h
    obtain ⟨⟨x2, r2⟩, h3, h4⟩ := Option.bind_eq_some_iff.1 h2
    cases h4
    obtain ⟨q1, q2⟩ := a.sound _ _ _ hl h1
    have h3' : (b x1).rd r1 = some (x2, r2) := h3
    obtain ⟨q3, q4⟩ := (b x1).sound _ _ _ (by omega) h3'
    refine ⟨⟨q1, q3⟩, ?_⟩
    show (a.wr x1 ++ (b x1).wr x2).length + r2.length ≤ bs.length
    rw [List.length_append]; omega
/-- Said in other words. -/
def cMap {α β : Type} (a : Codec α) (f : α → β) (g : β → α) (hg : ∀ x, a.ok x → g (f x) = x) (hf : ∀ y, a.ok (g y) → f (g y) = y) : Codec β where
  rd := fun bs => (a.rd bs).bind fun p => some (f p.1, p.2)
  wr := fun y => a.wr (g y)
  ok := fun y => a.ok (g y)
  back := fun y r h => by rw [a.back _ _ h, Option.bind_some, hf y h]
  app := fun bs x r t h => by
    obtain ⟨⟨x1, r1⟩, h1, h2⟩ := Option.bind_eq_some_iff.1 h
    cases h2
    rw [a.app _ _ _ t h1]
    rfl
  sound := fun bs x r hl h => by
    obtain ⟨⟨x1, r1⟩, h1, h2⟩ := Option.bind_eq_some_iff.1 h
    cases h2
    obtain ⟨q1, q2⟩ := a.sound _ _ _ hl h1
    simp only [hg x1 q1]
    exact ⟨q1, q2⟩
/-- Only some. -/
def cIf {α : Type} (a : Codec α) (p : α → Bool) : Codec α where
  rd := fun bs => (a.rd bs).bind fun q => if p q.1 then some q else none
  wr := a.wr
  ok := fun x => a.ok x ∧ p x = true
  back := fun x r h => by rw [a.back _ _ h.1, Option.bind_some, if_pos h.2]
  app := fun bs x r t h => by
    obtain ⟨⟨x1, r1⟩, h1, h2⟩ := Option.bind_eq_some_iff.1 h
    simp only at h2
    split at h2
    · cases h2; rename_i hp; rw [a.app _ _ _ t h1, Option.bind_some, if_pos hp]
    · cases h2
  sound := fun bs x r hl h => by
    obtain ⟨⟨x1, r1⟩, h1, h2⟩ := Option.bind_eq_some_iff.1 h
    simp only at h2
    split at h2
    · cases h2; rename_i hp
      obtain ⟨q1, q2⟩ := a.sound _ _ _ hl h1
      exact ⟨⟨q1, hp⟩, q2⟩
    · cases h2
/-- So many. -/
def rTimes {α : Type} (a : Codec α) : Nat → List Nat → Option (List α × List Nat)
  | 0, bs => some ([], bs)
  | n + 1, bs => (a.rd bs).bind fun p => (rTimes a n p.2).bind fun q => some (p.1 :: q.1, q.2)
def wTimes {α : Type} (a : Codec α) : List α → List Nat
  | [] => []
  | x :: t => a.wr x ++ wTimes a t
theorem times_back {α : Type} (a : Codec α) (r : List Nat) : ∀ xs : List α, (∀ x ∈ xs, a.ok x) → rTimes a xs.length (wTimes a xs ++ r) = some (xs, r)
  | [], _ => rfl
  | x :: t, h => by
    show (a.rd (a.wr x ++ wTimes a t ++ r)).bind _ = _
    rw [List.append_assoc, a.back _ _ (h x (List.mem_cons_self ..)), Option.bind_some, times_back a r t (fun y hy => h y (List.mem_cons_of_mem _ hy))]
    rfl
theorem times_app {α : Type} (a : Codec α) (t : List Nat) : ∀ (n : Nat) (bs : List Nat) (xs : List α) (r : List Nat), rTimes a n bs = some (xs, r) → rTimes a n (bs ++ t) = some (xs, r ++ t)
  | 0, bs, xs, r, h => by cases h; rfl
  | n + 1, bs, xs, r, h => by
    obtain ⟨⟨x1, r1⟩, h1, h2⟩ := Option.bind_eq_some_iff.1 h
    obtain ⟨⟨x2, r2⟩, h3, h4⟩ := Option.bind_eq_some_iff.1 h2
    cases h4
    show (a.rd (bs ++ t)).bind _ = _
    rw [a.app _ _ _ t h1, Option.bind_some, times_app a t n _ _ _ h3]
    rfl
theorem times_sound {α : Type} (a : Codec α) : ∀ (n : Nat) (bs : List Nat) (xs : List α) (r : List Nat), bs.length ≤ 2147483648 → rTimes a n bs = some (xs, r) → xs.length = n ∧ (∀ x ∈ xs, a.ok x) ∧ (wTimes a xs).length + r.length ≤ bs.length
  | 0, bs, xs, r, _, h => by cases h; exact ⟨rfl, (fun x hx => by cases hx), by simp [wTimes]⟩
  | n + 1, bs, xs, r, hl, h => by
    obtain ⟨⟨x1, r1⟩, h1, h2⟩ := Option.bind_eq_some_iff.1 h
    obtain ⟨⟨x2, r2⟩, h3, h4⟩ := Option.bind_eq_some_iff.1 h2
    cases h4
    obtain ⟨q1, q2⟩ := a.sound _ _ _ hl h1
    have h3' : rTimes a n r1 = some (x2, r2) := h3
    obtain ⟨q3, q4, q5⟩ := times_sound a n _ _ _ (by omega) h3'
    refine ⟨by simp [q3], fun x hx => ?_, by simp only [wTimes, List.length_append]; omega⟩
    rcases List.mem_cons.1 hx with rfl | hx
    · exact q1
    · exact q4 x hx
/-- A vector of at most so many. -/
def cVec {α : Type} (a : Codec α) (most : Nat) (hm : most < 4294967296) : Codec (List α) where
  rd := fun bs => (num bs).bind fun p => if p.1 ≤ most then rTimes a p.1.toNat p.2 else none
  wr := fun xs => U xs.length ++ wTimes a xs
  ok := fun xs => xs.length ≤ most ∧ ∀ x ∈ xs, a.ok x
  back := fun xs r h => by
    rw [List.append_assoc, num_back _ _ ⟨by omega, by have := h.1; omega⟩, Option.bind_some, if_pos (by have := h.1; omega), Int.toNat_natCast]
    exact times_back a r xs h.2
  app := fun bs x r t h => by
    obtain ⟨⟨x1, r1⟩, h1, h2⟩ := Option.bind_eq_some_iff.1 h
    simp only at h2
    split at h2
    · rename_i hp
      rw [num_app t h1, Option.bind_some, if_pos hp]
      exact times_app a t _ _ _ _ h2
    · cases h2
  sound := fun bs x r hl h => by
    obtain ⟨⟨x1, r1⟩, h1, h2⟩ := Option.bind_eq_some_iff.1 h
    simp only at h2
    split at h2
    · rename_i hp
      obtain ⟨q1, q2, q3⟩ := num_short h1
      have h2' : rTimes a x1.toNat r1 = some (x, r) := h2
      obtain ⟨q4, q5, q6⟩ := times_sound a _ _ _ _ (by omega) h2'
      have e : ((x.length : Nat) : Int) = x1 := by rw [q4]; have := q1.1; omega
      exact ⟨⟨by omega, q5⟩, by rw [List.length_append, e]; omega⟩
    · cases h2
/-- Bytes, as many as are said. -/
def cPiece : Codec (List Nat) where
  rd := fun bs => (num bs).bind fun p => if p.1.toNat ≤ p.2.length then some (p.2.take p.1.toNat, p.2.drop p.1.toNat) else none
  wr := fun xs => U xs.length ++ xs
  ok := fun xs => xs.length < 4294967296
  back := fun xs r h => by
    rw [List.append_assoc, num_back _ _ ⟨by omega, by omega⟩, Option.bind_some]
    simp
  app := fun bs x r t h => by
    obtain ⟨⟨x1, r1⟩, h1, h2⟩ := Option.bind_eq_some_iff.1 h
    simp only at h2
    split at h2
    · rename_i hp
      cases h2
      rw [num_app t h1, Option.bind_some]
      simp only [List.length_append]
      rw [if_pos (by omega), List.take_append_of_le_length hp, List.drop_append_of_le_length hp]
    · cases h2
  sound := fun bs x r hl h => by
    obtain ⟨⟨x1, r1⟩, h1, h2⟩ := Option.bind_eq_some_iff.1 h
    simp only at h2
    split at h2
    · rename_i hp
      cases h2
      obtain ⟨q1, q2, q3⟩ := num_short h1
      have e : ((r1.take x1.toNat).length : Int) = x1 := by rw [List.length_take, Nat.min_eq_left hp]; have := q1.1; omega
      have e2 : (r1.take x1.toNat).length = x1.toNat := by rw [List.length_take, Nat.min_eq_left hp]
      refine ⟨by rw [e2]; have := q1.2; omega, ?_⟩
      rw [List.length_append, e, e2, List.length_drop]
      omega
    · cases h2
theorem putU_mono : ∀ (j n m : Nat), n ≤ m → (putU j n).length ≤ (putU j m).length
  | 0, n, m, _ => by simp [putU]
  | j + 1, n, m, h => by
    unfold putU
    by_cases hm : m < 128
    · rw [if_pos hm, if_pos (show n < 128 by omega)]; exact Nat.le_refl _
    · rw [if_neg hm]
      by_cases hn : n < 128
      · rw [if_pos hn]; simp
      · rw [if_neg hn]
        have := putU_mono j (n / 128) (m / 128) (Nat.div_le_div_right h)
        simp only [List.length_cons]
        omega
theorem U_mono {n m : Nat} (h : n ≤ m) : (U n).length ≤ (U m).length := by
  unfold U
  rw [Int.toNat_natCast, Int.toNat_natCast]
  exact putU_mono 10 n m h
/-- How many bytes it has, and then it, which has just these. -/
def cSized {α : Type} (a : Codec α) : Codec α where
  rd := fun bs => (cPiece.rd bs).bind fun p => (a.rd p.1).bind fun q => match q.2 with | [] => some (q.1, p.2) | _ => none
  wr := fun x => U (a.wr x).length ++ a.wr x
  ok := fun x => a.ok x ∧ (a.wr x).length < 4294967296
  back := fun x r h => by
    have h1 := cPiece.back (a.wr x) r h.2
    have h2 := a.back x [] h.1
    rw [List.append_nil] at h2
    show (cPiece.rd (U (a.wr x).length ++ a.wr x ++ r)).bind _ = _
    rw [show cPiece.rd (U (a.wr x).length ++ a.wr x ++ r) = some (a.wr x, r) from h1, Option.bind_some, h2]
    rfl
  app := fun bs x r t h => by
    obtain ⟨⟨x1, r1⟩, h1, h2⟩ := Option.bind_eq_some_iff.1 h
    obtain ⟨⟨x2, r2⟩, h3, h4⟩ := Option.bind_eq_some_iff.1 h2
    rw [cPiece.app _ _ _ t h1, Option.bind_some, h3, Option.bind_some]
    cases r2 with
    | nil => cases h4; rfl
    | cons => cases h4
  sound := fun bs x r hl h => by
    obtain ⟨⟨x1, r1⟩, h1, h2⟩ := Option.bind_eq_some_iff.1 h
    obtain ⟨⟨x2, r2⟩, h3, h4⟩ := Option.bind_eq_some_iff.1 h2
    obtain ⟨q1, q2⟩ := cPiece.sound _ _ _ hl h1
    have q2 : (U x1.length ++ x1).length + r1.length ≤ bs.length := q2
    have q1 : x1.length < 4294967296 := q1
    rw [List.length_append] at q2
    obtain ⟨q3, q4⟩ := a.sound _ _ _ (by show x1.length ≤ _; omega) h3
    have q4 : (a.wr x2).length + r2.length ≤ x1.length := q4
    cases r2 with
    | nil =>
      obtain ⟨rfl, rfl⟩ : x2 = x ∧ r1 = r := by simpa using h4
      have q5 := U_mono (show (a.wr x2).length ≤ x1.length by simp at q4; omega)
      refine ⟨⟨q3, by simp at q4; omega⟩, ?_⟩
      rw [List.length_append]
      simp at q4
      omega
    | cons => cases h4
theorem labels_le (xs : List Int) : xs.length ≤ (Us xs).length := by
  induction xs with
  | nil => simp
  | cons x t ih =>
    simp only [Us, List.length_cons, List.length_append]
    have := (putU_length 10 x.toNat).1
    have e : (U x).length = (putU 10 x.toNat).length := rfl
    omega
/-- Each instruction, and each label, has a byte at least. -/
theorem sz_le (l : L) : ∀ d, ok d l → l.sz ≤ (enc l).length := by
  induction l with
  | nil => intro d _; simp [L.sz]
  | cons h b e r ihb ihe ihr =>
    intro d hok
    obtain ⟨hf, h2, hb, he, hr⟩ := hok
    rw [enc_cons]
    simp only [L.sz, List.length_cons, List.length_append]
    have q := ihr d hr
    have hl : h.labels.length + b.sz + e.sz ≤ (tailOf h b e).length := by
      rcases kind_cases h.op with k | k | k | k | k | k | k | k | k | k
      all_goals have hfk := flat_to k hf
      all_goals rw [tail_of k]
      · exact absurd hfk (by simp [flatK])
      case inr.inr.inl =>
        obtain ⟨_, hb1, he1⟩ := h2 k
        have q1 := ihb _ hb1
        have q2 := ihe _ he1
        have hlab : h.labels = [] := by rw [hfk.1]; rfl
        rw [hlab]
        cases e with
        | nil => simp [tailK, L.sz]; omega
        | cons a1 a2 a3 a4 => simp only [tailK, List.length_cons, List.length_append, List.length_nil]; omega
      all_goals (
        have hb0 := hb (by rw [k]; decide)
        have he0 := he (fun e4 => by rw [(kind_block h.op).2 (by omega)] at k; cases k)
        subst hb0 he0)
      case inr.inr.inr.inr.inl =>
        have := labels_le h.labels
        simp [tailK, L.sz]
        omega
      all_goals (
        have hlab : h.labels = [] := by first | (rw [hfk.1]; rfl) | (rw [hfk]; rfl)
        rw [hlab]
        simp [L.sz])
    omega
/-- An expression. -/
def cExpr : Codec L where
  rd := fun bs => (expr bs).bind fun p => some (p.1, bs.drop p.2)
  wr := fun l => enc l ++ [11]
  ok := fun l => ok 40 l ∧ l.sz < 4294967296
  back := fun l r h => by
    have := expr_back r h.1 h.2
    rw [List.append_assoc]
    show (expr (enc l ++ 11 :: r)).bind _ = _
    rw [this, Option.bind_some]
    simp
  app := fun bs x r t h => by
    obtain ⟨⟨l, n⟩, h1, h2⟩ := Option.bind_eq_some_iff.1 h
    cases h2
    rw [expr_app t h1, Option.bind_some]
    have := (expr_sound h1).2.2
    simp only
    rw [List.drop_append_of_le_length this]
  sound := fun bs x r hl h => by
    obtain ⟨⟨l, n⟩, h1, h2⟩ := Option.bind_eq_some_iff.1 h
    obtain ⟨rfl, rfl⟩ : l = x ∧ bs.drop n = r := by simpa using h2
    obtain ⟨q1, q2, q3⟩ := expr_sound h1
    have := sz_le l 40 q1
    refine ⟨⟨q1, by omega⟩, ?_⟩
    rw [List.length_append, List.length_drop]
    simp
    omega
end Go.Proofs.YtilaheifccjjeaaGreat.M
