/-
  Numbers by bytes, the lowest first: what the bytes from a place on tell, and what bytes are when a number is written there; no condition; nothing of the program is named here.
-/
import Derived.Laws.BitsAllLaws
import Derived.Laws.BitsLemmas
namespace Go.Proofs.Ytcdfmldbpmgoiaa.M
/-- The number that n bytes from a place on tell. -/
def le (bs : List Nat) : Nat → Nat → Nat
  | 0, _ => 0
  | n + 1, a => bs.getD a 0 + 256 * le bs n (a + 1)
theorem getD_lt {bs : List Nat} (h : ∀ b ∈ bs, b < 256) (a : Nat) : bs.getD a 0 < 256 := by
  rw [List.getD_eq_getElem?_getD]
  by_cases ha : a < bs.length
  · rw [List.getElem?_eq_getElem ha]; exact h _ (List.getElem_mem ha)
  · rw [List.getElem?_eq_none (by omega)]; decide
theorem le_lt {bs : List Nat} (h : ∀ b ∈ bs, b < 256) : ∀ (n a : Nat), le bs n a < 256 ^ n
  | 0, _ => by simp [le]
  | n + 1, a => by
    have h1 := le_lt h n (a + 1)
    have h2 := getD_lt h a
    rw [Nat.pow_succ]
    show bs.getD a 0 + 256 * le bs n (a + 1) < _
    omega
theorem le_add (bs : List Nat) (n : Nat) : ∀ (m a : Nat), le bs (m + n) a = le bs m a + 256 ^ m * le bs n (a + m)
  | 0, a => by simp [le]
  | m + 1, a => by
    have e : m + 1 + n = (m + n) + 1 := by omega
    rw [e]
    show bs.getD a 0 + 256 * le bs (m + n) (a + 1) = bs.getD a 0 + 256 * le bs m (a + 1) + _
    rw [le_add bs n m (a + 1), Nat.pow_succ, show a + 1 + m = a + (m + 1) by omega, Nat.mul_add, ← Nat.mul_assoc, Nat.mul_comm 256 (256 ^ m)]
    omega
theorem le_one (bs : List Nat) (a : Nat) : le bs 1 a = bs.getD a 0 := by simp [le]
theorem le_congr {bs cs : List Nat} : ∀ (n a : Nat), (∀ j, a ≤ j → j < a + n → bs.getD j 0 = cs.getD j 0) → le bs n a = le cs n a
  | 0, _, _ => rfl
  | n + 1, a, h => by
    show bs.getD a 0 + 256 * le bs n (a + 1) = cs.getD a 0 + 256 * le cs n (a + 1)
    rw [h a (by omega) (by omega), le_congr n (a + 1) (fun j h1 h2 => h j (by omega) (by omega))]
/-- The low n bytes of a number, written from a place on. -/
def put : Nat → List Nat → Nat → Nat → List Nat
  | 0, bs, _, _ => bs
  | n + 1, bs, a, v => put n (bs.set a (v % 256)) (a + 1) (v / 256)
theorem put_length : ∀ (n : Nat) (bs : List Nat) (a v : Nat), (put n bs a v).length = bs.length
  | 0, _, _, _ => rfl
  | n + 1, bs, a, v => by show (put n _ _ _).length = _; rw [put_length]; simp
theorem put_lt : ∀ (n : Nat) {bs : List Nat} (a v : Nat), (∀ b ∈ bs, b < 256) → ∀ b ∈ put n bs a v, b < 256
  | 0, _, _, _, h => h
  | n + 1, bs, a, v, h => put_lt n (a + 1) (v / 256) (fun b hb => by
      rcases List.mem_or_eq_of_mem_set hb with h1 | h1
      · exact h b h1
      · omega)
theorem put_add (n : Nat) : ∀ (m : Nat) (bs : List Nat) (a v : Nat), put (m + n) bs a v = put n (put m bs a v) (a + m) (v / 256 ^ m)
  | 0, bs, a, v => by simp [put]
  | m + 1, bs, a, v => by
    rw [show m + 1 + n = (m + n) + 1 by omega]
    show put (m + n) _ _ _ = put n (put m _ _ _) _ _
    rw [put_add n m, show a + 1 + m = a + (m + 1) by omega, Nat.div_div_eq_div_mul, Nat.pow_succ, Nat.mul_comm 256]
theorem put_succ (n : Nat) (bs : List Nat) (a v : Nat) : put (n + 1) bs a v = (put n bs a v).set (a + n) (v / 256 ^ n % 256) := by rw [put_add 1 n]; rfl
theorem set_getD (bs : List Nat) (a x j : Nat) : (bs.set a x).getD j 0 = if a = j ∧ j < bs.length then x else bs.getD j 0 := by
  rw [List.getD_eq_getElem?_getD, List.getD_eq_getElem?_getD, List.getElem?_set]
  by_cases e : a = j
  · subst e
    by_cases h : a < bs.length
    · simp [h]
    · simp [h]
  · simp [e]
theorem put_get : ∀ (n : Nat) (bs : List Nat) (a v j : Nat), (put n bs a v).getD j 0 = if a ≤ j ∧ j < a + n ∧ j < bs.length then v / 256 ^ (j - a) % 256 else bs.getD j 0
  | 0, bs, a, v, j => by rw [if_neg (by omega)]; rfl
  | n + 1, bs, a, v, j => by
    show (put n _ _ _).getD j 0 = _
    rw [put_get n, List.length_set, set_getD]
    by_cases h1 : a + 1 ≤ j ∧ j < a + 1 + n ∧ j < bs.length
    · rw [if_pos h1, if_pos (by omega), Nat.div_div_eq_div_mul, show j - a = (j - (a + 1)) + 1 by omega, Nat.pow_succ, Nat.mul_comm 256]
    · rw [if_neg h1]
      by_cases h2 : a = j ∧ j < bs.length
      · rw [if_pos h2, if_pos (by omega), h2.1]; simp
      · rw [if_neg h2, if_neg (by omega)]
theorem le_put : ∀ (n : Nat) (bs : List Nat) (a v : Nat), a + n ≤ bs.length → le (put n bs a v) n a = v % 256 ^ n
  | 0, _, _, v, _ => by simp [le, Nat.mod_one]
  | n + 1, bs, a, v, h => by
    show (put (n + 1) bs a v).getD a 0 + 256 * le (put (n + 1) bs a v) n (a + 1) = _
    rw [put_get, if_pos (by omega)]
    show _ + 256 * le (put n (bs.set a (v % 256)) (a + 1) (v / 256)) n (a + 1) = _
    rw [le_put n _ _ _ (by simp; omega), Nat.sub_self, Nat.pow_zero, Nat.div_one, Nat.pow_succ, Nat.mul_comm (256 ^ n) 256, Nat.mod_mul]
theorem or_u64 (s : Nat) (x y : Nat) (hx : x < 2 ^ s) (hy : y * 2 ^ s < 18446744073709551616) (hx2 : x < 18446744073709551616) : bits .or .u64 (x : Int) ((y * 2 ^ s : Nat) : Int) = ((x + y * 2 ^ s : Nat) : Int) := by
  rw [u64_or_nat _ _ (by omega) (by omega), Nat.or_comm, nat_join s _ _ (by simp) hx]
  omega
end Go.Proofs.Ytcdfmldbpmgoiaa.M
