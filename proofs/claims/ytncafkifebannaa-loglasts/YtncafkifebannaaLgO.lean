/-
  Plain facts on numbers put together of bytes; no program is named.
-/
import Derived.Test.YtncafkifebannaaLgMath
import Derived.Laws.BitsAllLaws
import Derived.WalkKit
namespace Go.Proofs.Ytncafkifebannaa
open Go Go.RowKit
def M.low4 (bs : List Nat) : Nat → Nat
  | 0 => 0
  | 1 => bs.getD 0 0
  | 2 => bs.getD 0 0 + bs.getD 1 0 * 256
  | 3 => bs.getD 0 0 + bs.getD 1 0 * 256 + bs.getD 2 0 * 65536
  | _ => M.val4 bs
theorem cast_by (x k : Nat) : ((x / 2 ^ (8 * k) % 256 : Nat) : Int) = (x : Int) / 2 ^ (8 * k) % 256 := by
  simp only [Int.natCast_emod, Int.natCast_ediv, Int.natCast_pow]
  rfl
theorem i64_or_nat (a b : Nat) (ha : a < 9223372036854775808) (hb : b < 9223372036854775808) : bits .or .i64 (a : Int) (b : Int) = ((a ||| b : Nat) : Int) := by
  have hx : a ||| b < 2 ^ 63 := Nat.or_lt_two_pow (by omega) (by omega)
  show IntKind.i64.wrap ((BitVec.ofInt 64 (a : Int) ||| BitVec.ofInt 64 (b : Int)).toNat : Int) = _
  rw [BitVec.toNat_or, ofInt_u64 a (by omega), ofInt_u64 b (by omega), IntKind.wrap_i64]
  omega
theorem wrap64_nat (m : Nat) (h : m < 9223372036854775808) : wrap64 (m : Int) = (m : Int) := by
  unfold wrap64
  omega
theorem or_key (x y s : Nat) (hx : x < 2 ^ s) (hy : y < 256) (hs : s ≤ 24) : bits .or .i64 (x : Int) (wrap64 ((y : Int) * 2 ^ s)) = ((x + y * 2 ^ s : Nat) : Int) := by
  have hp : (2 : Nat) ^ s ≤ 16777216 := Nat.pow_le_pow_right (n := 2) (by decide) hs
  have hm : y * 2 ^ s ≤ 255 * 16777216 := Nat.mul_le_mul (by omega) hp
  have e2 : (y : Int) * 2 ^ s = ((y * 2 ^ s : Nat) : Int) := by push_cast; rfl
  have hj := nat_join s (y * 2 ^ s) x (by simp) hx
  rw [e2]
  obtain ⟨m, hmm⟩ : ∃ m, m = y * 2 ^ s := ⟨_, rfl⟩
  obtain ⟨p, hpp⟩ : ∃ p, p = 2 ^ s := ⟨_, rfl⟩
  rw [← hmm] at hm hj ⊢
  rw [← hpp] at hx hp
  clear hmm hpp e2
  rw [wrap64_nat m (by omega), i64_or_nat x m (by omega) (by omega), Nat.or_comm, hj]
  omega
theorem or_low4 (bs : List Nat) (hall : ∀ i, bs.getD i 0 < 256) (k : Nat) (hk : k < 4) : bits .or .i64 ((M.low4 bs k : Nat) : Int) (wrap64 (((bs.getD k 0 : Nat) : Int) * 2 ^ (8 * k))) = ((M.low4 bs (k + 1) : Nat) : Int) := by
  have h0 := hall 0
  have h1 := hall 1
  have h2 := hall 2
  have h3 := hall 3
  have key : ∀ (x y s : Nat), x < 2 ^ s → y < 256 → s ≤ 24 → bits .or .i64 (x : Int) (wrap64 ((y : Int) * 2 ^ s)) = ((x + y * 2 ^ s : Nat) : Int) := or_key
  rcases (show k = 0 ∨ k = 1 ∨ k = 2 ∨ k = 3 by omega) with rfl | rfl | rfl | rfl
  · have := key (M.low4 bs 0) (bs.getD 0 0) (8 * 0) (by show (0 : Nat) < 1; omega) h0 (by omega)
    rw [this]; simp [M.low4]
  · have := key (M.low4 bs 1) (bs.getD 1 0) (8 * 1) (by show bs.getD 0 0 < 256; omega) h1 (by omega)
    rw [this]; rfl
  · have := key (M.low4 bs 2) (bs.getD 2 0) (8 * 2) (by show bs.getD 0 0 + bs.getD 1 0 * 256 < 65536; omega) h2 (by omega)
    rw [this]; rfl
  · have := key (M.low4 bs 3) (bs.getD 3 0) (8 * 3) (by show bs.getD 0 0 + bs.getD 1 0 * 256 + bs.getD 2 0 * 65536 < 16777216; omega) h3 (by omega)
    rw [this]; rfl
end Go.Proofs.Ytncafkifebannaa
