/-
  A number's shortest bytes, in new memory, read by the program: the number, if it has the bits; else none. No condition beyond the number's own range.
-/
import Derived.Test.YtflchcdafcoenaaMathB
import Derived.Test.YtflchcdafcoenaaUse
import Derived.Test.YtflchcdafcoenaaLebS
namespace Go.Proofs.Ytflchcdafcoenaa
open Go.RowKit
theorem UOk_putU (n b : Nat) (f : Nat → Nat) (len : Nat) (hn : n < 18446744073709551616) (hb : 1 ≤ b) (h : n < 2 ^ b) (hf : ∀ i, i < (M.putU 10 n).length → f i = (M.putU 10 n).getD i 0) (hl : (M.putU 10 n).length ≤ len) :
    UOk f len b (M.putU 10 n).length ∧ M.low f (M.putU 10 n).length = n := by
  have e := M.low_putU10 n f hn hf
  have L := M.putU_length 10 n
  have fl := M.putU_flags10 n hn
  have hg := M.putU_groups n b hb h
  refine ⟨⟨M.lenOf_full L.1 (fun i hi => ?_) ?_ _ (by omega), by omega, by rw [e]; exact h⟩, e⟩
  · rw [hf i (by omega)]; exact (fl i (by omega)).2 hi
  · rw [hf _ (by omega)]
    have := fl ((M.putU 10 n).length - 1) (by omega)
    show (M.putU 10 n).getD ((M.putU 10 n).length - 1) 0 < 128
    omega
theorem no_putU (n b : Nat) (f : Nat → Nat) (len : Nat) (hn : n < 18446744073709551616) (h : ¬ n < 2 ^ b) (hf : ∀ i, i < (M.putU 10 n).length → f i = (M.putU 10 n).getD i 0) : ∀ m, ¬ UOk f len b m := by
  rintro m ⟨h1, h2, h3⟩
  have e := M.low_putU10 n f hn hf
  have L := M.putU_length 10 n
  have fl := M.putU_flags10 n hn
  have flg : ∀ i, i + 1 < (M.putU 10 n).length → 128 ≤ f i := fun i hi => by rw [hf i (by omega)]; exact (fl i (by omega)).2 hi
  have lst : f ((M.putU 10 n).length - 1) < 128 := by
    rw [hf _ (by omega)]
    have := fl ((M.putU 10 n).length - 1) (by omega)
    show (M.putU 10 n).getD ((M.putU 10 n).length - 1) 0 < 128
    omega
  by_cases hm : min len ((b + 6) / 7) < (M.putU 10 n).length
  · exact h2 (by rw [← h1]; exact M.lenOf_zero flg _ hm)
  · rw [M.lenOf_full L.1 flg lst _ (by omega)] at h1
    rw [← h1] at h3
    exact h (by rw [← e]; exact h3)
theorem SOk_putS (n : Int) (b : Nat) (f : Nat → Nat) (len : Nat) (hn : -9223372036854775808 ≤ n ∧ n < 9223372036854775808) (hb : 1 ≤ b) (h : -2 ^ (b - 1) ≤ n ∧ n < 2 ^ (b - 1)) (hf : ∀ i, i < (M.putS 10 n).length → f i = (M.putS 10 n).getD i 0) (hl : (M.putS 10 n).length ≤ len) :
    SOk f len b (M.putS 10 n).length ∧ M.sval f (M.putS 10 n).length = n := by
  have e := M.sval_putS10 n f hn hf
  have L := M.putS_length 10 n
  have fl := M.putS_flags10 n hn
  have hg := M.putS_groups n b hb h
  refine ⟨⟨M.lenOf_full L.1 (fun i hi => ?_) ?_ _ (by omega), by omega, by rw [e]; exact h⟩, e⟩
  · rw [hf i (by omega)]; exact (fl i (by omega)).2 hi
  · rw [hf _ (by omega)]
    exact M.putS_last_lt 9 n (by simpa using hn)
theorem no_putS (n : Int) (b : Nat) (f : Nat → Nat) (len : Nat) (hn : -9223372036854775808 ≤ n ∧ n < 9223372036854775808) (h : ¬ (-2 ^ (b - 1) ≤ n ∧ n < 2 ^ (b - 1))) (hf : ∀ i, i < (M.putS 10 n).length → f i = (M.putS 10 n).getD i 0) : ∀ m, ¬ SOk f len b m := by
  rintro m ⟨h1, h2, h3⟩
  have e := M.sval_putS10 n f hn hf
  have L := M.putS_length 10 n
  have fl := M.putS_flags10 n hn
  have flg : ∀ i, i + 1 < (M.putS 10 n).length → 128 ≤ f i := fun i hi => by rw [hf i (by omega)]; exact (fl i (by omega)).2 hi
  have lst : f ((M.putS 10 n).length - 1) < 128 := by rw [hf _ (by omega)]; exact M.putS_last_lt 9 n (by simpa using hn)
  by_cases hm : min len ((b + 6) / 7) < (M.putS 10 n).length
  · exact h2 (by rw [← h1]; exact M.lenOf_zero flg _ hm)
  · rw [M.lenOf_full L.1 flg lst _ (by omega)] at h1
    rw [← h1] at h3
    exact h (by rw [← e]; exact h3)
section
variable {w : World} {base : Nat} {v : Value}
theorem UintP_yes (n b : Nat) (ho : w.ownsRow base 5 1 v (M.putU 10 n).length (vals (M.putU 10 n))) (hn : n < 18446744073709551616) (hb1 : 1 ≤ b) (hb2 : b ≤ 64) (h : n < 2 ^ b) :
    Calls Try.prog 9 #[v, .int .i64 b] w fun e w' => e = .returned (.tuple #[.int .u64 n, .int .i64 ((M.putU 10 n).length : Nat), .int .i64 0]) ∧ Below w.heap.size w w' := by
  obtain ⟨A, c, rfl, hA⟩ := own_bytes ho (M.putU_lt 10 n)
  have L := M.putU_length 10 n
  obtain ⟨h1, h2⟩ := UOk_putU n b (fun i => (M.putU 10 n).getD i 0) _ hn hb1 h (fun _ _ => rfl) (Nat.le_refl _)
  have := Uint_yes A _ c _ b _ w hA (by unfold maxLen; omega) hb1 hb2 h1
  rw [h2] at this
  exact this
theorem UintP_no (n b : Nat) (ho : w.ownsRow base 5 1 v (M.putU 10 n).length (vals (M.putU 10 n))) (hn : n < 18446744073709551616) (hb1 : 1 ≤ b) (hb2 : b ≤ 64) (h : ¬ n < 2 ^ b) :
    Calls Try.prog 9 #[v, .int .i64 b] w fun e w' => e = .returned (.tuple #[.int .u64 0, .int .i64 0, .int .i64 100]) ∧ Below w.heap.size w w' := by
  obtain ⟨A, c, rfl, hA⟩ := own_bytes ho (M.putU_lt 10 n)
  have L := M.putU_length 10 n
  exact Uint_no A _ c _ b w hA (by unfold maxLen; omega) hb1 hb2 (no_putU n b _ _ hn h (fun _ _ => rfl))
theorem SintP_yes (n : Int) (b : Nat) (ho : w.ownsRow base 5 1 v (M.putS 10 n).length (vals (M.putS 10 n))) (hn : -9223372036854775808 ≤ n ∧ n < 9223372036854775808) (hb1 : 1 ≤ b) (hb2 : b ≤ 64) (h : -2 ^ (b - 1) ≤ n ∧ n < 2 ^ (b - 1)) :
    Calls Try.prog 13 #[v, .int .i64 b] w fun e w' => e = .returned (.tuple #[.int .i64 n, .int .i64 ((M.putS 10 n).length : Nat), .int .i64 0]) ∧ Below w.heap.size w w' := by
  obtain ⟨A, c, rfl, hA⟩ := own_bytes ho (M.putS_lt 10 n)
  have L := M.putS_length 10 n
  obtain ⟨h1, h2⟩ := SOk_putS n b (fun i => (M.putS 10 n).getD i 0) _ hn hb1 h (fun _ _ => rfl) (Nat.le_refl _)
  have := Sint_yes A _ c _ b _ w hA (by unfold maxLen; omega) hb1 hb2 h1
  rw [h2] at this
  exact this
theorem SintP_no (n : Int) (b : Nat) (ho : w.ownsRow base 5 1 v (M.putS 10 n).length (vals (M.putS 10 n))) (hn : -9223372036854775808 ≤ n ∧ n < 9223372036854775808) (hb1 : 1 ≤ b) (hb2 : b ≤ 64) (h : ¬ (-2 ^ (b - 1) ≤ n ∧ n < 2 ^ (b - 1))) :
    Calls Try.prog 13 #[v, .int .i64 b] w fun e w' => e = .returned (.tuple #[.int .i64 0, .int .i64 0, .int .i64 100]) ∧ Below w.heap.size w w' := by
  obtain ⟨A, c, rfl, hA⟩ := own_bytes ho (M.putS_lt 10 n)
  have L := M.putS_length 10 n
  exact Sint_no A _ c _ b w hA (by unfold maxLen; omega) hb1 hb2 (no_putS n b _ _ hn h (fun _ _ => rfl))
end
end Go.Proofs.Ytflchcdafcoenaa
