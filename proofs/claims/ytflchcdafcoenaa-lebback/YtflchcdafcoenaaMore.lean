/-
  A number's bytes without the last one, and with one group more, read by the program. No condition beyond the number's own range.
-/
import Derived.Test.YtflchcdafcoenaaCat
namespace Go.Proofs.Ytflchcdafcoenaa
open Go.RowKit
theorem M.low_mod {f g : Nat → Nat} {k : Nat} (h : ∀ i, i < k → f i % 128 = g i % 128) : M.low f k = M.low g k := by
  induction k with
  | zero => rfl
  | succ k ih => rw [M.low_succ, M.low_succ, ih (fun i hi => h i (by omega)), h k (by omega)]
/-- The last byte says that one more comes. -/
def goOn (bs : List Nat) : List Nat := bs.set (bs.length - 1) (bs.getD (bs.length - 1) 0 + 128)
theorem goOn_length (bs : List Nat) : (goOn bs).length = bs.length := by simp [goOn]
theorem goOn_at (bs : List Nat) (i : Nat) (h : i < bs.length) : (goOn bs).getD i 0 = if i = bs.length - 1 then bs.getD i 0 + 128 else bs.getD i 0 := by
  unfold goOn
  rw [List.getD_eq_getElem?_getD, List.getElem?_set]
  by_cases e : bs.length - 1 = i
  · subst e
    rw [if_pos rfl, if_pos h, if_pos rfl]
    rfl
  · rw [if_neg e, if_neg (fun h => e h.symm), ← List.getD_eq_getElem?_getD]
section
variable {w : World} {base : Nat}
theorem UintL_no (n g cap : Nat) (ho : w.ownsRow base 5 1 (.slice (some ⟨g, 0, none⟩) (M.putU 10 n).length cap) (M.putU 10 n).length (vals (M.putU 10 n))) (hn : n < 18446744073709551616) :
    Calls Try.prog 9 #[.slice (some ⟨g, 0, none⟩) ((M.putU 10 n).length - 1) cap, .int .i64 64] w fun e w' => e = .returned (.tuple #[.int .u64 0, .int .i64 0, .int .i64 100]) ∧ Below w.heap.size w w' := by
  obtain ⟨A, c, e, hA⟩ := own_bytes ho (M.putU_lt 10 n)
  injection e with e1 _ e2
  subst e1 e2
  have L := M.putU_length 10 n
  have fl := M.putU_flags10 n hn
  refine Uint_no _ _ _ (fun i => (M.putU 10 n).getD i 0) 64 w (fun i hi => hA i (by omega)) (by unfold maxLen; omega) (by omega) (by omega) ?_
  rintro m ⟨h1, h2, _⟩
  exact h2 (by rw [← h1]; exact M.lenOf_zero (L := (M.putU 10 n).length) (fun i hi => (fl i (by omega)).2 hi) _ (by omega))
theorem SintL_no (n : Int) (g cap : Nat) (ho : w.ownsRow base 5 1 (.slice (some ⟨g, 0, none⟩) (M.putS 10 n).length cap) (M.putS 10 n).length (vals (M.putS 10 n))) (hn : -9223372036854775808 ≤ n ∧ n < 9223372036854775808) :
    Calls Try.prog 13 #[.slice (some ⟨g, 0, none⟩) ((M.putS 10 n).length - 1) cap, .int .i64 64] w fun e w' => e = .returned (.tuple #[.int .i64 0, .int .i64 0, .int .i64 100]) ∧ Below w.heap.size w w' := by
  obtain ⟨A, c, e, hA⟩ := own_bytes ho (M.putS_lt 10 n)
  injection e with e1 _ e2
  subst e1 e2
  have L := M.putS_length 10 n
  have fl := M.putS_flags10 n hn
  refine Sint_no _ _ _ (fun i => (M.putS 10 n).getD i 0) 64 w (fun i hi => hA i (by omega)) (by unfold maxLen; omega) (by omega) (by omega) ?_
  rintro m ⟨h1, h2, _⟩
  exact h2 (by rw [← h1]; exact M.lenOf_zero (L := (M.putS 10 n).length) (fun i hi => (fl i (by omega)).2 hi) _ (by omega))
theorem more_getD (bs : List Nat) (x i : Nat) (h : i < bs.length) : (goOn bs ++ [x]).getD i 0 = if i = bs.length - 1 then bs.getD i 0 + 128 else bs.getD i 0 := by
  rw [getD_append_left' _ _ _ (by rw [goOn_length]; exact h), goOn_at bs i h]
theorem more_last (bs : List Nat) (x : Nat) : (goOn bs ++ [x]).getD bs.length 0 = x := by
  have := goOn_length bs
  rw [List.getD_eq_getElem?_getD, List.getElem?_append_right (by omega), this]
  simp
theorem more_lt (bs : List Nat) (x : Nat) (hb : ∀ b ∈ bs, b < 256) (hl : bs.getD (bs.length - 1) 0 < 128) (hx : x < 128) : ∀ b ∈ goOn bs ++ [x], b < 256 := by
  intro b hb'
  rcases List.mem_append.1 hb' with h | h
  · unfold goOn at h
    rcases List.mem_or_eq_of_mem_set h with h | h
    · exact hb b h
    · omega
  · simp at h; omega
theorem UintM_yes (n : Nat) (v : Value) (ho : w.ownsRow base 5 1 v (goOn (M.putU 10 n) ++ [0]).length (vals (goOn (M.putU 10 n) ++ [0]))) (hn : n < 18446744073709551616) (hl : (M.putU 10 n).length < 10) :
    Calls Try.prog 9 #[v, .int .i64 64] w fun e w' => e = .returned (.tuple #[.int .u64 n, .int .i64 ((M.putU 10 n).length + 1 : Nat), .int .i64 0]) ∧ Below w.heap.size w w' := by
  have L := M.putU_length 10 n
  have fl := M.putU_flags10 n hn
  have lst : (M.putU 10 n).getD ((M.putU 10 n).length - 1) 0 < 128 := by
    have := fl ((M.putU 10 n).length - 1) (by omega); omega
  obtain ⟨A, c, rfl, hA⟩ := own_bytes ho (more_lt _ _ (M.putU_lt 10 n) lst (by omega))
  have e0 := M.low_putU10 n (fun i => (M.putU 10 n).getD i 0) hn (fun _ _ => rfl)
  have e1 : M.low (fun i => (goOn (M.putU 10 n) ++ [0]).getD i 0) ((M.putU 10 n).length + 1) = n := by
    rw [M.low_succ, more_last, M.low_mod (g := fun i => (M.putU 10 n).getD i 0) (fun i hi => ?_), e0]
    · simp
    · show (goOn (M.putU 10 n) ++ [0]).getD i 0 % 128 = (M.putU 10 n).getD i 0 % 128
      rw [more_getD _ _ _ hi]
      split <;> omega
  have hU : UOk (fun i => (goOn (M.putU 10 n) ++ [0]).getD i 0) (goOn (M.putU 10 n) ++ [0]).length 64 ((M.putU 10 n).length + 1) := by
    refine ⟨M.lenOf_full (by omega) (fun i hi => ?_) ?_ _ (by simp [goOn_length]; omega), by omega, by rw [e1]; simpa using hn⟩
    · show 128 ≤ (goOn (M.putU 10 n) ++ [0]).getD i 0
      rw [more_getD _ _ _ (by omega)]
      split
      · omega
      · exact (fl i (by omega)).2 (by omega)
    · show (goOn (M.putU 10 n) ++ [0]).getD ((M.putU 10 n).length + 1 - 1) 0 < 128
      rw [Nat.add_sub_cancel, more_last]; omega
  have := Uint_yes A _ c _ 64 _ w hA (by simp [goOn_length]; unfold maxLen; omega) (by omega) (by omega) hU
  rw [e1] at this
  exact this
theorem SintM_yes (n : Int) (x : Nat) (v : Value) (ho : w.ownsRow base 5 1 v (goOn (M.putS 10 n) ++ [x]).length (vals (goOn (M.putS 10 n) ++ [x]))) (hn : -9223372036854775808 ≤ n ∧ n < 9223372036854775808) (hl : (M.putS 10 n).length < 10)
    (hx : (0 ≤ n ∧ x = 0) ∨ (n < 0 ∧ x = 127)) :
    Calls Try.prog 13 #[v, .int .i64 64] w fun e w' => e = .returned (.tuple #[.int .i64 n, .int .i64 ((M.putS 10 n).length + 1 : Nat), .int .i64 0]) ∧ Below w.heap.size w w' := by
  have L := M.putS_length 10 n
  have fl := M.putS_flags10 n hn
  have lst : (M.putS 10 n).getD ((M.putS 10 n).length - 1) 0 < 128 := by
    have := fl ((M.putS 10 n).length - 1) (by omega); omega
  have hx' : x < 128 := by omega
  obtain ⟨A, c, rfl, hA⟩ := own_bytes ho (more_lt _ _ (M.putS_lt 10 n) lst hx')
  have e0 := M.sval_putS10 n (fun i => (M.putS 10 n).getD i 0) hn (fun _ _ => rfl)
  have eV := M.V_all (fun i => (M.putS 10 n).getD i 0) _ _ L.1 lst (Nat.le_refl _)
  have elow : M.low (fun i => (goOn (M.putS 10 n) ++ [x]).getD i 0) (M.putS 10 n).length = M.low (fun i => (M.putS 10 n).getD i 0) (M.putS 10 n).length := by
    refine M.low_mod fun i hi => ?_
    show (goOn (M.putS 10 n) ++ [x]).getD i 0 % 128 = (M.putS 10 n).getD i 0 % 128
    rw [more_getD _ _ _ hi]
    split <;> omega
  have hlow := M.low_lt (fun i => (M.putS 10 n).getD i 0) (M.putS 10 n).length
  have hlowi : (M.low (fun i => (M.putS 10 n).getD i 0) (M.putS 10 n).length : Int) < 2 ^ ((M.putS 10 n).length * 7) := by rw [← M.pow_int]; omega
  have e1 : M.sval (fun i => (goOn (M.putS 10 n) ++ [x]).getD i 0) ((M.putS 10 n).length + 1) = n := by
    unfold M.sval M.dig
    simp only [Nat.add_sub_cancel]
    rw [more_last, elow]
    rw [e0] at eV
    generalize M.low (fun i => (M.putS 10 n).getD i 0) (M.putS 10 n).length = Lw at *
    by_cases hs : (M.putS 10 n).getD ((M.putS 10 n).length - 1) 0 < 64
    · rw [M.V_top_lo _ _ hs] at eV
      have : 0 ≤ n := by omega
      have hx0 : x = 0 := by omega
      subst hx0
      simp
      omega
    · rw [M.V_top_hi _ _ hs] at eV
      have : n < 0 := by omega
      have hx0 : x = 127 := by omega
      subst hx0
      simp
      omega
  have hU : SOk (fun i => (goOn (M.putS 10 n) ++ [x]).getD i 0) (goOn (M.putS 10 n) ++ [x]).length 64 ((M.putS 10 n).length + 1) := by
    refine ⟨M.lenOf_full (by omega) (fun i hi => ?_) ?_ _ (by simp [goOn_length]; omega), by omega, by rw [e1]; simpa using hn⟩
    · show 128 ≤ (goOn (M.putS 10 n) ++ [x]).getD i 0
      rw [more_getD _ _ _ (by omega)]
      split
      · omega
      · exact (fl i (by omega)).2 (by omega)
    · show (goOn (M.putS 10 n) ++ [x]).getD ((M.putS 10 n).length + 1 - 1) 0 < 128
      rw [Nat.add_sub_cancel, more_last]; omega
  have := Sint_yes A _ c _ 64 _ w hA (by simp [goOn_length]; unfold maxLen; omega) (by omega) (by omega) hU
  rw [e1] at this
  exact this
end
end Go.Proofs.Ytflchcdafcoenaa
