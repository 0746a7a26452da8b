/-
  The operations of two numbers, by their bytes: the code's and the page's answer; condition: the numbers are of 64 bits.
-/
import Derived.Test.YtpnimgecfmpipaaMeth2
import Derived.Test.YtpnimgecfmpipaaPageB
namespace Go.Proofs.Ytpnimgecfmpipaa
open Go.RowKit
theorem bin_cases (op : Int) (h : M.isBin op) : op = 81 ∨ op = 82 ∨ op = 83 ∨ op = 84 ∨ op = 85 ∨ op = 86 ∨ op = 87 ∨ op = 88 ∨ op = 89 ∨ op = 90 ∨ op = 124 ∨ op = 125 ∨ op = 126 ∨ op = 127 ∨ op = 128 ∨ op = 129 ∨ op = 130 ∨ op = 131 ∨ op = 132 ∨ op = 133 ∨ op = 134 ∨ op = 135 ∨ op = 136 ∨ op = 137 ∨ op = 138 := by
  unfold M.isBin at h; omega
theorem Bin_yes (op a b : Int) (w : World) (ha : U a) (hb : U b) (h : M.isBin op) :
    Calls Try.prog 10 #[.int .i64 op, .int .u64 a, .int .u64 b] w fun e w' => e = .returned (.tuple #[.int .u64 (M.val op a b), .int .i64 (M.trap op a b), .int .i64 0]) ∧ Below w.heap.size w w' := by
  rcases bin_cases op h with rfl | rfl | rfl | rfl | rfl | rfl | rfl | rfl | rfl | rfl | rfl | rfl | rfl | rfl | rfl | rfl | rfl | rfl | rfl | rfl | rfl | rfl | rfl | rfl | rfl
  · exact Bin_some 81 a b 23 _ _ w (by decide) (by decide) (by kernel_rfl) Try.call23 (fun w => equal_any a b w ha hb)
  · exact Bin_some 82 a b 24 _ _ w (by decide) (by decide) (by kernel_rfl) Try.call24 (fun w => unequal_any a b w ha hb)
  · exact Bin_some 83 a b 25 _ _ w (by decide) (by decide) (by kernel_rfl) Try.call25 (fun w => lessSigned_any a b w ha hb)
  · exact Bin_some 84 a b 26 _ _ w (by decide) (by decide) (by kernel_rfl) Try.call26 (fun w => less_any a b w ha hb)
  · exact Bin_some 85 a b 27 _ _ w (by decide) (by decide) (by kernel_rfl) Try.call27 (fun w => greaterSigned_any a b w ha hb)
  · exact Bin_some 86 a b 28 _ _ w (by decide) (by decide) (by kernel_rfl) Try.call28 (fun w => greater_any a b w ha hb)
  · exact Bin_some 87 a b 29 _ _ w (by decide) (by decide) (by kernel_rfl) Try.call29 (fun w => notGreaterSigned_any a b w ha hb)
  · exact Bin_some 88 a b 30 _ _ w (by decide) (by decide) (by kernel_rfl) Try.call30 (fun w => notGreater_any a b w ha hb)
  · exact Bin_some 89 a b 31 _ _ w (by decide) (by decide) (by kernel_rfl) Try.call31 (fun w => notLessSigned_any a b w ha hb)
  · exact Bin_some 90 a b 32 _ _ w (by decide) (by decide) (by kernel_rfl) Try.call32 (fun w => notLess_any a b w ha hb)
  · exact Bin_some 124 a b 33 _ _ w (by decide) (by decide) (by kernel_rfl) Try.call33 (fun w => sum_any a b w ha hb)
  · exact Bin_some 125 a b 34 _ _ w (by decide) (by decide) (by kernel_rfl) Try.call34 (fun w => difference_any a b w ha hb)
  · exact Bin_some 126 a b 35 _ _ w (by decide) (by decide) (by kernel_rfl) Try.call35 (fun w => product_any a b w ha hb)
  · exact Bin_some 127 a b 36 _ _ w (by decide) (by decide) (by kernel_rfl) Try.call36 (fun w => quotientSigned_any a b w ha hb)
  · exact Bin_some 128 a b 37 _ _ w (by decide) (by decide) (by kernel_rfl) Try.call37 (fun w => quotient_any a b w ha hb)
  · exact Bin_some 129 a b 38 _ _ w (by decide) (by decide) (by kernel_rfl) Try.call38 (fun w => leftOverSigned_any a b w ha hb)
  · exact Bin_some 130 a b 39 _ _ w (by decide) (by decide) (by kernel_rfl) Try.call39 (fun w => leftOver_any a b w ha hb)
  · exact Bin_some 131 a b 40 _ _ w (by decide) (by decide) (by kernel_rfl) Try.call40 (fun w => and_any a b w ha hb)
  · exact Bin_some 132 a b 41 _ _ w (by decide) (by decide) (by kernel_rfl) Try.call41 (fun w => or_any a b w ha hb)
  · exact Bin_some 133 a b 42 _ _ w (by decide) (by decide) (by kernel_rfl) Try.call42 (fun w => exclusiveOr_any a b w ha hb)
  · exact Bin_some 134 a b 43 _ _ w (by decide) (by decide) (by kernel_rfl) Try.call43 (fun w => shiftLeft_any a b w ha hb)
  · exact Bin_some 135 a b 44 _ _ w (by decide) (by decide) (by kernel_rfl) Try.call44 (fun w => shiftRightSigned_any a b w ha hb)
  · exact Bin_some 136 a b 45 _ _ w (by decide) (by decide) (by kernel_rfl) Try.call45 (fun w => shiftRight_any a b w ha hb)
  · exact Bin_some 137 a b 46 _ _ w (by decide) (by decide) (by kernel_rfl) Try.call46 (fun w => turnLeft_any a b w ha hb)
  · exact Bin_some 138 a b 47 _ _ w (by decide) (by decide) (by kernel_rfl) Try.call47 (fun w => turnRight_any a b w ha hb)
theorem tab_low (k : Nat) (h : k < 81) : tab[k]? = some .nilFunc := by
  unfold tab
  rw [Array.getElem?_append_left (by simp; omega), Array.getElem?_append_left (by simp; omega), Array.getElem?_append_left (by simp; omega), Array.getElem?_replicate, if_pos h]
theorem tab_mid (k : Nat) (h : 91 ≤ k) (h' : k < 124) : tab[k]? = some .nilFunc := by
  unfold tab
  rw [Array.getElem?_append_left (by simp; omega), Array.getElem?_append_right (by simp; omega), Array.getElem?_replicate, if_pos (by simp; omega)]
theorem Bin_no (op a b : Int) (w : World) (h : ¬ M.isBin op) :
    Calls Try.prog 10 #[.int .i64 op, .int .u64 a, .int .u64 b] w fun e w' => e = .returned (.tuple #[.int .u64 0, .int .i64 0, .int .i64 100]) ∧ Below w.heap.size w w' := by
  unfold M.isBin at h
  by_cases h1 : op < 0 ∨ 139 ≤ op
  · exact BinNo_out a b op w h1
  · by_cases h2 : op < 81
    · exact BinNo_ret a b op w (by omega) (by omega) (tab_low _ (by omega))
    · exact BinNo_ret a b op w (by omega) (by omega) (tab_mid _ (by omega) (by omega))
theorem Bin64_of (op a b : Int) (w : World) (v t : Int) (s : Bool)
    (hbin : Calls Try.prog 20 #[.int .i64 op, .int .u64 a, .int .u64 b, .int .i64 64] w fun e w' => e = .returned (.tuple #[.int .u64 v, .int .i64 t, .bool s]) ∧ w = w') :
    Calls Try.prog 11 #[.int .i64 op, .int .u64 a, .int .u64 b] w fun e w' => e = .returned (.tuple #[.int .u64 v, .int .i64 t, .bool s]) ∧ w = w' := by
  replace hbin := Lib.hid hbin
  go_enter Try.func11, Try.ntmps11
  go_wp2_with fail
  refine hbin.out.mono ?_
  rintro e w1 ⟨rfl, rfl⟩
  go_wp2
  go_ret3
  exact ⟨rfl, rfl⟩
theorem Bin64_yes (op a b : Int) (w : World) (ha : U a) (hb : U b) (h : M.isBin op) :
    Calls Try.prog 11 #[.int .i64 op, .int .u64 a, .int .u64 b] w fun e w' => e = .returned (.tuple #[.int .u64 (M.val op a b), .int .i64 (M.trap op a b), .bool true]) ∧ w = w' := by
  rcases bin_cases op h with rfl | rfl | rfl | rfl | rfl | rfl | rfl | rfl | rfl | rfl | rfl | rfl | rfl | rfl | rfl | rfl | rfl | rfl | rfl | rfl | rfl | rfl | rfl | rfl | rfl
  · exact Bin64_of 81 a b w _ _ true (bin_81 a b w ha hb)
  · exact Bin64_of 82 a b w _ _ true (bin_82 a b w ha hb)
  · exact Bin64_of 83 a b w _ _ true (bin_83 a b w ha hb)
  · exact Bin64_of 84 a b w _ _ true (bin_84 a b w ha hb)
  · exact Bin64_of 85 a b w _ _ true (bin_85 a b w ha hb)
  · exact Bin64_of 86 a b w _ _ true (bin_86 a b w ha hb)
  · exact Bin64_of 87 a b w _ _ true (bin_87 a b w ha hb)
  · exact Bin64_of 88 a b w _ _ true (bin_88 a b w ha hb)
  · exact Bin64_of 89 a b w _ _ true (bin_89 a b w ha hb)
  · exact Bin64_of 90 a b w _ _ true (bin_90 a b w ha hb)
  · exact Bin64_of 124 a b w _ _ true (bin_124 a b w ha hb)
  · exact Bin64_of 125 a b w _ _ true (bin_125 a b w ha hb)
  · exact Bin64_of 126 a b w _ _ true (bin_126 a b w ha hb)
  · exact Bin64_of 127 a b w _ _ true (bin_127 a b w ha hb)
  · exact Bin64_of 128 a b w _ _ true (bin_128 a b w ha hb)
  · exact Bin64_of 129 a b w _ _ true (bin_129 a b w ha hb)
  · exact Bin64_of 130 a b w _ _ true (bin_130 a b w ha hb)
  · exact Bin64_of 131 a b w _ _ true (bin_131 a b w ha hb)
  · exact Bin64_of 132 a b w _ _ true (bin_132 a b w ha hb)
  · exact Bin64_of 133 a b w _ _ true (bin_133 a b w ha hb)
  · exact Bin64_of 134 a b w _ _ true (bin_134 a b w ha hb)
  · exact Bin64_of 135 a b w _ _ true (bin_135 a b w ha hb)
  · exact Bin64_of 136 a b w _ _ true (bin_136 a b w ha hb)
  · exact Bin64_of 137 a b w _ _ true (bin_137 a b w ha hb)
  · exact Bin64_of 138 a b w _ _ true (bin_138 a b w ha hb)
theorem U0 : U 0 := by unfold U; omega
theorem Bin64_no (op a b : Int) (w : World) (ha : U a) (hb : U b) (h : ¬ M.isBin op) :
    Calls Try.prog 11 #[.int .i64 op, .int .u64 a, .int .u64 b] w fun e w' => e = .returned (.tuple #[.int .u64 0, .int .i64 0, .bool false]) ∧ w = w' :=
  Bin64_of op a b w 0 0 false (bin_none op a b w ha hb h)
theorem num_any (n : Int) (w : World) : Calls Try.prog 12 #[.int .i64 n] w fun e w' => e = .returned (.int .i64 n) ∧ w = w' := by
  go_enter Try.func12, Try.ntmps12
  go_wp2
  go_ret
  exact ⟨rfl, rfl⟩
theorem wakes_any (w : World) : Calls Try.prog 13 #[] w fun e w' => e = .returned (.bool true) ∧ Below w.heap.size w w' := by
  have e1 : M.val 124 2 3 = 5 := by decide
  have e2 : M.trap 124 2 3 = 0 := by decide
  go_enter Try.func13, Try.ntmps13
  go_wp2_with fail
  refine (Bin_yes 124 2 3 _ (by unfold U; omega) (by unfold U; omega) (by unfold M.isBin; omega)).mono ?_
  rintro e w1 ⟨rfl, b1⟩
  replace b1 := Lib.hid b1
  go_wp2_with (go_at_call 12; refine (num_any _ _).mono ?_; rintro e w2 ⟨rfl, rfl⟩)
  go_ret
  exact ⟨rfl, b1.out⟩
end Go.Proofs.Ytpnimgecfmpipaa
