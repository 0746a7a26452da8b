/-
  The operations of two numbers, by their bytes: the code's and the page's answer; condition: the numbers are of 32 bits.
-/
import Derived.Test.YtpolbefcgbpmmaaMeth2
import Derived.Test.YtpolbefcgbpmmaaPageB
namespace Go.Proofs.Ytpolbefcgbpmmaa
open Go.RowKit
theorem bin_cases (op : Int) (h : M.isBin op) : op = 70 ∨ op = 71 ∨ op = 72 ∨ op = 73 ∨ op = 74 ∨ op = 75 ∨ op = 76 ∨ op = 77 ∨ op = 78 ∨ op = 79 ∨ op = 106 ∨ op = 107 ∨ op = 108 ∨ op = 109 ∨ op = 110 ∨ op = 111 ∨ op = 112 ∨ op = 113 ∨ op = 114 ∨ op = 115 ∨ op = 116 ∨ op = 117 ∨ op = 118 ∨ op = 119 ∨ op = 120 := by
  unfold M.isBin at h; omega
theorem Bin_yes (op a b : Int) (w : World) (ha : U a) (hb : U b) (h : M.isBin op) :
    Calls Try.prog 8 #[.int .i64 op, .int .u32 a, .int .u32 b] w fun e w' => e = .returned (.tuple #[.int .u32 (M.val op a b), .int .i64 (M.trap op a b), .int .i64 0]) ∧ Below w.heap.size w w' := by
  rcases bin_cases op h with rfl | rfl | rfl | rfl | rfl | rfl | rfl | rfl | rfl | rfl | rfl | rfl | rfl | rfl | rfl | rfl | rfl | rfl | rfl | rfl | rfl | rfl | rfl | rfl | rfl
  · exact Bin_some 70 a b 17 _ _ w (by decide) (by decide) (by kernel_rfl) Try.call17 (fun w => equal_any a b w ha hb)
  · exact Bin_some 71 a b 18 _ _ w (by decide) (by decide) (by kernel_rfl) Try.call18 (fun w => unequal_any a b w ha hb)
  · exact Bin_some 72 a b 19 _ _ w (by decide) (by decide) (by kernel_rfl) Try.call19 (fun w => lessSigned_any a b w ha hb)
  · exact Bin_some 73 a b 20 _ _ w (by decide) (by decide) (by kernel_rfl) Try.call20 (fun w => less_any a b w ha hb)
  · exact Bin_some 74 a b 21 _ _ w (by decide) (by decide) (by kernel_rfl) Try.call21 (fun w => greaterSigned_any a b w ha hb)
  · exact Bin_some 75 a b 22 _ _ w (by decide) (by decide) (by kernel_rfl) Try.call22 (fun w => greater_any a b w ha hb)
  · exact Bin_some 76 a b 23 _ _ w (by decide) (by decide) (by kernel_rfl) Try.call23 (fun w => notGreaterSigned_any a b w ha hb)
  · exact Bin_some 77 a b 24 _ _ w (by decide) (by decide) (by kernel_rfl) Try.call24 (fun w => notGreater_any a b w ha hb)
  · exact Bin_some 78 a b 25 _ _ w (by decide) (by decide) (by kernel_rfl) Try.call25 (fun w => notLessSigned_any a b w ha hb)
  · exact Bin_some 79 a b 26 _ _ w (by decide) (by decide) (by kernel_rfl) Try.call26 (fun w => notLess_any a b w ha hb)
  · exact Bin_some 106 a b 27 _ _ w (by decide) (by decide) (by kernel_rfl) Try.call27 (fun w => sum_any a b w ha hb)
  · exact Bin_some 107 a b 28 _ _ w (by decide) (by decide) (by kernel_rfl) Try.call28 (fun w => difference_any a b w ha hb)
  · exact Bin_some 108 a b 29 _ _ w (by decide) (by decide) (by kernel_rfl) Try.call29 (fun w => product_any a b w ha hb)
  · exact Bin_some 109 a b 30 _ _ w (by decide) (by decide) (by kernel_rfl) Try.call30 (fun w => quotientSigned_any a b w ha hb)
  · exact Bin_some 110 a b 31 _ _ w (by decide) (by decide) (by kernel_rfl) Try.call31 (fun w => quotient_any a b w ha hb)
  · exact Bin_some 111 a b 32 _ _ w (by decide) (by decide) (by kernel_rfl) Try.call32 (fun w => leftOverSigned_any a b w ha hb)
  · exact Bin_some 112 a b 33 _ _ w (by decide) (by decide) (by kernel_rfl) Try.call33 (fun w => leftOver_any a b w ha hb)
  · exact Bin_some 113 a b 34 _ _ w (by decide) (by decide) (by kernel_rfl) Try.call34 (fun w => and_any a b w ha hb)
  · exact Bin_some 114 a b 35 _ _ w (by decide) (by decide) (by kernel_rfl) Try.call35 (fun w => or_any a b w ha hb)
  · exact Bin_some 115 a b 36 _ _ w (by decide) (by decide) (by kernel_rfl) Try.call36 (fun w => exclusiveOr_any a b w ha hb)
  · exact Bin_some 116 a b 37 _ _ w (by decide) (by decide) (by kernel_rfl) Try.call37 (fun w => shiftLeft_any a b w ha hb)
  · exact Bin_some 117 a b 38 _ _ w (by decide) (by decide) (by kernel_rfl) Try.call38 (fun w => shiftRightSigned_any a b w ha hb)
  · exact Bin_some 118 a b 39 _ _ w (by decide) (by decide) (by kernel_rfl) Try.call39 (fun w => shiftRight_any a b w ha hb)
  · exact Bin_some 119 a b 40 _ _ w (by decide) (by decide) (by kernel_rfl) Try.call40 (fun w => turnLeft_any a b w ha hb)
  · exact Bin_some 120 a b 41 _ _ w (by decide) (by decide) (by kernel_rfl) Try.call41 (fun w => turnRight_any a b w ha hb)
theorem tab_low (k : Nat) (h : k < 70) : tab[k]? = some .nilFunc := by
  unfold tab
  rw [Array.getElem?_append_left (by simp; omega), Array.getElem?_append_left (by simp; omega), Array.getElem?_append_left (by simp; omega), Array.getElem?_replicate, if_pos h]
theorem tab_mid (k : Nat) (h : 80 ≤ k) (h' : k < 106) : tab[k]? = some .nilFunc := by
  unfold tab
  rw [Array.getElem?_append_left (by simp; omega), Array.getElem?_append_right (by simp; omega), Array.getElem?_replicate, if_pos (by simp; omega)]
theorem Bin_no (op a b : Int) (w : World) (h : ¬ M.isBin op) :
    Calls Try.prog 8 #[.int .i64 op, .int .u32 a, .int .u32 b] w fun e w' => e = .returned (.tuple #[.int .u32 0, .int .i64 0, .int .i64 100]) ∧ Below w.heap.size w w' := by
  unfold M.isBin at h
  by_cases h1 : op < 0 ∨ 121 ≤ op
  · exact BinNo_out a b op w h1
  · by_cases h2 : op < 70
    · exact BinNo_ret a b op w (by omega) (by omega) (tab_low _ (by omega))
    · exact BinNo_ret a b op w (by omega) (by omega) (tab_mid _ (by omega) (by omega))
theorem Bin32_low (op a b : Int) (w : World) (ha : U a) (hb : U b) (v t : Int) (s : Bool) (h0 : 69 ≤ op) (h1 : op ≤ 79) (hv : U v)
    (hbin : Calls Try.prog 15 #[.int .i64 (op + 11), .int .u64 a, .int .u64 b, .int .i64 32] w fun e w' => e = .returned (.tuple #[.int .u64 v, .int .i64 t, .bool s]) ∧ w = w') :
    Calls Try.prog 9 #[.int .i64 op, .int .u32 a, .int .u32 b] w fun e w' => e = .returned (.tuple #[.int .u32 v, .int .i64 t, .bool s]) ∧ w = w' := by
  obtain ⟨a0, a1⟩ := ha
  obtain ⟨b0, b1⟩ := hb
  obtain ⟨v0, v1⟩ := hv
  replace hbin := Lib.hid hbin
  go_enter Try.func9, Try.ntmps9
  go_wp2_with (go_at_call 16; refine (wide_low _ _ h0 h1).mono ?_; rintro e w1 ⟨rfl, rfl⟩)
  refine hbin.out.mono ?_
  rintro e w1 ⟨rfl, rfl⟩
  go_wp2
  go_ret3
  exact ⟨rfl, rfl⟩
theorem Bin32_high (op a b : Int) (w : World) (ha : U a) (hb : U b) (v t : Int) (s : Bool) (h0 : 103 ≤ op) (h1 : op ≤ 120) (hv : U v)
    (hbin : Calls Try.prog 15 #[.int .i64 (op + 18), .int .u64 a, .int .u64 b, .int .i64 32] w fun e w' => e = .returned (.tuple #[.int .u64 v, .int .i64 t, .bool s]) ∧ w = w') :
    Calls Try.prog 9 #[.int .i64 op, .int .u32 a, .int .u32 b] w fun e w' => e = .returned (.tuple #[.int .u32 v, .int .i64 t, .bool s]) ∧ w = w' := by
  obtain ⟨a0, a1⟩ := ha
  obtain ⟨b0, b1⟩ := hb
  obtain ⟨v0, v1⟩ := hv
  replace hbin := Lib.hid hbin
  go_enter Try.func9, Try.ntmps9
  go_wp2_with (go_at_call 16; refine (wide_high _ _ h0 h1).mono ?_; rintro e w1 ⟨rfl, rfl⟩)
  refine hbin.out.mono ?_
  rintro e w1 ⟨rfl, rfl⟩
  go_wp2
  go_ret3
  exact ⟨rfl, rfl⟩
theorem Bin32_none (op a b : Int) (w : World) (ha : U a) (hb : U b) (h : op < 69 ∨ (79 < op ∧ op < 103) ∨ 120 < op) :
    Calls Try.prog 9 #[.int .i64 op, .int .u32 a, .int .u32 b] w fun e w' => e = .returned (.tuple #[.int .u32 0, .int .i64 0, .bool false]) ∧ w = w' := by
  have hbin := Lib.hid (bin_0 a b w ha hb)
  obtain ⟨a0, a1⟩ := ha
  obtain ⟨b0, b1⟩ := hb
  replace h := Lib.hid h
  go_enter Try.func9, Try.ntmps9
  go_wp2_with (go_at_call 16; refine (wide_none _ _ h.out).mono ?_; rintro e w1 ⟨rfl, rfl⟩)
  refine hbin.out.mono ?_
  rintro e w1 ⟨rfl, rfl⟩
  go_wp2
  go_ret3
  exact ⟨rfl, rfl⟩
theorem Bin32_yes (op a b : Int) (w : World) (ha : U a) (hb : U b) (h : M.isBin op) :
    Calls Try.prog 9 #[.int .i64 op, .int .u32 a, .int .u32 b] w fun e w' => e = .returned (.tuple #[.int .u32 (M.val op a b), .int .i64 (M.trap op a b), .bool true]) ∧ w = w' := by
  have hv : U (M.val op a b) := M.val_range op a b ha.1 ha.2 hb.1 hb.2
  rcases bin_cases op h with rfl | rfl | rfl | rfl | rfl | rfl | rfl | rfl | rfl | rfl | rfl | rfl | rfl | rfl | rfl | rfl | rfl | rfl | rfl | rfl | rfl | rfl | rfl | rfl | rfl
  · exact Bin32_low 70 a b w ha hb _ _ true (by decide) (by decide) hv (bin_81 a b w ha hb)
  · exact Bin32_low 71 a b w ha hb _ _ true (by decide) (by decide) hv (bin_82 a b w ha hb)
  · exact Bin32_low 72 a b w ha hb _ _ true (by decide) (by decide) hv (bin_83 a b w ha hb)
  · exact Bin32_low 73 a b w ha hb _ _ true (by decide) (by decide) hv (bin_84 a b w ha hb)
  · exact Bin32_low 74 a b w ha hb _ _ true (by decide) (by decide) hv (bin_85 a b w ha hb)
  · exact Bin32_low 75 a b w ha hb _ _ true (by decide) (by decide) hv (bin_86 a b w ha hb)
  · exact Bin32_low 76 a b w ha hb _ _ true (by decide) (by decide) hv (bin_87 a b w ha hb)
  · exact Bin32_low 77 a b w ha hb _ _ true (by decide) (by decide) hv (bin_88 a b w ha hb)
  · exact Bin32_low 78 a b w ha hb _ _ true (by decide) (by decide) hv (bin_89 a b w ha hb)
  · exact Bin32_low 79 a b w ha hb _ _ true (by decide) (by decide) hv (bin_90 a b w ha hb)
  · exact Bin32_high 106 a b w ha hb _ _ true (by decide) (by decide) hv (bin_124 a b w ha hb)
  · exact Bin32_high 107 a b w ha hb _ _ true (by decide) (by decide) hv (bin_125 a b w ha hb)
  · exact Bin32_high 108 a b w ha hb _ _ true (by decide) (by decide) hv (bin_126 a b w ha hb)
  · exact Bin32_high 109 a b w ha hb _ _ true (by decide) (by decide) hv (bin_127 a b w ha hb)
  · exact Bin32_high 110 a b w ha hb _ _ true (by decide) (by decide) hv (bin_128 a b w ha hb)
  · exact Bin32_high 111 a b w ha hb _ _ true (by decide) (by decide) hv (bin_129 a b w ha hb)
  · exact Bin32_high 112 a b w ha hb _ _ true (by decide) (by decide) hv (bin_130 a b w ha hb)
  · exact Bin32_high 113 a b w ha hb _ _ true (by decide) (by decide) hv (bin_131 a b w ha hb)
  · exact Bin32_high 114 a b w ha hb _ _ true (by decide) (by decide) hv (bin_132 a b w ha hb)
  · exact Bin32_high 115 a b w ha hb _ _ true (by decide) (by decide) hv (bin_133 a b w ha hb)
  · exact Bin32_high 116 a b w ha hb _ _ true (by decide) (by decide) hv (bin_134 a b w ha hb)
  · exact Bin32_high 117 a b w ha hb _ _ true (by decide) (by decide) hv (bin_135 a b w ha hb)
  · exact Bin32_high 118 a b w ha hb _ _ true (by decide) (by decide) hv (bin_136 a b w ha hb)
  · exact Bin32_high 119 a b w ha hb _ _ true (by decide) (by decide) hv (bin_137 a b w ha hb)
  · exact Bin32_high 120 a b w ha hb _ _ true (by decide) (by decide) hv (bin_138 a b w ha hb)
theorem U0 : U 0 := by unfold U; omega
theorem Bin32_no (op a b : Int) (w : World) (ha : U a) (hb : U b) (h : ¬ M.isBin op) :
    Calls Try.prog 9 #[.int .i64 op, .int .u32 a, .int .u32 b] w fun e w' => e = .returned (.tuple #[.int .u32 0, .int .i64 0, .bool false]) ∧ w = w' := by
  unfold M.isBin at h
  by_cases h1 : op < 69 ∨ (79 < op ∧ op < 103) ∨ 120 < op
  · exact Bin32_none op a b w ha hb h1
  · have h2 : op = 69 ∨ op = 103 ∨ op = 104 ∨ op = 105 := by omega
    rcases h2 with rfl | rfl | rfl | rfl
    · exact Bin32_low 69 a b w ha hb _ _ false (by decide) (by decide) U0 (bin_80 a b w ha hb)
    · exact Bin32_high 103 a b w ha hb _ _ false (by decide) (by decide) U0 (bin_121 a b w ha hb)
    · exact Bin32_high 104 a b w ha hb _ _ false (by decide) (by decide) U0 (bin_122 a b w ha hb)
    · exact Bin32_high 105 a b w ha hb _ _ false (by decide) (by decide) U0 (bin_123 a b w ha hb)
theorem num_any (n : Int) (w : World) : Calls Try.prog 10 #[.int .i64 n] w fun e w' => e = .returned (.int .i64 n) ∧ w = w' := by
  go_enter Try.func10, Try.ntmps10
  go_wp2
  go_ret
  exact ⟨rfl, rfl⟩
theorem wakes_any (w : World) : Calls Try.prog 11 #[] w fun e w' => e = .returned (.bool true) ∧ Below w.heap.size w w' := by
  have e1 : M.val 106 2 3 = 5 := by decide
  have e2 : M.trap 106 2 3 = 0 := by decide
  go_enter Try.func11, Try.ntmps11
  go_wp2_with fail
  refine (Bin_yes 106 2 3 _ (by unfold U; omega) (by unfold U; omega) (by unfold M.isBin; omega)).mono ?_
  rintro e w1 ⟨rfl, b1⟩
  replace b1 := Lib.hid b1
  go_wp2_with (go_at_call 10; refine (num_any _ _).mono ?_; rintro e w2 ⟨rfl, rfl⟩)
  go_ret
  exact ⟨rfl, b1.out⟩
end Go.Proofs.Ytpolbefcgbpmmaa
