/-
  The conversions, by their bytes: the code's and the page's answer; condition: the number is of 64 bits.
-/
import Derived.Test.YtpnimgecfmpipaaUse
namespace Go.Proofs.Ytpnimgecfmpipaa
open Go.RowKit
/-- The low 32 bits. -/
def M.lo (a : Int) : Int := a % 4294967296
/-- The low 32 bits read with a sign, as a number of 64 bits. -/
def M.lox (a : Int) : Int := if a % 4294967296 < 2147483648 then a % 4294967296 else a % 4294967296 + 18446744069414584320
def M.cval (op a : Int) : Int := if op = 172 then M.lox a else M.lo a
def M.isConv (op : Int) : Prop := op = 167 ∨ op = 172 ∨ op = 173
theorem lo_U (a : Int) : U (M.lo a) := by unfold U M.lo; omega
theorem lox_U (a : Int) : U (M.lox a) := by unfold U M.lox; split <;> omega
theorem cval_U (op a : Int) : U (M.cval op a) := by
  unfold M.cval; split
  · exact lox_U a
  · exact lo_U a
theorem lowHalf_any (a : Int) (w : World) (ha : U a) : Calls Try.prog 53 #[.int .u64 a] w fun e w' => e = .returned (.int .u64 (M.lo a)) ∧ w = w' := by
  obtain ⟨h0, h1⟩ := ha
  go_enter Try.func53, Try.ntmps53
  go_wp2
  go_ret
  exact ⟨rfl, rfl⟩
theorem lox_eq (a : Int) : IntKind.u64.wrap (wrap64 (wrap32 (a % 4294967296))) = M.lox a := by
  rw [IntKind.wrap_u64]; unfold wrap64 wrap32 M.lox; split <;> omega
theorem lowHalfSigned_any (a : Int) (w : World) (ha : U a) : Calls Try.prog 54 #[.int .u64 a] w fun e w' => e = .returned (.int .u64 (M.lox a)) ∧ w = w' := by
  obtain ⟨h0, h1⟩ := ha
  go_enter Try.func54, Try.ntmps54
  go_wp2
  go_ret
  exact ⟨ret_one (lox_eq a), rfl⟩
def zsC : Array Value := Array.replicate 174 .nilFunc
def boundC (k : Nat) (a : Int) : Value := .func (.func k) #[.int .u64 a] #[]
def tabC (a : Int) : Array Value := Array.replicate 167 .nilFunc ++ #[boundC 53 a] ++ Array.replicate 4 .nilFunc ++ #[boundC 54 a, boundC 53 a]
theorem zero_tabC (w : World) : (zeroValue 54).run Try.prog w = .ok (.agg zsC) w := by kernel_rfl
theorem tabC_info (a : Int) : (Try.prog.info? 54).map (·.size) = some (tabC a).size := by kernel_rfl
theorem tabC_under : Try.prog.underlying 54 = some (.array 174 53) := by kernel_rfl
theorem zsC_size (a : Int) : zsC.size = (tabC a).size := by kernel_rfl
theorem tabC_one (a : Int) : (tabC a).all (·.oneCell') = true := by kernel_rfl
set_option maxRecDepth 100000 in
theorem convTable_any (a : Int) (w : World) :
    Calls Try.prog 21 #[.int .u64 a] w fun e w' => e = .returned (.agg (tabC a)) ∧ Below w.heap.size w w' := by
  have hz := zero_tabC
  go_enter Try.func21, Try.ntmps21
  go_wp2_with (first | (refine wpList_buildAs rfl 54 _ rfl (tabC a) (by kernel_rfl) ?_) | (refine wpList_storeNew rfl 54 _ _ rfl zsC (tabC a) rfl rfl (tabC_info a) (zsC_size a) (tabC_one a) ?_))
  refine bodyPost_ret (results_cell_row rfl _ _ w.heap.size _ (tabC a) _ _ rfl (heap_alloc_last w _) tabC_under rfl (tabC_info a)) rfl ?_
  exact ⟨rfl, (Below.refl _ _).alloc (Nat.le_refl _) _⟩
theorem eqlC_func (f : Nat) (a : Int) (w : World) : (binOp .eql 53 (.func (.func f) #[.int .u64 a] #[]) .nilFunc).run Try.prog w = .ok (.bool false) w := by kernel_rfl
theorem eqlC_nil (w : World) : (binOp .eql 53 .nilFunc .nilFunc).run Try.prog w = .ok (.bool true) w := by kernel_rfl
/-- What the table of bound methods is, for the walks that only look into it. -/
def IsTabC (a : Int) (T : Array Value) : Prop := (∀ w, Calls Try.prog 21 #[.int .u64 a] w fun e w' => e = .returned (.agg T) ∧ Below w.heap.size w w') ∧ (Try.prog.info? 54).map (·.size) = some T.size ∧ zsC.size = T.size ∧ T.all (·.oneCell') = true
theorem isTabC (a : Int) : IsTabC a (tabC a) := ⟨convTable_any a, tabC_info a, zsC_size a, tabC_one a⟩
theorem tabC_cell (T : Array Value) (w : World) (k : Nat) : (w.alloc (.cells T 54)).cell? ⟨w.heap.size, k, none⟩ = T[k]? := cell_of_row _ _ _ _ _ _ (heap_alloc_last w _)
set_option maxRecDepth 100000 in
set_option maxHeartbeats 2000000 in
theorem Conv_some (op a : Int) (f : Nat) (v : Int) (w : World) (T : Array Value) (hI : IsTabC a T) (h0 : 0 ≤ op) (h1 : op < 174) (hf : T[op.toNat]? = some (.func (.func f) #[.int .u64 a] #[]))
    (hcall : ∀ args w, (callFunc f args).run Try.prog w = .ok (.enter f args) w)
    (hm : ∀ w, Calls Try.prog f #[.int .u64 a] w fun e w' => e = .returned (.int .u64 v) ∧ w = w') :
    Calls Try.prog 15 #[.int .i64 op, .int .u64 a] w fun e w' => e = .returned (.tuple #[.int .u64 v, .int .i64 0]) ∧ Below w.heap.size w w' := by
  have hz := zero_tabC
  obtain ⟨i1, i2, i3, i4⟩ := hI
  replace i1 := Lib.hid i1
  replace i2 := Lib.hid i2
  replace i3 := Lib.hid i3
  replace i4 := Lib.hid i4
  have he := eqlC_func f a
  replace hm := Lib.hid hm
  go_enter Try.func15, Try.ntmps15
  go_wp2_with fail
  refine (i1.out _).mono ?_
  rintro e w1 ⟨rfl, b1⟩
  have hc := (tabC_cell T w1 op.toNat).trans hf
  replace b1 := Lib.hid b1
  go_wp2_with (refine wpList_storeNew rfl 54 _ _ rfl zsC T rfl rfl i2.out i3.out i4.out ?_)
  refine (hm.out _).mono ?_
  rintro e w2 ⟨rfl, rfl⟩
  go_wp2
  go_ret2
  exact ⟨rfl, b1.out.alloc b1.out.size _⟩
set_option maxRecDepth 100000 in
set_option maxHeartbeats 2000000 in
theorem ConvNo_nil (op a : Int) (w : World) (T : Array Value) (hI : IsTabC a T) (h0 : 0 ≤ op) (h1 : op < 174) (hf : T[op.toNat]? = some .nilFunc) :
    Calls Try.prog 15 #[.int .i64 op, .int .u64 a] w fun e w' => e = .returned (.tuple #[.int .u64 0, .int .i64 100]) ∧ Below w.heap.size w w' := by
  have hz := zero_tabC
  obtain ⟨i1, i2, i3, i4⟩ := hI
  replace i1 := Lib.hid i1
  replace i2 := Lib.hid i2
  replace i3 := Lib.hid i3
  replace i4 := Lib.hid i4
  have he := eqlC_nil
  go_enter Try.func15, Try.ntmps15
  go_wp2_with fail
  refine (i1.out _).mono ?_
  rintro e w1 ⟨rfl, b1⟩
  have hc := (tabC_cell T w1 op.toNat).trans hf
  replace b1 := Lib.hid b1
  go_wp2_with (refine wpList_storeNew rfl 54 _ _ rfl zsC T rfl rfl i2.out i3.out i4.out ?_)
  go_ret2
  exact ⟨rfl, b1.out.alloc b1.out.size _⟩
set_option maxRecDepth 100000 in
set_option maxHeartbeats 2000000 in
theorem ConvNo_out (op a : Int) (w : World) (T : Array Value) (hI : IsTabC a T) (h : op < 0 ∨ 174 ≤ op) :
    Calls Try.prog 15 #[.int .i64 op, .int .u64 a] w fun e w' => e = .returned (.tuple #[.int .u64 0, .int .i64 100]) ∧ Below w.heap.size w w' := by
  have hz := zero_tabC
  obtain ⟨i1, i2, i3, i4⟩ := hI
  replace i1 := Lib.hid i1
  replace i2 := Lib.hid i2
  replace i3 := Lib.hid i3
  replace i4 := Lib.hid i4
  rcases h with h | h
  all_goals
    go_enter Try.func15, Try.ntmps15
    go_wp2_with fail
    refine (i1.out _).mono ?_
    rintro e w1 ⟨rfl, b1⟩
    replace b1 := Lib.hid b1
    go_wp2_with (refine wpList_storeNew rfl 54 _ _ rfl zsC T rfl rfl i2.out i3.out i4.out ?_)
    go_ret2
    exact ⟨rfl, b1.out.alloc b1.out.size _⟩
theorem tabC_low (a : Int) (k : Nat) (h : k < 167) : (tabC a)[k]? = some .nilFunc := by
  unfold tabC
  rw [Array.getElem?_append_left (by simp; omega), Array.getElem?_append_left (by simp; omega), Array.getElem?_append_left (by simp; omega), Array.getElem?_replicate, if_pos h]
theorem tabC_mid (a : Int) (k : Nat) (h : 168 ≤ k) (h' : k < 172) : (tabC a)[k]? = some .nilFunc := by
  unfold tabC
  rw [Array.getElem?_append_left (by simp; omega), Array.getElem?_append_right (by simp; omega), Array.getElem?_replicate, if_pos (by simp; omega)]
theorem Conv_yes (op a : Int) (w : World) (ha : U a) (h : M.isConv op) :
    Calls Try.prog 15 #[.int .i64 op, .int .u64 a] w fun e w' => e = .returned (.tuple #[.int .u64 (M.cval op a), .int .i64 0]) ∧ Below w.heap.size w w' := by
  rcases h with rfl | rfl | rfl
  · exact Conv_some 167 a 53 (M.lo a) w _ (isTabC a) (by decide) (by decide) (by kernel_rfl) Try.call53 (fun w => lowHalf_any a w ha)
  · exact Conv_some 172 a 54 (M.lox a) w _ (isTabC a) (by decide) (by decide) (by kernel_rfl) Try.call54 (fun w => lowHalfSigned_any a w ha)
  · exact Conv_some 173 a 53 (M.lo a) w _ (isTabC a) (by decide) (by decide) (by kernel_rfl) Try.call53 (fun w => lowHalf_any a w ha)
theorem Conv_no (op a : Int) (w : World) (h : ¬ M.isConv op) :
    Calls Try.prog 15 #[.int .i64 op, .int .u64 a] w fun e w' => e = .returned (.tuple #[.int .u64 0, .int .i64 100]) ∧ Below w.heap.size w w' := by
  unfold M.isConv at h
  by_cases h1 : op < 0 ∨ 174 ≤ op
  · exact ConvNo_out op a w _ (isTabC a) h1
  · by_cases h2 : op < 167
    · exact ConvNo_nil op a w _ (isTabC a) (by omega) (by omega) (tabC_low a _ (by omega))
    · exact ConvNo_nil op a w _ (isTabC a) (by omega) (by omega) (tabC_mid a _ (by omega) (by omega))
theorem and32w (b : Int) (h0 : 0 ≤ b) (h1 : b < 18446744073709551616) : bits .and .u64 b 4294967295 = M.lo b := by
  rw [u64_and b 4294967295 h0 (by omega) (by omega) (by omega), show (4294967295 : Int).toNat = 2 ^ 32 - 1 by rfl, Nat.and_two_pow_sub_one_eq_mod]
  unfold M.lo
  omega
theorem RConv_yes (op a : Int) (w : World) (ha : U a) (h : M.isConv op) :
    Calls Try.prog 16 #[.int .i64 op, .int .u64 a] w fun e w' => e = .returned (.tuple #[.int .u64 (M.cval op a), .bool true]) ∧ w = w' := by
  have hl := and32w a ha.1 (by have := ha.2; omega)
  have hx := Lib.hid (lox_eq a)
  rcases h with rfl | rfl | rfl
  · go_enter Try.func16, Try.ntmps16
    go_wp2
    go_ret2
    exact ⟨rfl, rfl⟩
  · go_enter Try.func16, Try.ntmps16
    go_wp2
    go_ret2
    exact ⟨congrArg (fun x => Ending.returned (.tuple #[.int .u64 x, .bool true])) hx.out, rfl⟩
  · go_enter Try.func16, Try.ntmps16
    go_wp2
    go_ret2
    exact ⟨rfl, rfl⟩
theorem RConv_no (op a : Int) (w : World) (h : ¬ M.isConv op) :
    Calls Try.prog 16 #[.int .i64 op, .int .u64 a] w fun e w' => e = .returned (.tuple #[.int .u64 0, .bool false]) ∧ w = w' := by
  unfold M.isConv at h
  have n1 : op ≠ 167 := by omega
  have n2 : op ≠ 172 := by omega
  have n3 : op ≠ 173 := by omega
  clear h
  go_enter Try.func16, Try.ntmps16
  go_wp2
  go_ret2
  exact ⟨rfl, rfl⟩
end Go.Proofs.Ytpnimgecfmpipaa
