/-
  The operations of one number, by their bytes: the code's answer; conditions: the number is of 64 bits, and the library's table reads as it is laid.
-/
import Derived.Test.YtpnimgecfmpipaaDoorPop
import Derived.Test.YtpnimgecfmpipaaDoorMeth
namespace Go.Proofs.YtpnimgecfmpipaaDoor
open Go.RowKit
def UPost (v : Int) (w : World) (e : Ending) (w' : World) : Prop := e = .returned (.int .u64 v) ∧ Below w.heap.size w w'
theorem isZero_any (a : Int) (w : World) : Calls Tryd.prog 15 #[.int .u64 a] w (UPost (M.fl (decide (a = 0))) w) := by
  go_enter Tryd.func15, Tryd.ntmps15
  go_wp2_with (go_at_call 49; refine (truth_any _ _).mono ?_; rintro e w2 ⟨rfl, rfl⟩)
  go_ret
  exact ⟨by first | rfl | exact ret_one (congrArg M.fl (by simp [beq_eq_decide])), Below.refl _ _⟩
theorem highZeros_any (a : Int) (h : Nat) (w : World) (ha : U a) (H : M.LZ a.toNat h) : Calls Tryd.prog 16 #[.int .u64 a] w (UPost h w) := by
  have hl := M.LZ_le H
  replace H := Lib.hid H
  go_enter Tryd.func16, Tryd.ntmps16
  go_wp2_with (go_at_call 50; refine (lead_any _ h _ ha H.out).mono ?_; rintro e w2 ⟨rfl, rfl⟩)
  go_ret
  exact ⟨rfl, Below.refl _ _⟩
theorem lowZeros_any (a : Int) (t : Nat) (w : World) (ha : U a) (H : M.TZ a.toNat t) (hT : Tb w) : Calls Tryd.prog 17 #[.int .u64 a] w (UPost t w) := by
  have hl := M.TZ_le H
  replace H := Lib.hid H
  replace hT := Lib.hid hT
  go_enter Tryd.func17, Tryd.ntmps17
  go_wp2_with (go_at_call 51; refine (trail_any _ t _ ha H.out hT.out).mono ?_; rintro e w2 ⟨rfl, rfl⟩)
  go_ret
  exact ⟨rfl, Below.refl _ _⟩
theorem ones_any (a : Int) (w : World) (ha : U a) : Calls Tryd.prog 18 #[.int .u64 a] w (UPost ((M.onesTo a.toNat 64 : Nat) : Int) w) := by
  have hl := M.ones_le a.toNat 64
  go_enter Tryd.func18, Tryd.ntmps18
  go_wp2_with fail
  refine (pop_any _ _ ha).mono ?_
  rintro e w2 ⟨rfl, rfl⟩
  go_wp2
  go_ret
  exact ⟨rfl, Below.refl _ _⟩
def zsU : Array Value := Array.replicate 124 .nilFunc
def bound (k : Nat) (a : Int) : Value := .func (.func k) #[.int .u64 a] #[]
def tabU (a : Int) : Array Value := Array.replicate 80 .nilFunc ++ #[bound 15 a] ++ Array.replicate 40 .nilFunc ++ #[bound 16 a, bound 17 a, bound 18 a]
theorem zero_tabU (w : World) : (zeroValue 39).run Tryd.prog w = .ok (.agg zsU) w := by kernel_rfl
theorem tabU_info (a : Int) : (Tryd.prog.info? 39).map (·.size) = some (tabU a).size := by kernel_rfl
theorem tabU_under : Tryd.prog.underlying 39 = some (.array 124 38) := by kernel_rfl
theorem zsU_size (a : Int) : zsU.size = (tabU a).size := by kernel_rfl
theorem tabU_one (a : Int) : (tabU a).all (·.oneCell') = true := by kernel_rfl
set_option maxRecDepth 100000 in
theorem singleTable_any (a : Int) (w : World) :
    Calls Tryd.prog 11 #[.int .u64 a] w fun e w' => e = .returned (.agg (tabU a)) ∧ Below w.heap.size w w' := by
  have hz := zero_tabU
  go_enter Tryd.func11, Tryd.ntmps11
  go_wp2_with (first | (refine wpList_buildAs rfl 39 _ rfl (tabU a) (by kernel_rfl) ?_) | (refine wpList_storeNew rfl 39 _ _ rfl zsU (tabU a) rfl rfl (tabU_info a) (zsU_size a) (tabU_one a) ?_))
  refine bodyPost_ret (results_cell_row rfl _ _ w.heap.size _ (tabU a) _ _ rfl (heap_alloc_last w _) tabU_under rfl (tabU_info a)) rfl ?_
  exact ⟨rfl, (Below.refl _ _).alloc (Nat.le_refl _) _⟩
theorem eqlU_func (f : Nat) (a : Int) (w : World) : (binOp .eql 38 (.func (.func f) #[.int .u64 a] #[]) .nilFunc).run Tryd.prog w = .ok (.bool false) w := by kernel_rfl
theorem eqlU_nil (w : World) : (binOp .eql 38 .nilFunc .nilFunc).run Tryd.prog w = .ok (.bool true) w := by kernel_rfl
/-- What a table of bound methods is, for the walks that only look into it. -/
def IsTab (a : Int) (T : Array Value) : Prop := (∀ w, Calls Tryd.prog 11 #[.int .u64 a] w fun e w' => e = .returned (.agg T) ∧ Below w.heap.size w w') ∧ (Tryd.prog.info? 39).map (·.size) = some T.size ∧ zsU.size = T.size ∧ T.all (·.oneCell') = true
theorem isTab (a : Int) : IsTab a (tabU a) := ⟨singleTable_any a, tabU_info a, zsU_size a, tabU_one a⟩
theorem tabU_cell (T : Array Value) (w : World) (k : Nat) : (w.alloc (.cells T 39)).cell? ⟨w.heap.size, k, none⟩ = T[k]? := cell_of_row _ _ _ _ _ _ (heap_alloc_last w _)
set_option maxRecDepth 100000 in
set_option maxHeartbeats 2000000 in
theorem Un_some (op a : Int) (f : Nat) (v : Int) (w : World) (hT : Tb w) (T : Array Value) (hI : IsTab a T) (h0 : 0 ≤ op) (h1 : op < 124) (hf : T[op.toNat]? = some (.func (.func f) #[.int .u64 a] #[]))
    (hcall : ∀ args w, (callFunc f args).run Tryd.prog w = .ok (.enter f args) w)
    (hm : ∀ w, Tb w → Calls Tryd.prog f #[.int .u64 a] w (UPost v w)) :
    Calls Tryd.prog 5 #[.int .i64 op, .int .u64 a] w fun e w' => e = .returned (.tuple #[.int .u64 v, .int .i64 0]) ∧ Below w.heap.size w w' := by
  have hz := zero_tabU
  obtain ⟨i1, i2, i3, i4⟩ := hI
  replace i1 := Lib.hid i1
  replace i2 := Lib.hid i2
  replace i3 := Lib.hid i3
  replace i4 := Lib.hid i4
  have he := eqlU_func f a
  replace hm := Lib.hid hm
  replace hT := Lib.hid hT
  go_enter Tryd.func5, Tryd.ntmps5
  go_wp2_with fail
  refine (i1.out _).mono ?_
  rintro e w1 ⟨rfl, b1⟩
  have hc := (tabU_cell T w1 op.toNat).trans hf
  replace b1 := Lib.hid b1
  go_wp2_with (refine wpList_storeNew rfl 39 _ _ rfl zsU T rfl rfl i2.out i3.out i4.out ?_)
  refine (hm.out _ (hT.out.later (b1.out.alloc b1.out.size _))).mono ?_
  rintro e w2 ⟨rfl, b2⟩
  have b3 : Below w.heap.size w w2 := (b1.out.alloc b1.out.size _).trans (b2.mono (by have := b1.out.size; simp; omega))
  replace b3 := Lib.hid b3
  clear b2
  go_wp2
  go_ret2
  exact ⟨rfl, b3.out⟩
set_option maxRecDepth 100000 in
set_option maxHeartbeats 2000000 in
theorem UnNo_nil (op a : Int) (w : World) (T : Array Value) (hI : IsTab a T) (h0 : 0 ≤ op) (h1 : op < 124) (hf : T[op.toNat]? = some .nilFunc) :
    Calls Tryd.prog 5 #[.int .i64 op, .int .u64 a] w fun e w' => e = .returned (.tuple #[.int .u64 0, .int .i64 100]) ∧ Below w.heap.size w w' := by
  have hz := zero_tabU
  obtain ⟨i1, i2, i3, i4⟩ := hI
  replace i1 := Lib.hid i1
  replace i2 := Lib.hid i2
  replace i3 := Lib.hid i3
  replace i4 := Lib.hid i4
  have he := eqlU_nil
  go_enter Tryd.func5, Tryd.ntmps5
  go_wp2_with fail
  refine (i1.out _).mono ?_
  rintro e w1 ⟨rfl, b1⟩
  have hc := (tabU_cell T w1 op.toNat).trans hf
  replace b1 := Lib.hid b1
  go_wp2_with (refine wpList_storeNew rfl 39 _ _ rfl zsU T rfl rfl i2.out i3.out i4.out ?_)
  go_ret2
  exact ⟨rfl, b1.out.alloc b1.out.size _⟩
set_option maxRecDepth 100000 in
set_option maxHeartbeats 2000000 in
theorem UnNo_out (op a : Int) (w : World) (T : Array Value) (hI : IsTab a T) (h : op < 0 ∨ 124 ≤ op) :
    Calls Tryd.prog 5 #[.int .i64 op, .int .u64 a] w fun e w' => e = .returned (.tuple #[.int .u64 0, .int .i64 100]) ∧ Below w.heap.size w w' := by
  have hz := zero_tabU
  obtain ⟨i1, i2, i3, i4⟩ := hI
  replace i1 := Lib.hid i1
  replace i2 := Lib.hid i2
  replace i3 := Lib.hid i3
  replace i4 := Lib.hid i4
  rcases h with h | h
  all_goals
    go_enter Tryd.func5, Tryd.ntmps5
    go_wp2_with fail
    refine (i1.out _).mono ?_
    rintro e w1 ⟨rfl, b1⟩
    replace b1 := Lib.hid b1
    go_wp2_with (refine wpList_storeNew rfl 39 _ _ rfl zsU T rfl rfl i2.out i3.out i4.out ?_)
    go_ret2
    exact ⟨rfl, b1.out.alloc b1.out.size _⟩
theorem tabU_low (a : Int) (k : Nat) (h : k < 80) : (tabU a)[k]? = some .nilFunc := by
  unfold tabU
  rw [Array.getElem?_append_left (by simp; omega), Array.getElem?_append_left (by simp; omega), Array.getElem?_append_left (by simp; omega), Array.getElem?_replicate, if_pos h]
theorem tabU_mid (a : Int) (k : Nat) (h : 81 ≤ k) (h' : k < 121) : (tabU a)[k]? = some .nilFunc := by
  unfold tabU
  rw [Array.getElem?_append_left (by simp; omega), Array.getElem?_append_right (by simp; omega), Array.getElem?_replicate, if_pos (by simp; omega)]
theorem Un_yes (op a : Int) (w : World) (ha : U a) (hT : Tb w) (h : M.isUn op) :
    Calls Tryd.prog 5 #[.int .i64 op, .int .u64 a] w fun e w' => e = .returned (.tuple #[.int .u64 (M.uval op a), .int .i64 0]) ∧ Below w.heap.size w w' := by
  rcases h with rfl | rfl | rfl | rfl
  · rw [show M.uval 80 a = M.fl (decide (a = 0)) by simp [M.uval]]
    exact Un_some 80 a 15 _ w hT _ (isTab a) (by decide) (by decide) (by kernel_rfl) Tryd.call15 (fun w _ => isZero_any a w)
  · obtain ⟨h, H, e⟩ := lz_ex a ha
    rw [show M.uval 121 a = (h : Int) by simp [M.uval, e]]
    exact Un_some 121 a 16 _ w hT _ (isTab a) (by decide) (by decide) (by kernel_rfl) Tryd.call16 (fun w _ => highZeros_any a h w ha H)
  · obtain ⟨h, H, e⟩ := tz_ex a ha
    rw [show M.uval 122 a = (h : Int) by simp [M.uval, e]]
    exact Un_some 122 a 17 _ w hT _ (isTab a) (by decide) (by decide) (by kernel_rfl) Tryd.call17 (fun w hw => lowZeros_any a h w ha H hw)
  · rw [show M.uval 123 a = ((M.onesTo a.toNat 64 : Nat) : Int) by simp [M.uval]]
    exact Un_some 123 a 18 _ w hT _ (isTab a) (by decide) (by decide) (by kernel_rfl) Tryd.call18 (fun w _ => ones_any a w ha)
theorem Un_no (op a : Int) (w : World) (h : ¬ M.isUn op) :
    Calls Tryd.prog 5 #[.int .i64 op, .int .u64 a] w fun e w' => e = .returned (.tuple #[.int .u64 0, .int .i64 100]) ∧ Below w.heap.size w w' := by
  unfold M.isUn at h
  by_cases h1 : op < 0 ∨ 124 ≤ op
  · exact UnNo_out op a w _ (isTab a) h1
  · by_cases h2 : op < 80
    · exact UnNo_nil op a w _ (isTab a) (by omega) (by omega) (tabU_low a _ (by omega))
    · exact UnNo_nil op a w _ (isTab a) (by omega) (by omega) (tabU_mid a _ (by omega) (by omega))
end Go.Proofs.YtpnimgecfmpipaaDoor
