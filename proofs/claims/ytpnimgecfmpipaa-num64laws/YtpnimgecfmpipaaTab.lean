/-
  The table of operations with two numbers, as its function makes it; no condition.
-/
import Derived.Test.YtpnimgecfmpipaaChecked
import Derived.WalkKit
import Derived.Deep.RegionHeld3
import Derived.Deep.QuietTactic
import Derived.Deep.WholeRow
import Derived.BigQuiet
import Derived.Outline
import Derived.WalkSmall
import Derived.Lib.Hide
import Derived.Lib.BitFns
import Derived.Laws.EntriesVeiled
namespace Go.Proofs.Ytpnimgecfmpipaa
open Go.RowKit
def zs : Array Value := Array.replicate 139 .nilFunc
def fn (k : Nat) : Value := .func (.func k) #[] #[]
def tab : Array Value := Array.replicate 81 .nilFunc ++ #[fn 23, fn 24, fn 25, fn 26, fn 27, fn 28, fn 29, fn 30, fn 31, fn 32] ++ Array.replicate 33 .nilFunc ++ #[fn 33, fn 34, fn 35, fn 36, fn 37, fn 38, fn 39, fn 40, fn 41, fn 42, fn 43, fn 44, fn 45, fn 46, fn 47]
theorem zero_tab (w : World) : (zeroValue 47).run Try.prog w = .ok (.agg zs) w := by kernel_rfl
theorem tab_info : (Try.prog.info? 47).map (·.size) = some tab.size := by kernel_rfl
theorem tab_under : Try.prog.underlying 47 = some (.array 139 46) := by kernel_rfl
theorem tab_size : tab.size = 139 := by kernel_rfl
theorem zs_size : zs.size = tab.size := by kernel_rfl
theorem tab_one : tab.all (·.oneCell') = true := by kernel_rfl
theorem wpList_buildAs {P : Program} {ops : Array Oper} {rest : List Oper} {o : Oper} {a : Act} {w : World} {Q : Exit → Act → World → Prop} (hg : o.guard = none) (t : TypeId) (parts : Array (Nat × Operand)) (ho : o.op = .build t parts) (cells : Array Value)
    (hc : P.built t (parts.map fun (i, x) => (i, a.eval x)).toList = some cells)
    (h : wpList P ops Q rest (a.put o.dst (.agg cells)) w) : wpList P ops Q (o :: rest) a w :=
  wpList_build hg t parts ho (by rw [hc]; rfl) (by rw [hc]; exact h)
theorem wpList_storeNew {P : Program} {ops : Array Oper} {rest : List Oper} {o : Oper} {a : Act} {w : World} {Q : Exit → Act → World → Prop} (hgd : o.guard = none) (ty : TypeId) (x y : Operand) (ho : o.op = .store ty x y)
    (c c' : Array Value) (hx : a.eval x = .pointer (some ⟨w.heap.size, 0, none⟩)) (hy : a.eval y = .agg c') (hi : (P.info? ty).map (·.size) = some c'.size)
    (hold : c.size = c'.size) (h1 : c'.all (·.oneCell') = true)
    (h : wpList P ops Q rest (a.put o.dst undef) (w.alloc (.cells c' ty))) : wpList P ops Q (o :: rest) a (w.alloc (.cells c ty)) :=
  wpList_store_row hgd ty x y ho w.heap.size c' hx hy ty c (heap_alloc_last w _) hi hold h1 (by rw [World.setRow_alloc_new]; exact h)
set_option maxRecDepth 100000 in
theorem pairTable_any (w : World) :
    Calls Try.prog 19 #[] w fun e w' => e = .returned (.agg tab) ∧ Below w.heap.size w w' := by
  have hz := zero_tab
  go_enter Try.func19, Try.ntmps19
  go_wp2_with (first | (refine wpList_buildAs rfl 47 _ rfl tab (by kernel_rfl) ?_) | (refine wpList_storeNew rfl 47 _ _ rfl zs tab rfl rfl tab_info zs_size tab_one ?_))
  refine bodyPost_ret (results_cell_row rfl _ _ w.heap.size _ tab _ _ rfl (heap_alloc_last w _) tab_under rfl tab_info) rfl ?_
  exact ⟨rfl, (Below.refl _ _).alloc (Nat.le_refl _) _⟩
theorem eql_func (f : Nat) (w : World) : (binOp .eql 46 (.func (.func f) #[] #[]) .nilFunc).run Try.prog w = .ok (.bool false) w := by kernel_rfl
theorem eql_nil (w : World) : (binOp .eql 46 .nilFunc .nilFunc).run Try.prog w = .ok (.bool true) w := by kernel_rfl
/-- The cell of the new table. -/
theorem tab_cell (w : World) (k : Nat) : (w.alloc (.cells tab 47)).cell? ⟨w.heap.size, k, none⟩ = tab[k]? := cell_of_row _ _ _ _ _ _ (heap_alloc_last w _)
set_option maxRecDepth 100000 in
set_option maxHeartbeats 2000000 in
theorem Bin_some (op a b : Int) (f : Nat) (v t : Int) (w : World) (h0 : 0 ≤ op) (h1 : op < 139) (hf : tab[op.toNat]? = some (.func (.func f) #[] #[]))
    (hcall : ∀ args w, (callFunc f args).run Try.prog w = .ok (.enter f args) w)
    (hm : ∀ w, Calls Try.prog f #[.agg #[.int .u64 a, .int .u64 b]] w fun e w' => e = .returned (.tuple #[.int .u64 v, .int .i64 t]) ∧ Below w.heap.size w w') :
    Calls Try.prog 10 #[.int .i64 op, .int .u64 a, .int .u64 b] w fun e w' => e = .returned (.tuple #[.int .u64 v, .int .i64 t, .int .i64 0]) ∧ Below w.heap.size w w' := by
  have hz := zero_tab
  have he := eql_func f
  replace hm := Lib.hid hm
  go_enter Try.func10, Try.ntmps10
  go_wp2_with fail
  refine (pairTable_any _).mono ?_
  rintro e w1 ⟨rfl, b1⟩
  have hc := (tab_cell w1 op.toNat).trans hf
  replace b1 := Lib.hid b1
  go_wp2_with (refine wpList_storeNew rfl 47 _ _ rfl zs tab rfl rfl tab_info zs_size tab_one ?_)
  refine (hm.out _).mono ?_
  rintro e w2 ⟨rfl, b2⟩
  have b3 : Below w.heap.size w w2 := (b1.out.alloc b1.out.size _).trans (b2.mono (by have := b1.out.size; simp; omega))
  replace b3 := Lib.hid b3
  clear b2
  go_wp2
  go_ret3
  exact ⟨rfl, b3.out⟩
set_option maxRecDepth 100000 in
set_option maxHeartbeats 2000000 in
theorem BinNo_ret (a b op : Int) (w : World) (h0 : 0 ≤ op) (h1 : op < 139) (hf : tab[op.toNat]? = some .nilFunc) :
    Calls Try.prog 10 #[.int .i64 op, .int .u64 a, .int .u64 b] w fun e w' => e = .returned (.tuple #[.int .u64 0, .int .i64 0, .int .i64 100]) ∧ Below w.heap.size w w' := by
  have hz := zero_tab
  have he := eql_nil
  go_enter Try.func10, Try.ntmps10
  go_wp2_with fail
  refine (pairTable_any _).mono ?_
  rintro e w1 ⟨rfl, b1⟩
  have hc := (tab_cell w1 op.toNat).trans hf
  replace b1 := Lib.hid b1
  go_wp2_with (refine wpList_storeNew rfl 47 _ _ rfl zs tab rfl rfl tab_info zs_size tab_one ?_)
  go_ret3
  exact ⟨rfl, b1.out.alloc b1.out.size _⟩
set_option maxRecDepth 100000 in
set_option maxHeartbeats 2000000 in
theorem BinNo_out (a b op : Int) (w : World) (h : op < 0 ∨ 139 ≤ op) :
    Calls Try.prog 10 #[.int .i64 op, .int .u64 a, .int .u64 b] w fun e w' => e = .returned (.tuple #[.int .u64 0, .int .i64 0, .int .i64 100]) ∧ Below w.heap.size w w' := by
  have hz := zero_tab
  rcases h with h | h
  all_goals
    go_enter Try.func10, Try.ntmps10
    go_wp2_with fail
    refine (pairTable_any _).mono ?_
    rintro e w1 ⟨rfl, b1⟩
    replace b1 := Lib.hid b1
    go_wp2_with (refine wpList_storeNew rfl 47 _ _ rfl zs tab rfl rfl tab_info zs_size tab_one ?_)
    go_ret3
    exact ⟨rfl, b1.out.alloc b1.out.size _⟩
end Go.Proofs.Ytpnimgecfmpipaa
