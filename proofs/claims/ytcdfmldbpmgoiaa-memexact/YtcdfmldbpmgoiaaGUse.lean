/-
  A memory's face that reads and writes numbers: Load and Store, whatever is asked; condition: the memory was made by the call.
-/
import Derived.Test.YtcdfmldbpmgoiaaGStore
namespace Go.Proofs.Ytcdfmldbpmgoiaa
open Go.RowKit
/-- May a number of n bytes be asked for there? -/
def M.form (a o n : Int) : Bool := decide ((n = 1 ∨ n = 2 ∨ n = 4 ∨ n = 8) ∧ (0 ≤ a ∧ a < 4294967296) ∧ (0 ≤ o ∧ o < 4294967296))
/-- What Load tells: the number, and why not. -/
def M.ld (bs : List Nat) (a o n : Int) : Nat × Int :=
  if M.form a o n then (if a + o + n ≤ bs.length then (M.le bs n.toNat (a + o).toNat, 0) else (0, 21)) else (0, 100)
/-- What Store leaves, and why not. -/
def M.st (bs : List Nat) (a o n : Int) (x : Nat) : List Nat × Int :=
  if M.form a o n then (if a + o + n ≤ bs.length then (M.put n.toNat bs (a + o).toNat x, 0) else (bs, 21)) else (bs, 100)
def reachAns (len a o n : Int) : Int := if (0 ≤ a ∧ a < 4294967296) ∧ (0 ≤ o ∧ o < 4294967296) then (if a + o + n ≤ len then 0 else 21) else 100
theorem reach_any (T : Nat) (w : World) (B g : Nat) (v : Value) (bs : List Nat) (most a o n r : Int) (h : MAt T w B g v bs most) (ha : Rg a) (ho : Rg o) (hn : 0 ≤ n ∧ n ≤ 8) (hr : r = reachAns bs.length a o n) :
    Calls Try.prog 28 #[Mp g, .int .i64 a, .int .i64 o, .int .i64 n] w fun e w' => e = .returned (.int .i64 r) ∧ w' = w := by
  have hl := h.len
  unfold reachAns at hr
  replace h := Lib.hid h
  by_cases pa : 0 ≤ a ∧ a < 4294967296
  · by_cases po : 0 ≤ o ∧ o < 4294967296
    · rw [if_pos ⟨pa, po⟩] at hr
      replace hr := Lib.hid hr
      go_enter Try.func28, Try.ntmps28
      go_wp2_with fail
      refine (isPlace_any _ _ true (by simpa using pa)).mono ?_
      rintro e1 w1 ⟨rfl, rfl⟩
      go_wp2_with fail
      refine (isPlace_any _ _ true (by simpa using po)).mono ?_
      rintro e1 w1 ⟨rfl, rfl⟩
      by_cases pl : a + o + n ≤ bs.length
      · go_wp2_with fail
        refine (has_any T _ B g v bs most _ _ true h.out (by omega) (by omega) (by simp; omega)).mono ?_
        rintro e1 w1 ⟨rfl, rfl⟩
        go_wp2_with fail
        go_ret
        exact ⟨ret_int (by rw [hr.out, if_pos pl]), rfl⟩
      · go_wp2_with fail
        refine (has_any T _ B g v bs most _ _ false h.out (by omega) (by omega) (by simp; omega)).mono ?_
        rintro e1 w1 ⟨rfl, rfl⟩
        go_wp2_with fail
        go_ret
        exact ⟨ret_int (by rw [hr.out, if_neg (by omega)]), rfl⟩
    · rw [if_neg (fun q => po q.2)] at hr
      go_enter Try.func28, Try.ntmps28
      go_wp2_with fail
      refine (isPlace_any _ _ true (by simpa using pa)).mono ?_
      rintro e1 w1 ⟨rfl, rfl⟩
      go_wp2_with fail
      refine (isPlace_any _ _ false (by simpa using po)).mono ?_
      rintro e1 w1 ⟨rfl, rfl⟩
      go_wp2_with fail
      go_ret
      exact ⟨ret_int (by omega), rfl⟩
  · rw [if_neg (fun q => pa q.1)] at hr
    go_enter Try.func28, Try.ntmps28
    go_wp2_with fail
    refine (isPlace_any _ _ false (by simpa using pa)).mono ?_
    rintro e1 w1 ⟨rfl, rfl⟩
    go_wp2_with fail
    go_ret
    exact ⟨ret_int (by omega), rfl⟩
def ldFn (g : Nat) (n : Int) : Value := if n = 1 then .func (.func 31) #[Mp g] #[] else if n = 2 then .func (.func 32) #[Mp g] #[] else if n = 4 then .func (.func 33) #[Mp g] #[] else if n = 8 then .func (.func 34) #[Mp g] #[] else .nilFunc
theorem loader_any (g : Nat) (n : Int) (w : World) :
    Calls Try.prog 27 #[Mp g, .int .i64 n] w fun e w' => e = .returned (ldFn g n) ∧ w' = w := by
  obtain ⟨r, hr⟩ : ∃ r, r = ldFn g n := ⟨_, rfl⟩
  rw [← hr]
  unfold ldFn at hr
  replace hr := Lib.hid hr
  go_enter Try.func27, Try.ntmps27
  go_wp2_with fail
  all_goals
    go_ret
    refine ⟨?_, rfl⟩
    rw [hr.out]
    simp_all
def stFn (g : Nat) (n : Int) : Value := if n = 1 then .func (.func 36) #[Mp g] #[] else if n = 2 then .func (.func 37) #[Mp g] #[] else if n = 4 then .func (.func 38) #[Mp g] #[] else if n = 8 then .func (.func 39) #[Mp g] #[] else .nilFunc
theorem storer_any (g : Nat) (n : Int) (w : World) :
    Calls Try.prog 30 #[Mp g, .int .i64 n] w fun e w' => e = .returned (stFn g n) ∧ w' = w := by
  obtain ⟨r, hr⟩ : ∃ r, r = stFn g n := ⟨_, rfl⟩
  rw [← hr]
  unfold stFn at hr
  replace hr := Lib.hid hr
  go_enter Try.func30, Try.ntmps30
  go_wp2_with fail
  all_goals
    go_ret
    refine ⟨?_, rfl⟩
    rw [hr.out]
    simp_all
theorem eqlL_func (f g : Nat) (w : World) : (binOp .eql 64 (.func (.func f) #[Mp g] #[]) .nilFunc).run Try.prog w = .ok (.bool false) w := by kernel_rfl
theorem eqlL_nil (w : World) : (binOp .eql 64 .nilFunc .nilFunc).run Try.prog w = .ok (.bool true) w := by kernel_rfl
theorem eqlS_func (f g : Nat) (w : World) : (binOp .eql 67 (.func (.func f) #[Mp g] #[]) .nilFunc).run Try.prog w = .ok (.bool false) w := by kernel_rfl
theorem eqlS_nil (w : World) : (binOp .eql 67 .nilFunc .nilFunc).run Try.prog w = .ok (.bool true) w := by kernel_rfl
theorem tup2 {k l : IntKind} {a b c d : Int} (h : a = b) (h2 : c = d) : Ending.returned (.tuple #[.int k a, .int l c]) = Ending.returned (.tuple #[.int k b, .int l d]) := by rw [h, h2]
set_option maxRecDepth 100000 in
theorem Load1_any (T : Nat) (w : World) (B g : Nat) (v : Value) (bs : List Nat) (most a o : Int) (x : Nat) (c : Int) (h : MAt T w B g v bs most) (ha : Rg a) (ho : Rg o) (hxc : (x, c) = M.ld bs a o 1) :
    Calls Try.prog 13 #[Mp g, .int .i64 a, .int .i64 o, .int .i64 1] w fun e w' => e = .returned (.tuple #[.int .u64 x, .int .i64 c]) ∧ w' = w := by
  have hl := h.len
  have hq := eqlL_func
  replace h := Lib.hid h
  unfold M.ld M.form at hxc
  have hld : ldFn g 1 = .func (.func 31) #[Mp g] #[] := rfl
  by_cases pf : (0 ≤ a ∧ a < 4294967296) ∧ (0 ≤ o ∧ o < 4294967296)
  · rw [if_pos (by simpa using pf)] at hxc
    by_cases pl : a + o + 1 ≤ bs.length
    · rw [if_pos pl] at hxc
      injection hxc with hx hc
      have hx2 := Lib.hid hx
      clear hx
      go_enter Try.func13, Try.ntmps13
      go_wp2_with fail
      refine (loader_any _ _ _).mono ?_
      rintro e1 w1 ⟨rfl, rfl⟩
      go_wp2_with fail
      refine (reach_any T _ B g v bs most _ _ _ 0 h.out ha ho (by omega) (by unfold reachAns; rw [if_pos pf, if_pos pl])).mono ?_
      rintro e1 w1 ⟨rfl, rfl⟩
      go_wp2_with fail
      refine (load1_any T _ B g v bs most (a + o).toNat _ x (by omega) h.out (by omega) hx2.out).mono ?_
      rintro e1 w1 ⟨rfl, rfl⟩
      go_wp2_with fail
      go_ret2
      exact ⟨tup2 rfl (by omega), rfl⟩
    · rw [if_neg pl] at hxc
      injection hxc with hx hc
      go_enter Try.func13, Try.ntmps13
      go_wp2_with fail
      refine (loader_any _ _ _).mono ?_
      rintro e1 w1 ⟨rfl, rfl⟩
      go_wp2_with fail
      refine (reach_any T _ B g v bs most _ _ _ 21 h.out ha ho (by omega) (by unfold reachAns; rw [if_pos pf, if_neg (by omega)])).mono ?_
      rintro e1 w1 ⟨rfl, rfl⟩
      go_wp2_with fail
      go_ret2
      exact ⟨tup2 (by omega) (by omega), rfl⟩
  · rw [if_neg (by simpa using pf)] at hxc
    injection hxc with hx hc
    go_enter Try.func13, Try.ntmps13
    go_wp2_with fail
    refine (loader_any _ _ _).mono ?_
    rintro e1 w1 ⟨rfl, rfl⟩
    go_wp2_with fail
    refine (reach_any T _ B g v bs most _ _ _ 100 h.out ha ho (by omega) (by unfold reachAns; rw [if_neg pf])).mono ?_
    rintro e1 w1 ⟨rfl, rfl⟩
    go_wp2_with fail
    go_ret2
    exact ⟨tup2 (by omega) (by omega), rfl⟩
set_option maxRecDepth 100000 in
theorem Load2_any (T : Nat) (w : World) (B g : Nat) (v : Value) (bs : List Nat) (most a o : Int) (x : Nat) (c : Int) (h : MAt T w B g v bs most) (ha : Rg a) (ho : Rg o) (hxc : (x, c) = M.ld bs a o 2) :
    Calls Try.prog 13 #[Mp g, .int .i64 a, .int .i64 o, .int .i64 2] w fun e w' => e = .returned (.tuple #[.int .u64 x, .int .i64 c]) ∧ w' = w := by
  have hl := h.len
  have hq := eqlL_func
  replace h := Lib.hid h
  unfold M.ld M.form at hxc
  have hld : ldFn g 2 = .func (.func 32) #[Mp g] #[] := rfl
  by_cases pf : (0 ≤ a ∧ a < 4294967296) ∧ (0 ≤ o ∧ o < 4294967296)
  · rw [if_pos (by simpa using pf)] at hxc
    by_cases pl : a + o + 2 ≤ bs.length
    · rw [if_pos pl] at hxc
      injection hxc with hx hc
      have hx2 := Lib.hid hx
      clear hx
      go_enter Try.func13, Try.ntmps13
      go_wp2_with fail
      refine (loader_any _ _ _).mono ?_
      rintro e1 w1 ⟨rfl, rfl⟩
      go_wp2_with fail
      refine (reach_any T _ B g v bs most _ _ _ 0 h.out ha ho (by omega) (by unfold reachAns; rw [if_pos pf, if_pos pl])).mono ?_
      rintro e1 w1 ⟨rfl, rfl⟩
      go_wp2_with fail
      refine (load2_any T _ B g v bs most (a + o).toNat _ x (by omega) h.out (by omega) hx2.out).mono ?_
      rintro e1 w1 ⟨rfl, rfl⟩
      go_wp2_with fail
      go_ret2
      exact ⟨tup2 rfl (by omega), rfl⟩
    · rw [if_neg pl] at hxc
      injection hxc with hx hc
      go_enter Try.func13, Try.ntmps13
      go_wp2_with fail
      refine (loader_any _ _ _).mono ?_
      rintro e1 w1 ⟨rfl, rfl⟩
      go_wp2_with fail
      refine (reach_any T _ B g v bs most _ _ _ 21 h.out ha ho (by omega) (by unfold reachAns; rw [if_pos pf, if_neg (by omega)])).mono ?_
      rintro e1 w1 ⟨rfl, rfl⟩
      go_wp2_with fail
      go_ret2
      exact ⟨tup2 (by omega) (by omega), rfl⟩
  · rw [if_neg (by simpa using pf)] at hxc
    injection hxc with hx hc
    go_enter Try.func13, Try.ntmps13
    go_wp2_with fail
    refine (loader_any _ _ _).mono ?_
    rintro e1 w1 ⟨rfl, rfl⟩
    go_wp2_with fail
    refine (reach_any T _ B g v bs most _ _ _ 100 h.out ha ho (by omega) (by unfold reachAns; rw [if_neg pf])).mono ?_
    rintro e1 w1 ⟨rfl, rfl⟩
    go_wp2_with fail
    go_ret2
    exact ⟨tup2 (by omega) (by omega), rfl⟩
set_option maxRecDepth 100000 in
theorem Load4_any (T : Nat) (w : World) (B g : Nat) (v : Value) (bs : List Nat) (most a o : Int) (x : Nat) (c : Int) (h : MAt T w B g v bs most) (ha : Rg a) (ho : Rg o) (hxc : (x, c) = M.ld bs a o 4) :
    Calls Try.prog 13 #[Mp g, .int .i64 a, .int .i64 o, .int .i64 4] w fun e w' => e = .returned (.tuple #[.int .u64 x, .int .i64 c]) ∧ w' = w := by
  have hl := h.len
  have hq := eqlL_func
  replace h := Lib.hid h
  unfold M.ld M.form at hxc
  have hld : ldFn g 4 = .func (.func 33) #[Mp g] #[] := rfl
  by_cases pf : (0 ≤ a ∧ a < 4294967296) ∧ (0 ≤ o ∧ o < 4294967296)
  · rw [if_pos (by simpa using pf)] at hxc
    by_cases pl : a + o + 4 ≤ bs.length
    · rw [if_pos pl] at hxc
      injection hxc with hx hc
      have hx2 := Lib.hid hx
      clear hx
      go_enter Try.func13, Try.ntmps13
      go_wp2_with fail
      refine (loader_any _ _ _).mono ?_
      rintro e1 w1 ⟨rfl, rfl⟩
      go_wp2_with fail
      refine (reach_any T _ B g v bs most _ _ _ 0 h.out ha ho (by omega) (by unfold reachAns; rw [if_pos pf, if_pos pl])).mono ?_
      rintro e1 w1 ⟨rfl, rfl⟩
      go_wp2_with fail
      refine (load4_any T _ B g v bs most (a + o).toNat _ x (by omega) h.out (by omega) hx2.out).mono ?_
      rintro e1 w1 ⟨rfl, rfl⟩
      go_wp2_with fail
      go_ret2
      exact ⟨tup2 rfl (by omega), rfl⟩
    · rw [if_neg pl] at hxc
      injection hxc with hx hc
      go_enter Try.func13, Try.ntmps13
      go_wp2_with fail
      refine (loader_any _ _ _).mono ?_
      rintro e1 w1 ⟨rfl, rfl⟩
      go_wp2_with fail
      refine (reach_any T _ B g v bs most _ _ _ 21 h.out ha ho (by omega) (by unfold reachAns; rw [if_pos pf, if_neg (by omega)])).mono ?_
      rintro e1 w1 ⟨rfl, rfl⟩
      go_wp2_with fail
      go_ret2
      exact ⟨tup2 (by omega) (by omega), rfl⟩
  · rw [if_neg (by simpa using pf)] at hxc
    injection hxc with hx hc
    go_enter Try.func13, Try.ntmps13
    go_wp2_with fail
    refine (loader_any _ _ _).mono ?_
    rintro e1 w1 ⟨rfl, rfl⟩
    go_wp2_with fail
    refine (reach_any T _ B g v bs most _ _ _ 100 h.out ha ho (by omega) (by unfold reachAns; rw [if_neg pf])).mono ?_
    rintro e1 w1 ⟨rfl, rfl⟩
    go_wp2_with fail
    go_ret2
    exact ⟨tup2 (by omega) (by omega), rfl⟩
set_option maxRecDepth 100000 in
theorem Load8_any (T : Nat) (w : World) (B g : Nat) (v : Value) (bs : List Nat) (most a o : Int) (x : Nat) (c : Int) (h : MAt T w B g v bs most) (ha : Rg a) (ho : Rg o) (hxc : (x, c) = M.ld bs a o 8) :
    Calls Try.prog 13 #[Mp g, .int .i64 a, .int .i64 o, .int .i64 8] w fun e w' => e = .returned (.tuple #[.int .u64 x, .int .i64 c]) ∧ w' = w := by
  have hl := h.len
  have hq := eqlL_func
  replace h := Lib.hid h
  unfold M.ld M.form at hxc
  have hld : ldFn g 8 = .func (.func 34) #[Mp g] #[] := rfl
  by_cases pf : (0 ≤ a ∧ a < 4294967296) ∧ (0 ≤ o ∧ o < 4294967296)
  · rw [if_pos (by simpa using pf)] at hxc
    by_cases pl : a + o + 8 ≤ bs.length
    · rw [if_pos pl] at hxc
      injection hxc with hx hc
      have hx2 := Lib.hid hx
      clear hx
      go_enter Try.func13, Try.ntmps13
      go_wp2_with fail
      refine (loader_any _ _ _).mono ?_
      rintro e1 w1 ⟨rfl, rfl⟩
      go_wp2_with fail
      refine (reach_any T _ B g v bs most _ _ _ 0 h.out ha ho (by omega) (by unfold reachAns; rw [if_pos pf, if_pos pl])).mono ?_
      rintro e1 w1 ⟨rfl, rfl⟩
      go_wp2_with fail
      refine (load8_any T _ B g v bs most (a + o).toNat _ x (by omega) h.out (by omega) hx2.out).mono ?_
      rintro e1 w1 ⟨rfl, rfl⟩
      go_wp2_with fail
      go_ret2
      exact ⟨tup2 rfl (by omega), rfl⟩
    · rw [if_neg pl] at hxc
      injection hxc with hx hc
      go_enter Try.func13, Try.ntmps13
      go_wp2_with fail
      refine (loader_any _ _ _).mono ?_
      rintro e1 w1 ⟨rfl, rfl⟩
      go_wp2_with fail
      refine (reach_any T _ B g v bs most _ _ _ 21 h.out ha ho (by omega) (by unfold reachAns; rw [if_pos pf, if_neg (by omega)])).mono ?_
      rintro e1 w1 ⟨rfl, rfl⟩
      go_wp2_with fail
      go_ret2
      exact ⟨tup2 (by omega) (by omega), rfl⟩
  · rw [if_neg (by simpa using pf)] at hxc
    injection hxc with hx hc
    go_enter Try.func13, Try.ntmps13
    go_wp2_with fail
    refine (loader_any _ _ _).mono ?_
    rintro e1 w1 ⟨rfl, rfl⟩
    go_wp2_with fail
    refine (reach_any T _ B g v bs most _ _ _ 100 h.out ha ho (by omega) (by unfold reachAns; rw [if_neg pf])).mono ?_
    rintro e1 w1 ⟨rfl, rfl⟩
    go_wp2_with fail
    go_ret2
    exact ⟨tup2 (by omega) (by omega), rfl⟩
end Go.Proofs.Ytcdfmldbpmgoiaa
