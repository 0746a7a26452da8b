/-
  Store, and Load and Store of any width; condition: the memory was made by the call.
-/
import Derived.Test.YtcdfmldbpmgoiaaGUse
namespace Go.Proofs.Ytcdfmldbpmgoiaa
open Go.RowKit
def SPost (T : Nat) (w : World) (B g : Nat) (v : Value) (cs : List Nat) (most c : Int) (e : Ending) (w' : World) : Prop :=
  e = .returned (.int .i64 c) ∧ MAt T w' B g v cs most ∧ But (fun k => v.ownBlock = some k) w w'
set_option maxRecDepth 100000 in
theorem LoadX_any (T : Nat) (w : World) (B g : Nat) (v : Value) (bs : List Nat) (most a o n : Int) (x : Nat) (c : Int) (_h : MAt T w B g v bs most) (hn : ¬ (n = 1 ∨ n = 2 ∨ n = 4 ∨ n = 8)) (hxc : (x, c) = M.ld bs a o n) :
    Calls Try.prog 13 #[Mp g, .int .i64 a, .int .i64 o, .int .i64 n] w fun e w' => e = .returned (.tuple #[.int .u64 x, .int .i64 c]) ∧ w' = w := by
  have hq := eqlL_nil
  unfold M.ld M.form at hxc
  rw [if_neg (by simp; omega)] at hxc
  injection hxc with hx hc
  have hld : ldFn g n = .nilFunc := by unfold ldFn; rw [if_neg (by omega), if_neg (by omega), if_neg (by omega), if_neg (by omega)]
  go_enter Try.func13, Try.ntmps13
  go_wp2_with fail
  refine (loader_any _ _ _).mono ?_
  rintro e1 w1 ⟨rfl, rfl⟩
  go_wp2_with fail
  go_ret2
  exact ⟨tup2 (by omega) (by omega), rfl⟩
/-- What Load answers. -/
theorem Load_any (T : Nat) (w : World) (B g : Nat) (v : Value) (bs : List Nat) (most a o n : Int) (x : Nat) (c : Int) (h : MAt T w B g v bs most) (ha : Rg a) (ho : Rg o) (hxc : (x, c) = M.ld bs a o n) :
    Calls Try.prog 13 #[Mp g, .int .i64 a, .int .i64 o, .int .i64 n] w fun e w' => e = .returned (.tuple #[.int .u64 x, .int .i64 c]) ∧ w' = w := by
  by_cases hn : n = 1 ∨ n = 2 ∨ n = 4 ∨ n = 8
  · rcases hn with rfl | rfl | rfl | rfl
    · exact Load1_any T w B g v bs most a o x c h ha ho hxc
    · exact Load2_any T w B g v bs most a o x c h ha ho hxc
    · exact Load4_any T w B g v bs most a o x c h ha ho hxc
    · exact Load8_any T w B g v bs most a o x c h ha ho hxc
  · exact LoadX_any T w B g v bs most a o n x c h hn hxc
set_option maxRecDepth 100000 in
theorem StoreX_any (T : Nat) (w : World) (B g : Nat) (v : Value) (bs cs : List Nat) (most a o n : Int) (x : Nat) (c : Int) (h : MAt T w B g v bs most) (hn : ¬ (n = 1 ∨ n = 2 ∨ n = 4 ∨ n = 8)) (hxc : (cs, c) = M.st bs a o n x) :
    Calls Try.prog 23 #[Mp g, .int .i64 a, .int .i64 o, .int .i64 n, .int .u64 (x : Int)] w (SPost T w B g v cs most c) := by
  have hq := eqlS_nil
  unfold M.st M.form at hxc
  rw [if_neg (by simp; omega)] at hxc
  injection hxc with hx hc
  subst hx
  replace h := Lib.hid h
  have hld : stFn g n = .nilFunc := by unfold stFn; rw [if_neg (by omega), if_neg (by omega), if_neg (by omega), if_neg (by omega)]
  go_enter Try.func23, Try.ntmps23
  go_wp2_with fail
  refine (storer_any _ _ _).mono ?_
  rintro e1 w1 ⟨rfl, rfl⟩
  go_wp2_with fail
  go_ret
  exact ⟨ret_int (by omega), h.out, But.refl _ _⟩
set_option maxRecDepth 100000 in
theorem Store1_any (T : Nat) (w : World) (B g : Nat) (v : Value) (bs cs : List Nat) (most a o : Int) (x : Nat) (c : Int) (h : MAt T w B g v bs most) (ha : Rg a) (ho : Rg o) (hx : x < 18446744073709551616) (hxc : (cs, c) = M.st bs a o 1 x) :
    Calls Try.prog 23 #[Mp g, .int .i64 a, .int .i64 o, .int .i64 1, .int .u64 (x : Int)] w (SPost T w B g v cs most c) := by
  have hl := h.len
  have hq := eqlS_func
  replace h := Lib.hid h
  unfold M.st M.form at hxc
  have hld : stFn g 1 = .func (.func 36) #[Mp g] #[] := rfl
  by_cases pf : (0 ≤ a ∧ a < 4294967296) ∧ (0 ≤ o ∧ o < 4294967296)
  · rw [if_pos (by simpa using pf)] at hxc
    by_cases pl : a + o + 1 ≤ bs.length
    · rw [if_pos pl] at hxc
      injection hxc with hx1 hc
      have hx2 := Lib.hid hx1
      clear hx1
      go_enter Try.func23, Try.ntmps23
      go_wp2_with fail
      refine (storer_any _ _ _).mono ?_
      rintro e1 w1 ⟨rfl, rfl⟩
      go_wp2_with fail
      refine (reach_any T _ B g v bs most _ _ _ 0 h.out ha ho (by omega) (by unfold reachAns; rw [if_pos pf, if_pos pl])).mono ?_
      rintro e1 w1 ⟨rfl, rfl⟩
      go_wp2_with fail
      refine (store1_any T _ B g v bs most (a + o).toNat _ _ x (by omega) rfl hx h.out (by omega)).mono ?_
      rintro e1 w2 ⟨rfl, k2, b2⟩
      replace k2 := Lib.hid k2
      replace b2 := Lib.hid b2
      go_wp2_with fail
      go_ret
      exact ⟨ret_int (by omega), by rw [hx2.out]; exact k2.out, b2.out⟩
    · rw [if_neg pl] at hxc
      injection hxc with hx1 hc
      subst hx1
      go_enter Try.func23, Try.ntmps23
      go_wp2_with fail
      refine (storer_any _ _ _).mono ?_
      rintro e1 w1 ⟨rfl, rfl⟩
      go_wp2_with fail
      refine (reach_any T _ B g v _ most _ _ _ 21 h.out ha ho (by omega) (by unfold reachAns; rw [if_pos pf, if_neg (by omega)])).mono ?_
      rintro e1 w1 ⟨rfl, rfl⟩
      go_wp2_with fail
      go_ret
      exact ⟨ret_int (by omega), h.out, But.refl _ _⟩
  · rw [if_neg (by simpa using pf)] at hxc
    injection hxc with hx1 hc
    subst hx1
    go_enter Try.func23, Try.ntmps23
    go_wp2_with fail
    refine (storer_any _ _ _).mono ?_
    rintro e1 w1 ⟨rfl, rfl⟩
    go_wp2_with fail
    refine (reach_any T _ B g v _ most _ _ _ 100 h.out ha ho (by omega) (by unfold reachAns; rw [if_neg pf])).mono ?_
    rintro e1 w1 ⟨rfl, rfl⟩
    go_wp2_with fail
    go_ret
    exact ⟨ret_int (by omega), h.out, But.refl _ _⟩
set_option maxRecDepth 100000 in
theorem Store2_any (T : Nat) (w : World) (B g : Nat) (v : Value) (bs cs : List Nat) (most a o : Int) (x : Nat) (c : Int) (h : MAt T w B g v bs most) (ha : Rg a) (ho : Rg o) (hx : x < 18446744073709551616) (hxc : (cs, c) = M.st bs a o 2 x) :
    Calls Try.prog 23 #[Mp g, .int .i64 a, .int .i64 o, .int .i64 2, .int .u64 (x : Int)] w (SPost T w B g v cs most c) := by
  have hl := h.len
  have hq := eqlS_func
  replace h := Lib.hid h
  unfold M.st M.form at hxc
  have hld : stFn g 2 = .func (.func 37) #[Mp g] #[] := rfl
  by_cases pf : (0 ≤ a ∧ a < 4294967296) ∧ (0 ≤ o ∧ o < 4294967296)
  · rw [if_pos (by simpa using pf)] at hxc
    by_cases pl : a + o + 2 ≤ bs.length
    · rw [if_pos pl] at hxc
      injection hxc with hx1 hc
      have hx2 := Lib.hid hx1
      clear hx1
      go_enter Try.func23, Try.ntmps23
      go_wp2_with fail
      refine (storer_any _ _ _).mono ?_
      rintro e1 w1 ⟨rfl, rfl⟩
      go_wp2_with fail
      refine (reach_any T _ B g v bs most _ _ _ 0 h.out ha ho (by omega) (by unfold reachAns; rw [if_pos pf, if_pos pl])).mono ?_
      rintro e1 w1 ⟨rfl, rfl⟩
      go_wp2_with fail
      refine (store2_any T _ B g v bs most (a + o).toNat _ _ x (by omega) rfl hx h.out (by omega)).mono ?_
      rintro e1 w2 ⟨rfl, k2, b2⟩
      replace k2 := Lib.hid k2
      replace b2 := Lib.hid b2
      go_wp2_with fail
      go_ret
      exact ⟨ret_int (by omega), by rw [hx2.out]; exact k2.out, b2.out⟩
    · rw [if_neg pl] at hxc
      injection hxc with hx1 hc
      subst hx1
      go_enter Try.func23, Try.ntmps23
      go_wp2_with fail
      refine (storer_any _ _ _).mono ?_
      rintro e1 w1 ⟨rfl, rfl⟩
      go_wp2_with fail
      refine (reach_any T _ B g v _ most _ _ _ 21 h.out ha ho (by omega) (by unfold reachAns; rw [if_pos pf, if_neg (by omega)])).mono ?_
      rintro e1 w1 ⟨rfl, rfl⟩
      go_wp2_with fail
      go_ret
      exact ⟨ret_int (by omega), h.out, But.refl _ _⟩
  · rw [if_neg (by simpa using pf)] at hxc
    injection hxc with hx1 hc
    subst hx1
    go_enter Try.func23, Try.ntmps23
    go_wp2_with fail
    refine (storer_any _ _ _).mono ?_
    rintro e1 w1 ⟨rfl, rfl⟩
    go_wp2_with fail
    refine (reach_any T _ B g v _ most _ _ _ 100 h.out ha ho (by omega) (by unfold reachAns; rw [if_neg pf])).mono ?_
    rintro e1 w1 ⟨rfl, rfl⟩
    go_wp2_with fail
    go_ret
    exact ⟨ret_int (by omega), h.out, But.refl _ _⟩
set_option maxRecDepth 100000 in
theorem Store4_any (T : Nat) (w : World) (B g : Nat) (v : Value) (bs cs : List Nat) (most a o : Int) (x : Nat) (c : Int) (h : MAt T w B g v bs most) (ha : Rg a) (ho : Rg o) (hx : x < 18446744073709551616) (hxc : (cs, c) = M.st bs a o 4 x) :
    Calls Try.prog 23 #[Mp g, .int .i64 a, .int .i64 o, .int .i64 4, .int .u64 (x : Int)] w (SPost T w B g v cs most c) := by
  have hl := h.len
  have hq := eqlS_func
  replace h := Lib.hid h
  unfold M.st M.form at hxc
  have hld : stFn g 4 = .func (.func 38) #[Mp g] #[] := rfl
  by_cases pf : (0 ≤ a ∧ a < 4294967296) ∧ (0 ≤ o ∧ o < 4294967296)
  · rw [if_pos (by simpa using pf)] at hxc
    by_cases pl : a + o + 4 ≤ bs.length
    · rw [if_pos pl] at hxc
      injection hxc with hx1 hc
      have hx2 := Lib.hid hx1
      clear hx1
      go_enter Try.func23, Try.ntmps23
      go_wp2_with fail
      refine (storer_any _ _ _).mono ?_
      rintro e1 w1 ⟨rfl, rfl⟩
      go_wp2_with fail
      refine (reach_any T _ B g v bs most _ _ _ 0 h.out ha ho (by omega) (by unfold reachAns; rw [if_pos pf, if_pos pl])).mono ?_
      rintro e1 w1 ⟨rfl, rfl⟩
      go_wp2_with fail
      refine (store4_any T _ B g v bs most (a + o).toNat _ _ x (by omega) rfl hx h.out (by omega)).mono ?_
      rintro e1 w2 ⟨rfl, k2, b2⟩
      replace k2 := Lib.hid k2
      replace b2 := Lib.hid b2
      go_wp2_with fail
      go_ret
      exact ⟨ret_int (by omega), by rw [hx2.out]; exact k2.out, b2.out⟩
    · rw [if_neg pl] at hxc
      injection hxc with hx1 hc
      subst hx1
      go_enter Try.func23, Try.ntmps23
      go_wp2_with fail
      refine (storer_any _ _ _).mono ?_
      rintro e1 w1 ⟨rfl, rfl⟩
      go_wp2_with fail
      refine (reach_any T _ B g v _ most _ _ _ 21 h.out ha ho (by omega) (by unfold reachAns; rw [if_pos pf, if_neg (by omega)])).mono ?_
      rintro e1 w1 ⟨rfl, rfl⟩
      go_wp2_with fail
      go_ret
      exact ⟨ret_int (by omega), h.out, But.refl _ _⟩
  · rw [if_neg (by simpa using pf)] at hxc
    injection hxc with hx1 hc
    subst hx1
    go_enter Try.func23, Try.ntmps23
    go_wp2_with fail
    refine (storer_any _ _ _).mono ?_
    rintro e1 w1 ⟨rfl, rfl⟩
    go_wp2_with fail
    refine (reach_any T _ B g v _ most _ _ _ 100 h.out ha ho (by omega) (by unfold reachAns; rw [if_neg pf])).mono ?_
    rintro e1 w1 ⟨rfl, rfl⟩
    go_wp2_with fail
    go_ret
    exact ⟨ret_int (by omega), h.out, But.refl _ _⟩
set_option maxRecDepth 100000 in
theorem Store8_any (T : Nat) (w : World) (B g : Nat) (v : Value) (bs cs : List Nat) (most a o : Int) (x : Nat) (c : Int) (h : MAt T w B g v bs most) (ha : Rg a) (ho : Rg o) (hx : x < 18446744073709551616) (hxc : (cs, c) = M.st bs a o 8 x) :
    Calls Try.prog 23 #[Mp g, .int .i64 a, .int .i64 o, .int .i64 8, .int .u64 (x : Int)] w (SPost T w B g v cs most c) := by
  have hl := h.len
  have hq := eqlS_func
  replace h := Lib.hid h
  unfold M.st M.form at hxc
  have hld : stFn g 8 = .func (.func 39) #[Mp g] #[] := rfl
  by_cases pf : (0 ≤ a ∧ a < 4294967296) ∧ (0 ≤ o ∧ o < 4294967296)
  · rw [if_pos (by simpa using pf)] at hxc
    by_cases pl : a + o + 8 ≤ bs.length
    · rw [if_pos pl] at hxc
      injection hxc with hx1 hc
      have hx2 := Lib.hid hx1
      clear hx1
      go_enter Try.func23, Try.ntmps23
      go_wp2_with fail
      refine (storer_any _ _ _).mono ?_
      rintro e1 w1 ⟨rfl, rfl⟩
      go_wp2_with fail
      refine (reach_any T _ B g v bs most _ _ _ 0 h.out ha ho (by omega) (by unfold reachAns; rw [if_pos pf, if_pos pl])).mono ?_
      rintro e1 w1 ⟨rfl, rfl⟩
      go_wp2_with fail
      refine (store8_any T _ B g v bs most (a + o).toNat _ _ x (by omega) rfl hx h.out (by omega)).mono ?_
      rintro e1 w2 ⟨rfl, k2, b2⟩
      replace k2 := Lib.hid k2
      replace b2 := Lib.hid b2
      go_wp2_with fail
      go_ret
      exact ⟨ret_int (by omega), by rw [hx2.out]; exact k2.out, b2.out⟩
    · rw [if_neg pl] at hxc
      injection hxc with hx1 hc
      subst hx1
      go_enter Try.func23, Try.ntmps23
      go_wp2_with fail
      refine (storer_any _ _ _).mono ?_
      rintro e1 w1 ⟨rfl, rfl⟩
      go_wp2_with fail
      refine (reach_any T _ B g v _ most _ _ _ 21 h.out ha ho (by omega) (by unfold reachAns; rw [if_pos pf, if_neg (by omega)])).mono ?_
      rintro e1 w1 ⟨rfl, rfl⟩
      go_wp2_with fail
      go_ret
      exact ⟨ret_int (by omega), h.out, But.refl _ _⟩
  · rw [if_neg (by simpa using pf)] at hxc
    injection hxc with hx1 hc
    subst hx1
    go_enter Try.func23, Try.ntmps23
    go_wp2_with fail
    refine (storer_any _ _ _).mono ?_
    rintro e1 w1 ⟨rfl, rfl⟩
    go_wp2_with fail
    refine (reach_any T _ B g v _ most _ _ _ 100 h.out ha ho (by omega) (by unfold reachAns; rw [if_neg pf])).mono ?_
    rintro e1 w1 ⟨rfl, rfl⟩
    go_wp2_with fail
    go_ret
    exact ⟨ret_int (by omega), h.out, But.refl _ _⟩
/-- What Store answers. -/
theorem Store_any (T : Nat) (w : World) (B g : Nat) (v : Value) (bs cs : List Nat) (most a o n : Int) (x : Nat) (xi c : Int) (h : MAt T w B g v bs most) (ha : Rg a) (ho : Rg o) (hxi : xi = (x : Nat)) (hx : x < 18446744073709551616) (hxc : (cs, c) = M.st bs a o n x) :
    Calls Try.prog 23 #[Mp g, .int .i64 a, .int .i64 o, .int .i64 n, .int .u64 xi] w (SPost T w B g v cs most c) := by
  subst hxi
  by_cases hn : n = 1 ∨ n = 2 ∨ n = 4 ∨ n = 8
  · rcases hn with rfl | rfl | rfl | rfl
    · exact Store1_any T w B g v bs cs most a o x c h ha ho hx hxc
    · exact Store2_any T w B g v bs cs most a o x c h ha ho hx hxc
    · exact Store4_any T w B g v bs cs most a o x c h ha ho hx hxc
    · exact Store8_any T w B g v bs cs most a o x c h ha ho hx hxc
  · exact StoreX_any T w B g v bs cs most a o n x c h hn hxc
end Go.Proofs.Ytcdfmldbpmgoiaa
