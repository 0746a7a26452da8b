/-
  What the memory's functions answer that change nothing: places, sizes, bytes, and numbers of one, two, four and eight bytes; condition: the memory was made by the call.
-/
import Derived.Test.YtcdfmldbpmgoiaaGMem
import Derived.StillTailTactics
namespace Go.Proofs.Ytcdfmldbpmgoiaa
open Go.RowKit
abbrev Rg (z : Int) : Prop := -9223372036854775808 ≤ z ∧ z ≤ 9223372036854775807
abbrev Mp (g : Nat) : Value := .pointer (some ⟨g, 0, none⟩)
theorem ret_bool {a b : Bool} (h : a = b) : Ending.returned (.bool a) = Ending.returned (.bool b) := by rw [h]
theorem ret_int {k : IntKind} {a b : Int} (h : a = b) : Ending.returned (.int k a) = Ending.returned (.int k b) := by rw [h]
theorem isPlace_any (a : Int) (w : World) (r : Bool) (hr : r = decide (0 ≤ a ∧ a < 4294967296)) : Calls Try.prog 35 #[.int .i64 a] w fun e w' => e = .returned (.bool r) ∧ w' = w := by
  replace hr := Lib.hid hr
  go_enter Try.func35, Try.ntmps35
  go_wp2
  all_goals
    go_ret
    refine ⟨ret_bool ?_, rfl⟩
    rw [hr.out, Bool.eq_iff_iff]
    simp
    try omega
theorem has_any (T : Nat) (w : World) (B g : Nat) (v : Value) (bs : List Nat) (most a n : Int) (r : Bool) (h : MAt T w B g v bs most) (ha : Rg a) (hn : Rg n) (hr : r = decide (0 ≤ a ∧ 0 ≤ n ∧ a + n ≤ bs.length)) :
    Calls Try.prog 29 #[Mp g, .int .i64 a, .int .i64 n] w fun e w' => e = .returned (.bool r) ∧ w' = w := by
  obtain ⟨A, c, rfl, h1, h2⟩ := h.form
  have c0 := h.c0
  have hl := h.len
  replace h := Lib.hid h
  replace hr := Lib.hid hr
  go_enter Try.func29, Try.ntmps29
  go_wp2
  all_goals
    go_ret
    refine ⟨ret_bool ?_, rfl⟩
    rw [hr.out, Bool.eq_iff_iff]
    simp
    try omega
theorem size_any (T : Nat) (w : World) (B g : Nat) (v : Value) (bs : List Nat) (most : Int) (s : Nat) (h : MAt T w B g v bs most) (hs : s = bs.length / 65536) :
    Calls Try.prog 24 #[Mp g] w fun e w' => e = .returned (.int .i64 (s : Int)) ∧ w' = w := by
  replace hs := Lib.hid hs
  obtain ⟨A, c, rfl, h1, h2⟩ := h.form
  have c0 := h.c0
  have hl := h.len
  replace h := Lib.hid h
  go_enter Try.func24, Try.ntmps24
  go_wp2
  go_ret
  exact ⟨ret_int (by rw [hs.out]; omega), rfl⟩
theorem load1_any (T : Nat) (w : World) (B g : Nat) (v : Value) (bs : List Nat) (most : Int) (a : Nat) (ai : Int) (x : Nat) (hai : ai = (a : Nat)) (h : MAt T w B g v bs most) (ha : a + 1 ≤ bs.length) (hx : x = M.le bs 1 a) :
    Calls Try.prog 31 #[Mp g, .int .i64 ai] w fun e w' => e = .returned (.int .u64 (x : Int)) ∧ w' = w := by
  subst hai
  obtain ⟨A, c, rfl, h1, h2⟩ := h.form
  have c0 := h.c0
  have hl := h.len
  obtain ⟨r, rfl, q1, _⟩ := h.byte a ha
  have hb := M.getD_lt h.lt a
  rw [M.le_one] at hx
  rw [← hx] at q1 hb
  obtain ⟨n, hN⟩ : ∃ n, n = bs.length := ⟨_, rfl⟩
  rw [← hN] at ha h1 c0 hl
  clear hx
  replace h := Lib.hid h
  go_enter Try.func31, Try.ntmps31
  go_wp2
  go_ret
  exact ⟨ret_int (by omega), rfl⟩
theorem load2_any (T : Nat) (w : World) (B g : Nat) (v : Value) (bs : List Nat) (most : Int) (a : Nat) (ai : Int) (z : Nat) (hai : ai = (a : Nat)) (h : MAt T w B g v bs most) (ha : a + 2 ≤ bs.length) (hz : z = M.le bs 2 a) :
    Calls Try.prog 32 #[Mp g, .int .i64 ai] w fun e w' => e = .returned (.int .u64 (z : Int)) ∧ w' = w := by
  have hl := h.len
  have m1 : M.le bs 1 a < 256 := M.le_lt h.lt 1 a
  have m2 : M.le bs 1 (a + 1) < 256 := M.le_lt h.lt 1 (a + 1)
  have e2 : M.le bs 2 a = M.le bs 1 a + 256 * M.le bs 1 (a + 1) := M.le_add bs 1 1 a
  obtain ⟨x, hx⟩ : ∃ x, x = M.le bs 1 a := ⟨_, rfl⟩
  obtain ⟨y, hy⟩ : ∃ y, y = M.le bs 1 (a + 1) := ⟨_, rfl⟩
  rw [← hx, ← hy, ← hz] at e2
  rw [← hx] at m1
  rw [← hy] at m2
  replace hx := Lib.hid hx
  replace hy := Lib.hid hy
  replace e2 := Lib.hid e2
  replace h := Lib.hid h
  clear hz
  go_enter Try.func32, Try.ntmps32
  go_wp2_with fail
  refine (load1_any T w B g v bs most a _ x (by omega) h.out (by omega) hx.out).mono ?_
  rintro e1 w1 ⟨rfl, rfl⟩
  go_wp2_with fail
  refine (load1_any T _ B g v bs most (a + 1) _ y (by omega) h.out (by omega) hy.out).mono ?_
  rintro e1 w1 ⟨rfl, rfl⟩
  go_wp2_with fail
  go_ret
  refine ⟨ret_int ?_, rfl⟩
  rw [e2.out]
  have e : ((y : Int) * 256) = ((y * 2 ^ 8 : Nat) : Int) := by omega
  rw [e, M.or_u64 8 x y (by omega) (by omega) (by omega)]
  omega
theorem load4_any (T : Nat) (w : World) (B g : Nat) (v : Value) (bs : List Nat) (most : Int) (a : Nat) (ai : Int) (z : Nat) (hai : ai = (a : Nat)) (h : MAt T w B g v bs most) (ha : a + 4 ≤ bs.length) (hz : z = M.le bs 4 a) :
    Calls Try.prog 33 #[Mp g, .int .i64 ai] w fun e w' => e = .returned (.int .u64 (z : Int)) ∧ w' = w := by
  have hl := h.len
  have m1 : M.le bs 2 a < 65536 := M.le_lt h.lt 2 a
  have m2 : M.le bs 2 (a + 2) < 65536 := M.le_lt h.lt 2 (a + 2)
  have e2 : M.le bs 4 a = M.le bs 2 a + 65536 * M.le bs 2 (a + 2) := M.le_add bs 2 2 a
  obtain ⟨x, hx⟩ : ∃ x, x = M.le bs 2 a := ⟨_, rfl⟩
  obtain ⟨y, hy⟩ : ∃ y, y = M.le bs 2 (a + 2) := ⟨_, rfl⟩
  rw [← hx, ← hy, ← hz] at e2
  rw [← hx] at m1
  rw [← hy] at m2
  replace hx := Lib.hid hx
  replace hy := Lib.hid hy
  replace e2 := Lib.hid e2
  replace h := Lib.hid h
  clear hz
  go_enter Try.func33, Try.ntmps33
  go_wp2_with fail
  refine (load2_any T w B g v bs most a _ x (by omega) h.out (by omega) hx.out).mono ?_
  rintro e1 w1 ⟨rfl, rfl⟩
  go_wp2_with fail
  refine (load2_any T _ B g v bs most (a + 2) _ y (by omega) h.out (by omega) hy.out).mono ?_
  rintro e1 w1 ⟨rfl, rfl⟩
  go_wp2_with fail
  go_ret
  refine ⟨ret_int ?_, rfl⟩
  rw [e2.out]
  have e : ((y : Int) * 65536) = ((y * 2 ^ 16 : Nat) : Int) := by omega
  rw [e, M.or_u64 16 x y (by omega) (by omega) (by omega)]
  omega
theorem load8_any (T : Nat) (w : World) (B g : Nat) (v : Value) (bs : List Nat) (most : Int) (a : Nat) (ai : Int) (z : Nat) (hai : ai = (a : Nat)) (h : MAt T w B g v bs most) (ha : a + 8 ≤ bs.length) (hz : z = M.le bs 8 a) :
    Calls Try.prog 34 #[Mp g, .int .i64 ai] w fun e w' => e = .returned (.int .u64 (z : Int)) ∧ w' = w := by
  have hl := h.len
  have m1 : M.le bs 4 a < 4294967296 := M.le_lt h.lt 4 a
  have m2 : M.le bs 4 (a + 4) < 4294967296 := M.le_lt h.lt 4 (a + 4)
  have e2 : M.le bs 8 a = M.le bs 4 a + 4294967296 * M.le bs 4 (a + 4) := M.le_add bs 4 4 a
  obtain ⟨x, hx⟩ : ∃ x, x = M.le bs 4 a := ⟨_, rfl⟩
  obtain ⟨y, hy⟩ : ∃ y, y = M.le bs 4 (a + 4) := ⟨_, rfl⟩
  rw [← hx, ← hy, ← hz] at e2
  rw [← hx] at m1
  rw [← hy] at m2
  replace hx := Lib.hid hx
  replace hy := Lib.hid hy
  replace e2 := Lib.hid e2
  replace h := Lib.hid h
  clear hz
  go_enter Try.func34, Try.ntmps34
  go_wp2_with fail
  refine (load4_any T w B g v bs most a _ x (by omega) h.out (by omega) hx.out).mono ?_
  rintro e1 w1 ⟨rfl, rfl⟩
  go_wp2_with fail
  refine (load4_any T _ B g v bs most (a + 4) _ y (by omega) h.out (by omega) hy.out).mono ?_
  rintro e1 w1 ⟨rfl, rfl⟩
  go_wp2_with fail
  go_ret
  refine ⟨ret_int ?_, rfl⟩
  rw [e2.out]
  have e : ((y : Int) * 4294967296) = ((y * 2 ^ 32 : Nat) : Int) := by omega
  rw [e, M.or_u64 32 x y (by omega) (by omega) (by omega)]
  omega
end Go.Proofs.Ytcdfmldbpmgoiaa
