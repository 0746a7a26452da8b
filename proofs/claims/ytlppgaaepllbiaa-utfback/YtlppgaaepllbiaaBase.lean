/-
  What the small functions of package utf and of the page answer (which points may be, how many bytes, which marks), for every argument that they are called with; no condition beyond the argument's own range.
-/
import Derived.Test.YtlppgaaepllbiaaChecked
import Derived.Test.YtlppgaaepllbiaaMath
import Derived.WalkKit
import Derived.Deep.RegionHeld3
import Derived.Deep.QuietTactic
import Derived.BigQuiet
import Derived.Outline
import Derived.WalkSmall
import Derived.Lib.Hide
import Derived.Lib.BitFns
namespace Go.Proofs.Ytlppgaaepllbiaa
open Go.RowKit
theorem num_any (n : Int) (w : World) :
    Calls Try.prog 11 #[.int .i64 n] w fun e w' => e = .returned (.int .i64 n) ∧ w = w' := by
  go_enter Try.func11, Try.ntmps11
  go_wp2
  go_ret
  exact ⟨rfl, rfl⟩
/-- A number that is a point. -/
def PI (p : Int) : Prop := 0 ≤ p ∧ p ≤ 1114111 ∧ (p < 55296 ∨ 57343 < p)
theorem isPoint_yes (p : Int) (w : World) (h : PI p) : Calls Try.prog 24 #[.int .i32 p] w fun e w' => e = .returned (.bool true) ∧ w = w' := by
  obtain ⟨h1, h2, h3⟩ := h
  rcases h3 with h3 | h3
  all_goals
    go_enter Try.func24, Try.ntmps24
    go_wp2
    go_ret
    exact ⟨rfl, rfl⟩
theorem isPoint_no (p : Int) (w : World) (h : ¬ PI p) : Calls Try.prog 24 #[.int .i32 p] w fun e w' => e = .returned (.bool false) ∧ w = w' := by
  have h' : p < 0 ∨ 1114111 < p ∨ (0 ≤ p ∧ p ≤ 1114111 ∧ 55296 ≤ p ∧ p ≤ 57343) := by unfold PI at h; omega
  clear h
  rcases h' with h1 | h1 | ⟨h1, h2, h3, h4⟩
  case inr.inr =>
    have t1 : decide (p < 55296) = false := by simp; omega
    have t2 : decide (57343 < p) = false := by simp; omega
    go_enter Try.func24, Try.ntmps24
    go_wp2
    go_ret
    exact ⟨rfl, rfl⟩
  all_goals
    go_enter Try.func24, Try.ntmps24
    go_wp2
    go_ret
    exact ⟨rfl, rfl⟩
theorem rPoint_yes (p : Int) (w : World) (h : PI p) : Calls Try.prog 17 #[.int .i32 p] w fun e w' => e = .returned (.bool true) ∧ w = w' := by
  obtain ⟨h1, h2, h3⟩ := h
  rcases h3 with h3 | h3
  all_goals
    go_enter Try.func17, Try.ntmps17
    go_wp2
    go_ret
    exact ⟨rfl, rfl⟩
theorem rPoint_no (p : Int) (w : World) (h : ¬ PI p) : Calls Try.prog 17 #[.int .i32 p] w fun e w' => e = .returned (.bool false) ∧ w = w' := by
  have h' : p < 0 ∨ 1114111 < p ∨ (0 ≤ p ∧ p ≤ 1114111 ∧ 55296 ≤ p ∧ p ≤ 57343) := by unfold PI at h; omega
  clear h
  rcases h' with h1 | h1 | ⟨h1, h2, h3, h4⟩
  case inr.inr =>
    have t1 : decide (p < 55296) = false := by simp; omega
    have t2 : decide (57343 < p) = false := by simp; omega
    go_enter Try.func17, Try.ntmps17
    go_wp2
    go_ret
    exact ⟨rfl, rfl⟩
  all_goals
    go_enter Try.func17, Try.ntmps17
    go_wp2
    go_ret
    exact ⟨rfl, rfl⟩
theorem ret_bool {a b : Bool} (h : a = b) : Ending.returned (.bool a) = .returned (.bool b) := by rw [h]
theorem ret_int {k : IntKind} {a b : Int} (h : a = b) : Ending.returned (.int k a) = .returned (.int k b) := by rw [h]
theorem wid_int (p : Nat) (n : Int) (h : ((p : Int) < 128 ∧ n = 1) ∨ (128 ≤ (p : Int) ∧ (p : Int) < 2048 ∧ n = 2) ∨ (2048 ≤ (p : Int) ∧ (p : Int) < 65536 ∧ n = 3) ∨ (65536 ≤ (p : Int) ∧ n = 4)) : n = ((M.wid p : Nat) : Int) := by
  unfold M.wid
  split
  · omega
  · split
    · omega
    · split <;> omega
def WidPost (p : Int) (w : World) (e : Ending) (w' : World) : Prop := (∃ n, e = .returned (.int .i64 n) ∧ ((p < 128 ∧ n = 1) ∨ (128 ≤ p ∧ p < 2048 ∧ n = 2) ∨ (2048 ≤ p ∧ p < 65536 ∧ n = 3) ∨ (65536 ≤ p ∧ n = 4))) ∧ w = w'
set_option maxRecDepth 100000 in
theorem width_int (p : Int) (w : World) : Calls Try.prog 26 #[.int .i32 p] w (WidPost p w) := by
  by_cases h1 : p < 128
  · go_enter Try.func26, Try.ntmps26
    go_wp2
    go_ret
    exact ⟨⟨1, rfl, .inl ⟨h1, rfl⟩⟩, rfl⟩
  · by_cases h2 : p < 2048
    · go_enter Try.func26, Try.ntmps26
      go_wp2
      go_ret
      exact ⟨⟨2, rfl, .inr (.inl ⟨by omega, h2, rfl⟩)⟩, rfl⟩
    · by_cases h3 : p < 65536
      · go_enter Try.func26, Try.ntmps26
        go_wp2
        go_ret
        exact ⟨⟨3, rfl, .inr (.inr (.inl ⟨by omega, h3, rfl⟩))⟩, rfl⟩
      · go_enter Try.func26, Try.ntmps26
        go_wp2
        go_ret
        exact ⟨⟨4, rfl, .inr (.inr (.inr ⟨by omega, rfl⟩))⟩, rfl⟩
theorem width_any (p : Nat) (w : World) : Calls Try.prog 26 #[.int .i32 p] w fun e w' => e = .returned (.int .i64 (M.wid p : Nat)) ∧ w = w' :=
  (width_int p w).mono fun _ _ ⟨⟨n, he, h⟩, hw⟩ => ⟨by rw [he, wid_int p n h], hw⟩
/-- The mask of the first of n bytes. -/
def maskOf (n : Nat) : Int := if n = 1 then 127 else if n = 2 then 31 else if n = 3 then 15 else 7
def markOf (n : Nat) : Int := if n = 1 then 0 else if n = 2 then 192 else if n = 3 then 224 else 240
theorem n_cases {n : Nat} (h1 : 1 ≤ n) (h2 : n ≤ 4) : n = 1 ∨ n = 2 ∨ n = 3 ∨ n = 4 := by omega
theorem firstMask_any (n : Nat) (w : World) (h1 : 1 ≤ n) (h2 : n ≤ 4) : Calls Try.prog 36 #[.int .i64 n] w fun e w' => e = .returned (.int .u8 (maskOf n)) ∧ w = w' := by
  rcases n_cases h1 h2 with rfl | rfl | rfl | rfl
  all_goals
    go_enter Try.func36, Try.ntmps36
    go_wp2
    go_ret
    exact ⟨by first | rfl | decide, rfl⟩
theorem firstMark_any (n : Nat) (w : World) (h1 : 1 ≤ n) (h2 : n ≤ 4) : Calls Try.prog 33 #[.int .i64 n] w fun e w' => e = .returned (.int .u8 (markOf n)) ∧ w = w' := by
  rcases n_cases h1 h2 with rfl | rfl | rfl | rfl
  all_goals
    go_enter Try.func33, Try.ntmps33
    go_wp2
    go_ret
    exact ⟨by first | rfl | decide, rfl⟩
set_option maxRecDepth 100000 in
theorem len8_any (x : Int) (w : World) (h0 : 0 ≤ x) (h1 : x ≤ 255) :
    Calls Try.prog 37 #[.int .u8 x] w fun e w' => e = .returned (.int .i64 (Lib.bitLen x.toNat)) ∧ w = w' := by
  have H := Lib.hid (show wrap64 (Lib.len8 x) = (Lib.bitLen x.toNat : Int) by unfold wrap64; exact Lib.len8_int x h0 h1)
  go_enter Try.func37, Try.ntmps37
  go_wp2
  go_ret
  refine ⟨?_, rfl⟩
  exact ret_int H.out
theorem zeros8_any (x : Int) (w : World) (h0 : 0 ≤ x) (h1 : x ≤ 255) :
    Calls Try.prog 35 #[.int .u8 x] w fun e w' => e = .returned (.int .i64 (8 - (Lib.bitLen x.toNat : Int))) ∧ w = w' := by
  have l := Lib.bitLen_le8 ⟨x.toNat, by omega⟩
  simp only at l
  go_enter Try.func35, Try.ntmps35
  go_wp2_with (go_at_call 37; refine (len8_any _ _ (by omega) (by omega)).mono ?_; rintro e w' ⟨rfl, rfl⟩)
  go_ret
  exact ⟨rfl, rfl⟩
/-- How many of a byte's highest bits are 1. -/
def ones (b : Nat) : Nat := 8 - Lib.bitLen (255 - b)
theorem ones_tab : ∀ b : Fin 256, ones b.val ≤ 8 ∧ (ones b.val = 0 ↔ b.val < 128) ∧ (ones b.val = 1 ↔ 128 ≤ b.val ∧ b.val < 192) ∧ (ones b.val = 2 ↔ 192 ≤ b.val ∧ b.val < 224) ∧ (ones b.val = 3 ↔ 224 ≤ b.val ∧ b.val < 240) ∧ (ones b.val = 4 ↔ 240 ≤ b.val ∧ b.val < 248) := by decide +kernel
theorem ones_spec (b : Nat) (h : b < 256) : ones b ≤ 8 ∧ (ones b = 0 ↔ b < 128) ∧ (ones b = 1 ↔ 128 ≤ b ∧ b < 192) ∧ (ones b = 2 ↔ 192 ≤ b ∧ b < 224) ∧ (ones b = 3 ↔ 224 ≤ b ∧ b < 240) ∧ (ones b = 4 ↔ 240 ≤ b ∧ b < 248) := ones_tab ⟨b, h⟩
theorem ones_int (b : Nat) (h : b < 256) : 8 - (Lib.bitLen (255 - (b : Int)).toNat : Int) = (ones b : Nat) := by
  have e : (255 - (b : Int)).toNat = 255 - b := by omega
  have l := Lib.bitLen_le8 ⟨255 - b, by omega⟩
  simp only at l
  rw [e]
  unfold ones
  omega
theorem not8_tab : ∀ b : Fin 256, bits .xor .u8 IntKind.u8.max (b.val : Int) = 255 - (b.val : Int) := by decide +kernel
theorem not8 (b : Nat) (h : b < 256) : bits .xor .u8 IntKind.u8.max (b : Int) = 255 - (b : Int) := not8_tab ⟨b, h⟩
theorem leadingOnes_any (b : Nat) (w : World) (h : b < 256) :
    Calls Try.prog 32 #[.int .u8 b] w fun e w' => e = .returned (.int .i64 (ones b : Nat)) ∧ w = w' := by
  have ho : 8 - ((Lib.bitLen (255 - b) : Nat) : Int) = ((ones b : Nat) : Int) := by
    have := ones_int b h
    rwa [show (255 - (b : Int)).toNat = 255 - b by omega] at this
  have HO := Lib.hid ho
  clear ho
  have hx := not8 b h
  go_enter Try.func32, Try.ntmps32
  go_wp2_with fail
  refine (zeros8_any _ _ (by omega) (by omega)).mono ?_
  rintro e w' ⟨rfl, rfl⟩
  go_wp2
  go_ret
  exact ⟨ret_int HO.out, rfl⟩
theorem none_any (v : Value) (w : World) : Calls Try.prog 28 #[v] w fun e w' => e = .returned (.tuple #[.int .i32 0, .bool false]) ∧ w = w' := by
  go_enter Try.func28, Try.ntmps28
  go_wp2
  go_ret2
  exact ⟨rfl, rfl⟩
theorem heavy_yes (A B : Option Addr) (l m c d : Nat) (w : World) (h : 3000 < l ∨ 1000 < m) :
    Calls Try.prog 7 #[.agg #[.slice A l c, .slice B m d]] w fun e w' => e = .returned (.bool true) ∧ Below w.heap.size w w' := by
  have h := Lib.hid h
  by_cases h1 : 3000 < l
  all_goals
    go_enter Try.func7, Try.ntmps7
    go_wp2
    go_ret
    exact ⟨by first | rfl | exact ret_bool (by have := h.out; simp; omega), (Below.refl _ _).alloc (Nat.le_refl _) _⟩
theorem heavy_no (A B : Option Addr) (l m c d : Nat) (w : World) (h1 : l ≤ 3000) (h2 : m ≤ 1000) :
    Calls Try.prog 7 #[.agg #[.slice A l c, .slice B m d]] w fun e w' => e = .returned (.bool false) ∧ Below w.heap.size w w' := by
  go_enter Try.func7, Try.ntmps7
  go_wp2
  go_ret
  exact ⟨ret_bool (by simp; omega), (Below.refl _ _).alloc (Nat.le_refl _) _⟩
end Go.Proofs.Ytlppgaaepllbiaa
