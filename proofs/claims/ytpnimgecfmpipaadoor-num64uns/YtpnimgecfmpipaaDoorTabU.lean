/-
  The library's counting of bits; conditions: the number is of 64 bits, and the library's own table of 64 bytes reads as it is laid.
-/
import Derived.Test.YtpnimgecfmpipaaDoorPageU
import Derived.Test.YtpnimgecfmpipaaDoorMathS
namespace Go.Proofs.YtpnimgecfmpipaaDoor
open Go.RowKit
set_option maxRecDepth 100000 in
set_option maxHeartbeats 4000000 in
theorem len64_any (x : Int) (w : World) (h0 : 0 ≤ x) (h1 : x ≤ 18446744073709551615) :
    Calls Tryd.prog 56 #[.int .u64 x] w fun e w' => e = .returned (.int .i64 (Lib.bitLen x.toNat)) ∧ w = w' := by
  by_cases c32 : 4294967296 ≤ x
  · by_cases c16 : 65536 ≤ x / 4294967296
    · by_cases c8 : 256 ≤ x / 4294967296 / 65536
      · have g1 : x / 4294967296 / 65536 / 256 ≤ 255 := by omega
        have g0 : 0 ≤ x / 4294967296 / 65536 / 256 := by omega
        have hl := Lib.len8_of (x / 4294967296 / 65536 / 256) g0 g1
        have hv : 56 + Lib.len8 (x / 4294967296 / 65536 / 256) = ((Lib.bitLen x.toNat : Nat) : Int) := by
          rw [hl]
          have e : (x / 4294967296 / 65536 / 256).toNat = x.toNat / 72057594037927936 := by omega
          have s := Lib.bitLen_shift 56 x.toNat (by omega) (by omega)
          rw [show (2 ^ 56 : Nat) = 72057594037927936 by decide] at s
          rw [e]; omega
        have l := Lib.bitLen_le8' (x / 4294967296 / 65536 / 256) g0 g1
        obtain ⟨y, hy⟩ : ∃ y, Lib.len8 (x / 4294967296 / 65536 / 256) = y := ⟨_, rfl⟩
        rw [hy] at hv hl
        have y0 : 0 ≤ y := by omega
        have y1 : y ≤ 8 := by omega
        replace hv := Lib.hid hv
        clear hl l
        go_enter Tryd.func56, Tryd.ntmps56
        go_wp2
        go_ret
        exact ⟨ret_one (by have := hv.out; first | exact this | omega), rfl⟩
      · have g1 : x / 4294967296 / 65536 ≤ 255 := by omega
        have g0 : 0 ≤ x / 4294967296 / 65536 := by omega
        have hl := Lib.len8_of (x / 4294967296 / 65536) g0 g1
        have hv : 48 + Lib.len8 (x / 4294967296 / 65536) = ((Lib.bitLen x.toNat : Nat) : Int) := by
          rw [hl]
          have e : (x / 4294967296 / 65536).toNat = x.toNat / 281474976710656 := by omega
          have s := Lib.bitLen_shift 48 x.toNat (by omega) (by omega)
          rw [show (2 ^ 48 : Nat) = 281474976710656 by decide] at s
          rw [e]; omega
        have l := Lib.bitLen_le8' (x / 4294967296 / 65536) g0 g1
        obtain ⟨y, hy⟩ : ∃ y, Lib.len8 (x / 4294967296 / 65536) = y := ⟨_, rfl⟩
        rw [hy] at hv hl
        have y0 : 0 ≤ y := by omega
        have y1 : y ≤ 8 := by omega
        replace hv := Lib.hid hv
        clear hl l
        go_enter Tryd.func56, Tryd.ntmps56
        go_wp2
        go_ret
        exact ⟨ret_one (by have := hv.out; first | exact this | omega), rfl⟩
    · by_cases c8 : 256 ≤ x / 4294967296
      · have g1 : x / 4294967296 / 256 ≤ 255 := by omega
        have g0 : 0 ≤ x / 4294967296 / 256 := by omega
        have hl := Lib.len8_of (x / 4294967296 / 256) g0 g1
        have hv : 40 + Lib.len8 (x / 4294967296 / 256) = ((Lib.bitLen x.toNat : Nat) : Int) := by
          rw [hl]
          have e : (x / 4294967296 / 256).toNat = x.toNat / 1099511627776 := by omega
          have s := Lib.bitLen_shift 40 x.toNat (by omega) (by omega)
          rw [show (2 ^ 40 : Nat) = 1099511627776 by decide] at s
          rw [e]; omega
        have l := Lib.bitLen_le8' (x / 4294967296 / 256) g0 g1
        obtain ⟨y, hy⟩ : ∃ y, Lib.len8 (x / 4294967296 / 256) = y := ⟨_, rfl⟩
        rw [hy] at hv hl
        have y0 : 0 ≤ y := by omega
        have y1 : y ≤ 8 := by omega
        replace hv := Lib.hid hv
        clear hl l
        go_enter Tryd.func56, Tryd.ntmps56
        go_wp2
        go_ret
        exact ⟨ret_one (by have := hv.out; first | exact this | omega), rfl⟩
      · have g1 : x / 4294967296 ≤ 255 := by omega
        have g0 : 0 ≤ x / 4294967296 := by omega
        have hl := Lib.len8_of (x / 4294967296) g0 g1
        have hv : 32 + Lib.len8 (x / 4294967296) = ((Lib.bitLen x.toNat : Nat) : Int) := by
          rw [hl]
          have e : (x / 4294967296).toNat = x.toNat / 4294967296 := by omega
          have s := Lib.bitLen_shift 32 x.toNat (by omega) (by omega)
          rw [show (2 ^ 32 : Nat) = 4294967296 by decide] at s
          rw [e]; omega
        have l := Lib.bitLen_le8' (x / 4294967296) g0 g1
        obtain ⟨y, hy⟩ : ∃ y, Lib.len8 (x / 4294967296) = y := ⟨_, rfl⟩
        rw [hy] at hv hl
        have y0 : 0 ≤ y := by omega
        have y1 : y ≤ 8 := by omega
        replace hv := Lib.hid hv
        clear hl l
        go_enter Tryd.func56, Tryd.ntmps56
        go_wp2
        go_ret
        exact ⟨ret_one (by have := hv.out; first | exact this | omega), rfl⟩
  · by_cases c16 : 65536 ≤ x
    · by_cases c8 : 256 ≤ x / 65536
      · have g1 : x / 65536 / 256 ≤ 255 := by omega
        have g0 : 0 ≤ x / 65536 / 256 := by omega
        have hl := Lib.len8_of (x / 65536 / 256) g0 g1
        have hv : 24 + Lib.len8 (x / 65536 / 256) = ((Lib.bitLen x.toNat : Nat) : Int) := by
          rw [hl]
          have e : (x / 65536 / 256).toNat = x.toNat / 16777216 := by omega
          have s := Lib.bitLen_shift 24 x.toNat (by omega) (by omega)
          rw [show (2 ^ 24 : Nat) = 16777216 by decide] at s
          rw [e]; omega
        have l := Lib.bitLen_le8' (x / 65536 / 256) g0 g1
        obtain ⟨y, hy⟩ : ∃ y, Lib.len8 (x / 65536 / 256) = y := ⟨_, rfl⟩
        rw [hy] at hv hl
        have y0 : 0 ≤ y := by omega
        have y1 : y ≤ 8 := by omega
        replace hv := Lib.hid hv
        clear hl l
        go_enter Tryd.func56, Tryd.ntmps56
        go_wp2
        go_ret
        exact ⟨ret_one (by have := hv.out; first | exact this | omega), rfl⟩
      · have g1 : x / 65536 ≤ 255 := by omega
        have g0 : 0 ≤ x / 65536 := by omega
        have hl := Lib.len8_of (x / 65536) g0 g1
        have hv : 16 + Lib.len8 (x / 65536) = ((Lib.bitLen x.toNat : Nat) : Int) := by
          rw [hl]
          have e : (x / 65536).toNat = x.toNat / 65536 := by omega
          have s := Lib.bitLen_shift 16 x.toNat (by omega) (by omega)
          rw [show (2 ^ 16 : Nat) = 65536 by decide] at s
          rw [e]; omega
        have l := Lib.bitLen_le8' (x / 65536) g0 g1
        obtain ⟨y, hy⟩ : ∃ y, Lib.len8 (x / 65536) = y := ⟨_, rfl⟩
        rw [hy] at hv hl
        have y0 : 0 ≤ y := by omega
        have y1 : y ≤ 8 := by omega
        replace hv := Lib.hid hv
        clear hl l
        go_enter Tryd.func56, Tryd.ntmps56
        go_wp2
        go_ret
        exact ⟨ret_one (by have := hv.out; first | exact this | omega), rfl⟩
    · by_cases c8 : 256 ≤ x
      · have g1 : x / 256 ≤ 255 := by omega
        have g0 : 0 ≤ x / 256 := by omega
        have hl := Lib.len8_of (x / 256) g0 g1
        have hv : 8 + Lib.len8 (x / 256) = ((Lib.bitLen x.toNat : Nat) : Int) := by
          rw [hl]
          have e : (x / 256).toNat = x.toNat / 256 := by omega
          have s := Lib.bitLen_shift 8 x.toNat (by omega) (by omega)
          rw [show (2 ^ 8 : Nat) = 256 by decide] at s
          rw [e]; omega
        have l := Lib.bitLen_le8' (x / 256) g0 g1
        obtain ⟨y, hy⟩ : ∃ y, Lib.len8 (x / 256) = y := ⟨_, rfl⟩
        rw [hy] at hv hl
        have y0 : 0 ≤ y := by omega
        have y1 : y ≤ 8 := by omega
        replace hv := Lib.hid hv
        clear hl l
        go_enter Tryd.func56, Tryd.ntmps56
        go_wp2
        go_ret
        exact ⟨ret_one (by have := hv.out; first | exact this | omega), rfl⟩
      · have g1 : x ≤ 255 := by omega
        have g0 : 0 ≤ x := by omega
        have hl := Lib.len8_of (x) g0 g1
        have hv : 0 + Lib.len8 (x) = ((Lib.bitLen x.toNat : Nat) : Int) := by
          rw [hl]
          omega
        have l := Lib.bitLen_le8' (x) g0 g1
        obtain ⟨y, hy⟩ : ∃ y, Lib.len8 (x) = y := ⟨_, rfl⟩
        rw [hy] at hv hl
        have y0 : 0 ≤ y := by omega
        have y1 : y ≤ 8 := by omega
        replace hv := Lib.hid hv
        clear hl l
        go_enter Tryd.func56, Tryd.ntmps56
        go_wp2
        go_ret
        exact ⟨ret_one (by have := hv.out; first | exact this | omega), rfl⟩
theorem lead_any (x : Int) (h : Nat) (w : World) (hx : U x) (H : M.LZ x.toNat h) :
    Calls Tryd.prog 50 #[.int .u64 x] w fun e w' => e = .returned (.int .i64 h) ∧ w = w' := by
  obtain ⟨h0, h1⟩ := hx
  have l := Lib.bitLen_le x.toNat 64 (by decide) (by omega)
  have e : (64 : Int) - ((Lib.bitLen x.toNat : Nat) : Int) = (h : Int) := by
    have := M.LZ_one H (M.LZ_len x.toNat (by omega))
    omega
  replace e := Lib.hid e
  replace H := Lib.hid H
  go_enter Tryd.func50, Tryd.ntmps50
  go_wp2_with (go_at_call 56; refine (len64_any _ _ (by omega) (by omega)).mono ?_; rintro e w' ⟨rfl, rfl⟩)
  go_ret
  exact ⟨ret_one e.out, rfl⟩
/-- The library's table of 64 bytes. -/
def deb (j : Nat) : Int := [0, 1, 56, 2, 57, 49, 28, 3, 61, 58, 42, 50, 38, 29, 17, 4, 62, 47, 59, 36, 45, 43, 51, 22, 53, 39, 33, 30, 24, 18, 12, 5, 63, 55, 48, 27, 60, 41, 37, 16, 46, 35, 44, 21, 52, 32, 23, 11, 54, 26, 40, 15, 34, 20, 31, 10, 25, 14, 19, 9, 13, 8, 7, 6].getD j 0
def Tb (w : World) : Prop := 0 < w.heap.size ∧ ∀ j : Nat, j < 64 → w.cell? ⟨0, j, none⟩ = some (.int .u8 (deb j))
theorem Tb.later {w w' : World} (h : Tb w) (b : Below w.heap.size w w') : Tb w' :=
  ⟨Nat.lt_of_lt_of_le h.1 b.size, fun j hj => by rw [b.cell (by exact h.1)]; exact h.2 j hj⟩
theorem deb_tab : ∀ t : Fin 64, 2 ^ t.val * 285870213051353865 % 18446744073709551616 / 288230376151711744 < 64 ∧ deb (2 ^ t.val * 285870213051353865 % 18446744073709551616 / 288230376151711744) = (t.val : Int) := by decide +kernel
theorem trail_any (x : Int) (t : Nat) (w : World) (hx : U x) (H : M.TZ x.toNat t) (hT : Tb w) :
    Calls Tryd.prog 51 #[.int .u64 x] w fun e w' => e = .returned (.int .i64 t) ∧ w = w' := by
  obtain ⟨h0, h1⟩ := hx
  rcases H with ⟨e, ht⟩ | ⟨ht, hm, hb⟩
  · subst ht
    obtain rfl : x = 0 := by omega
    go_enter Tryd.func51, Tryd.ntmps51
    go_wp2
    go_ret
    exact ⟨rfl, rfl⟩
  · have hx0 : x ≠ 0 := by
      intro h; subst h; simp at hb
    have hz : bits .and .u64 x (-x % 18446744073709551616) = ((2 ^ t : Nat) : Int) := by
      have e : -x % 18446744073709551616 = ((18446744073709551616 - x.toNat : Nat) : Int) := by omega
      rw [e, show x = ((x.toNat : Nat) : Int) by omega, u64_and_nat _ _ (by omega) (by omega)]
      simp only [Int.toNat_natCast]
      rw [M.low_and x.toNat t (by omega) ht hm hb]
    obtain ⟨d1, d2⟩ := deb_tab ⟨t, ht⟩
    simp only at d1 d2
    generalize 2 ^ t = p at d1 d2 hz
    obtain ⟨z, ez⟩ : ∃ z : Int, (p : Int) = z := ⟨_, rfl⟩
    obtain ⟨y, ey⟩ : ∃ y : Int, z * 285870213051353865 % 18446744073709551616 = y := ⟨_, rfl⟩
    obtain ⟨j, ej⟩ : ∃ j : Int, y / 288230376151711744 = j := ⟨_, rfl⟩
    rw [ez] at hz
    have hj' : j = ((p * 285870213051353865 % 18446744073709551616 / 288230376151711744 : Nat) : Int) := by rw [← ej, ← ey, ← ez]; simp
    have hj : j.toNat = p * 285870213051353865 % 18446744073709551616 / 288230376151711744 := by rw [hj']; exact Int.toNat_natCast _
    generalize p * 285870213051353865 % 18446744073709551616 / 288230376151711744 = m at d1 d2 hj' hj
    have j0 : 0 ≤ j := by omega
    have j1 : j < 64 := by omega
    clear hj'
    have hc := hT.2 j.toNat (by omega)
    rw [hj, d2, ← hj] at hc
    have t1 : (t : Int) ≤ 63 := by omega
    replace hm := Lib.hid hm
    replace hb := Lib.hid hb
    replace hj := Lib.hid hj
    replace hT := Lib.hid hT
    replace ez := Lib.hid ez
    rw [← IntKind.wrap_u64] at hz ey
    clear d1 d2
    go_enter Tryd.func51, Tryd.ntmps51
    go_wp2
    go_ret
    exact ⟨rfl, rfl⟩
end Go.Proofs.YtpnimgecfmpipaaDoor
