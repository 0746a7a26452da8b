/-
  The library's counting of bits; conditions: the number is of 32 bits, and the library's own table of 32 bytes reads as it is laid.
-/
import Derived.Test.YtpolbefcgbpmmaaDoorPageU
namespace Go.Proofs.YtpolbefcgbpmmaaDoor
open Go.RowKit
set_option maxRecDepth 100000 in
set_option maxHeartbeats 4000000 in
theorem len32_any (x : Int) (w : World) (h0 : 0 ≤ x) (h1 : x ≤ 4294967295) :
    Calls Tryd.prog 58 #[.int .u32 x] w fun e w' => e = .returned (.int .i64 (Lib.bitLen x.toNat)) ∧ w = w' := by
  by_cases c1 : 65536 ≤ x
  · by_cases c2 : 256 ≤ x / 65536
    · have g1 : x / 65536 / 256 ≤ 255 := by omega
      have g0 : 0 ≤ x / 65536 / 256 := by omega
      have hv : 24 + Lib.len8 (x / 65536 / 256) = ((Lib.bitLen x.toNat : Nat) : Int) := by
        rw [Lib.len8_of _ g0 g1]
        have e : (x / 65536 / 256).toNat = x.toNat / 16777216 := by omega
        have s := Lib.bitLen_shift24 x.toNat (by omega) (by omega)
        rw [e]; omega
      have hl := Lib.len8_of (x / 65536 / 256) g0 g1
      have l := Lib.bitLen_le8' (x / 65536 / 256) g0 g1
      obtain ⟨y, hy⟩ : ∃ y, Lib.len8 (x / 65536 / 256) = y := ⟨_, rfl⟩
      rw [hy] at hv hl
      have y0 : 0 ≤ y := by omega
      have y1 : y ≤ 8 := by omega
      replace hv := Lib.hid hv
      clear hl l
      go_enter Tryd.func58, Tryd.ntmps58
      go_wp2
      go_ret
      exact ⟨ret_one (by have := hv.out; first | exact this | omega), rfl⟩
    · have g1 : x / 65536 ≤ 255 := by omega
      have g0 : 0 ≤ x / 65536 := by omega
      have hv : 16 + Lib.len8 (x / 65536) = ((Lib.bitLen x.toNat : Nat) : Int) := by
        rw [Lib.len8_of _ g0 g1]
        have e : (x / 65536).toNat = x.toNat / 65536 := by omega
        have s := Lib.bitLen_shift16 x.toNat (by omega) (by omega)
        rw [e]; omega
      have hl := Lib.len8_of (x / 65536) g0 g1
      have l := Lib.bitLen_le8' (x / 65536) g0 g1
      obtain ⟨y, hy⟩ : ∃ y, Lib.len8 (x / 65536) = y := ⟨_, rfl⟩
      rw [hy] at hv hl
      have y0 : 0 ≤ y := by omega
      have y1 : y ≤ 8 := by omega
      replace hv := Lib.hid hv
      clear hl l
      go_enter Tryd.func58, Tryd.ntmps58
      go_wp2
      go_ret
      exact ⟨ret_one (by have := hv.out; first | exact this | omega), rfl⟩
  · by_cases c2 : 256 ≤ x
    · have g1 : x / 256 ≤ 255 := by omega
      have g0 : 0 ≤ x / 256 := by omega
      have hv : 8 + Lib.len8 (x / 256) = ((Lib.bitLen x.toNat : Nat) : Int) := by
        rw [Lib.len8_of _ g0 g1]
        have e : (x / 256).toNat = x.toNat / 256 := by omega
        have s := Lib.bitLen_shift8 x.toNat (by omega) (by omega)
        rw [e]; omega
      have hl := Lib.len8_of (x / 256) g0 g1
      have l := Lib.bitLen_le8' (x / 256) g0 g1
      obtain ⟨y, hy⟩ : ∃ y, Lib.len8 (x / 256) = y := ⟨_, rfl⟩
      rw [hy] at hv hl
      have y0 : 0 ≤ y := by omega
      have y1 : y ≤ 8 := by omega
      replace hv := Lib.hid hv
      clear hl l
      go_enter Tryd.func58, Tryd.ntmps58
      go_wp2
      go_ret
      exact ⟨ret_one (by have := hv.out; first | exact this | omega), rfl⟩
    · have g1 : x ≤ 255 := by omega
      have hv := Lib.len8_of x h0 g1
      have l := Lib.bitLen_le8' x h0 g1
      obtain ⟨y, hy⟩ : ∃ y, Lib.len8 x = y := ⟨_, rfl⟩
      rw [hy] at hv
      have y0 : 0 ≤ y := by omega
      have y1 : y ≤ 8 := by omega
      replace hv := Lib.hid hv
      clear l
      go_enter Tryd.func58, Tryd.ntmps58
      go_wp2
      go_ret
      exact ⟨ret_one (by have := hv.out; first | exact this | omega), rfl⟩
theorem lead_any (x : Int) (h : Nat) (w : World) (hx : U x) (H : M.LZ x.toNat h) :
    Calls Tryd.prog 52 #[.int .u32 x] w fun e w' => e = .returned (.int .i64 h) ∧ w = w' := by
  obtain ⟨h0, h1⟩ := hx
  have l := Lib.bitLen_le x.toNat 32 (by decide) (by omega)
  have e : (32 : Int) - ((Lib.bitLen x.toNat : Nat) : Int) = (h : Int) := by
    have := M.LZ_one H (M.LZ_len x.toNat (by omega))
    omega
  replace e := Lib.hid e
  replace H := Lib.hid H
  go_enter Tryd.func52, Tryd.ntmps52
  go_wp2_with (go_at_call 58; refine (len32_any _ _ (by omega) (by omega)).mono ?_; rintro e w' ⟨rfl, rfl⟩)
  go_ret
  exact ⟨ret_one e.out, rfl⟩
theorem byte_ex (x : Int) (h0 : 0 ≤ x) (h1 : x ≤ 4294967295) : ∃ b p : Int, bits .and .u32 x 255 = b ∧ 0 ≤ b ∧ b ≤ 255 ∧ Lib.pop8 b = p ∧ 0 ≤ p ∧ p ≤ 8 ∧ p = ((M.onesTo x.toNat 8 : Nat) : Int) := by
  have e : bits .and .u32 x 255 = x % 256 := by
    rw [u32_and x 255 h0 (by omega) (by omega) (by omega), show (255 : Int).toNat = 2 ^ 8 - 1 by rfl, Nat.and_two_pow_sub_one_eq_mod]
    omega
  have h2 := Lib.pop8_eq ⟨x.toNat % 256, Nat.mod_lt _ (by decide)⟩
  have h3 := M.ones8 x.toNat
  have h4 := M.ones_le x.toNat 8
  have e2 : x % 256 = ((x.toNat % 256 : Nat) : Int) := by omega
  refine ⟨_, _, e, by omega, by omega, rfl, ?_, ?_, ?_⟩
  · rw [e2]; simp only at h2; rw [h2]; omega
  · rw [e2]; simp only at h2; rw [h2]; omega
  · rw [e2]; simp only at h2; rw [h2]; omega
set_option maxRecDepth 100000 in
set_option maxHeartbeats 4000000 in
theorem pop_any (x : Int) (w : World) (hx : U x) :
    Calls Tryd.prog 54 #[.int .u32 x] w fun e w' => e = .returned (.int .i64 ((M.onesTo x.toNat 32 : Nat) : Int)) ∧ Below w.heap.size w w' := by
  obtain ⟨h0, h1⟩ := hx
  obtain ⟨b0, p0, e0, k0, k0', q0, r0, r0', s0⟩ := byte_ex x h0 h1
  obtain ⟨b1, p1, e1, k1, k1', q1, r1, r1', s1⟩ := byte_ex (x / 256) (by omega) (by omega)
  obtain ⟨b2, p2, e2, k2, k2', q2, r2, r2', s2⟩ := byte_ex (x / 65536) (by omega) (by omega)
  obtain ⟨b3, p3, e3, k3, k3', q3, r3, r3', s3⟩ := byte_ex (x / 16777216) (by omega) (by omega)
  have e3' : x / 16777216 = b3 := by
    rw [← e3, u32_and _ 255 (by omega) (by omega) (by omega) (by omega), show (255 : Int).toNat = 2 ^ 8 - 1 by rfl, Nat.and_two_pow_sub_one_eq_mod]
    omega
  have hs : p3 + p2 + p1 + p0 = ((M.onesTo x.toNat 32 : Nat) : Int) := by
    rw [M.ones_unroll, s0, s1, s2, s3]
    rw [show (x / 256).toNat = x.toNat / 256 by omega, show (x / 65536).toNat = x.toNat / 65536 by omega, show (x / 16777216).toNat = x.toNat / 16777216 by omega]
    omega
  clear s0 s1 s2 s3 e3
  replace hs := Lib.hid hs
  have w1 : IntKind.u8.wrap (p3 + p2) = p3 + p2 := by rw [IntKind.wrap_u8]; omega
  have w2 : IntKind.u8.wrap (p3 + p2 + p1) = p3 + p2 + p1 := by rw [IntKind.wrap_u8]; omega
  have w3 : IntKind.u8.wrap (p3 + p2 + p1 + p0) = p3 + p2 + p1 + p0 := by rw [IntKind.wrap_u8]; omega
  have w4 : IntKind.i64.wrap (p3 + p2 + p1 + p0) = p3 + p2 + p1 + p0 := by rw [IntKind.wrap_i64]; omega
  go_enter Tryd.func54, Tryd.ntmps54
  go_wp2
  go_quiet (fail)
  go_wp2
  go_ret
  exact ⟨ret_one hs.out, below_drewN (Below.refl _ _) _⟩
/-- The library's table of 32 bytes. -/
def deb (j : Nat) : Int := [0, 1, 28, 2, 29, 14, 24, 3, 30, 22, 20, 15, 25, 17, 4, 8, 31, 27, 13, 23, 21, 19, 16, 7, 26, 12, 18, 6, 11, 5, 10, 9].getD j 0
def Tb (w : World) : Prop := 0 < w.heap.size ∧ ∀ j : Nat, j < 32 → w.cell? ⟨0, j, none⟩ = some (.int .u8 (deb j))
theorem Tb.later {w w' : World} (h : Tb w) (b : Below w.heap.size w w') : Tb w' :=
  ⟨Nat.lt_of_lt_of_le h.1 b.size, fun j hj => by rw [b.cell (by exact h.1)]; exact h.2 j hj⟩
theorem deb_tab : ∀ t : Fin 32, 2 ^ t.val * 125613361 % 4294967296 / 134217728 < 32 ∧ deb (2 ^ t.val * 125613361 % 4294967296 / 134217728) = (t.val : Int) := by decide +kernel
theorem trail_any (x : Int) (t : Nat) (w : World) (hx : U x) (H : M.TZ x.toNat t) (hT : Tb w) :
    Calls Tryd.prog 53 #[.int .u32 x] w fun e w' => e = .returned (.int .i64 t) ∧ w = w' := by
  obtain ⟨h0, h1⟩ := hx
  rcases H with ⟨e, ht⟩ | ⟨ht, hm, hb⟩
  · subst ht
    obtain rfl : x = 0 := by omega
    go_enter Tryd.func53, Tryd.ntmps53
    go_wp2
    go_ret
    exact ⟨rfl, rfl⟩
  · have hx0 : x ≠ 0 := by
      intro h; subst h; simp at hb
    have hz : bits .and .u32 x (-x % 4294967296) = ((2 ^ t : Nat) : Int) := by
      have e : -x % 4294967296 = ((4294967296 - x.toNat : Nat) : Int) := by omega
      rw [e, show x = ((x.toNat : Nat) : Int) by omega, u32_and_nat _ _ (by omega) (by omega)]
      simp only [Int.toNat_natCast]
      rw [M.low_and x.toNat t (by omega) ht hm hb]
    obtain ⟨d1, d2⟩ := deb_tab ⟨t, ht⟩
    simp only at d1 d2
    generalize 2 ^ t = p at d1 d2 hz
    obtain ⟨z, ez⟩ : ∃ z : Int, (p : Int) = z := ⟨_, rfl⟩
    obtain ⟨y, ey⟩ : ∃ y : Int, z * 125613361 % 4294967296 = y := ⟨_, rfl⟩
    obtain ⟨j, ej⟩ : ∃ j : Int, y / 134217728 = j := ⟨_, rfl⟩
    rw [ez] at hz
    have hj' : j = ((p * 125613361 % 4294967296 / 134217728 : Nat) : Int) := by rw [← ej, ← ey, ← ez]; simp
    have hj : j.toNat = p * 125613361 % 4294967296 / 134217728 := by rw [hj']; exact Int.toNat_natCast _
    generalize p * 125613361 % 4294967296 / 134217728 = m at d1 d2 hj' hj
    have j0 : 0 ≤ j := by omega
    have j1 : j < 32 := by omega
    clear hj'
    have hc := hT.2 j.toNat (by omega)
    rw [hj, d2, ← hj] at hc
    have t1 : (t : Int) ≤ 31 := by omega
    replace hm := Lib.hid hm
    replace hb := Lib.hid hb
    replace hj := Lib.hid hj
    replace hT := Lib.hid hT
    replace ez := Lib.hid ez
    clear d1 d2
    go_enter Tryd.func53, Tryd.ntmps53
    go_wp2
    go_ret
    exact ⟨rfl, rfl⟩
end Go.Proofs.YtpolbefcgbpmmaaDoor
