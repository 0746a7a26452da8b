/-
  The library's count of the bits that are 1; condition: the number is of 64 bits.
-/
import Derived.Test.YtpnimgecfmpipaaDoorTabU
import Derived.Laws.Bits128
namespace Go.Proofs.YtpnimgecfmpipaaDoor
open Go.RowKit
theorem and_at (a m : Nat) (b : Int) (ha : a < 18446744073709551616) (hm : m < 18446744073709551616) (hb : b = (a : Int)) : bits .and .u64 b (m : Int) = ((a &&& m : Nat) : Int) := by
  rw [hb]; exact u64_and_nat a m ha hm
theorem wrap_at (a : Nat) (b : Int) (ha : a < 18446744073709551616) (hb : b = (a : Int)) : IntKind.u64.wrap b = (a : Int) := by
  rw [hb, IntKind.wrap_u64]; omega
theorem pop_ex (x : Int) (h0 : 0 ≤ x) (h1 : x ≤ 18446744073709551615) : ∃ p1 q1 x1 p2 q2 x2 s x3 y1 y2 y3 : Int,
    bits .and .u64 (x / 2) 6148914691236517205 = p1 ∧ bits .and .u64 x 6148914691236517205 = q1 ∧ IntKind.u64.wrap (p1 + q1) = x1 ∧
    bits .and .u64 (x1 / 4) 3689348814741910323 = p2 ∧ bits .and .u64 x1 3689348814741910323 = q2 ∧ IntKind.u64.wrap (p2 + q2) = x2 ∧
    IntKind.u64.wrap (x2 / 16 + x2) = s ∧ bits .and .u64 s 1085102592571150095 = x3 ∧ IntKind.u64.wrap (x3 + x3 / 256) = y1 ∧ IntKind.u64.wrap (y1 + y1 / 65536) = y2 ∧ IntKind.u64.wrap (y2 + y2 / 4294967296) = y3 ∧
    0 ≤ y3 ∧ y3 < 18446744073709551616 ∧ y3 % 128 = ((M.onesTo x.toNat 64 : Nat) : Int) := by
  obtain ⟨X, rfl⟩ := Int.eq_ofNat_of_zero_le h0
  have hX : X < 18446744073709551616 := by omega
  obtain ⟨x1, x2, x3, y1, y2, y3, e1, e2, e3, e4, e5, e6, k1, k2, k3, k4, k5, k6, k7, hr⟩ := M.swar X hX
  refine ⟨((X / 2 &&& 6148914691236517205 : Nat) : Int), ((X &&& 6148914691236517205 : Nat) : Int), (x1 : Int), ((x1 / 4 &&& 3689348814741910323 : Nat) : Int), ((x1 &&& 3689348814741910323 : Nat) : Int), (x2 : Int), ((x2 / 16 + x2 : Nat) : Int), (x3 : Int), (y1 : Int), (y2 : Int), (y3 : Int), ?_⟩
  refine ⟨?_, ?_, ?_, ?_, ?_, ?_, ?_, ?_, ?_, ?_, ?_, ?_, ?_, ?_⟩
  · exact and_at (X / 2) _ _ (by omega) (by decide) (by omega)
  · exact and_at X _ _ hX (by decide) rfl
  · exact wrap_at x1 _ k1 (by rw [← e1]; exact (Int.natCast_add _ _).symm)
  · exact and_at (x1 / 4) _ _ (by omega) (by decide) (by omega)
  · exact and_at x1 _ _ k1 (by decide) rfl
  · exact wrap_at x2 _ k2 (by rw [← e2]; exact (Int.natCast_add _ _).symm)
  · exact wrap_at (x2 / 16 + x2) _ k3 (by omega)
  · rw [← e3]; exact and_at (x2 / 16 + x2) _ _ k3 (by decide) rfl
  · exact wrap_at y1 _ k5 (by omega)
  · exact wrap_at y2 _ k6 (by omega)
  · exact wrap_at y3 _ k7 (by omega)
  · omega
  · omega
  · rw [Int.toNat_natCast]; omega
set_option maxRecDepth 100000 in
set_option maxHeartbeats 4000000 in
theorem pop_any (x : Int) (w : World) (hx : U x) :
    Calls Tryd.prog 52 #[.int .u64 x] w fun e w' => e = .returned (.int .i64 ((M.onesTo x.toNat 64 : Nat) : Int)) ∧ w = w' := by
  obtain ⟨h0, h1⟩ := hx
  obtain ⟨p1, q1, x1, p2, q2, x2, s, x3, y1, y2, y3, e1, e2, e3, e4, e5, e6, e7, e8, e9, e10, e11, z0, z1, hr⟩ := pop_ex x h0 h1
  have hz := i64_and127 (wrap64 y3)
  have hz2 : wrap64 y3 % 128 = ((M.onesTo x.toNat 64 : Nat) : Int) := by
    rw [← hr]; unfold wrap64; omega
  rw [hz2] at hz
  replace hr := Lib.hid hr
  clear hz2
  go_enter Tryd.func52, Tryd.ntmps52
  go_wp2
  go_ret
  exact ⟨rfl, rfl⟩
end Go.Proofs.YtpnimgecfmpipaaDoor
