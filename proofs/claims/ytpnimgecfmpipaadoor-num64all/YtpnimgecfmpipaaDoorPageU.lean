/-
  What the page answers for each operation of one number; condition: the number is of 64 bits.
-/
import Derived.Test.YtpnimgecfmpipaaDoorPage
import Derived.Test.YtpnimgecfmpipaaDoorMathU
namespace Go.Proofs.YtpnimgecfmpipaaDoor
open Go.RowKit
theorem bit_u64 (a : Int) (i : Nat) (ha : U a) : bits .and .u64 (a / 2 ^ i) 1 = ((a.toNat / 2 ^ i % 2 : Nat) : Int) := by
  obtain ⟨X, rfl⟩ := Int.eq_ofNat_of_zero_le ha.1
  have e : (X : Int) / 2 ^ i = ((X / 2 ^ i : Nat) : Int) := by simp
  have h1 := ha.2
  have h2 : X / 2 ^ i ≤ X := Nat.div_le_self _ _
  rw [e, show (1 : Int) = ((1 : Nat) : Int) from rfl, u64_and_nat _ _ (by omega) (by omega), nat_mask1]
  simp
def LRel (a : Int) (w : World) (vn vi : Value) (w' : World) : Prop := ∃ n i : Int, vn = .int .u64 n ∧ vi = .int .i64 i ∧ n = 63 - i ∧ -1 ≤ i ∧ i ≤ 63 ∧ a.toNat < 2 ^ (i + 1).toNat ∧ w = w'
theorem half_lt (X k : Nat) (h : X < 2 ^ (k + 1)) (hb : X / 2 ^ k % 2 = 0) : X < 2 ^ k := by
  have h1 : X / 2 ^ k < 2 := by rw [Nat.div_lt_iff_lt_mul (Nat.two_pow_pos _), Nat.mul_comm, ← Nat.pow_succ]; exact h
  have h2 : X / 2 ^ k = 0 := by
    generalize X / 2 ^ k = y at h1 hb
    omega
  exact (Nat.div_eq_zero_iff_lt (Nat.two_pow_pos _)).1 h2
theorem half_ge (X k : Nat) (hb : X / 2 ^ k % 2 = 1) : 2 ^ k ≤ X := by
  rcases Nat.lt_or_ge X (2 ^ k) with h | h
  · rw [Nat.div_eq_of_lt h] at hb; simp at hb
  · exact h
set_option maxRecDepth 100000 in
set_option maxHeartbeats 2000000 in
theorem un_121 (a : Int) (h : Nat) (w : World) (ha : U a) (H : M.LZ a.toNat h) : Calls Tryd.prog 12 #[.int .i64 121, .int .u64 a, .int .i64 64] w fun e w' => e = .returned (.tuple #[.int .u64 h, .bool true]) ∧ w = w' := by
  have ha' := Lib.hid ha
  replace H := Lib.hid H
  have ha0 : 0 ≤ a := ha.1
  clear ha
  go_enter Tryd.func12, Tryd.ntmps12
  go_wp2
  go_loopw [8, 9] (fun vn vi w' => LRel a w vn vi w') (fun _ vi _ => (intOf vi + 1).toNat)
  case atStart => exact ⟨0, 63, rfl, rfl, by omega, by omega, by omega, by have := ha'.out.2; show a.toNat < 2 ^ 64; omega, rfl⟩
  case round =>
    obtain ⟨n, i, rfl, rfl, hn, hi0, hi1, hX, rfl⟩ := hrel
    have n0 : 0 ≤ n := by omega
    have n1 : n ≤ 64 := by omega
    replace hn := Lib.hid hn
    replace hX := Lib.hid hX
    by_cases hi : 0 ≤ i
    · have m1 : (min i.toNat 64 : Nat) = i.toNat := by omega
      have hb := bit_u64 a i.toNat ha'.out
      have hc := Nat.mod_lt (a.toNat / 2 ^ i.toNat) (show 0 < 2 by decide)
      by_cases hz : a.toNat / 2 ^ i.toNat % 2 = 0
      · rw [hz] at hb
        replace hz := Lib.hid hz
        clear hc
        simp only [Int.natCast_zero] at hb
        go_wp2
        refine ⟨⟨n + 1, i - 1, by go_num, by go_num, by have := hn.out; omega, by omega, by omega, ?_, rfl⟩, by simp [intOf]; omega⟩
        have e : (i + 1).toNat = i.toNat + 1 := by omega
        have := hX.out
        rw [e] at this
        rw [show (i - 1 + 1).toNat = i.toNat by omega]
        exact half_lt _ _ this hz.out
      · have hz1 : a.toNat / 2 ^ i.toNat % 2 = 1 := by omega
        rw [hz1] at hb
        replace hz1 := Lib.hid hz1
        clear hc hz
        go_wp2
        go_ret2
        refine ⟨?_, rfl⟩
        have e : (h : Int) = n := by
          have h1 := hX.out
          rw [show (i + 1).toNat = i.toNat + 1 by omega] at h1
          have h2 := half_ge _ _ hz1.out
          have := M.LZ_one H.out (show M.LZ a.toNat (63 - i.toNat) from .inr ⟨by omega, by rw [show 63 - (63 - i.toNat) = i.toNat by omega]; exact h2, by rw [show 64 - (63 - i.toNat) = i.toNat + 1 by omega]; exact h1⟩)
          have := hn.out
          omega
        rw [e]
        rfl
    · go_wp2
      go_ret2
      refine ⟨?_, rfl⟩
      have e : (h : Int) = n := by
        have h1 := hX.out
        rw [show (i + 1).toNat = 0 by omega] at h1
        have := M.LZ_one H.out (show M.LZ a.toNat 64 from .inl ⟨by simp at h1; omega, rfl⟩)
        have := hn.out
        omega
      rw [e]
      rfl
def TRel (a : Int) (w : World) (vn vi : Value) (w' : World) : Prop := ∃ i : Int, vn = .int .u64 i ∧ vi = .int .i64 i ∧ 0 ≤ i ∧ i ≤ 64 ∧ a.toNat % 2 ^ i.toNat = 0 ∧ w = w'
set_option maxRecDepth 100000 in
set_option maxHeartbeats 2000000 in
theorem un_122 (a : Int) (t : Nat) (w : World) (ha : U a) (H : M.TZ a.toNat t) : Calls Tryd.prog 12 #[.int .i64 122, .int .u64 a, .int .i64 64] w fun e w' => e = .returned (.tuple #[.int .u64 t, .bool true]) ∧ w = w' := by
  have ha' := Lib.hid ha
  replace H := Lib.hid H
  have ha0 : 0 ≤ a := ha.1
  clear ha
  go_enter Tryd.func12, Tryd.ntmps12
  go_wp2
  go_loopw [8, 10] (fun vn vi w' => TRel a w vn vi w') (fun _ vi _ => (64 - intOf vi).toNat)
  case atStart => exact ⟨0, rfl, rfl, by omega, by omega, by simp; omega, rfl⟩
  case round =>
    obtain ⟨i, rfl, rfl, hi0, hi1, hX, rfl⟩ := hrel
    replace hX := Lib.hid hX
    by_cases hi : i < 64
    · have m1 : (min i.toNat 64 : Nat) = i.toNat := by omega
      have hb := bit_u64 a i.toNat ha'.out
      have hc := Nat.mod_lt (a.toNat / 2 ^ i.toNat) (show 0 < 2 by decide)
      by_cases hz : a.toNat / 2 ^ i.toNat % 2 = 0
      · rw [hz] at hb
        replace hz := Lib.hid hz
        clear hc
        simp only [Int.natCast_zero] at hb
        go_wp2
        refine ⟨⟨i + 1, by go_num, by go_num, by omega, by omega, ?_, rfl⟩, by simp [intOf]; omega⟩
        rw [show (i + 1).toNat = i.toNat + 1 by omega, Nat.mod_pow_succ, hX.out, hz.out]
        simp
      · have hz1 : a.toNat / 2 ^ i.toNat % 2 = 1 := by omega
        rw [hz1] at hb
        replace hz1 := Lib.hid hz1
        clear hc hz
        go_wp2
        go_ret2
        refine ⟨?_, rfl⟩
        have e : (t : Int) = i := by
          have := M.TZ_one H.out (show M.TZ a.toNat i.toNat from .inr ⟨by omega, hX.out, hz1.out⟩)
          omega
        rw [e]
        rfl
    · go_wp2
      go_ret2
      refine ⟨?_, rfl⟩
      have e : (t : Int) = i := by
        have h1 := hX.out
        rw [show i.toNat = 64 by omega] at h1
        have h2 := ha'.out.2
        have := M.TZ_one H.out (show M.TZ a.toNat 64 from .inl ⟨by omega, rfl⟩)
        omega
      rw [e]
      rfl
def ORel (a : Int) (w : World) (vn vi : Value) (w' : World) : Prop := ∃ n i : Int, vn = .int .u64 n ∧ vi = .int .i64 i ∧ 0 ≤ n ∧ n ≤ i ∧ 0 ≤ i ∧ i ≤ 64 ∧ n = ((M.onesTo a.toNat i.toNat : Nat) : Int) ∧ w = w'
set_option maxRecDepth 100000 in
set_option maxHeartbeats 2000000 in
theorem un_123 (a : Int) (w : World) (ha : U a) : Calls Tryd.prog 12 #[.int .i64 123, .int .u64 a, .int .i64 64] w fun e w' => e = .returned (.tuple #[.int .u64 ((M.onesTo a.toNat 64 : Nat) : Int), .bool true]) ∧ w = w' := by
  have ha' := Lib.hid ha
  have ha0 : 0 ≤ a := ha.1
  clear ha
  go_enter Tryd.func12, Tryd.ntmps12
  go_wp2
  go_loopw [8, 11] (fun vn vi w' => ORel a w vn vi w') (fun _ vi _ => (64 - intOf vi).toNat)
  case atStart => exact ⟨0, 0, rfl, rfl, by omega, by omega, by omega, by omega, rfl, rfl⟩
  case round =>
    obtain ⟨n, i, rfl, rfl, n0, n1, hi0, hi1, hX, rfl⟩ := hrel
    replace hX := Lib.hid hX
    by_cases hi : i < 64
    · have m1 : (min i.toNat 64 : Nat) = i.toNat := by omega
      have hb := bit_u64 a i.toNat ha'.out
      obtain ⟨c, hc⟩ : ∃ c : Int, ((a.toNat / 2 ^ i.toNat % 2 : Nat) : Int) = c := ⟨_, rfl⟩
      rw [hc] at hb
      have hc2 := Nat.mod_lt (a.toNat / 2 ^ i.toNat) (show 0 < 2 by decide)
      have c0 : 0 ≤ c := by omega
      have c1 : c ≤ 1 := by omega
      clear hc2
      replace hc := Lib.hid hc
      go_wp2
      refine ⟨⟨n + c, i + 1, by go_num, by go_num, by omega, by omega, by omega, by omega, ?_, rfl⟩, by simp [intOf]; omega⟩
      rw [show (i + 1).toNat = i.toNat + 1 by omega]
      have h1 := hX.out
      have h2 := hc.out
      simp only [M.onesTo]
      omega
    · go_wp2
      go_ret2
      refine ⟨?_, rfl⟩
      have e : ((M.onesTo a.toNat 64 : Nat) : Int) = n := by
        have h1 := hX.out
        rw [show i.toNat = 64 by omega] at h1
        exact h1.symm
      rw [e]
      rfl
theorem un_80 (a : Int) (w : World) : Calls Tryd.prog 12 #[.int .i64 80, .int .u64 a, .int .i64 64] w fun e w' => e = .returned (.tuple #[.int .u64 (M.fl (decide (a = 0))), .bool true]) ∧ w = w' := by
  go_enter Tryd.func12, Tryd.ntmps12
  go_wp2_with (go_at_call 19; refine (flag_any _ _).mono ?_; rintro e w' ⟨rfl, rfl⟩)
  go_ret2
  exact ⟨by first | rfl | exact (congrArg (fun x => Ending.returned (.tuple #[.int .u64 (M.fl x), .bool true])) (by simp [beq_eq_decide])), rfl⟩
set_option maxRecDepth 100000 in
theorem un_none (op a : Int) (w : World) (h1 : op ≠ 80) (h2 : op ≠ 121) (h3 : op ≠ 122) (h4 : op ≠ 123) : Calls Tryd.prog 12 #[.int .i64 op, .int .u64 a, .int .i64 64] w fun e w' => e = .returned (.tuple #[.int .u64 0, .bool false]) ∧ w = w' := by
  go_enter Tryd.func12, Tryd.ntmps12
  go_wp2
  go_ret2
  exact ⟨rfl, rfl⟩
theorem Un64_of (op a v : Int) (s : Bool) (w : World)
    (hu : Calls Tryd.prog 12 #[.int .i64 op, .int .u64 a, .int .i64 64] w fun e w' => e = .returned (.tuple #[.int .u64 v, .bool s]) ∧ w = w') :
    Calls Tryd.prog 6 #[.int .i64 op, .int .u64 a] w fun e w' => e = .returned (.tuple #[.int .u64 v, .bool s]) ∧ w = w' := by
  replace hu := Lib.hid hu
  go_enter Tryd.func6, Tryd.ntmps6
  go_wp2_with fail
  refine hu.out.mono ?_
  rintro e w1 ⟨rfl, rfl⟩
  go_wp2
  go_ret2
  exact ⟨rfl, rfl⟩
theorem lz_ex (a : Int) (ha : U a) : ∃ h : Nat, M.LZ a.toNat h ∧ (h : Int) = M.lz a := by
  have := ha.2
  have h := M.LZ_len a.toNat (by omega)
  exact ⟨_, h, M.lz_eq a _ h⟩
theorem tz_ex (a : Int) (ha : U a) : ∃ h : Nat, M.TZ a.toNat h ∧ (h : Int) = M.tz a := by
  have := ha.2
  obtain ⟨t, h⟩ := M.TZ_ex a.toNat (by omega)
  exact ⟨_, h, M.tz_eq a _ h⟩
theorem Un64_yes (op a : Int) (w : World) (ha : U a) (h : M.isUn op) :
    Calls Tryd.prog 6 #[.int .i64 op, .int .u64 a] w fun e w' => e = .returned (.tuple #[.int .u64 (M.uval op a), .bool true]) ∧ w = w' := by
  rcases h with rfl | rfl | rfl | rfl
  · rw [show M.uval 80 a = M.fl (decide (a = 0)) by simp [M.uval]]
    exact Un64_of 80 a _ true w (un_80 a w)
  · obtain ⟨h, H, e⟩ := lz_ex a ha
    rw [show M.uval 121 a = (h : Int) by simp [M.uval, e]]
    exact Un64_of 121 a _ true w (un_121 a h w ha H)
  · obtain ⟨h, H, e⟩ := tz_ex a ha
    rw [show M.uval 122 a = (h : Int) by simp [M.uval, e]]
    exact Un64_of 122 a _ true w (un_122 a h w ha H)
  · rw [show M.uval 123 a = ((M.onesTo a.toNat 64 : Nat) : Int) by simp [M.uval]]
    exact Un64_of 123 a _ true w (un_123 a w ha)
theorem Un64_no (op a : Int) (w : World) (ha : U a) (h : ¬ M.isUn op) :
    Calls Tryd.prog 6 #[.int .i64 op, .int .u64 a] w fun e w' => e = .returned (.tuple #[.int .u64 0, .bool false]) ∧ w = w' := by
  unfold M.isUn at h
  exact Un64_of op a 0 false w (un_none op a w (by omega) (by omega) (by omega) (by omega))
end Go.Proofs.YtpnimgecfmpipaaDoor
