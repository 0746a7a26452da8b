/-
  The law on counted bits, walked: for every list it returns true and writes nothing that was there; conditions: the list lies in memory as 'Asks' says, the library's table reads as it is laid.
-/
import Derived.Test.YtpolbefcgbpmmaaDoorUns
namespace Go.Proofs.YtpolbefcgbpmmaaDoor
open Go.RowKit
theorem not_nat (X : Nat) (h : X < 4294967296) : 4294967295 ^^^ X = 4294967295 - X := by
  apply Nat.eq_of_testBit_eq
  intro i
  have h1 := Nat.testBit_two_pow_sub_succ (n := 32) h i
  rw [show 2 ^ 32 - (X + 1) = 4294967295 - X by omega] at h1
  rw [h1, Nat.testBit_xor, show (4294967295 : Nat) = 2 ^ 32 - 1 by decide, Nat.testBit_two_pow_sub_one]
  by_cases hi : i < 32
  · simp [hi]
  · have h2 : X.testBit i = false := Nat.testBit_lt_two_pow (Nat.lt_of_lt_of_le h (show 2 ^ 32 ≤ 2 ^ i from Nat.pow_le_pow_right (by decide) (by omega)))
    simp [hi, h2]
theorem not32 (a : Int) (ha : U a) : bits .xor .u32 IntKind.u32.max a = 4294967295 - a := by
  obtain ⟨h0, h1⟩ := ha
  rw [show IntKind.u32.max = 4294967295 by decide, u32_xor 4294967295 a (by omega) (by omega) h0 (by omega), show (4294967295 : Int).toNat = 4294967295 by rfl, not_nat a.toNat (by omega)]
  omega
theorem Un_at (op a v : Int) (w : World) (ha : U a) (hT : Tb w) (h : M.isUn op) (hv : M.uval op a = v) :
    Calls Tryd.prog 6 #[.int .i64 op, .int .u32 a] w fun e w' => e = .returned (.tuple #[.int .u32 v, .int .i64 0]) ∧ Below w.heap.size w w' := by
  subst hv
  exact Un_yes op a w ha hT h
theorem lz_facts (a : Int) (ha : U a) : ∃ h : Int, M.uval 103 a = h ∧ 0 ≤ h ∧ h ≤ 32 ∧ (a = 0 → h = 32) ∧ (a ≠ 0 → a * 2 ^ h.toNat % 4294967296 / 2147483648 = 1 ∧ a / 2 ^ (32 - h).toNat = 0) := by
  obtain ⟨h, H, e⟩ := lz_ex a ha
  have hl := M.LZ_le H
  have h1 := ha.1
  have h2 := ha.2
  refine ⟨h, by rw [e]; simp [M.uval], by omega, by omega, fun h0 => ?_, fun h0 => ?_⟩
  · subst h0
    have := M.LZ_one H (show M.LZ 0 32 from .inl ⟨rfl, rfl⟩)
    omega
  · rcases H with ⟨H1, _⟩ | ⟨H1, H2, H3⟩
    · omega
    · obtain ⟨X, rfl⟩ := Int.eq_ofNat_of_zero_le h1
      simp only [Int.toNat_natCast] at H2 H3 ⊢
      have k1 : 2147483648 ≤ X * 2 ^ h := by
        have := Nat.mul_le_mul_right (2 ^ h) H2
        rw [← Nat.pow_add, show 31 - h + h = 31 by omega] at this
        omega
      have k2 : X * 2 ^ h < 4294967296 := by
        have := Nat.mul_lt_mul_of_pos_right H3 (Nat.two_pow_pos h)
        rw [← Nat.pow_add, show 32 - h + h = 32 by omega] at this
        omega
      have e1 : (X : Int) * 2 ^ h = ((X * 2 ^ h : Nat) : Int) := by simp
      constructor
      · rw [e1]; omega
      · rw [show (32 - (h : Int)).toNat = 32 - h by omega]
        have e2 : (X : Int) / 2 ^ (32 - h) = ((X / 2 ^ (32 - h) : Nat) : Int) := by simp
        rw [e2, Nat.div_eq_of_lt H3]
        rfl
theorem tz_facts (a : Int) (ha : U a) : ∃ t : Int, M.uval 104 a = t ∧ 0 ≤ t ∧ t ≤ 32 ∧ (a = 0 → t = 32) ∧ (a ≠ 0 → bits .and .u32 (a / 2 ^ t.toNat) 1 = 1 ∧ a * 2 ^ (32 - t).toNat % 4294967296 = 0) := by
  obtain ⟨t, H, e⟩ := tz_ex a ha
  have hl := M.TZ_le H
  have h1 := ha.1
  have h2 := ha.2
  refine ⟨t, by rw [e]; simp [M.uval], by omega, by omega, fun h0 => ?_, fun h0 => ?_⟩
  · subst h0
    have := M.TZ_one H (show M.TZ 0 32 from .inl ⟨rfl, rfl⟩)
    omega
  · rcases H with ⟨H1, _⟩ | ⟨H1, H2, H3⟩
    · omega
    · obtain ⟨X, rfl⟩ := Int.eq_ofNat_of_zero_le h1
      simp only [Int.toNat_natCast] at H2 H3 ⊢
      constructor
      · have e2 : (X : Int) / 2 ^ t = ((X / 2 ^ t : Nat) : Int) := by simp
        have h3 : X / 2 ^ t ≤ X := Nat.div_le_self _ _
        rw [e2, show (1 : Int) = ((1 : Nat) : Int) from rfl, u32_and_nat _ _ (by omega) (by omega), nat_mask1, H3]
      · rw [show (32 - (t : Int)).toNat = 32 - t by omega]
        obtain ⟨q, hq⟩ := Nat.dvd_of_mod_eq_zero H2
        have e1 : (X : Int) * 2 ^ (32 - t) = ((X * 2 ^ (32 - t) : Nat) : Int) := by simp
        have e3 : X * 2 ^ (32 - t) = 4294967296 * q := by
          rw [hq, Nat.mul_comm (2 ^ t) q, Nat.mul_assoc, ← Nat.pow_add, show t + (32 - t) = 32 by omega, Nat.mul_comm]
        rw [e1, e3]
        omega
theorem ones_facts (a : Int) (ha : U a) : ∃ n m : Int, M.uval 105 a = n ∧ M.uval 105 (4294967295 - a) = m ∧ 0 ≤ n ∧ 0 ≤ m ∧ n ≤ 32 ∧ m ≤ 32 ∧ n + m = 32 := by
  have h1 := ha.1
  have h2 := ha.2
  have h3 := M.ones_not a.toNat (by omega) 32 (by omega)
  refine ⟨_, _, by simp [M.uval]; rfl, by simp [M.uval]; rfl, ?_⟩
  rw [show (4294967295 - a).toNat = 4294967295 - a.toNat by omega]
  omega
theorem zero_facts (a : Int) : ∃ o : Int, M.uval 69 a = o ∧ (a = 0 → o = 1) ∧ (a ≠ 0 → o = 0) := by
  refine ⟨_, rfl, fun h => ?_, fun h => ?_⟩
  · simp [M.uval, M.fl, h]
  · simp [M.uval, M.fl, h]
set_option maxRecDepth 100000 in
set_option maxHeartbeats 4000000 in
theorem Num32Bits_walk (A : Option Addr) (n c : Nat) (w : World) (h : Asks w A n) (hT : Tb w) :
    Calls Tryd.prog 5 #[.slice A n c] w fun e w' => e = .returned (.bool true) ∧ Below w.heap.size w w' := by
  obtain ⟨hn, h⟩ := h
  unfold maxLen at hn
  replace h := Lib.hid h
  replace hT := Lib.hid hT
  go_enter Tryd.func5, Tryd.ntmps5
  go_wp2
  go_loopw [3] (fun i w' => ∃ k : Nat, k ≤ n ∧ i = .int .i64 k ∧ Below w.heap.size w w') (fun i _ => n - (intOf i).toNat)
  case atStart => exact ⟨0, by omega, rfl, Below.refl _ _⟩
  case round =>
    obtain ⟨k, hk, rfl, hbw⟩ := hrel
    by_cases hlt : k < n
    · obtain ⟨g, o, a, b, op, rfl, hg, q0, q1, q2, ha, hb, hop⟩ := h.out k hlt
      clear hop q1 q2 hb
      have t0 : (0 : Int) ≤ (k : Int) := by omega
      have t1 : (k : Int) < (n : Int) := by omega
      have p0 : wr.cell? ⟨g, o + k * 3, none⟩ = some (.int .u32 a) := by rw [hbw.cell (by exact hg)]; exact q0
      clear q0
      by_cases h30 : k < 30
      · obtain ⟨hh, v1, a1, a2, a3, a4⟩ := lz_facts a ha
        obtain ⟨tt, v2, b1, b2, b3, b4⟩ := tz_facts a ha
        obtain ⟨nn, mm, v3, v4, c1, c2, c3, c4, c5⟩ := ones_facts a ha
        obtain ⟨oo, v5, o1, o2⟩ := zero_facts a
        have hna : U (4294967295 - a) := by have := ha.1; have := ha.2; unfold U; omega
        have nx := not32 a ha
        replace v1 := Lib.hid v1
        replace v2 := Lib.hid v2
        replace v3 := Lib.hid v3
        replace v4 := Lib.hid v4
        replace v5 := Lib.hid v5
        have m1 : (min hh.toNat 32 : Nat) = hh.toNat := by omega
        have m2 : (min (32 - hh).toNat 32 : Nat) = (32 - hh).toNat := by omega
        have m3 : (min tt.toNat 32 : Nat) = tt.toNat := by omega
        have m4 : (min (32 - tt).toNat 32 : Nat) = (32 - tt).toNat := by omega
        by_cases hz : a = 0
        · obtain rfl := a3 hz
          obtain rfl := b3 hz
          obtain rfl := o1 hz
          have tz : (a == 0) = true := by simp [hz]
          clear a3 a4 b3 b4 o1 o2 hz
          go_wp2_with fail
          refine (Un_at 105 a nn _ ha (hT.out.later hbw) (by unfold M.isUn; omega) v3.out).mono ?_
          rintro e w1 ⟨rfl, y1⟩
          have d1 := Lib.hid (hbw.trans (y1.mono hbw.size))
          clear y1
          go_wp2_with fail
          refine (Un_at 105 (4294967295 - a) mm _ hna (hT.out.later d1.out) (by unfold M.isUn; omega) v4.out).mono ?_
          rintro e w2 ⟨rfl, y1⟩
          have d2 := Lib.hid (d1.out.trans (y1.mono d1.out.size))
          clear y1
          go_wp2_with fail
          refine (Un_at 103 a 32 _ ha (hT.out.later d2.out) (by unfold M.isUn; omega) v1.out).mono ?_
          rintro e w3 ⟨rfl, y1⟩
          have d3 := Lib.hid (d2.out.trans (y1.mono d2.out.size))
          clear y1
          go_wp2_with fail
          refine (Un_at 104 a 32 _ ha (hT.out.later d3.out) (by unfold M.isUn; omega) v2.out).mono ?_
          rintro e w4 ⟨rfl, y1⟩
          have d4 := Lib.hid (d3.out.trans (y1.mono d3.out.size))
          clear y1
          go_wp2_with fail
          refine (Un_at 69 a 1 _ ha (hT.out.later d4.out) (by unfold M.isUn; omega) v5.out).mono ?_
          rintro e w5 ⟨rfl, y1⟩
          have d5 := Lib.hid (d4.out.trans (y1.mono d4.out.size))
          clear y1
          go_wp2_with (go_at_call 8; refine (num_any _ _).mono ?_; rintro e w6 ⟨rfl, rfl⟩)
          exact ⟨⟨k + 1, by omega, by go_num, d5.out⟩, by simp [intOf]; omega⟩
        · obtain ⟨a4, a5⟩ := a4 hz
          obtain ⟨b4, b5⟩ := b4 hz
          obtain rfl := o2 hz
          have tz : (a == 0) = false := by simp [hz]
          clear a3 b3 o1 o2 hz
          go_wp2_with fail
          refine (Un_at 105 a nn _ ha (hT.out.later hbw) (by unfold M.isUn; omega) v3.out).mono ?_
          rintro e w1 ⟨rfl, y1⟩
          have d1 := Lib.hid (hbw.trans (y1.mono hbw.size))
          clear y1
          go_wp2_with fail
          refine (Un_at 105 (4294967295 - a) mm _ hna (hT.out.later d1.out) (by unfold M.isUn; omega) v4.out).mono ?_
          rintro e w2 ⟨rfl, y1⟩
          have d2 := Lib.hid (d1.out.trans (y1.mono d1.out.size))
          clear y1
          go_wp2_with fail
          refine (Un_at 103 a hh _ ha (hT.out.later d2.out) (by unfold M.isUn; omega) v1.out).mono ?_
          rintro e w3 ⟨rfl, y1⟩
          have d3 := Lib.hid (d2.out.trans (y1.mono d2.out.size))
          clear y1
          go_wp2_with fail
          refine (Un_at 104 a tt _ ha (hT.out.later d3.out) (by unfold M.isUn; omega) v2.out).mono ?_
          rintro e w4 ⟨rfl, y1⟩
          have d4 := Lib.hid (d3.out.trans (y1.mono d3.out.size))
          clear y1
          go_wp2_with fail
          refine (Un_at 69 a 0 _ ha (hT.out.later d4.out) (by unfold M.isUn; omega) v5.out).mono ?_
          rintro e w5 ⟨rfl, y1⟩
          have d5 := Lib.hid (d4.out.trans (y1.mono d4.out.size))
          clear y1
          go_wp2_with (go_at_call 8; refine (num_any _ _).mono ?_; rintro e w6 ⟨rfl, rfl⟩)
          all_goals exact ⟨⟨k + 1, by omega, by go_num, d5.out⟩, by simp [intOf]; omega⟩
      · go_wp2_with fail
        refine (wakes_any _).mono ?_
        rintro e w7 ⟨rfl, hb7⟩
        go_wp2
        go_ret
        exact ⟨rfl, hbw.trans (hb7.mono hbw.size)⟩
    · go_wp2_with fail
      refine (wakes_any _).mono ?_
      rintro e w7 ⟨rfl, hb7⟩
      go_wp2
      go_ret
      exact ⟨rfl, hbw.trans (hb7.mono hbw.size)⟩
end Go.Proofs.YtpolbefcgbpmmaaDoor
