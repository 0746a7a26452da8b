/-
  What the page's own readers of numbers answer, for every slice of bytes and bits from 1 to 64; condition: the bytes lie in memory that was there at the call.
-/
import Derived.Test.YtjapcalndolamaaLebS
namespace Go.Proofs.Ytjapcalndolamaa
open Go.RowKit
theorem most_any (b : Int) (w : World) (h1 : 1 ≤ b) (h2 : b ≤ 64) : Calls Try.prog 100 #[.int .i64 b] w fun e w' => e = .returned (.int .i64 ((b + 6) / 7)) ∧ w = w' := by
  go_enter Try.func100, Try.ntmps100
  go_wp2
  go_ret
  exact ⟨rfl, rfl⟩
set_option maxRecDepth 100000 in
theorem size_any (A : Option Addr) (len cap : Nat) (f : Nat → Nat) (b : Nat) (w : World) (hc : Bytes w w.heap.size A len f) (hl : len ≤ maxLen) (h1 : 1 ≤ b) (h2 : b ≤ 64) :
    Calls Try.prog 99 #[.slice A len cap, .int .i64 b] w fun e w' => e = .returned (.int .i64 (M.lenOf f (min len ((b + 6) / 7)) : Nat)) ∧ w = w' := by
  unfold maxLen at hl
  go_enter Try.func99, Try.ntmps99
  go_wp2
  go_loop [5] (fun i => ∃ k : Nat, k ≤ min len ((b + 6) / 7) ∧ M.lenOf f k = 0 ∧ i = .int .i64 k) (fun i => len - (intOf i).toNat)
  case atStart => exact ⟨0, by omega, rfl, rfl⟩
  case round =>
    obtain ⟨k, hk, hz, rfl⟩ := hrel
    have hz := Lib.hid hz
    by_cases hlt : k < min len ((b + 6) / 7)
    · obtain ⟨ad, rfl, hb, hfk, hck⟩ := hc k (by omega)
      clear hc
      have u1 : (k : Int) < (len : Int) := by omega
      have u2 : (k : Int) < ((b : Int) + 6) / 7 := by omega
      by_cases hs : f k < 128
      · have HR := Lib.hid (M.lenOf_stopped hz.out hs hlt)
        go_wp2_with (go_at_call 100; refine (most_any _ _ (by omega) (by omega)).mono ?_; rintro e w' ⟨rfl, rfl⟩)
        go_ret
        exact ⟨by rw [HR.out]; rfl, rfl⟩
      · go_wp2_with (go_at_call 100; refine (most_any _ _ (by omega) (by omega)).mono ?_; rintro e w' ⟨rfl, rfl⟩)
        exact ⟨⟨k + 1, by omega, M.lenOf_go hz.out hs, by go_num⟩, by simp [intOf]; omega⟩
    · have e : min len ((b + 6) / 7) = k := by omega
      have HE := Lib.hid (show M.lenOf f (min len ((b + 6) / 7)) = 0 by rw [e]; exact hz.out)
      clear e hc
      by_cases h7 : k < len
      · have u2 : ¬ (k : Int) < ((b : Int) + 6) / 7 := by omega
        go_wp2_with (go_at_call 100; refine (most_any _ _ (by omega) (by omega)).mono ?_; rintro e w' ⟨rfl, rfl⟩)
        go_ret
        exact ⟨by rw [HE.out]; rfl, rfl⟩
      · go_wp2_with fail
        go_ret
        exact ⟨by rw [HE.out]; rfl, rfl⟩
set_option maxRecDepth 100000 in
theorem rUint_yes (A : Option Addr) (len cap : Nat) (f : Nat → Nat) (b n : Nat) (w : World) (hc : Bytes w w.heap.size A len f) (hl : len ≤ maxLen) (hb1 : 1 ≤ b) (hb2 : b ≤ 64) (h : UOk f len b n) :
    Calls Try.prog 88 #[.slice A len cap, .int .i64 b] w fun e w' => e = .returned (.tuple #[.int .u64 (M.low f n : Nat), .int .i64 n]) ∧ w = w' := by
  obtain ⟨rfl, hn, hlt⟩ := h
  obtain ⟨g1, g2, g3, _⟩ := M.lenOf_spec f _ hn
  have hne : (((M.lenOf f (min len ((b + 6) / 7)) : Nat) : Int) == 0) = false := by simpa using hn
  generalize hG : M.lenOf f (min len ((b + 6) / 7)) = n at *
  have h64 : (2 : Nat) ^ b ≤ 18446744073709551616 := by
    have := Nat.pow_le_pow_right (n := 2) (by omega) hb2
    simpa using this
  have HG := Lib.hid hG
  have HC := Lib.hid hc
  have HL := Lib.hid hlt
  have HM := Lib.hid (Nat.lt_of_lt_of_le hlt h64)
  have ht : ((M.low f n : Int) / 2 ^ b != 0) = false := by rw [M.div_zero_iff]; simpa using hlt
  clear hG hc hlt h64
  go_enter Try.func88, Try.ntmps88
  go_wp2_with fail
  refine (size_any A len cap f b _ HC.out hl hb1 hb2).mono ?_
  rintro e w1 ⟨rfl, rfl⟩
  rw [HG.out]
  go_wp2_with fail
  go_loop [7, 8] (fun v i => ∃ k : Nat, k ≤ n ∧ i = .int .i64 k ∧ v = .int .u64 (M.low f k : Nat)) (fun _ i => n - (intOf i).toNat)
  case atStart => exact ⟨0, by omega, rfl, rfl⟩
  case round =>
    obtain ⟨k, hk, rfl, rfl⟩ := hrel
    by_cases hkn : k < n
    · obtain ⟨ad, rfl, hb, hfk, hck⟩ := HC.out k (by omega)
      have u1 : (k : Int) < (n : Int) := by omega
      have HS := Lib.hid (M.low_stepR f k (Nat.lt_of_le_of_lt (M.low_mono f (show k + 1 ≤ n by omega)) HM.out))
      by_cases h9 : 9 ≤ k
      · have hd : ((f k : Int) % 128 / 2 ^ (64 - 7 * k) != 0) = false := by
          have hk9 : k = 9 := by omega
          have hn10 : n = 10 := by omega
          have := M.top_lt f (by rw [← hn10]; exact HM.out)
          rw [hk9, show (f 9 : Int) % 128 / 2 ^ (64 - 7 * 9) = 0 by omega]; rfl
        go_wp2_with fail
        exact ⟨⟨k + 1, by omega, by go_num, by rw [HS.out]⟩, by simp [intOf]; omega⟩
      · go_wp2_with fail
        exact ⟨⟨k + 1, by omega, by go_num, by rw [HS.out]⟩, by simp [intOf]; omega⟩
    · obtain rfl : n = k := by omega
      by_cases h64 : b < 64
      · have u2 : (b : Int) < 64 := by omega
        go_wp2_with fail
        go_ret2
        exact ⟨rfl, rfl⟩
      · have u2 : ¬ (b : Int) < 64 := by omega
        go_wp2_with fail
        go_ret2
        exact ⟨rfl, rfl⟩
set_option maxRecDepth 100000 in
theorem rUint_no (A : Option Addr) (len cap : Nat) (f : Nat → Nat) (b : Nat) (w : World) (hc : Bytes w w.heap.size A len f) (hl : len ≤ maxLen) (hb1 : 1 ≤ b) (hb2 : b ≤ 64) (h : ∀ n, ¬ UOk f len b n) :
    Calls Try.prog 88 #[.slice A len cap, .int .i64 b] w fun e w' => e = .returned (.tuple #[.int .u64 0, .int .i64 0]) ∧ w = w' := by
  have h1 : M.lenOf f (min len ((b + 6) / 7)) = 0 ∨ ¬ M.low f (M.lenOf f (min len ((b + 6) / 7))) < 2 ^ b := by
    by_cases e : M.lenOf f (min len ((b + 6) / 7)) = 0
    · exact .inl e
    · exact .inr fun hh => h _ ⟨rfl, e, hh⟩
  have g2 := M.lenOf_le f (min len ((b + 6) / 7))
  generalize hG : M.lenOf f (min len ((b + 6) / 7)) = n at *
  have HG := Lib.hid hG
  have HC := Lib.hid hc
  have HL := Lib.hid h1
  have hN : ((n : Int) == 0) = true ∨ (((n : Int) == 0) = false ∧ ((M.low f n : Int) / 2 ^ b != 0) = true) := by
    rcases h1 with e | e
    · exact .inl (by simp [e])
    · by_cases e0 : n = 0
      · exact .inl (by simp [e0])
      · exact .inr ⟨by simpa using e0, by rw [M.div_zero_iff]; simpa using e⟩
  have HN := Lib.hid hN
  have HZ : n = 10 ∧ b = 64 → ¬ M.low f 10 < 18446744073709551616 := by
    rintro ⟨rfl, rfl⟩
    rcases h1 with e | e
    · omega
    · simpa using e
  have HZ := Lib.hid HZ
  clear hG hc h h1 hN
  go_enter Try.func88, Try.ntmps88
  go_wp2_with fail
  refine (size_any A len cap f b _ HC.out hl hb1 hb2).mono ?_
  rintro e w1 ⟨rfl, rfl⟩
  rw [HG.out]
  go_wp2_with fail
  go_loop [7, 8] (fun v i => ∃ k : Nat, k ≤ n ∧ i = .int .i64 k ∧ v = .int .u64 (M.low f k : Nat) ∧ M.low f k < 18446744073709551616) (fun _ i => n - (intOf i).toNat)
  case atStart => exact ⟨0, by omega, rfl, rfl, by simp [M.low]⟩
  case round =>
    obtain ⟨k, hk, rfl, rfl, hkl⟩ := hrel
    have HK := Lib.hid hkl
    clear hkl
    by_cases hkn : k < n
    · obtain ⟨ad, rfl, hb, hfk, hck⟩ := HC.out k (by omega)
      have u1 : (k : Int) < (n : Int) := by omega
      by_cases h9 : 9 ≤ k
      · have hk9 := Lib.hid (show k = 9 by omega)
        by_cases hd : f k % 128 < 2
        · have hd' : ((f k : Int) % 128 / 2 ^ (64 - 7 * k) != 0) = false := by
            rw [hk9.out] at hd ⊢
            rw [show (f 9 : Int) % 128 / 2 ^ (64 - 7 * 9) = 0 by omega]; rfl
          have hlow : M.low f (k + 1) < 18446744073709551616 := by
            rw [hk9.out] at hd ⊢
            have h1 := M.low_lt_63 f 9 (by omega)
            rw [M.low_succ, M.pow_eq_63]; omega
          have HS := Lib.hid (M.low_stepR f k hlow)
          have HW := Lib.hid hlow
          clear hlow
          go_wp2_with fail
          exact ⟨⟨k + 1, by omega, by go_num, by rw [HS.out], HW.out⟩, by simp [intOf]; omega⟩
        · have hd' : ((f k : Int) % 128 / 2 ^ (64 - 7 * k) != 0) = true := by
            rw [hk9.out] at hd ⊢
            rw [bne_iff_ne]; omega
          go_wp2_with fail
          go_ret2
          exact ⟨rfl, rfl⟩
      · have HS := Lib.hid (M.low_stepR f k (M.low_small f k (by omega)))
        go_wp2_with fail
        exact ⟨⟨k + 1, by omega, by go_num, by rw [HS.out], M.low_small f k (by omega)⟩, by simp [intOf]; omega⟩
    · obtain rfl : n = k := by omega
      rcases HN.out with e | ⟨e1, e2⟩
      · go_wp2_with fail
        go_ret2
        exact ⟨rfl, rfl⟩
      · by_cases h64 : b < 64
        · have u2 : (b : Int) < 64 := by omega
          go_wp2_with fail
          go_ret2
          exact ⟨rfl, rfl⟩
        · exfalso
          obtain rfl : b = 64 := by omega
          rcases HL.out with h | h
          · simp [h] at e1
          · exact h (by simpa using HK.out)
set_option maxRecDepth 100000 in
theorem rSint_yes (A : Option Addr) (len cap : Nat) (f : Nat → Nat) (b n : Nat) (w : World) (hc : Bytes w w.heap.size A len f) (hl : len ≤ maxLen) (hb1 : 1 ≤ b) (hb2 : b ≤ 64) (h : SOk f len b n) :
    Calls Try.prog 89 #[.slice A len cap, .int .i64 b] w fun e w' => e = .returned (.tuple #[.int .i64 (M.sval f n), .int .i64 n]) ∧ w = w' := by
  obtain ⟨rfl, hn, hok⟩ := h
  obtain ⟨g1, g2, g3, _⟩ := M.lenOf_spec f _ hn
  have hne : (((M.lenOf f (min len ((b + 6) / 7)) : Nat) : Int) == 0) = false := by simpa using hn
  generalize hG : M.lenOf f (min len ((b + 6) / 7)) = n at *
  have h63 : (2 : Int) ^ (b - 1) ≤ 9223372036854775808 := by
    have := Nat.pow_le_pow_right (n := 2) (by omega) (show b - 1 ≤ 63 by omega)
    have h3 : (2 : Nat) ^ 63 = 9223372036854775808 := by decide
    rw [h3] at this
    rw [← M.pow_int]; omega
  have HG := Lib.hid hG
  have HC := Lib.hid hc
  have HK := Lib.hid hok
  have HF := Lib.hid (fun m (hm : m + 1 ≤ n) => M.V_fits f n m g1 g3 hm ⟨by omega, by omega⟩)
  clear hG hc hok h63
  obtain ⟨ad, rfl, hb, hfk, hck⟩ := HC.out (n - 1) (by omega)
  go_enter Try.func89, Try.ntmps89
  go_wp2_with fail
  refine (size_any (some ad) len cap f b _ HC.out hl hb1 hb2).mono ?_
  rintro e w1 ⟨rfl, rfl⟩
  rw [HG.out]
  by_cases hs : f (n - 1) < 64
  all_goals first | (have hs' := M.and64u_lo _ hs; have HT := Lib.hid (M.V_top_lo f n hs)) | (have hs' := M.and64u_hi _ g3 hs; have HT := Lib.hid (M.V_top_hi f n hs))
  all_goals
    go_wp2_with fail
    go_loop [7, 8] (fun v i => ∃ m : Nat, m ≤ n ∧ i = .int .i64 ((m : Int) - 1) ∧ v = .int .i64 (M.V f n m)) (fun _ i => (intOf i + 1).toNat)
    case atStart => exact ⟨n, by omega, rfl, by rw [HT.out]⟩
    case round =>
      obtain ⟨m, hm, rfl, rfl⟩ := hrel
      by_cases hm1 : 1 ≤ m
      · obtain ⟨ad', e', _, hfm, hcm⟩ := HC.out (m - 1) (by omega)
        injection e' with e'
        subst e'
        obtain ⟨v1, v2⟩ := HF.out (m - 1) (by omega)
        rw [Nat.sub_add_cancel hm1] at v1 v2
        have HS := M.V_round f n (m - 1) (by omega) (by rw [Nat.sub_add_cancel hm1]; exact v1) (by rw [Nat.sub_add_cancel hm1]; exact v2)
        rw [Nat.sub_add_cancel hm1] at HS
        replace HS := Lib.hid HS
        go_wp2_with fail
        exact ⟨⟨m - 1, by omega, by congr 1; omega, by rw [HS.out]⟩, by simp [intOf]; omega⟩
      · obtain rfl : m = 0 := by omega
        have HZ := Lib.hid (M.V_zero f n g1 g3)
        by_cases h64 : b < 64
        · have u2 : (b : Int) < 64 := by omega
          have y1 : decide (M.V f n 0 < wrap64 (-2 ^ (b - 1))) = false := by
            rw [show wrap64 (-2 ^ (b - 1)) = -2 ^ (b - 1) from IntWalk.wrap64_in _ (by have := M.pow_62 b h64; omega), HZ.out]; have := HK.out; simp; omega
          have y2 : decide (wrap64 (2 ^ (b - 1)) ≤ M.V f n 0) = false := by
            rw [show wrap64 (2 ^ (b - 1)) = 2 ^ (b - 1) from IntWalk.wrap64_in _ (by have := M.pow_62 b h64; omega), HZ.out]; have := HK.out; simp; omega
          go_wp2_with fail
          go_ret2
          exact ⟨by rw [HZ.out]; rfl, rfl⟩
        · have u2 : ¬ (b : Int) < 64 := by omega
          go_wp2_with fail
          go_ret2
          exact ⟨by rw [HZ.out]; rfl, rfl⟩
set_option maxRecDepth 100000 in
theorem rSint_no (A : Option Addr) (len cap : Nat) (f : Nat → Nat) (b : Nat) (w : World) (hc : Bytes w w.heap.size A len f) (hl : len ≤ maxLen) (hb1 : 1 ≤ b) (hb2 : b ≤ 64) (h : ∀ n, ¬ SOk f len b n) :
    Calls Try.prog 89 #[.slice A len cap, .int .i64 b] w fun e w' => e = .returned (.tuple #[.int .i64 0, .int .i64 0]) ∧ w = w' := by
  by_cases hn : M.lenOf f (min len ((b + 6) / 7)) = 0
  · have HG := Lib.hid hn
    have HC := Lib.hid hc
    clear hn hc h
    go_enter Try.func89, Try.ntmps89
    go_wp2_with fail
    refine (size_any A len cap f b _ HC.out hl hb1 hb2).mono ?_
    rintro e w1 ⟨rfl, rfl⟩
    rw [HG.out]
    go_wp2_with fail
    go_ret2
    exact ⟨rfl, rfl⟩
  obtain ⟨g1, g2, g3, _⟩ := M.lenOf_spec f _ hn
  have hne : (((M.lenOf f (min len ((b + 6) / 7)) : Nat) : Int) == 0) = false := by simpa using hn
  have hok : ¬ (-2 ^ (b - 1) ≤ M.sval f (M.lenOf f (min len ((b + 6) / 7))) ∧ M.sval f (M.lenOf f (min len ((b + 6) / 7))) < 2 ^ (b - 1)) := fun hh => h _ ⟨rfl, hn, hh⟩
  clear h
  generalize hG : M.lenOf f (min len ((b + 6) / 7)) = n at *
  have HG := Lib.hid hG
  have HC := Lib.hid hc
  have HK := Lib.hid hok
  clear hG hc hok
  obtain ⟨ad, rfl, hb, hfk, hck⟩ := HC.out (n - 1) (by omega)
  go_enter Try.func89, Try.ntmps89
  go_wp2_with fail
  refine (size_any (some ad) len cap f b _ HC.out hl hb1 hb2).mono ?_
  rintro e w1 ⟨rfl, rfl⟩
  rw [HG.out]
  by_cases hs : f (n - 1) < 64
  all_goals first | (have hs' := M.and64u_lo _ hs; have HT := Lib.hid (M.V_top_lo f n hs)) | (have hs' := M.and64u_hi _ g3 hs; have HT := Lib.hid (M.V_top_hi f n hs))
  all_goals
    go_wp2_with fail
    go_loop [7, 8] (fun v i => ∃ m : Nat, m ≤ n ∧ i = .int .i64 ((m : Int) - 1) ∧ v = .int .i64 (M.V f n m) ∧ -9223372036854775808 ≤ M.V f n m ∧ M.V f n m ≤ 9223372036854775807) (fun _ i => (intOf i + 1).toNat)
    case atStart => exact ⟨n, by omega, rfl, by rw [HT.out], by rw [HT.out]; omega, by rw [HT.out]; omega⟩
    case round =>
      obtain ⟨m, hm, rfl, rfl, r1, r2⟩ := hrel
      by_cases hm1 : 1 ≤ m
      · obtain ⟨ad', e', _, hfm, hcm⟩ := HC.out (m - 1) (by omega)
        injection e' with e'
        subst e'
        by_cases hv : -72057594037927936 ≤ M.V f n m ∧ M.V f n m < 72057594037927936
        · obtain ⟨v1, v2⟩ := hv
          have HS := M.V_round f n (m - 1) (by omega) (by rw [Nat.sub_add_cancel hm1]; exact v1) (by rw [Nat.sub_add_cancel hm1]; exact v2)
          have HV := M.V_step f n (m - 1) (by omega)
          rw [Nat.sub_add_cancel hm1] at HS HV
          replace HS := Lib.hid HS
          replace HV := Lib.hid HV
          go_wp2_with fail
          have hv' := HV.out
          exact ⟨⟨m - 1, by omega, by congr 1; omega, by rw [HS.out], by omega, by omega⟩, by simp [intOf]; omega⟩
        · by_cases hv1 : 72057594037927935 < M.V f n m
          · go_wp2_with fail
            go_ret2
            exact ⟨rfl, rfl⟩
          · have hv2 : M.V f n m < -72057594037927936 := by omega
            go_wp2_with fail
            go_ret2
            exact ⟨rfl, rfl⟩
      · obtain rfl : m = 0 := by omega
        have HZ := Lib.hid (M.V_zero f n g1 g3)
        by_cases h64 : b < 64
        · have u2 : (b : Int) < 64 := by omega
          by_cases hlo : M.V f n 0 < -2 ^ (b - 1)
          · have y1 : decide (M.V f n 0 < wrap64 (-2 ^ (b - 1))) = true := by
              rw [show wrap64 (-2 ^ (b - 1)) = -2 ^ (b - 1) from IntWalk.wrap64_in _ (by have := M.pow_62 b h64; omega)]; simpa using hlo
            clear hlo
            go_wp2_with fail
            go_ret2
            exact ⟨rfl, rfl⟩
          · have y1 : decide (M.V f n 0 < wrap64 (-2 ^ (b - 1))) = false := by
              rw [show wrap64 (-2 ^ (b - 1)) = -2 ^ (b - 1) from IntWalk.wrap64_in _ (by have := M.pow_62 b h64; omega)]; simpa using hlo
            have y2 : decide (wrap64 (2 ^ (b - 1)) ≤ M.V f n 0) = true := by
              rw [show wrap64 (2 ^ (b - 1)) = 2 ^ (b - 1) from IntWalk.wrap64_in _ (by have := M.pow_62 b h64; omega)]
              have := HK.out
              rw [← HZ.out] at this
              simp; omega
            clear hlo
            go_wp2_with fail
            go_ret2
            exact ⟨rfl, rfl⟩
        · exfalso
          obtain rfl : b = 64 := by omega
          have := HK.out
          rw [← HZ.out] at this
          apply this
          have h3 : (2 : Int) ^ (64 - 1) = 9223372036854775808 := by decide
          rw [h3]
          omega
end Go.Proofs.Ytjapcalndolamaa
