/-
  The law on small numbers, walked: for every list of questions it returns true and writes nothing that was there; condition: the list lies in memory as 'Asks' says.
-/
import Derived.Test.YtflchcdafcoenaaOpen
import Derived.Test.YtflchcdafcoenaaBackBase
namespace Go.Proofs.Ytflchcdafcoenaa
open Go.RowKit
set_option maxRecDepth 100000 in
set_option maxHeartbeats 1000000 in
theorem LebSmall_walk (A : Option Addr) (n c : Nat) (w : World) (h : Asks w A n) :
    Calls Try.prog 7 #[.slice A n c] w fun e w' => e = .returned (.bool true) ∧ Below w.heap.size w w' := by
  obtain ⟨hn, h⟩ := h
  unfold maxLen at hn
  clear h
  go_enter Try.func7, Try.ntmps7
  go_wp2
  go_loopw [3] (fun i w' => ∃ k : Nat, 1 ≤ k ∧ k ≤ 64 ∧ i = .int .i64 k ∧ Below w.heap.size w w') (fun i _ => 64 - (intOf i).toNat)
  case atStart => exact ⟨1, by omega, by omega, rfl, Below.refl _ _⟩
  case round =>
    obtain ⟨k, hk1, hk2, rfl, hbw⟩ := hrel
    by_cases hlt : k < 64
    · obtain ⟨T, hT⟩ : ∃ T : Nat, T + 1 = 2 ^ k := ⟨2 ^ k - 1, Nat.sub_add_cancel (Nat.pow_pos (by omega))⟩
      obtain ⟨G, hG⟩ : ∃ G : Nat, G + 1 = 2 ^ (k - 1) := ⟨2 ^ (k - 1) - 1, Nat.sub_add_cancel (Nat.pow_pos (by omega))⟩
      have hT63 : T ≤ 9223372036854775807 := by
        have := Nat.pow_le_pow_right (n := 2) (by omega) (show k ≤ 63 by omega)
        have h3 : (2 : Nat) ^ 63 = 9223372036854775808 := by decide
        omega
      have hG62 : G ≤ 4611686018427387903 := by
        have := Nat.pow_le_pow_right (n := 2) (by omega) (show k - 1 ≤ 62 by omega)
        have h3 : (2 : Nat) ^ 62 = 4611686018427387904 := by decide
        omega
      have hTi : (2 : Int) ^ k = (T : Int) + 1 := by rw [← M.pow_int]; omega
      have hGi : (2 : Int) ^ (k - 1) = (G : Int) + 1 := by rw [← M.pow_int]; omega
      have eT : IntKind.u64.wrap (IntKind.u64.wrap (2 ^ k) - 1) = (T : Int) := by rw [hTi, IntKind.wrap_u64, IntKind.wrap_u64]; omega
      have eG : wrap64 (wrap64 (2 ^ (k - 1)) - 1) = (G : Int) := by rw [hGi, IntWalk.wrap64_in ((G : Int) + 1) (by omega), Int.add_sub_cancel, IntWalk.wrap64_in (G : Int) (by omega)]
      have HeG := Lib.hid eG
      clear eG
      have HT := Lib.hid hT
      have HG := Lib.hid hG
      have HTi := Lib.hid hTi
      have HGi := Lib.hid hGi
      have HeT := Lib.hid eT
      clear hT hG hTi hGi eT
      go_wp2_with fail
      rw [HeT.out]
      refine (PutUint_any T _ (by omega)).mono ?_
      rintro e w1 ⟨v1, rfl, o1, b1⟩
      have c1 : Below w.heap.size w w1 := hbw.trans (b1.mono hbw.size)
      go_wp2_with fail
      refine (UintP_yes T k o1 (by omega) hk1 hk2 (by have := HT.out; omega)).mono ?_
      rintro e w2 ⟨rfl, b2⟩
      have c2 : Below w.heap.size w w2 := c1.trans (b2.mono c1.size)
      go_wp2_with fail
      rw [show ((T : Int) + 1) = ((T + 1 : Nat) : Int) by omega]
      refine (PutUint_any (T + 1) _ (by omega)).mono ?_
      rintro e w3 ⟨v3, rfl, o3, b3⟩
      have c3 : Below w.heap.size w w3 := c2.trans (b3.mono c2.size)
      go_wp2_with fail
      refine (UintP_no (T + 1) k o3 (by omega) hk1 hk2 (by have := HT.out; omega)).mono ?_
      rintro e w4 ⟨rfl, b4⟩
      have c4 : Below w.heap.size w w4 := c3.trans (b4.mono c3.size)
      go_wp2_with fail
      rw [HeG.out]
      refine (PutSint_any (G : Int) _ (by omega)).mono ?_
      rintro e w5 ⟨v5, rfl, o5, b5⟩
      have c5 : Below w.heap.size w w5 := c4.trans (b5.mono c4.size)
      go_wp2_with fail
      refine (SintP_yes (G : Int) k o5 (by omega) hk1 hk2 (by rw [HGi.out]; omega)).mono ?_
      rintro e w6 ⟨rfl, b6⟩
      have c6 : Below w.heap.size w w6 := c5.trans (b6.mono c5.size)
      go_wp2_with fail
      refine (PutSint_any ((G : Int) + 1) _ (by omega)).mono ?_
      rintro e w7 ⟨v7, rfl, o7, b7⟩
      have c7 : Below w.heap.size w w7 := c6.trans (b7.mono c6.size)
      go_wp2_with fail
      refine (SintP_no ((G : Int) + 1) k o7 (by omega) hk1 hk2 (by rw [HGi.out]; omega)).mono ?_
      rintro e w8 ⟨rfl, b8⟩
      have c8 : Below w.heap.size w w8 := c7.trans (b8.mono c7.size)
      go_wp2_with fail
      refine (PutSint_any (-(G : Int) - 1) _ (by omega)).mono ?_
      rintro e w9 ⟨v9, rfl, o9, b9⟩
      have c9 : Below w.heap.size w w9 := c8.trans (b9.mono c8.size)
      go_wp2_with fail
      refine (SintP_yes (-(G : Int) - 1) k o9 (by omega) hk1 hk2 (by rw [HGi.out]; omega)).mono ?_
      rintro e w10 ⟨rfl, b10⟩
      have c10 : Below w.heap.size w w10 := c9.trans (b10.mono c9.size)
      go_wp2_with fail
      refine (PutSint_any (-(G : Int) - 2) _ (by omega)).mono ?_
      rintro e w11 ⟨v11, rfl, o11, b11⟩
      have c11 : Below w.heap.size w w11 := c10.trans (b11.mono c10.size)
      go_wp2_with fail
      refine (SintP_no (-(G : Int) - 2) k o11 (by omega) hk1 hk2 (by rw [HGi.out]; omega)).mono ?_
      rintro e w12 ⟨rfl, b12⟩
      have c12 : Below w.heap.size w w12 := c11.trans (b12.mono c11.size)
      clear o1 o3 o5 o7 o9 o11 b1 b2 b3 b4 b5 b6 b7 b8 b9 b10 b11 b12 c1 c2 c3 c4 c5 c6 c7 c8 c9 c10 c11
      have e1 : ((T : Int) != (T : Int)) = false := by simp
      have e2 : ((G : Int) != (G : Int)) = false := by simp
      have e3 : ((-(G : Int) - 1) != (-(G : Int) - 1)) = false := by simp
      go_wp2_with (go_at_call 11; refine (num_any _ _).mono ?_; rintro e w13 ⟨rfl, rfl⟩)
      exact ⟨⟨k + 1, by omega, by omega, by go_num, c12⟩, by simp [intOf]; omega⟩
    · go_wp2_with fail
      refine (wakes_any _).mono ?_
      rintro e w7 ⟨rfl, hb7⟩
      go_wp2
      go_ret
      exact ⟨rfl, hbw.trans (hb7.mono hbw.size)⟩
end Go.Proofs.Ytflchcdafcoenaa
