/-
  What the page's reader of one point answers where the first byte says 3; condition: the bytes lie in memory that was there at the call.
-/
import Derived.Test.YtlppgaaepllbiaaRef
import Derived.Test.YtlppgaaepllbiaaTake
namespace Go.Proofs.Ytlppgaaepllbiaa
open Go.RowKit
set_option maxRecDepth 100000 in
theorem first_3 (ad : Addr) (bs : List Nat) (b0 l c : Nat) (f : Nat → Nat) (w : World) (hL : l = bs.length) (hf : f = fun i => bs.getD i 0) (hB0 : b0 = bs.getD 0 0) (hlc : l ≤ c) (hcm : c ≤ maxLen)
    (hb : Bytes w w.heap.size (some ad) l f) (hl0 : 1 ≤ l) (hk : 224 ≤ b0) (hk2 : b0 < 240) :
    Calls Try.prog 22 #[.slice (some ad) l c] w (FPost bs w) := by
  unfold maxLen at hcm
  obtain ⟨_, e, _, hf0, q0⟩ := hb 0 (by omega)
  injection e with e
  subst e
  have hKR := Lib.hid (show KindR 3 (bs.getD 0 0) by rw [← hB0]; exact .inr (.inr (.inl ⟨rfl, hk, hk2⟩)))
  have hfb : f 0 = b0 := by rw [hf, hB0]
  rw [hfb] at hf0
  replace q0 : w.cell? ad = some (.int .u8 (b0 : Int)) := by rw [← hfb]; simpa [Addr.add] using q0
  replace hb := Lib.hid hb
  replace hL := Lib.hid hL
  replace hf := Lib.hid hf
  replace hB0 := Lib.hid hB0
  replace hfb := Lib.hid hfb
  by_cases hl : l < 3
  · go_enter Try.func22, Try.ntmps22
    go_wp2
    go_ret2
    exact .no (fun p r hh => by have := (first_sound hKR.out hh).1; rw [← hL.out] at this; omega) rfl (Below.refl _ _)
  · go_enter Try.func22, Try.ntmps22
    go_wp2
    go_loop [5, 6] (fun pt i => ∃ k q : Nat, 1 ≤ k ∧ k ≤ 3 ∧ q = M.acc f 3 (k - 1) ∧ i = .int .i64 k ∧ pt = .int .i32 q) (fun _ i => 8 - (intOf i).toNat)
    case atStart =>
          refine ⟨1, b0 % 16, by omega, by omega, ?_, rfl, by go_num⟩
          show b0 % 16 = M.lead 3 (f 0)
          rw [hfb.out]; simp [M.lead]
    case round =>
      obtain ⟨k, q, hk1, hkn, hq, rfl, rfl⟩ := hrel
      replace hq := Lib.hid hq
      by_cases hlt : k < 3
      · obtain ⟨_, e, _, hfk, qk⟩ := hb.out k (by omega)
        injection e with e
        subst e
        have t0 : (0 : Int) ≤ (k : Int) := by omega
        have t1 : (k : Int) < (l : Int) := by omega
        have hs := Lib.hid (acc_step' f 3 k q (by omega) hk1 (by omega) hq.out)
        go_wp2
        exact ⟨⟨k + 1, M.acc f 3 k, by omega, by omega, by simp, by go_num, by rw [hs.out]⟩, by simp [intOf]; omega⟩
      · have hqe := Lib.hid (show q = M.acc f 3 (3 - 1) by rw [hq.out, show k = 3 by omega])
        have HP := Lib.hid (PI_of q)
        by_cases hp : M.IsP q
        · replace hp := Lib.hid hp
          go_wp2_with fail
          refine (rPoint_yes _ _ (HP.out.2 hp.out)).mono ?_
          rintro e w1 ⟨rfl, rfl⟩
          go_wp2_with fail
          refine (rPut_any q _ hp.out).mono ?_
          rintro e w1 ⟨vw, rfl, ho, hbw⟩
          obtain ⟨A2, c2, rfl, _, _, hB2⟩ := own_BS ho (M.enc_lt hp.out)
          obtain ⟨m, hm⟩ : ∃ m, m = (M.enc q).length := ⟨_, rfl⟩
          obtain ⟨g, hg⟩ : ∃ g : Nat → Nat, g = fun i => (M.enc q).getD i 0 := ⟨_, rfl⟩
          rw [← hm, ← hg] at hB2
          rw [← hm]
          replace hm := Lib.hid hm
          replace hg := Lib.hid hg
          replace hB2 := Lib.hid hB2
          replace hbw := Lib.hid hbw
          clear ho
          by_cases hw : m = 3
          · subst hw
            have hwd := Lib.hid (show M.wid q = 3 by rw [← M.enc_length, ← hm.out])
            go_wp2
            go_loopw [8] (fun i w' => ∃ k : Nat, k ≤ 3 ∧ (∀ j, j < k → f j = g j) ∧ i = .int .i64 k ∧ Below w1.heap.size w1 w') (fun i _ => 8 - (intOf i).toNat)
            case atStart => exact ⟨0, by omega, fun j hj => by omega, rfl, Below.refl _ _⟩
            case round =>
              obtain ⟨k2, hk2n, hall, rfl, hb2⟩ := hrel
              replace hall := Lib.hid hall
              by_cases hlt2 : k2 < 3
              · obtain ⟨_, e, _, hfk, qk⟩ := (hb.out.later (hbw.out.trans (hb2.mono hbw.out.size))) k2 (by omega)
                injection e with e
                subst e
                obtain ⟨a2, rfl, _, _, q2⟩ := hB2.out.later hb2 k2 hlt2
                have t0 : (0 : Int) ≤ (k2 : Int) := by omega
                have t1 : (k2 : Int) < (l : Int) := by omega
                have t2 : (k2 : Int) < 3 := by omega
                by_cases heq : f k2 = g k2
                · have t3 : (((f k2 : Nat) : Int) != ((g k2 : Nat) : Int)) = false := by rw [heq]; simp
                  replace heq := Lib.hid heq
                  go_wp2_with fail
                  go_quiet (fail)
                  go_wp2
                  refine ⟨⟨k2 + 1, by omega, fun j hj => ?_, by go_num, below_drewN hb2 _⟩, by simp [intOf]; omega⟩
                  by_cases e : j = k2
                  · rw [e]; exact heq.out
                  · exact hall.out j (by omega)
                · have t3 : (((f k2 : Nat) : Int) != ((g k2 : Nat) : Int)) = true := by simp; omega
                  replace heq := Lib.hid heq
                  go_wp2_with fail
                  go_quiet (fail)
                  go_wp2
                  go_ret2
                  refine .no (fun p r hh => ?_) rfl (hbw.out.trans ((below_drewN hb2 _).mono hbw.out.size))
                  obtain ⟨_, e1, _, _, e2⟩ := first_sound hKR.out hh
                  rw [← hf.out, ← hqe.out] at e1
                  subst e1
                  have := e2 k2 hlt2
                  apply heq.out
                  rw [hf.out, hg.out]
                  exact this
              · go_wp2
                go_ret2
                refine ⟨.inl ⟨q, bs.drop 3, first_complete (by rw [← hL.out]; omega) hp.out hwd.out (fun i hi => ?_), by rw [hwd.out]; rfl⟩, hbw.out.trans (hb2.mono hbw.out.size)⟩
                have := hall.out i (by omega)
                rw [hf.out, hg.out] at this
                exact this
          · have t3 : ((m : Int) != 3) = true := by simp; omega
            go_wp2
            go_ret2
            refine .no (fun p r hh => ?_) rfl hbw.out
            obtain ⟨_, e1, _, e2, _⟩ := first_sound hKR.out hh
            rw [← hf.out, ← hqe.out] at e1
            subst e1
            rw [← M.enc_length, ← hm.out] at e2
            exact hw e2
        · replace hp := Lib.hid hp
          go_wp2_with fail
          refine (rPoint_no _ _ (fun h => hp.out (HP.out.1 h))).mono ?_
          rintro e w1 ⟨rfl, rfl⟩
          go_wp2
          go_ret2
          refine .no (fun p r hh => ?_) rfl (Below.refl _ _)
          obtain ⟨_, e1, e2, _, _⟩ := first_sound hKR.out hh
          rw [← hf.out, ← hqe.out] at e1
          subst e1
          exact hp.out e2
end Go.Proofs.Ytlppgaaepllbiaa
