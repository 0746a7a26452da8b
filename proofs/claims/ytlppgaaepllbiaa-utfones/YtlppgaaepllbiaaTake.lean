/-
  What package utf's reader of one point answers, for every slice of bytes and every number of bytes from 1 to 4; condition: the place and its bytes lie in memory that was there at the call.
-/
import Derived.Test.YtlppgaaepllbiaaMem
namespace Go.Proofs.Ytlppgaaepllbiaa
open Go.RowKit
theorem lead_int (n b : Nat) (h1 : 1 ≤ n) (h2 : n ≤ 4) (hb : b < 256) : bits .and .u8 (b : Int) (maskOf n) = ((M.lead n b : Nat) : Int) := by
  rcases n_cases h1 h2 with rfl | rfl | rfl | rfl
  · show bits .and .u8 (b : Int) ((127 : Nat) : Int) = _
    rw [u8_and_nat _ _ hb (by omega), nat_mask7]; rfl
  · show bits .and .u8 (b : Int) ((31 : Nat) : Int) = _
    rw [u8_and_nat _ _ hb (by omega), nat_mask5]; rfl
  · show bits .and .u8 (b : Int) ((15 : Nat) : Int) = _
    rw [u8_and_nat _ _ hb (by omega), nat_mask4]; rfl
  · show bits .and .u8 (b : Int) ((7 : Nat) : Int) = _
    rw [u8_and_nat _ _ hb (by omega), nat_mask3]; rfl
/-- What reading n bytes leaves: a point and the rest, or nothing changed. -/
def TakePost (B P : Nat) (f : Nat → Nat) (l n : Nat) (w : World) (e : Ending) (w' : World) : Prop :=
  (∃ (p : Nat) (A' : Option Addr) (c' : Nat), M.TakeOk f l n p ∧ e = .returned (.tuple #[.int .i32 p, .bool true]) ∧ Below w.heap.size (w.setCell ⟨P, 0, none⟩ (.slice A' (l - n) c')) w' ∧ l - n ≤ c' ∧ c' ≤ maxLen ∧ Bytes w B A' (l - n) (fun i => f (n + i))) ∨
  ((∀ p, ¬ M.TakeOk f l n p) ∧ e = .returned (.tuple #[.int .i32 0, .bool false]) ∧ Below w.heap.size w w')
theorem TakePost.no {B P : Nat} {f : Nat → Nat} {l n : Nat} {w w' : World} {e : Ending} (h : ∀ p, ¬ M.TakeOk f l n p) (he : e = .returned (.tuple #[.int .i32 0, .bool false])) (hb : Below w.heap.size w w') : TakePost B P f l n w e w' := .inr ⟨h, he, hb⟩
theorem acc_step (f : Nat → Nat) (n k : Nat) (h1 : 1 ≤ n) (hk : k ≤ 2) :
    bits .or .i32 (wrap32 (((M.acc f n k : Nat) : Int) * 64)) ((f (k + 1) : Int) % 64) = ((M.acc f n (k + 1) : Nat) : Int) := by
  have h2 := (M.acc_lt f n k h1 (by omega)).2 hk
  have e3 : wrap32 (((M.acc f n k : Nat) : Int) * 64) = ((M.acc f n k : Nat) : Int) * 64 := by unfold wrap32; omega
  rw [e3, i32_or6 _ _ (by omega) (by omega) (by omega) (by omega) (by omega)]
  simp only [M.acc]
  omega
theorem tail_no (x : Nat) (hx : x < 256) (h : ¬ x / 64 = 2) : (bits .andNot .u8 (x : Int) 63 != 128) = true := by
  rw [show (63 : Int) = ((63 : Nat) : Int) from rfl, u8_andNot_nat _ _ hx (by omega)]
  have : ∀ x : Fin 256, ¬ x.val / 64 = 2 → x.val &&& (255 - 63) ≠ 128 := by decide +kernel
  have := this ⟨x, hx⟩ h
  simp only at this
  simp only [bne_iff_ne, ne_eq]
  omega
theorem tail_yes (x : Nat) (hx : x < 256) (h : x / 64 = 2) : (bits .andNot .u8 (x : Int) 63 != 128) = false := by
  rw [show (63 : Int) = ((63 : Nat) : Int) from rfl, u8_andNot_nat _ _ hx (by omega)]
  have : ∀ x : Fin 256, x.val / 64 = 2 → x.val &&& (255 - 63) = 128 := by decide +kernel
  have := this ⟨x, hx⟩ h
  simp only at this
  rw [this]; rfl
theorem PI_of (p : Nat) : PI (p : Int) ↔ M.IsP p := by unfold PI M.IsP; omega
theorem set_drewN (w : World) (p : Addr) (v : Value) (n : Nat) : (w.drewN n).setCell p v = (w.setCell p v).drewN n := rfl
set_option maxRecDepth 100000 in
theorem take_any (B P : Nat) (ad : Addr) (l c : Nat) (f : Nat → Nat) (n : Nat) (w : World) (hz : w.frozen? ⟨P, 0, none⟩ = false) (hc : w.cell? ⟨P, 0, none⟩ = some (.slice (some ad) l c)) (hlc : l ≤ c) (hcm : c ≤ maxLen)
    (hb : Bytes w B (some ad) l f) (h1 : 1 ≤ n) (h2 : n ≤ 4) (hl0 : 1 ≤ l) :
    Calls Try.prog 34 #[.pointer (some ⟨P, 0, none⟩), .int .i64 n, .int .i32 (M.least n : Nat)] w (TakePost B P f l n w) := by
  unfold maxLen at hcm
  obtain ⟨_, e, _, hf0, q0⟩ := hb 0 (by omega)
  injection e with e
  subst e
  replace q0 : w.cell? ad = some (.int .u8 (f 0 : Int)) := by simpa [Addr.add] using q0
  have hL := lead_int n (f 0) (by omega) h2 hf0
  replace hb := Lib.hid hb
  replace hL := Lib.hid hL
  by_cases hln : l < n
  · go_enter Try.func34, Try.ntmps34
    go_wp2
    go_ret2
    exact .no (fun p hp => by have := hp.1; omega) rfl (Below.refl _ _)
  · have t0 : decide (l < n) = false := by simpa using hln
    have hc' : c = 1 ∨ (c ≠ 1 ∧ c = n) ∨ (c ≠ 1 ∧ c ≠ n) := by omega
    rcases hc' with h3 | ⟨h3, h4⟩ | ⟨h3, h4⟩
    · obtain rfl : n = 1 := by omega
      obtain rfl : l = 1 := by omega
      subst h3
      go_enter Try.func34, Try.ntmps34
      go_wp2
      go_quiet ((go_at_call 36; exact Calls.quiet_of_same ((firstMask_any 1 _ (by omega) (by omega)).mono fun _ _ ⟨a, b⟩ => ⟨a, b.symm⟩)))
      go_wp2
      go_loop [8, 10, 35] (fun pt _ i => i = .int .i64 0 ∧ pt = .int .i32 (M.acc f 1 0 : Nat)) (fun _ _ i => 1 - (intOf i).toNat)
      case atStart =>
        refine ⟨rfl, ?_⟩
        rw [hL.out]
        have := M.lead_lt 1 (f 0) h1
        have e : wrap32 ((M.lead 1 (f 0) : Nat) : Int) = ((M.lead 1 (f 0) : Nat) : Int) := by unfold wrap32; omega
        rw [e]
        rfl
      case round =>
        obtain ⟨rfl, rfl⟩ := hrel
        have HP := Lib.hid (PI_of (M.acc f 1 0))
        by_cases hq1 : M.acc f 1 0 < M.least 1
        · go_wp2_with fail
          go_ret2
          exact .no (fun p hp => by have h5 := hp.2.2.1; have h6 := hp.2.2.2.1; subst h5; simp at h6; omega) rfl (below_drewN (Below.refl _ _) _)
        · by_cases hq2 : M.IsP (M.acc f 1 0)
          · go_wp2_with (go_at_call 24; refine (isPoint_yes _ _ (HP.out.2 hq2)).mono ?_; rintro e w1 ⟨rfl, rfl⟩)
            go_ret2
            refine .inl ⟨M.acc f 1 0, some ad, 0, ⟨by omega, fun i h5 h6 => by omega, rfl, by omega, hq2⟩, rfl, ?_, by omega, by unfold maxLen; omega, ?_⟩
            · rw [set_drewN]; exact below_drewN (Below.refl _ _) _
            · intro i hi; omega
          · go_wp2_with (go_at_call 24; refine (isPoint_no _ _ (fun h => hq2 (HP.out.1 h))).mono ?_; rintro e w1 ⟨rfl, rfl⟩)
            go_ret2
            exact .no (fun p hp => hq2 (by have h5 := hp.2.2.1; subst h5; exact hp.2.2.2.2)) rfl (below_drewN (Below.refl _ _) _)
    · replace h4 := h4.symm
      subst h4
      go_enter Try.func34, Try.ntmps34
      go_wp2
      go_quiet ((go_at_call 36; exact Calls.quiet_of_same ((firstMask_any _ _ (by omega) (by omega)).mono fun _ _ ⟨a, b⟩ => ⟨a, b.symm⟩)))
      go_wp2
      go_loop [8, 10, 35] (fun pt _ i => ∃ k : Nat, k ≤ n - 1 ∧ (∀ j, 1 ≤ j → j ≤ k → f j / 64 = 2) ∧ i = .int .i64 k ∧ pt = .int .i32 (M.acc f n k : Nat)) (fun _ _ i => n - (intOf i).toNat)
      case atStart =>
        refine ⟨0, by omega, fun j _ _ => by omega, rfl, ?_⟩
        rw [hL.out]
        have := M.lead_lt n (f 0) h1
        have e : wrap32 ((M.lead n (f 0) : Nat) : Int) = ((M.lead n (f 0) : Nat) : Int) := by unfold wrap32; omega
        rw [e]
        rfl
      case round =>
        obtain ⟨k, hk, ht, rfl, rfl⟩ := hrel
        have ht := Lib.hid ht
        by_cases hlt : k < n - 1
        · obtain ⟨_, e, _, hfk, qk⟩ := hb.out (k + 1) (by omega)
          injection e with e
          subst e
          have qk : w.cell? ⟨ad.block, ad.off + 1 + k, none⟩ = some (.int .u8 (f (k + 1) : Int)) := by
            have : ad.add (k + 1) = ⟨ad.block, ad.off + 1 + k, none⟩ := by unfold Addr.add; rw [if_neg (by omega)]; congr 1; omega
            rw [this] at qk; exact qk
          by_cases htl : f (k + 1) / 64 = 2
          · have t1 := tail_yes _ hfk htl
            have hs := Lib.hid (acc_step f n k h1 (by omega))
            go_wp2
            refine ⟨⟨k + 1, by omega, fun j h5 h6 => ?_, by go_num, by rw [hs.out]⟩, by simp [intOf]; omega⟩
            by_cases e : j = k + 1
            · subst e; exact htl
            · exact ht.out j h5 (by omega)
          · have t1 := tail_no _ hfk htl
            go_wp2
            go_ret2
            exact .no (fun p hp => htl (hp.2.1 (k + 1) (by omega) (by omega))) rfl (below_drewN (Below.refl _ _) _)
        · obtain rfl : k = n - 1 := by omega
          have HP := Lib.hid (PI_of (M.acc f n (n - 1)))
          by_cases hq1 : M.acc f n (n - 1) < M.least n
          · go_wp2_with fail
            go_ret2
            exact .no (fun p hp => by have h5 := hp.2.2.1; have h6 := hp.2.2.2.1; subst h5; omega) rfl (below_drewN (Below.refl _ _) _)
          · by_cases hq2 : M.IsP (M.acc f n (n - 1))
            · go_wp2_with (go_at_call 24; refine (isPoint_yes _ _ (HP.out.2 hq2)).mono ?_; rintro e w1 ⟨rfl, rfl⟩)
              go_ret2
              refine .inl ⟨M.acc f n (n - 1), some ad, 0, ⟨by omega, fun i h5 h6 => ht.out i h5 (by omega), rfl, by omega, hq2⟩, rfl, ?_, by omega, by unfold maxLen; omega, ?_⟩
              · rw [set_drewN, show l - n = 0 by omega]; exact below_drewN (Below.refl _ _) _
              · intro i hi; omega
            · go_wp2_with (go_at_call 24; refine (isPoint_no _ _ (fun h => hq2 (HP.out.1 h))).mono ?_; rintro e w1 ⟨rfl, rfl⟩)
              go_ret2
              exact .no (fun p hp => hq2 (by have h5 := hp.2.2.1; subst h5; exact hp.2.2.2.2)) rfl (below_drewN (Below.refl _ _) _)
    · go_enter Try.func34, Try.ntmps34
      go_wp2
      go_quiet ((go_at_call 36; exact Calls.quiet_of_same ((firstMask_any _ _ (by omega) (by omega)).mono fun _ _ ⟨a, b⟩ => ⟨a, b.symm⟩)))
      go_wp2
      go_loop [8, 10, 35] (fun pt _ i => ∃ k : Nat, k ≤ n - 1 ∧ (∀ j, 1 ≤ j → j ≤ k → f j / 64 = 2) ∧ i = .int .i64 k ∧ pt = .int .i32 (M.acc f n k : Nat)) (fun _ _ i => n - (intOf i).toNat)
      case atStart =>
        refine ⟨0, by omega, fun j _ _ => by omega, rfl, ?_⟩
        rw [hL.out]
        have := M.lead_lt n (f 0) h1
        have e : wrap32 ((M.lead n (f 0) : Nat) : Int) = ((M.lead n (f 0) : Nat) : Int) := by unfold wrap32; omega
        rw [e]
        rfl
      case round =>
        obtain ⟨k, hk, ht, rfl, rfl⟩ := hrel
        have ht := Lib.hid ht
        by_cases hlt : k < n - 1
        · obtain ⟨_, e, _, hfk, qk⟩ := hb.out (k + 1) (by omega)
          injection e with e
          subst e
          have qk : w.cell? ⟨ad.block, ad.off + 1 + k, none⟩ = some (.int .u8 (f (k + 1) : Int)) := by
            have : ad.add (k + 1) = ⟨ad.block, ad.off + 1 + k, none⟩ := by unfold Addr.add; rw [if_neg (by omega)]; congr 1; omega
            rw [this] at qk; exact qk
          by_cases htl : f (k + 1) / 64 = 2
          · have t1 := tail_yes _ hfk htl
            have hs := Lib.hid (acc_step f n k h1 (by omega))
            go_wp2
            refine ⟨⟨k + 1, by omega, fun j h5 h6 => ?_, by go_num, by rw [hs.out]⟩, by simp [intOf]; omega⟩
            by_cases e : j = k + 1
            · subst e; exact htl
            · exact ht.out j h5 (by omega)
          · have t1 := tail_no _ hfk htl
            go_wp2
            go_ret2
            exact .no (fun p hp => htl (hp.2.1 (k + 1) (by omega) (by omega))) rfl (below_drewN (Below.refl _ _) _)
        · obtain rfl : k = n - 1 := by omega
          have HP := Lib.hid (PI_of (M.acc f n (n - 1)))
          by_cases hq1 : M.acc f n (n - 1) < M.least n
          · go_wp2_with fail
            go_ret2
            exact .no (fun p hp => by have h5 := hp.2.2.1; have h6 := hp.2.2.2.1; subst h5; omega) rfl (below_drewN (Below.refl _ _) _)
          · by_cases hq2 : M.IsP (M.acc f n (n - 1))
            · go_wp2_with (go_at_call 24; refine (isPoint_yes _ _ (HP.out.2 hq2)).mono ?_; rintro e w1 ⟨rfl, rfl⟩)
              go_ret2
              refine .inl ⟨M.acc f n (n - 1), some (ad.add n), c - n, ⟨by omega, fun i h5 h6 => ht.out i h5 (by omega), rfl, by omega, hq2⟩, rfl, ?_, by omega, by unfold maxLen; omega, ?_⟩
              · rw [set_drewN]; exact below_drewN (Below.refl _ _) _
              · exact hb.out.drop (n := n) (g := fun i => f (n + i)) (fun _ => rfl)
            · go_wp2_with (go_at_call 24; refine (isPoint_no _ _ (fun h => hq2 (HP.out.1 h))).mono ?_; rintro e w1 ⟨rfl, rfl⟩)
              go_ret2
              exact .no (fun p hp => hq2 (by have h5 := hp.2.2.1; subst h5; exact hp.2.2.2.2)) rfl (below_drewN (Below.refl _ _) _)
end Go.Proofs.Ytlppgaaepllbiaa
