/-
  What the small functions of package utf and of the page answer (which points may be, how many bytes, which marks), for every argument that they are called with; no condition beyond the argument's own range.
-/
import Derived.Test.YtmejgbbdehndaaaGreatMem
import Derived.Test.YtmejgbbdehndaaaGreatUMath
import Derived.WalkKit
import Derived.Deep.RegionHeld3
import Derived.Deep.QuietTactic
import Derived.BigQuiet
import Derived.Outline
import Derived.WalkSmall
import Derived.Lib.Hide
import Derived.Lib.BitFns
import Derived.Laws.EntriesVeiled
import Derived.Deep.Onto
namespace Go.Proofs.YtmejgbbdehndaaaGreat.Utf
open Go.RowKit
/-- A number that is a point. -/
def PI (p : Int) : Prop := 0 ≤ p ∧ p ≤ 1114111 ∧ (p < 55296 ∨ 57343 < p)
theorem isPoint_yes (p : Int) (w : World) (h : PI p) : Calls Tryz.prog 260 #[.int .i32 p] w fun e w' => e = .returned (.bool true) ∧ w = w' := by
  obtain ⟨h1, h2, h3⟩ := h
  rcases h3 with h3 | h3
  all_goals
    go_enter Tryz.func260, Tryz.ntmps260
    go_wp2
    go_ret
    exact ⟨rfl, rfl⟩
theorem isPoint_no (p : Int) (w : World) (h : ¬ PI p) : Calls Tryz.prog 260 #[.int .i32 p] w fun e w' => e = .returned (.bool false) ∧ w = w' := by
  have h' : p < 0 ∨ 1114111 < p ∨ (0 ≤ p ∧ p ≤ 1114111 ∧ 55296 ≤ p ∧ p ≤ 57343) := by unfold PI at h; omega
  clear h
  rcases h' with h1 | h1 | ⟨h1, h2, h3, h4⟩
  case inr.inr =>
    have t1 : decide (p < 55296) = false := by simp; omega
    have t2 : decide (57343 < p) = false := by simp; omega
    go_enter Tryz.func260, Tryz.ntmps260
    go_wp2
    go_ret
    exact ⟨rfl, rfl⟩
  all_goals
    go_enter Tryz.func260, Tryz.ntmps260
    go_wp2
    go_ret
    exact ⟨rfl, rfl⟩
theorem ret_bool {a b : Bool} (h : a = b) : Ending.returned (.bool a) = .returned (.bool b) := by rw [h]
theorem ret_int {k : IntKind} {a b : Int} (h : a = b) : Ending.returned (.int k a) = .returned (.int k b) := by rw [h]
/-- The mask of the first of n bytes. -/
def maskOf (n : Nat) : Int := if n = 1 then 127 else if n = 2 then 31 else if n = 3 then 15 else 7
theorem n_cases {n : Nat} (h1 : 1 ≤ n) (h2 : n ≤ 4) : n = 1 ∨ n = 2 ∨ n = 3 ∨ n = 4 := by omega
theorem firstMask_any (n : Nat) (w : World) (h1 : 1 ≤ n) (h2 : n ≤ 4) : Calls Tryz.prog 259 #[.int .i64 n] w fun e w' => e = .returned (.int .u8 (maskOf n)) ∧ w = w' := by
  rcases n_cases h1 h2 with rfl | rfl | rfl | rfl
  all_goals
    go_enter Tryz.func259, Tryz.ntmps259
    go_wp2
    go_ret
    exact ⟨by first | rfl | decide, rfl⟩
set_option maxRecDepth 100000 in
theorem len8_any (x : Int) (w : World) (h0 : 0 ≤ x) (h1 : x ≤ 255) :
    Calls Tryz.prog 261 #[.int .u8 x] w fun e w' => e = .returned (.int .i64 (Lib.bitLen x.toNat)) ∧ w = w' := by
  have H := Lib.hid (show wrap64 (Lib.len8 x) = (Lib.bitLen x.toNat : Int) by unfold wrap64; exact Lib.len8_int x h0 h1)
  go_enter Tryz.func261, Tryz.ntmps261
  go_wp2
  go_ret
  refine ⟨?_, rfl⟩
  exact ret_int H.out
theorem zeros8_any (x : Int) (w : World) (h0 : 0 ≤ x) (h1 : x ≤ 255) :
    Calls Tryz.prog 239 #[.int .u8 x] w fun e w' => e = .returned (.int .i64 (8 - (Lib.bitLen x.toNat : Int))) ∧ w = w' := by
  have l := Lib.bitLen_le8 ⟨x.toNat, by omega⟩
  simp only at l
  go_enter Tryz.func239, Tryz.ntmps239
  go_wp2_with (go_at_call 261; refine (len8_any _ _ (by omega) (by omega)).mono ?_; rintro e w' ⟨rfl, rfl⟩)
  go_ret
  exact ⟨rfl, rfl⟩
/-- How many of a byte's highest bits are 1. -/
def ones (b : Nat) : Nat := 8 - Lib.bitLen (255 - b)
theorem ones_tab : ∀ b : Fin 256, ones b.val ≤ 8 ∧ (ones b.val = 0 ↔ b.val < 128) ∧ (ones b.val = 1 ↔ 128 ≤ b.val ∧ b.val < 192) ∧ (ones b.val = 2 ↔ 192 ≤ b.val ∧ b.val < 224) ∧ (ones b.val = 3 ↔ 224 ≤ b.val ∧ b.val < 240) ∧ (ones b.val = 4 ↔ 240 ≤ b.val ∧ b.val < 248) := by decide +kernel
theorem ones_spec (b : Nat) (h : b < 256) : ones b ≤ 8 ∧ (ones b = 0 ↔ b < 128) ∧ (ones b = 1 ↔ 128 ≤ b ∧ b < 192) ∧ (ones b = 2 ↔ 192 ≤ b ∧ b < 224) ∧ (ones b = 3 ↔ 224 ≤ b ∧ b < 240) ∧ (ones b = 4 ↔ 240 ≤ b ∧ b < 248) := ones_tab ⟨b, h⟩
theorem ones_int (b : Nat) (h : b < 256) : 8 - (Lib.bitLen (255 - (b : Int)).toNat : Int) = (ones b : Nat) := by
  have e : (255 - (b : Int)).toNat = 255 - b := by omega
  have l := Lib.bitLen_le8 ⟨255 - b, by omega⟩
  simp only at l
  rw [e]
  unfold ones
  omega
theorem not8_tab : ∀ b : Fin 256, bits .xor .u8 IntKind.u8.max (b.val : Int) = 255 - (b.val : Int) := by decide +kernel
theorem not8 (b : Nat) (h : b < 256) : bits .xor .u8 IntKind.u8.max (b : Int) = 255 - (b : Int) := not8_tab ⟨b, h⟩
theorem leadingOnes_any (b : Nat) (w : World) (h : b < 256) :
    Calls Tryz.prog 218 #[.int .u8 b] w fun e w' => e = .returned (.int .i64 (ones b : Nat)) ∧ w = w' := by
  have ho : 8 - ((Lib.bitLen (255 - b) : Nat) : Int) = ((ones b : Nat) : Int) := by
    have := ones_int b h
    rwa [show (255 - (b : Int)).toNat = 255 - b by omega] at this
  have HO := Lib.hid ho
  clear ho
  have hx := not8 b h
  go_enter Tryz.func218, Tryz.ntmps218
  go_wp2_with fail
  refine (zeros8_any _ _ (by omega) (by omega)).mono ?_
  rintro e w' ⟨rfl, rfl⟩
  go_wp2
  go_ret
  exact ⟨ret_int HO.out, rfl⟩
theorem none_any (v : Value) (w : World) : Calls Tryz.prog 214 #[v] w fun e w' => e = .returned (.tuple #[.int .i32 0, .bool false]) ∧ w = w' := by
  go_enter Tryz.func214, Tryz.ntmps214
  go_wp2
  go_ret2
  exact ⟨rfl, rfl⟩
end Go.Proofs.YtmejgbbdehndaaaGreat.Utf

/-
  What package utf's reader of one point answers, for every slice of bytes and every number of bytes from 1 to 4; condition: the place and its bytes lie in memory that was there at the call.
-/
namespace Go.Proofs.YtmejgbbdehndaaaGreat.Utf
open Go.RowKit
theorem lead_int (n b : Nat) (h1 : 1 ≤ n) (h2 : n ≤ 4) (hb : b < 256) : bits .and .u8 (b : Int) (maskOf n) = ((M.lead n b : Nat) : Int) := by
  rcases n_cases h1 h2 with rfl | rfl | rfl | rfl
  · show bits .and .u8 (b : Int) ((127 : Nat) : Int) = _
    rw [u8_and_nat _ _ hb (by omega), nat_mask7]; rfl
  · show bits .and .u8 (b : Int) ((31 : Nat) : Int) = _
    rw [u8_and_nat _ _ hb (by omega), nat_mask5]; rfl
  · show bits .and .u8 (b : Int) ((15 : Nat) : Int) = _
    rw [u8_and_nat _ _ hb (by omega), nat_mask4]; rfl
  · show bits .and .u8 (b : Int) ((7 : Nat) : Int) = _
    rw [u8_and_nat _ _ hb (by omega), nat_mask3]; rfl
/-- What reading n bytes leaves: a point and the rest, or nothing changed. -/
def TakePost (B P : Nat) (f : Nat → Nat) (l n : Nat) (w : World) (e : Ending) (w' : World) : Prop :=
  (∃ (p : Nat) (A' : Option Addr) (c' : Nat), M.TakeOk f l n p ∧ e = .returned (.tuple #[.int .i32 p, .bool true]) ∧ Below w.heap.size (w.setCell ⟨P, 0, none⟩ (.slice A' (l - n) c')) w' ∧ l - n ≤ c' ∧ c' ≤ maxLen ∧ Bytes w B A' (l - n) (fun i => f (n + i))) ∨
  ((∀ p, ¬ M.TakeOk f l n p) ∧ e = .returned (.tuple #[.int .i32 0, .bool false]) ∧ Below w.heap.size w w')
theorem TakePost.no {B P : Nat} {f : Nat → Nat} {l n : Nat} {w w' : World} {e : Ending} (h : ∀ p, ¬ M.TakeOk f l n p) (he : e = .returned (.tuple #[.int .i32 0, .bool false])) (hb : Below w.heap.size w w') : TakePost B P f l n w e w' := .inr ⟨h, he, hb⟩
theorem acc_step (f : Nat → Nat) (n k : Nat) (h1 : 1 ≤ n) (hk : k ≤ 2) :
    bits .or .i32 (wrap32 (((M.acc f n k : Nat) : Int) * 64)) ((f (k + 1) : Int) % 64) = ((M.acc f n (k + 1) : Nat) : Int) := by
  have h2 := (M.acc_lt f n k h1 (by omega)).2 hk
  have e3 : wrap32 (((M.acc f n k : Nat) : Int) * 64) = ((M.acc f n k : Nat) : Int) * 64 := by unfold wrap32; omega
  rw [e3, i32_or6 _ _ (by omega) (by omega) (by omega) (by omega) (by omega)]
  simp only [M.acc]
  omega
theorem tail_no (x : Nat) (hx : x < 256) (h : ¬ x / 64 = 2) : (bits .andNot .u8 (x : Int) 63 != 128) = true := by
  rw [show (63 : Int) = ((63 : Nat) : Int) from rfl, u8_andNot_nat _ _ hx (by omega)]
  have : ∀ x : Fin 256, ¬ x.val / 64 = 2 → x.val &&& (255 - 63) ≠ 128 := by decide +kernel
  have := this ⟨x, hx⟩ h
  simp only at this
  simp only [bne_iff_ne, ne_eq]
  omega
theorem tail_yes (x : Nat) (hx : x < 256) (h : x / 64 = 2) : (bits .andNot .u8 (x : Int) 63 != 128) = false := by
  rw [show (63 : Int) = ((63 : Nat) : Int) from rfl, u8_andNot_nat _ _ hx (by omega)]
  have : ∀ x : Fin 256, x.val / 64 = 2 → x.val &&& (255 - 63) = 128 := by decide +kernel
  have := this ⟨x, hx⟩ h
  simp only at this
  rw [this]; rfl
theorem PI_of (p : Nat) : PI (p : Int) ↔ M.IsP p := by unfold PI M.IsP; omega
theorem set_drewN (w : World) (p : Addr) (v : Value) (n : Nat) : (w.drewN n).setCell p v = (w.setCell p v).drewN n := rfl
set_option maxRecDepth 100000 in
theorem take_any (B P : Nat) (ad : Addr) (l c : Nat) (f : Nat → Nat) (n : Nat) (w : World) (hz : w.frozen? ⟨P, 0, none⟩ = false) (hc : w.cell? ⟨P, 0, none⟩ = some (.slice (some ad) l c)) (hlc : l ≤ c) (hcm : c ≤ maxLen)
    (hb : Bytes w B (some ad) l f) (h1 : 1 ≤ n) (h2 : n ≤ 4) (hl0 : 1 ≤ l) :
    Calls Tryz.prog 238 #[.pointer (some ⟨P, 0, none⟩), .int .i64 n, .int .i32 (M.least n : Nat)] w (TakePost B P f l n w) := by
  unfold maxLen at hcm
  obtain ⟨_, e, _, hf0, q0⟩ := hb 0 (by omega)
  injection e with e
  subst e
  replace q0 : w.cell? ad = some (.int .u8 (f 0 : Int)) := by simpa [Addr.add] using q0
  have hL := lead_int n (f 0) (by omega) h2 hf0
  replace hb := Lib.hid hb
  replace hL := Lib.hid hL
  by_cases hln : l < n
  · go_enter Tryz.func238, Tryz.ntmps238
    go_wp2
    go_ret2
    exact .no (fun p hp => by have := hp.1; omega) rfl (Below.refl _ _)
  · have t0 : decide (l < n) = false := by simpa using hln
    have hc' : c = 1 ∨ (c ≠ 1 ∧ c = n) ∨ (c ≠ 1 ∧ c ≠ n) := by omega
    rcases hc' with h3 | ⟨h3, h4⟩ | ⟨h3, h4⟩
    · obtain rfl : n = 1 := by omega
      obtain rfl : l = 1 := by omega
      subst h3
      go_enter Tryz.func238, Tryz.ntmps238
      go_wp2
      go_quiet ((go_at_call 259; exact Calls.quiet_of_same ((firstMask_any 1 _ (by omega) (by omega)).mono fun _ _ ⟨a, b⟩ => ⟨a, b.symm⟩)))
      go_wp2
      go_loop [8, 10, 35] (fun pt _ i => i = .int .i64 0 ∧ pt = .int .i32 (M.acc f 1 0 : Nat)) (fun _ _ i => 1 - (intOf i).toNat)
      case atStart =>
        refine ⟨rfl, ?_⟩
        rw [hL.out]
        have := M.lead_lt 1 (f 0) h1
        have e : wrap32 ((M.lead 1 (f 0) : Nat) : Int) = ((M.lead 1 (f 0) : Nat) : Int) := by unfold wrap32; omega
        rw [e]
        rfl
      case round =>
        obtain ⟨rfl, rfl⟩ := hrel
        have HP := Lib.hid (PI_of (M.acc f 1 0))
        by_cases hq1 : M.acc f 1 0 < M.least 1
        · go_wp2_with fail
          go_ret2
          exact .no (fun p hp => by have h5 := hp.2.2.1; have h6 := hp.2.2.2.1; subst h5; simp at h6; omega) rfl (below_drewN (Below.refl _ _) _)
        · by_cases hq2 : M.IsP (M.acc f 1 0)
          · go_wp2_with (go_at_call 260; refine (isPoint_yes _ _ (HP.out.2 hq2)).mono ?_; rintro e w1 ⟨rfl, rfl⟩)
            go_ret2
            refine .inl ⟨M.acc f 1 0, some ad, 0, ⟨by omega, fun i h5 h6 => by omega, rfl, by omega, hq2⟩, rfl, ?_, by omega, by unfold maxLen; omega, ?_⟩
            · rw [set_drewN]; exact below_drewN (Below.refl _ _) _
            · intro i hi; omega
          · go_wp2_with (go_at_call 260; refine (isPoint_no _ _ (fun h => hq2 (HP.out.1 h))).mono ?_; rintro e w1 ⟨rfl, rfl⟩)
            go_ret2
            exact .no (fun p hp => hq2 (by have h5 := hp.2.2.1; subst h5; exact hp.2.2.2.2)) rfl (below_drewN (Below.refl _ _) _)
    · replace h4 := h4.symm
      subst h4
      go_enter Tryz.func238, Tryz.ntmps238
      go_wp2
      go_quiet ((go_at_call 259; exact Calls.quiet_of_same ((firstMask_any _ _ (by omega) (by omega)).mono fun _ _ ⟨a, b⟩ => ⟨a, b.symm⟩)))
      go_wp2
      go_loop [8, 10, 35] (fun pt _ i => ∃ k : Nat, k ≤ n - 1 ∧ (∀ j, 1 ≤ j → j ≤ k → f j / 64 = 2) ∧ i = .int .i64 k ∧ pt = .int .i32 (M.acc f n k : Nat)) (fun _ _ i => n - (intOf i).toNat)
      case atStart =>
        refine ⟨0, by omega, fun j _ _ => by omega, rfl, ?_⟩
        rw [hL.out]
        have := M.lead_lt n (f 0) h1
        have e : wrap32 ((M.lead n (f 0) : Nat) : Int) = ((M.lead n (f 0) : Nat) : Int) := by unfold wrap32; omega
        rw [e]
        rfl
      case round =>
        obtain ⟨k, hk, ht, rfl, rfl⟩ := hrel
        have ht := Lib.hid ht
        by_cases hlt : k < n - 1
        · obtain ⟨_, e, _, hfk, qk⟩ := hb.out (k + 1) (by omega)
          injection e with e
          subst e
          have qk : w.cell? ⟨ad.block, ad.off + 1 + k, none⟩ = some (.int .u8 (f (k + 1) : Int)) := by
            have : ad.add (k + 1) = ⟨ad.block, ad.off + 1 + k, none⟩ := by unfold Addr.add; rw [if_neg (by omega)]; congr 1; omega
            rw [this] at qk; exact qk
          by_cases htl : f (k + 1) / 64 = 2
          · have t1 := tail_yes _ hfk htl
            have hs := Lib.hid (acc_step f n k h1 (by omega))
            go_wp2
            refine ⟨⟨k + 1, by omega, fun j h5 h6 => ?_, by go_num, by rw [hs.out]⟩, by simp [intOf]; omega⟩
            by_cases e : j = k + 1
            · subst e; exact htl
            · exact ht.out j h5 (by omega)
          · have t1 := tail_no _ hfk htl
            go_wp2
            go_ret2
            exact .no (fun p hp => htl (hp.2.1 (k + 1) (by omega) (by omega))) rfl (below_drewN (Below.refl _ _) _)
        · obtain rfl : k = n - 1 := by omega
          have HP := Lib.hid (PI_of (M.acc f n (n - 1)))
          by_cases hq1 : M.acc f n (n - 1) < M.least n
          · go_wp2_with fail
            go_ret2
            exact .no (fun p hp => by have h5 := hp.2.2.1; have h6 := hp.2.2.2.1; subst h5; omega) rfl (below_drewN (Below.refl _ _) _)
          · by_cases hq2 : M.IsP (M.acc f n (n - 1))
            · go_wp2_with (go_at_call 260; refine (isPoint_yes _ _ (HP.out.2 hq2)).mono ?_; rintro e w1 ⟨rfl, rfl⟩)
              go_ret2
              refine .inl ⟨M.acc f n (n - 1), some ad, 0, ⟨by omega, fun i h5 h6 => ht.out i h5 (by omega), rfl, by omega, hq2⟩, rfl, ?_, by omega, by unfold maxLen; omega, ?_⟩
              · rw [set_drewN, show l - n = 0 by omega]; exact below_drewN (Below.refl _ _) _
              · intro i hi; omega
            · go_wp2_with (go_at_call 260; refine (isPoint_no _ _ (fun h => hq2 (HP.out.1 h))).mono ?_; rintro e w1 ⟨rfl, rfl⟩)
              go_ret2
              exact .no (fun p hp => hq2 (by have h5 := hp.2.2.1; subst h5; exact hp.2.2.2.2)) rfl (below_drewN (Below.refl _ _) _)
    · go_enter Tryz.func238, Tryz.ntmps238
      go_wp2
      go_quiet ((go_at_call 259; exact Calls.quiet_of_same ((firstMask_any _ _ (by omega) (by omega)).mono fun _ _ ⟨a, b⟩ => ⟨a, b.symm⟩)))
      go_wp2
      go_loop [8, 10, 35] (fun pt _ i => ∃ k : Nat, k ≤ n - 1 ∧ (∀ j, 1 ≤ j → j ≤ k → f j / 64 = 2) ∧ i = .int .i64 k ∧ pt = .int .i32 (M.acc f n k : Nat)) (fun _ _ i => n - (intOf i).toNat)
      case atStart =>
        refine ⟨0, by omega, fun j _ _ => by omega, rfl, ?_⟩
        rw [hL.out]
        have := M.lead_lt n (f 0) h1
        have e : wrap32 ((M.lead n (f 0) : Nat) : Int) = ((M.lead n (f 0) : Nat) : Int) := by unfold wrap32; omega
        rw [e]
        rfl
      case round =>
        obtain ⟨k, hk, ht, rfl, rfl⟩ := hrel
        have ht := Lib.hid ht
        by_cases hlt : k < n - 1
        · obtain ⟨_, e, _, hfk, qk⟩ := hb.out (k + 1) (by omega)
          injection e with e
          subst e
          have qk : w.cell? ⟨ad.block, ad.off + 1 + k, none⟩ = some (.int .u8 (f (k + 1) : Int)) := by
            have : ad.add (k + 1) = ⟨ad.block, ad.off + 1 + k, none⟩ := by unfold Addr.add; rw [if_neg (by omega)]; congr 1; omega
            rw [this] at qk; exact qk
          by_cases htl : f (k + 1) / 64 = 2
          · have t1 := tail_yes _ hfk htl
            have hs := Lib.hid (acc_step f n k h1 (by omega))
            go_wp2
            refine ⟨⟨k + 1, by omega, fun j h5 h6 => ?_, by go_num, by rw [hs.out]⟩, by simp [intOf]; omega⟩
            by_cases e : j = k + 1
            · subst e; exact htl
            · exact ht.out j h5 (by omega)
          · have t1 := tail_no _ hfk htl
            go_wp2
            go_ret2
            exact .no (fun p hp => htl (hp.2.1 (k + 1) (by omega) (by omega))) rfl (below_drewN (Below.refl _ _) _)
        · obtain rfl : k = n - 1 := by omega
          have HP := Lib.hid (PI_of (M.acc f n (n - 1)))
          by_cases hq1 : M.acc f n (n - 1) < M.least n
          · go_wp2_with fail
            go_ret2
            exact .no (fun p hp => by have h5 := hp.2.2.1; have h6 := hp.2.2.2.1; subst h5; omega) rfl (below_drewN (Below.refl _ _) _)
          · by_cases hq2 : M.IsP (M.acc f n (n - 1))
            · go_wp2_with (go_at_call 260; refine (isPoint_yes _ _ (HP.out.2 hq2)).mono ?_; rintro e w1 ⟨rfl, rfl⟩)
              go_ret2
              refine .inl ⟨M.acc f n (n - 1), some (ad.add n), c - n, ⟨by omega, fun i h5 h6 => ht.out i h5 (by omega), rfl, by omega, hq2⟩, rfl, ?_, by omega, by unfold maxLen; omega, ?_⟩
              · rw [set_drewN]; exact below_drewN (Below.refl _ _) _
              · exact hb.out.drop (n := n) (g := fun i => f (n + i)) (fun _ => rfl)
            · go_wp2_with (go_at_call 260; refine (isPoint_no _ _ (fun h => hq2 (HP.out.1 h))).mono ?_; rintro e w1 ⟨rfl, rfl⟩)
              go_ret2
              exact .no (fun p hp => hq2 (by have h5 := hp.2.2.1; subst h5; exact hp.2.2.2.2)) rfl (below_drewN (Below.refl _ _) _)
end Go.Proofs.YtmejgbbdehndaaaGreat.Utf

/-
  The walk over text: the readers, the closures and what the walk keeps up; condition: what is read lies in memory that was there at the call.
-/
namespace Go.Proofs.YtmejgbbdehndaaaGreat.Utf
open Go.RowKit
set_option maxRecDepth 100000 in
theorem one_any (B P : Nat) (ad : Addr) (l c : Nat) (f : Nat → Nat) (w : World) (hz : w.frozen? ⟨P, 0, none⟩ = false) (hc : w.cell? ⟨P, 0, none⟩ = some (.slice (some ad) l c)) (hlc : l ≤ c) (hcm : c ≤ maxLen)
    (hb : Bytes w B (some ad) l f) (hl0 : 1 ≤ l) :
    Calls Tryz.prog 213 #[.pointer (some ⟨P, 0, none⟩)] w (TakePost B P f l 1 w) := by
  replace hb := Lib.hid hb
  go_enter Tryz.func213, Tryz.ntmps213
  go_wp2_with fail
  refine (take_any B P ad l c f 1 _ hz hc hlc hcm hb.out (by omega) (by omega) hl0).mono ?_
  rintro e w1 (⟨p, A', c', h1, rfl, h2⟩ | ⟨h1, rfl, h2⟩)
  · replace h1 := Lib.hid h1
    replace h2 := Lib.hid h2
    go_wp2
    go_ret2
    exact .inl ⟨p, A', c', h1.out, rfl, h2.out⟩
  · replace h1 := Lib.hid h1
    replace h2 := Lib.hid h2
    go_wp2
    go_ret2
    exact .inr ⟨h1.out, rfl, h2.out⟩
set_option maxRecDepth 100000 in
theorem two_any (B P : Nat) (ad : Addr) (l c : Nat) (f : Nat → Nat) (w : World) (hz : w.frozen? ⟨P, 0, none⟩ = false) (hc : w.cell? ⟨P, 0, none⟩ = some (.slice (some ad) l c)) (hlc : l ≤ c) (hcm : c ≤ maxLen)
    (hb : Bytes w B (some ad) l f) (hl0 : 1 ≤ l) :
    Calls Tryz.prog 215 #[.pointer (some ⟨P, 0, none⟩)] w (TakePost B P f l 2 w) := by
  replace hb := Lib.hid hb
  go_enter Tryz.func215, Tryz.ntmps215
  go_wp2_with fail
  refine (take_any B P ad l c f 2 _ hz hc hlc hcm hb.out (by omega) (by omega) hl0).mono ?_
  rintro e w1 (⟨p, A', c', h1, rfl, h2⟩ | ⟨h1, rfl, h2⟩)
  · replace h1 := Lib.hid h1
    replace h2 := Lib.hid h2
    go_wp2
    go_ret2
    exact .inl ⟨p, A', c', h1.out, rfl, h2.out⟩
  · replace h1 := Lib.hid h1
    replace h2 := Lib.hid h2
    go_wp2
    go_ret2
    exact .inr ⟨h1.out, rfl, h2.out⟩
set_option maxRecDepth 100000 in
theorem three_any (B P : Nat) (ad : Addr) (l c : Nat) (f : Nat → Nat) (w : World) (hz : w.frozen? ⟨P, 0, none⟩ = false) (hc : w.cell? ⟨P, 0, none⟩ = some (.slice (some ad) l c)) (hlc : l ≤ c) (hcm : c ≤ maxLen)
    (hb : Bytes w B (some ad) l f) (hl0 : 1 ≤ l) :
    Calls Tryz.prog 216 #[.pointer (some ⟨P, 0, none⟩)] w (TakePost B P f l 3 w) := by
  replace hb := Lib.hid hb
  go_enter Tryz.func216, Tryz.ntmps216
  go_wp2_with fail
  refine (take_any B P ad l c f 3 _ hz hc hlc hcm hb.out (by omega) (by omega) hl0).mono ?_
  rintro e w1 (⟨p, A', c', h1, rfl, h2⟩ | ⟨h1, rfl, h2⟩)
  · replace h1 := Lib.hid h1
    replace h2 := Lib.hid h2
    go_wp2
    go_ret2
    exact .inl ⟨p, A', c', h1.out, rfl, h2.out⟩
  · replace h1 := Lib.hid h1
    replace h2 := Lib.hid h2
    go_wp2
    go_ret2
    exact .inr ⟨h1.out, rfl, h2.out⟩
set_option maxRecDepth 100000 in
theorem four_any (B P : Nat) (ad : Addr) (l c : Nat) (f : Nat → Nat) (w : World) (hz : w.frozen? ⟨P, 0, none⟩ = false) (hc : w.cell? ⟨P, 0, none⟩ = some (.slice (some ad) l c)) (hlc : l ≤ c) (hcm : c ≤ maxLen)
    (hb : Bytes w B (some ad) l f) (hl0 : 1 ≤ l) :
    Calls Tryz.prog 217 #[.pointer (some ⟨P, 0, none⟩)] w (TakePost B P f l 4 w) := by
  replace hb := Lib.hid hb
  go_enter Tryz.func217, Tryz.ntmps217
  go_wp2_with fail
  refine (take_any B P ad l c f 4 _ hz hc hlc hcm hb.out (by omega) (by omega) hl0).mono ?_
  rintro e w1 (⟨p, A', c', h1, rfl, h2⟩ | ⟨h1, rfl, h2⟩)
  · replace h1 := Lib.hid h1
    replace h2 := Lib.hid h2
    go_wp2
    go_ret2
    exact .inl ⟨p, A', c', h1.out, rfl, h2.out⟩
  · replace h1 := Lib.hid h1
    replace h2 := Lib.hid h2
    go_wp2
    go_ret2
    exact .inr ⟨h1.out, rfl, h2.out⟩
def lenAt (w : World) (P : Nat) : Nat := match w.cell? ⟨P, 0, none⟩ with | some (.slice _ l _) => l | _ => 0
theorem check1_any (p : Int) (w : World) : Calls Tryz.prog 204 #[.int .i32 p] w fun e w' => e = .returned (.tuple #[]) ∧ w = w' := by
  go_enter Tryz.func204, Tryz.ntmps204
  go_wp2
  go_end0
  exact ⟨rfl, rfl⟩
/-- Nothing but the block of a row of one's own, and one cell L, has turned. -/
def Turned (L base : Nat) (w w' : World) : Prop := w'.os = w.os ∧ w'.tape = w.tape ∧ w'.output = w.output ∧ w.heap.size ≤ w'.heap.size ∧ ∀ k, k < base → k ≠ L → w'.heap[k]? = w.heap[k]?
/-- The table of readers of the place P, as it lies in memory. -/
def Readers (w : World) (P : Nat) : Prop :=
  P + 1 < w.heap.size ∧ w.frozen? ⟨P, 0, none⟩ = false ∧ w.cell? ⟨P + 1, 0, none⟩ = some (.func (.func 213) #[.pointer (some ⟨P, 0, none⟩)] #[]) ∧ w.cell? ⟨P + 1, 1, none⟩ = some (.func (.func 214) #[.pointer (some ⟨P, 0, none⟩)] #[]) ∧
  w.cell? ⟨P + 1, 2, none⟩ = some (.func (.func 215) #[.pointer (some ⟨P, 0, none⟩)] #[]) ∧ w.cell? ⟨P + 1, 3, none⟩ = some (.func (.func 216) #[.pointer (some ⟨P, 0, none⟩)] #[]) ∧ w.cell? ⟨P + 1, 4, none⟩ = some (.func (.func 217) #[.pointer (some ⟨P, 0, none⟩)] #[])
theorem Readers.keep {w w' : World} {P : Nat} (h : Readers w P) (hs : w.heap.size ≤ w'.heap.size) (h0 : w'.frozen? ⟨P, 0, none⟩ = w.frozen? ⟨P, 0, none⟩) (h1 : w'.heap[P + 1]? = w.heap[P + 1]?) : Readers w' P := by
  obtain ⟨a, b, c0, c1, c2, c3, c4⟩ := h
  refine ⟨by omega, by rw [h0]; exact b, ?_, ?_, ?_, ?_, ?_⟩
  all_goals rw [World.cell?_of_block (w := w) h1]; assumption
/-- A place and its readers behind one that was taken. -/
theorem Readers.took {w w' : World} {P : Nat} {v : Value} (h : Readers w P) (hb : Below w.heap.size (w.setCell ⟨P, 0, none⟩ v) w') : Readers w' P := by
  have hP := h.1
  refine h.keep (by have := hb.size; simpa using this) ?_ ?_
  · rw [hb.frozen (p := ⟨P, 0, none⟩) (by show P < _; omega)]; simp
  · rw [hb.block _ hP, Below.heap_setCell _ _ _ _ (by show P + 1 ≠ P; omega)]
theorem _root_.Go.Proofs.YtmejgbbdehndaaaGreat.Bytes.took {w w' : World} {P B l : Nat} {v : Value} {A : Option Addr} {f : Nat → Nat} (h : Bytes w B A l f) (hB : B ≤ P) (hP : P < w.heap.size) (hb : Below w.heap.size (w.setCell ⟨P, 0, none⟩ v) w') : Bytes w' B A l f := by
  intro i hi
  obtain ⟨ad, e, h1, h2, h3⟩ := h i hi
  refine ⟨ad, e, h1, h2, ?_⟩
  rw [hb.cell (p := ad.add i) (by rw [addr_block]; omega), World.cell?_of_block (w := w) (Below.heap_setCell _ _ _ _ (by rw [addr_block]; show ad.block ≠ P; omega))]
  exact h3
theorem below_took {B P : Nat} {w0 w w' : World} {v : Value} (h : Below B w0 w) (hB : B ≤ P) (hP : P < w.heap.size) (hb : Below w.heap.size (w.setCell ⟨P, 0, none⟩ v) w') : Below B w0 w' :=
  (h.setCell (p := ⟨P, 0, none⟩) hB v).trans (hb.mono (by omega))
/-- What the walk over a text keeps up: some points are read, the rest stands at the place. -/
def WRel (X : List Nat → World → Prop) (L : Nat) (bs : List Nat) (w w' : World) : Prop :=
  ∃ (done rest : List Nat) (A' : Option Addr) (l c' : Nat), (∀ p ∈ done, M.IsP p) ∧ bs = M.encs done ++ rest ∧ l = rest.length ∧ w'.cell? ⟨w.heap.size, 0, none⟩ = some (.slice A' l c') ∧ l ≤ c' ∧ c' ≤ maxLen ∧
    Bytes w' L A' l (fun i => rest.getD i 0) ∧ Readers w' w.heap.size ∧ Below L w w' ∧ X done w'
/-- How it ends. -/
def WPost (X : List Nat → World → Prop) (L : Nat) (bs : List Nat) (w : World) (e : Ending) (w' : World) : Prop :=
  ((∃ ps, M.Text bs ps ∧ e = .returned (.int .i64 0) ∧ X ps w') ∨ ((∀ ps, ¬ M.Text bs ps) ∧ e = .returned (.int .i64 100))) ∧ Below L w w'
theorem stuck_by {n : Nat} {rest : List Nat} (hk : M.Kind n (rest.getD 0 0)) (h : ∀ p, ¬ M.TakeOk (fun i => rest.getD i 0) rest.length n p) : ∀ p r, ¬ M.Head rest p r :=
  fun p _ hh => h p (M.take_of_head hk hh).1
theorem stuck_kind {rest : List Nat} (h : (128 ≤ rest.getD 0 0 ∧ rest.getD 0 0 < 192) ∨ 248 ≤ rest.getD 0 0) : ∀ p r, ¬ M.Head rest p r := fun p r hh => by
  have := M.head_kind hh
  unfold M.Kind at this
  omega
theorem lenAt_eq {w : World} {P : Nat} {A : Option Addr} {l c : Nat} (h : w.cell? ⟨P, 0, none⟩ = some (.slice A l c)) : lenAt w P = l := by unfold lenAt; rw [h]
/-- One point further. -/
theorem wrel_step {X : List Nat → World → Prop} {L n p c' : Nat} {bs done rest : List Nat} {A' : Option Addr} {w w1 w2 w3 : World} (hL : L ≤ w.heap.size) (hd : ∀ p ∈ done, M.IsP p) (he : bs = M.encs done ++ rest) (hk : M.Kind n (rest.getD 0 0)) (hlt : ∀ b ∈ rest, b < 256)
    (ht : M.TakeOk (fun i => rest.getD i 0) rest.length n p) (hb : Below w1.heap.size (w1.setCell ⟨w.heap.size, 0, none⟩ (.slice A' (rest.length - n) c')) w2) (h4 : rest.length - n ≤ c') (h5 : c' ≤ maxLen)
    (hA : Bytes w1 L A' (rest.length - n) (fun i => rest.getD (n + i) 0)) (hR : Readers w1 w.heap.size) (hbel : Below L w w1) (hc : (w1.cell? ⟨w.heap.size, 0, none⟩).isSome = true)
    (h3 : Turned L (w.heap.size + 2) w2 w3) (hX : X (done ++ [p]) w3) (hL2 : L < w.heap.size ∨ w2 = w3) : WRel X L bs w w3 ∧ lenAt w3 w.heap.size < rest.length := by
  have hP := hR.1
  obtain ⟨⟨hp, hrest⟩, _⟩ := M.head_of_take hlt hk ht
  have hR2 := hR.took hb
  have hB2 : Below L w w2 := below_took hbel hL (by omega) hb
  have hA2 := hA.took hL (by omega) hb
  have c2 : w2.cell? ⟨w.heap.size, 0, none⟩ = some (.slice A' (rest.length - n) c') := by
    rw [hb.cell (p := ⟨w.heap.size, 0, none⟩) (by show w.heap.size < _; omega)]
    exact World.cell?_setCell_same' _ _ _ hc
  have hn : 1 ≤ n := by unfold M.Kind at hk; omega
  have hl := ht.1
  have key : Readers w3 w.heap.size ∧ w3.cell? ⟨w.heap.size, 0, none⟩ = some (.slice A' (rest.length - n) c') ∧ Bytes w3 L A' (rest.length - n) (fun i => rest.getD (n + i) 0) ∧ Below L w w3 := by
    rcases hL2 with hL2 | rfl
    · obtain ⟨t1, t2, t3, t4, t5⟩ := h3
      refine ⟨hR2.keep t4 ?_ ?_, ?_, ?_, ?_⟩
      · exact World.frozen?_of_block (w := w2) (t5 w.heap.size (by omega) (by omega))
      · exact t5 _ (by omega) (by omega)
      · rw [World.cell?_of_block (w := w2) (t5 w.heap.size (by omega) (by omega))]; exact c2
      · exact hA2.below ⟨t1, t2, t3, t4, fun k hk => t5 k (by omega) (by omega)⟩ (Nat.le_refl _)
      · exact hB2.trans ⟨t1, t2, t3, t4, fun k hk => t5 k (by omega) (by omega)⟩
    · exact ⟨hR2, c2, hA2, hB2⟩
  obtain ⟨k1, k2, k3, k4⟩ := key
  refine ⟨⟨done ++ [p], rest.drop n, A', rest.length - n, c', ?_, ?_, by simp, k2, h4, h5, ?_, k1, k4, hX⟩, by rw [lenAt_eq k2]; omega⟩
  · intro q hq
    rcases List.mem_append.1 hq with h | h
    · exact hd q h
    · simp at h; subst h; exact hp
  · rw [M.encs_snoc, he, List.append_assoc, ← hrest]
  · intro i hi
    have := k3 i hi
    simpa only [getD_drop] using this
theorem bytes_lt {w : World} {B : Nat} {A : Option Addr} {rest : List Nat} (h : Bytes w B A rest.length (fun i => rest.getD i 0)) : ∀ b ∈ rest, b < 256 := by
  intro b hb
  obtain ⟨i, hi, rfl⟩ := List.getElem_of_mem hb
  obtain ⟨_, _, _, h4, _⟩ := h i hi
  simpa [List.getD_eq_getElem?_getD, List.getElem?_eq_getElem hi] using h4
theorem wrel_start {X : List Nat → World → Prop} {L c : Nat} {bs : List Nat} {A : Option Addr} {w : World} {W : World}
    (hL : L ≤ w.heap.size) (h1 : bs.length ≤ c) (h2 : c ≤ maxLen) (h3 : Bytes w L A bs.length (fun i => bs.getD i 0)) (hX : X [] W)
    (hW : W = (w.alloc (.cells #[.slice A bs.length c] 269)).alloc (.cells #[.func (.func 213) #[.pointer (some ⟨w.heap.size, 0, none⟩)] #[], .func (.func 214) #[.pointer (some ⟨w.heap.size, 0, none⟩)] #[], .func (.func 215) #[.pointer (some ⟨w.heap.size, 0, none⟩)] #[], .func (.func 216) #[.pointer (some ⟨w.heap.size, 0, none⟩)] #[], .func (.func 217) #[.pointer (some ⟨w.heap.size, 0, none⟩)] #[]] 272)) :
    WRel X L bs w W := by
  subst hW
  have hb : Below L w ((w.alloc (.cells #[.slice A bs.length c] 269)).alloc (.cells #[.func (.func 213) #[.pointer (some ⟨w.heap.size, 0, none⟩)] #[], .func (.func 214) #[.pointer (some ⟨w.heap.size, 0, none⟩)] #[], .func (.func 215) #[.pointer (some ⟨w.heap.size, 0, none⟩)] #[], .func (.func 216) #[.pointer (some ⟨w.heap.size, 0, none⟩)] #[], .func (.func 217) #[.pointer (some ⟨w.heap.size, 0, none⟩)] #[]] 272)) :=
    ((Below.refl _ _).alloc hL _).alloc (by simp; omega) _
  refine ⟨[], bs, A, bs.length, c, by simp, by simp [M.encs], rfl, ?_, h1, h2, h3.below hb (Nat.le_refl _), ⟨?_, ?_, ?_, ?_, ?_, ?_, ?_⟩, hb, hX⟩
  all_goals simp [go_sem]
def XT (_ : List Nat) (_ : World) : Prop := True
theorem done_le {bs done rest : List Nat} (h : bs = M.encs done ++ rest) (hl : bs.length ≤ 100000) : done.length ≤ 100000 := by
  have := (M.encs_length_le done).1
  have h2 := congrArg List.length h
  simp only [List.length_append] at h2
  omega
end Go.Proofs.YtmejgbbdehndaaaGreat.Utf

/-
  The walk over a text without keeping its points: it tells whether the bytes are a text; condition: the bytes lie in memory that was there at the call.
-/
namespace Go.Proofs.YtmejgbbdehndaaaGreat.Utf
open Go.RowKit
set_option maxRecDepth 100000 in
set_option maxHeartbeats 1000000 in
theorem walk_check (v : Value) (bs : List Nat) (w : World) (h : BS w w.heap.size v bs) :
    Calls Tryz.prog 203 #[v, .func (.func 204) #[] #[]] w (WPost XT w.heap.size bs w) := by
  obtain ⟨A, c, rfl, h1, h2, h3⟩ := h
  replace h3 := Lib.hid h3
  go_enter Tryz.func203, Tryz.ntmps203
  go_wp2
  go_loopw [7] (fun _ w' => WRel XT w.heap.size bs w w') (fun _ w' => lenAt w' w.heap.size)
  case atStart => exact wrel_start (Nat.le_refl _) h1 h2 h3.out trivial rfl
  case round =>
    obtain ⟨done, rest, A', l, c', hd, he, rfl, hcP, h4, h5, hB, hR, hbel, hX⟩ := hrel
    have hlt := Lib.hid (bytes_lt hB)
    replace hd := Lib.hid hd
    replace he := Lib.hid he
    replace hB := Lib.hid hB
    replace hbel := Lib.hid hbel
    replace hX := Lib.hid hX
    unfold maxLen at h5
    by_cases hr : rest.length = 0
    · have HR := Lib.hid hR
      rw [hr] at hcP
      clear hR
      replace hr := Lib.hid hr
      go_wp2
      go_ret
      refine ⟨.inl ⟨done, ⟨hd.out, ?_⟩, rfl, hX.out⟩, hbel.out⟩
      rw [he.out, List.eq_nil_of_length_eq_zero hr.out, List.append_nil]
    · have hne : Hid (rest ≠ []) := Lib.hid (fun h => hr (by rw [h]; rfl))
      obtain ⟨ad, rfl, hadL, hf0, q0⟩ := hB.out 0 (by omega)
      obtain ⟨b0, hb0⟩ : ∃ b0, b0 = rest.getD 0 0 := ⟨_, rfl⟩
      replace hf0 : b0 < 256 := by rw [hb0]; exact hf0
      replace q0 : wr.cell? ad = some (.int .u8 (b0 : Int)) := by rw [hb0]; simpa only [Addr.add, if_true] using q0
      replace hb0 := Lib.hid hb0
      have HR := Lib.hid hR
      obtain ⟨r00, r0, r1, r2, r3, r4, r5⟩ := hR
      have hkinds : b0 < 128 ∨ (128 ≤ b0 ∧ b0 < 192) ∨ (192 ≤ b0 ∧ b0 < 224) ∨ (224 ≤ b0 ∧ b0 < 240) ∨ (240 ≤ b0 ∧ b0 < 248) ∨ 248 ≤ b0 := by omega
      rcases hkinds with kd | ⟨kd, kd'⟩ | ⟨kd, kd'⟩ | ⟨kd, kd'⟩ | ⟨kd, kd'⟩ | kd
      · -- one
        have hK := Lib.hid (show M.Kind 1 (rest.getD 0 0) by rw [← hb0.out]; exact .inl ⟨rfl, by omega⟩)
        have hone := (ones_spec b0 hf0).2.1.2 (by omega)
        go_wp2_with fail
        refine (leadingOnes_any _ _ hf0).mono ?_
        rintro e wx ⟨rfl, rfl⟩
        go_wp2_with fail
        refine (one_any w.heap.size w.heap.size ad rest.length c' (fun i => rest.getD i 0) _ r0 hcP h4 h5 hB.out (by omega)).mono ?_
        rintro e w2 (⟨p, A', c2, ht, rfl, hbT, h4', h5', hA0⟩ | ⟨ht, rfl, hbT⟩)
        · have hA' := Lib.hid hA0
          replace ht := Lib.hid ht
          replace hbT := Lib.hid hbT
          clear hA0 hone
          go_wp2_with fail
          refine (check1_any _ _).mono ?_
          rintro e w3 ⟨rfl, rfl⟩
          go_wp2
          have hst := wrel_step (X := XT) (w3 := w2) (Nat.le_refl _) hd.out he.out hK.out hlt.out ht.out hbT.out h4' h5' hA'.out HR.out hbel.out (by rw [hcP]; rfl) ⟨rfl, rfl, rfl, Nat.le_refl _, fun _ _ _ => rfl⟩ trivial (.inr rfl)
          exact ⟨hst.1, by rw [lenAt_eq hcP]; exact hst.2⟩
        · have hno := Lib.hid (stuck_by hK.out ht)
          replace hbT := Lib.hid hbT
          clear ht hone
          go_wp2
          go_ret
          refine ⟨.inr ⟨fun ps => ?_, rfl⟩, hbel.out.trans (hbT.out.mono (by have := hbel.out.size; omega))⟩
          rw [he.out]
          exact M.text_stuck hd.out hne.out hno.out
      · have hno := Lib.hid (stuck_kind (rest := rest) (.inl (by rw [← hb0.out]; exact ⟨kd, kd'⟩)))
        have hone := (ones_spec b0 hf0).2.2.1.2 (by omega)
        go_wp2_with fail
        refine (leadingOnes_any _ _ hf0).mono ?_
        rintro e wx ⟨rfl, rfl⟩
        go_wp2_with fail
        refine (none_any _ _).mono ?_
        rintro e wx ⟨rfl, rfl⟩
        go_wp2
        go_ret
        refine ⟨.inr ⟨fun ps => ?_, rfl⟩, hbel.out⟩
        rw [he.out]
        exact M.text_stuck hd.out hne.out hno.out
      · -- two
        have hK := Lib.hid (show M.Kind 2 (rest.getD 0 0) by rw [← hb0.out]; exact .inr (.inl ⟨rfl, by omega, by omega⟩))
        have hone := (ones_spec b0 hf0).2.2.2.1.2 (by omega)
        go_wp2_with fail
        refine (leadingOnes_any _ _ hf0).mono ?_
        rintro e wx ⟨rfl, rfl⟩
        go_wp2_with fail
        refine (two_any w.heap.size w.heap.size ad rest.length c' (fun i => rest.getD i 0) _ r0 hcP h4 h5 hB.out (by omega)).mono ?_
        rintro e w2 (⟨p, A', c2, ht, rfl, hbT, h4', h5', hA0⟩ | ⟨ht, rfl, hbT⟩)
        · have hA' := Lib.hid hA0
          replace ht := Lib.hid ht
          replace hbT := Lib.hid hbT
          clear hA0 hone
          go_wp2_with fail
          refine (check1_any _ _).mono ?_
          rintro e w3 ⟨rfl, rfl⟩
          go_wp2
          have hst := wrel_step (X := XT) (w3 := w2) (Nat.le_refl _) hd.out he.out hK.out hlt.out ht.out hbT.out h4' h5' hA'.out HR.out hbel.out (by rw [hcP]; rfl) ⟨rfl, rfl, rfl, Nat.le_refl _, fun _ _ _ => rfl⟩ trivial (.inr rfl)
          exact ⟨hst.1, by rw [lenAt_eq hcP]; exact hst.2⟩
        · have hno := Lib.hid (stuck_by hK.out ht)
          replace hbT := Lib.hid hbT
          clear ht hone
          go_wp2
          go_ret
          refine ⟨.inr ⟨fun ps => ?_, rfl⟩, hbel.out.trans (hbT.out.mono (by have := hbel.out.size; omega))⟩
          rw [he.out]
          exact M.text_stuck hd.out hne.out hno.out
      · -- three
        have hK := Lib.hid (show M.Kind 3 (rest.getD 0 0) by rw [← hb0.out]; exact .inr (.inr (.inl ⟨rfl, by omega, by omega⟩)))
        have hone := (ones_spec b0 hf0).2.2.2.2.1.2 (by omega)
        go_wp2_with fail
        refine (leadingOnes_any _ _ hf0).mono ?_
        rintro e wx ⟨rfl, rfl⟩
        go_wp2_with fail
        refine (three_any w.heap.size w.heap.size ad rest.length c' (fun i => rest.getD i 0) _ r0 hcP h4 h5 hB.out (by omega)).mono ?_
        rintro e w2 (⟨p, A', c2, ht, rfl, hbT, h4', h5', hA0⟩ | ⟨ht, rfl, hbT⟩)
        · have hA' := Lib.hid hA0
          replace ht := Lib.hid ht
          replace hbT := Lib.hid hbT
          clear hA0 hone
          go_wp2_with fail
          refine (check1_any _ _).mono ?_
          rintro e w3 ⟨rfl, rfl⟩
          go_wp2
          have hst := wrel_step (X := XT) (w3 := w2) (Nat.le_refl _) hd.out he.out hK.out hlt.out ht.out hbT.out h4' h5' hA'.out HR.out hbel.out (by rw [hcP]; rfl) ⟨rfl, rfl, rfl, Nat.le_refl _, fun _ _ _ => rfl⟩ trivial (.inr rfl)
          exact ⟨hst.1, by rw [lenAt_eq hcP]; exact hst.2⟩
        · have hno := Lib.hid (stuck_by hK.out ht)
          replace hbT := Lib.hid hbT
          clear ht hone
          go_wp2
          go_ret
          refine ⟨.inr ⟨fun ps => ?_, rfl⟩, hbel.out.trans (hbT.out.mono (by have := hbel.out.size; omega))⟩
          rw [he.out]
          exact M.text_stuck hd.out hne.out hno.out
      · -- four
        have hK := Lib.hid (show M.Kind 4 (rest.getD 0 0) by rw [← hb0.out]; exact .inr (.inr (.inr ⟨rfl, by omega, by omega⟩)))
        have hone := (ones_spec b0 hf0).2.2.2.2.2.2 (by omega)
        go_wp2_with fail
        refine (leadingOnes_any _ _ hf0).mono ?_
        rintro e wx ⟨rfl, rfl⟩
        go_wp2_with fail
        refine (four_any w.heap.size w.heap.size ad rest.length c' (fun i => rest.getD i 0) _ r0 hcP h4 h5 hB.out (by omega)).mono ?_
        rintro e w2 (⟨p, A', c2, ht, rfl, hbT, h4', h5', hA0⟩ | ⟨ht, rfl, hbT⟩)
        · have hA' := Lib.hid hA0
          replace ht := Lib.hid ht
          replace hbT := Lib.hid hbT
          clear hA0 hone
          go_wp2_with fail
          refine (check1_any _ _).mono ?_
          rintro e w3 ⟨rfl, rfl⟩
          go_wp2
          have hst := wrel_step (X := XT) (w3 := w2) (Nat.le_refl _) hd.out he.out hK.out hlt.out ht.out hbT.out h4' h5' hA'.out HR.out hbel.out (by rw [hcP]; rfl) ⟨rfl, rfl, rfl, Nat.le_refl _, fun _ _ _ => rfl⟩ trivial (.inr rfl)
          exact ⟨hst.1, by rw [lenAt_eq hcP]; exact hst.2⟩
        · have hno := Lib.hid (stuck_by hK.out ht)
          replace hbT := Lib.hid hbT
          clear ht hone
          go_wp2
          go_ret
          refine ⟨.inr ⟨fun ps => ?_, rfl⟩, hbel.out.trans (hbT.out.mono (by have := hbel.out.size; omega))⟩
          rw [he.out]
          exact M.text_stuck hd.out hne.out hno.out
      · have hno := Lib.hid (stuck_kind (rest := rest) (.inr (by rw [← hb0.out]; exact kd)))
        have hone : 5 ≤ ones b0 := by
          have := ones_spec b0 hf0
          omega
        go_wp2_with fail
        refine (leadingOnes_any _ _ hf0).mono ?_
        rintro e wx ⟨rfl, rfl⟩
        go_wp2
        go_ret
        refine ⟨.inr ⟨fun ps => ?_, rfl⟩, hbel.out⟩
        rw [he.out]
        exact M.text_stuck hd.out hne.out hno.out
end Go.Proofs.YtmejgbbdehndaaaGreat.Utf

/-
  What package utf's Check and Points answer, for every slice of at most 100000 bytes: whether they are a text, and its points; condition: the bytes lie in memory that was there at the call.
-/
namespace Go.Proofs.YtmejgbbdehndaaaGreat.Utf
open Go.RowKit
theorem Check_post (v : Value) (bs : List Nat) (w : World) (h : BS w w.heap.size v bs) : Calls Tryz.prog 181 #[v] w (WPost XT w.heap.size bs w) := by
  replace h := Lib.hid h
  go_enter Tryz.func181, Tryz.ntmps181
  go_wp2_with fail
  refine (walk_check v bs _ h.out).mono ?_
  rintro e w1 ⟨⟨ps, h1, rfl, h2⟩ | ⟨h1, rfl⟩, h3⟩
  · replace h1 := Lib.hid h1
    replace h3 := Lib.hid h3
    go_wp2
    go_ret
    exact ⟨.inl ⟨ps, h1.out, rfl, trivial⟩, h3.out⟩
  · replace h1 := Lib.hid h1
    replace h3 := Lib.hid h3
    go_wp2
    go_ret
    exact ⟨.inr ⟨h1.out, rfl⟩, h3.out⟩
theorem Check_yes (v : Value) (bs ps : List Nat) (w : World) (h : BS w w.heap.size v bs) (ht : M.Text bs ps) : Calls Tryz.prog 181 #[v] w fun e w' => e = .returned (.int .i64 0) ∧ Below w.heap.size w w' :=
  (Check_post v bs w h).mono fun _ _ ⟨h1, h2⟩ => by
    rcases h1 with ⟨_, _, he, _⟩ | ⟨hn, _⟩
    · exact ⟨he, h2⟩
    · exact absurd ht (hn ps)
theorem Check_no (v : Value) (bs : List Nat) (w : World) (h : BS w w.heap.size v bs) (ht : ∀ ps, ¬ M.Text bs ps) : Calls Tryz.prog 181 #[v] w fun e w' => e = .returned (.int .i64 100) ∧ Below w.heap.size w w' :=
  (Check_post v bs w h).mono fun _ _ ⟨h1, h2⟩ => by
    rcases h1 with ⟨ps, hp, _, _⟩ | ⟨_, he⟩
    · exact absurd hp (ht ps)
    · exact ⟨he, h2⟩
end Go.Proofs.YtmejgbbdehndaaaGreat.Utf
