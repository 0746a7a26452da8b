/-
  Whether instructions may be, as the program's Check tells it; condition: the instructions lie in memory that was there at the call.
-/
import Derived.Test.YtmejgbbdehndaaaGreatChk2
namespace Go.Proofs.YtmejgbbdehndaaaGreat
open Go.RowKit
def hasB (s p : Nat) : Bool := s / 2 ^ p % 2 == 1
theorem has_eq (s p : Nat) (hs : s < 1024) : (bits .and .u64 ((s : Int) / 2 ^ p) 1 == 1) = hasB s p := by
  have e : (s : Int) / 2 ^ p = ((s / 2 ^ p : Nat) : Int) := by push_cast; rfl
  have hl : s / 2 ^ p ≤ s := Nat.div_le_self _ _
  rw [e, show (1 : Int) = ((1 : Nat) : Int) from rfl, u64_and_nat _ _ (by omega) (by omega), Nat.and_one_is_mod]
  unfold hasB
  rw [Bool.eq_iff_iff, beq_iff_eq, beq_iff_eq]
  omega
theorem has_any (s p : Nat) (w : World) (hs : s < 1024) (hp : p < 10) : Calls Tryz.prog 243 #[.int .u64 s, .int .i64 p] w fun e w' => e = .returned (.bool (hasB s p)) ∧ w = w' := by
  have H := Lib.hid (has_eq s p hs)
  go_enter Tryz.func243, Tryz.ntmps243
  go_wp2
  go_ret
  exact ⟨ret_bool H.out, rfl⟩
theorem mask_lt (op : Int) : M.mask op < 1024 := by
  unfold M.mask
  rcases M.kind_cases op with k | k | k | k | k | k | k | k | k | k
  all_goals rw [k]; simp only [M.maskK]
  case inr.inr.inl => split <;> omega
  all_goals omega
theorem has_body (op : Int) : hasB (M.mask op) 7 = decide (M.kind op = 2) := by
  unfold M.mask
  rcases M.kind_cases op with k | k | k | k | k | k | k | k | k | k
  all_goals rw [k]; simp only [M.maskK]
  case inr.inr.inl => split <;> decide
  all_goals decide
theorem partsOf_yes (op : Int) (w : World) (h : M.kind op ≠ 0) : Calls Tryz.prog 240 #[.int .i64 op] w fun e w' => e = .returned (.tuple #[.int .u64 (M.mask op : Nat), .bool true]) ∧ Below w.heap.size w w' :=
  (partsOf_any op w).mono fun _ _ ⟨a, b⟩ => ⟨by rw [a]; simp [h], b⟩
theorem partsOf_no (op : Int) (w : World) (h : M.kind op = 0) : Calls Tryz.prog 240 #[.int .i64 op] w fun e w' => e = .returned (.tuple #[.int .u64 0, .bool false]) ∧ Below w.heap.size w w' :=
  (partsOf_any op w).mono fun _ _ ⟨a, b⟩ => ⟨by rw [a, M.mask_of h, h]; rfl, b⟩
theorem isType_yes (t : Int) (w : World) (h : M.tyOk t) : Calls Tryz.prog 244 #[.int .i64 t] w fun e w' => e = .returned (.bool true) ∧ w = w' :=
  (isType_any t w).mono fun _ _ ⟨a, b⟩ => ⟨by rw [a]; simp [h], b⟩
theorem isType_no (t : Int) (w : World) (h : ¬ M.tyOk t) : Calls Tryz.prog 244 #[.int .i64 t] w fun e w' => e = .returned (.bool false) ∧ w = w' :=
  (isType_any t w).mono fun _ _ ⟨a, b⟩ => ⟨by rw [a]; simp [h], b⟩
theorem RPost.cong {P Q : Prop} {w : World} {r : Bool} {w' : World} (h : r = true ↔ P) (hq : P ↔ Q) (hb : Below w.heap.size w w') (e : Ending) (he : e = .returned (.bool r)) : RPost Q w e w' := ⟨r, he, h.trans hq, hb⟩
def AreOk (N : Nat) : Prop := ∀ (l : M.L) (v : Value) (deep : Nat) (w : World), l.sz < N → LB w v l → deep ≤ 40 → Calls Tryz.prog 205 #[v, .int .i64 deep] w (RPost (M.ok (40 - deep) l) w)
set_option maxRecDepth 100000 in
theorem isInstr_of (N : Nat) (ih : AreOk N) (g o : Nat) (h : M.Hd) (b e : M.L) (vL vB vE : Value) (deep : Nat) (w : World) (hb : b.sz < N) (he : e.sz < N) (hg : g < w.heap.size) (hi : ItemAt w g o h vL vB vE) (hR : Rng h) (h1 : NB w vL h.labels) (h2 : LB w vB b) (h3 : LB w vE e) (hd : deep ≤ 40) :
    Calls Tryz.prog 219 #[.pointer (some ⟨g, o, none⟩), .int .i64 deep] w (RPost (okI (40 - deep) h b e) w) := by
  have hi0 := Lib.hid hi
  obtain ⟨c0, c1, c2, c3, c4, c5, c6, c7, c8⟩ := hi
  clear c2 c3 c4 c5 c6
  replace h1 := Lib.hid h1
  replace h2 := Lib.hid h2
  replace h3 := Lib.hid h3
  replace hR := Lib.hid hR
  replace ih := Lib.hid ih
  by_cases hk : M.kind h.op = 0
  · have hno := Lib.hid (show ¬ okI (40 - deep) h b e from fun hp => M.flat_to hk hp.1)
    replace hk := Lib.hid hk
    go_enter Tryz.func219, Tryz.ntmps219
    go_wp2_with fail
    refine (partsOf_no _ _ hk.out).mono ?_
    rintro e1 w1 ⟨rfl, b1⟩
    replace b1 := Lib.hid b1
    go_wp2_with fail
    go_ret
    exact .no rfl hno.out b1.out
  · have hm := Lib.hid (may_iff h b e hR.out hk)
    have hml := mask_lt h.op
    have hbd := Lib.hid (has_body h.op)
    replace hk := Lib.hid hk
    go_enter Tryz.func219, Tryz.ntmps219
    go_wp2_with fail
    refine (partsOf_yes _ _ hk.out).mono ?_
    rintro e1 w1 ⟨rfl, b1⟩
    have i1 := Lib.hid (hi0.out.agree (b1.block g hg))
    have g1 : g < w1.heap.size := Nat.lt_of_lt_of_le hg b1.size
    replace b1 := Lib.hid b1
    go_wp2_with fail
    refine (filled_any g o h vL vB vE b e _ g1 i1.out ⟨_, _, (h1.out.form.choose_spec.choose_spec.1)⟩ ⟨_, _, (h2.out.form.choose_spec.choose_spec.1)⟩ ⟨_, _, (h3.out.form.choose_spec.choose_spec.1)⟩).mono ?_
    rintro e2 w2 ⟨rfl, b2⟩
    have d2 := Lib.hid (b1.out.trans (b2.mono b1.out.size))
    have i2 := Lib.hid (hi0.out.agree (d2.out.block g hg))
    have n2 := Lib.hid (h1.out.later d2.out)
    clear b2
    obtain ⟨t, ht⟩ : ∃ t, t = overB h b e := ⟨_, rfl⟩
    have ht' : (bits .andNot .u64 (fillOf h b e : Nat) (M.mask h.op : Nat) != 0) = t := ht.symm
    replace ht := Lib.hid ht
    cases t with
    | true =>
      go_wp2_with fail
      go_ret
      refine .no rfl (fun hp => ?_) d2.out
      have := (hm.out.2 ⟨hp.1, hp.2.2.1, hp.2.2.2⟩).1
      rw [← ht.out] at this
      cases this
    | false =>
      go_wp2_with fail
      refine (inRange_any g o h vL vB vE _ i2.out hR.out n2.out).mono ?_
      rintro e3 w3 ⟨r, rfl, hr, b3⟩
      have d3 := Lib.hid (d2.out.trans (b3.mono d2.out.size))
      clear b3 i1 i2 n2 ht'
      replace hr := Lib.hid hr
      have c1' : w3.cell? ⟨g, o + 1, none⟩ = some (.int .i64 h.ty) := by rw [d3.out.cell (by exact hg)]; exact c1
      have c7' : w3.cell? ⟨g, o + 7, none⟩ = some vB := by rw [d3.out.cell (by exact hg)]; exact c7
      cases r with
      | false =>
        go_wp2_with fail
        go_ret
        refine .no rfl (fun hp => ?_) d3.out
        have := (hm.out.2 ⟨hp.1, hp.2.2.1, hp.2.2.2⟩).2.1
        have h9 := hr.out.2 this
        cases h9
      | true =>
        have hrp := Lib.hid (hr.out.1 rfl)
        clear hr
        by_cases k2 : M.kind h.op = 2
        · have hbt := Lib.hid (show hasB (M.mask h.op) 7 = true by rw [hbd.out]; simp [k2])
          replace k2 := Lib.hid k2
          go_wp2_with fail
          refine (has_any _ 7 _ hml (by omega)).mono ?_
          rintro e4 w4 ⟨rfl, rfl⟩
          rw [hbt.out]
          by_cases ty : M.tyOk h.ty
          · replace ty := Lib.hid ty
            go_wp2_with fail
            refine (isType_yes _ _ ty.out).mono ?_
            rintro e4 w4 ⟨rfl, rfl⟩
            have hfl := Lib.hid (hm.out.1 ⟨ht.out.symm, hrp.out, fun _ => ty.out⟩)
            by_cases dp : deep < 40
            · have dp' : decide ((deep : Int) < 40) = true := by simp; omega
              go_wp2_with fail
              refine (ih.out b vB (deep + 1) _ hb (h2.out.later d3.out) (by omega)).mono ?_
              rintro e5 w5 ⟨r5, rfl, hr5, b5⟩
              have d5 := Lib.hid (d3.out.trans (b5.mono d3.out.size))
              clear b5
              have c8' : w5.cell? ⟨g, o + 8, none⟩ = some vE := by rw [d5.out.cell (by exact hg)]; exact c8
              replace hr5 := Lib.hid hr5
              cases r5 with
              | false =>
                go_wp2_with fail
                go_ret
                refine .no rfl (fun hp => ?_) d5.out
                have h9 := hr5.out.2 (by rw [show 40 - (deep + 1) = 40 - deep - 1 by omega]; exact (hp.2.1 k2.out).2.1)
                cases h9
              | true =>
                go_wp2_with fail
                refine (ih.out e vE (deep + 1) _ he (h3.out.later d5.out) (by omega)).mono ?_
                rintro e6 w6 ⟨r6, rfl, hr6, b6⟩
                have d6 := Lib.hid (d5.out.trans (b6.mono d5.out.size))
                clear b6
                replace hr6 := Lib.hid hr6
                cases r6 with
                | false =>
                  go_wp2_with fail
                  go_ret
                  refine .no rfl (fun hp => ?_) d6.out
                  have h9 := hr6.out.2 (by rw [show 40 - (deep + 1) = 40 - deep - 1 by omega]; exact (hp.2.1 k2.out).2.2)
                  cases h9
                | true =>
                  go_wp2_with fail
                  go_ret
                  refine .yes rfl ⟨hfl.out.1, fun _ => ⟨by omega, ?_, ?_⟩, hfl.out.2.1, hfl.out.2.2⟩ d6.out
                  · have := hr5.out.1 (by simp); rwa [show 40 - (deep + 1) = 40 - deep - 1 by omega] at this
                  · have := hr6.out.1 (by simp); rwa [show 40 - (deep + 1) = 40 - deep - 1 by omega] at this
            · have dp' : decide ((deep : Int) < 40) = false := by simp; omega
              go_wp2_with fail
              go_ret
              exact .no rfl (fun hp => by have := (hp.2.1 k2.out).1; omega) d3.out
          · replace ty := Lib.hid ty
            go_wp2_with fail
            refine (isType_no _ _ ty.out).mono ?_
            rintro e4 w4 ⟨rfl, rfl⟩
            go_wp2_with fail
            go_ret
            exact .no rfl (fun hp => ty.out ((hm.out.2 ⟨hp.1, hp.2.2.1, hp.2.2.2⟩).2.2 k2.out)) d3.out
        · have hbt := Lib.hid (show hasB (M.mask h.op) 7 = false by rw [hbd.out]; simp [k2])
          have hfl := Lib.hid (hm.out.1 ⟨ht.out.symm, hrp.out, fun h9 => absurd h9 k2⟩)
          replace k2 := Lib.hid k2
          go_wp2_with fail
          refine (has_any _ 7 _ hml (by omega)).mono ?_
          rintro e4 w4 ⟨rfl, rfl⟩
          rw [hbt.out]
          go_wp2_with fail
          go_ret
          exact .yes rfl ⟨hfl.out.1, fun h9 => absurd h9 k2.out, hfl.out.2.1, hfl.out.2.2⟩ d3.out
theorem ok_nth {d : Nat} : ∀ {l : M.L}, (∀ k h b e, l.nth k = some (h, b, e) → okI d h b e) → M.ok d l
  | .nil, _ => trivial
  | .cons h b e r, hp => (ok_cons d h b e r).2 ⟨hp 0 h b e rfl, ok_nth fun k h' b' e' hn => hp (k + 1) h' b' e' hn⟩
theorem ok_of_nth {d : Nat} : ∀ {l : M.L}, M.ok d l → ∀ k h b e, l.nth k = some (h, b, e) → okI d h b e
  | .nil, _, _, _, _, _, hn => by cases hn
  | .cons h b e r, hp, 0, h', b', e', hn => by
    simp only [M.L.nth, Option.some.injEq, Prod.mk.injEq] at hn
    obtain ⟨rfl, rfl, rfl⟩ := hn
    exact ((ok_cons d h b e r).1 hp).1
  | .cons h b e r, hp, k + 1, h', b', e', hn => ok_of_nth ((ok_cons d h b e r).1 hp).2 k h' b' e' hn
set_option maxRecDepth 100000 in
theorem areInstrs_of (N : Nat) : AreOk N := by
  induction N with
  | zero => intro l v deep w h; omega
  | succ N ih =>
    intro l v deep w hN hl hd
    obtain ⟨A, c, rfl, hc1, hc2, hc3⟩ := hl.form
    unfold maxLen at hc3
    replace hl := Lib.hid hl
    replace ih := Lib.hid ih
    go_enter Tryz.func205, Tryz.ntmps205
    go_wp2_with fail
    go_loopw [5, 8] (fun _ i w' => ∃ k : Nat, k ≤ l.len ∧ i = .int .i64 k ∧ (∀ j h b e, j < k → l.nth j = some (h, b, e) → okI (40 - deep) h b e) ∧ Below w.heap.size w w') (fun _ i _ => l.len - (intOf i).toNat)
    case atStart => exact ⟨0, by omega, rfl, fun j _ _ _ hj => by omega, Below.refl _ _⟩
    case round =>
      obtain ⟨k, hk, rfl, hall, hbw⟩ := hrel
      replace hall := Lib.hid hall
      by_cases hlt : k < l.len
      · obtain ⟨h, b, e, hn⟩ := M.nth_of hlt
        obtain ⟨g, o, vL, vB, vE, rfl, hg, hi, hR, hL, hB, hE⟩ := (hl.out.later hbw).nth' hn
        have hsz := (M.nth_some hn).2
        replace hn := Lib.hid hn
        replace hi := Lib.hid hi
        replace hR := Lib.hid hR
        replace hL := Lib.hid hL
        replace hB := Lib.hid hB
        replace hE := Lib.hid hE
        replace hbw := Lib.hid hbw
        go_wp2_with fail
        refine (isInstr_of N ih.out g (o + k * 9) h b e vL vB vE deep _ (by omega) (by omega) hg hi.out hR.out hL.out hB.out hE.out hd).mono ?_
        rintro e1 w1 ⟨r, rfl, hr, b1⟩
        have d1 := Lib.hid (hbw.out.trans (b1.mono hbw.out.size))
        clear b1
        replace hr := Lib.hid hr
        cases r with
        | false =>
          go_wp2_with fail
          go_ret
          refine .no rfl (fun hp => ?_) d1.out
          have h9 := hr.out.2 (ok_of_nth hp k h b e hn.out)
          cases h9
        | true =>
          go_wp2_with fail
          refine ⟨⟨k + 1, by omega, by go_num, fun j h' b' e' hj hn' => ?_, d1.out⟩, by simp [intOf]; omega⟩
          by_cases ej : j = k
          · subst ej
            rw [hn.out] at hn'
            simp only [Option.some.injEq, Prod.mk.injEq] at hn'
            obtain ⟨rfl, rfl, rfl⟩ := hn'
            exact hr.out.1 (by simp)
          · exact hall.out j h' b' e' (by omega) hn'
      · go_wp2_with fail
        go_ret
        exact .yes rfl (ok_nth fun j h b e hn => hall.out j h b e (by have := (M.nth_some hn).1; omega) hn) hbw
theorem areInstrs_any (l : M.L) (v : Value) (deep : Nat) (w : World) (hl : LB w v l) (hd : deep ≤ 40) : Calls Tryz.prog 205 #[v, .int .i64 deep] w (RPost (M.ok (40 - deep) l) w) :=
  areInstrs_of (l.sz + 1) l v deep w (Nat.lt_succ_self _) hl hd
theorem areInstrs_yes (l : M.L) (v : Value) (w : World) (hl : LB w v l) (h : M.ok 40 l) : Calls Tryz.prog 205 #[v, .int .i64 0] w fun e w' => e = .returned (.bool true) ∧ Below w.heap.size w w' :=
  (areInstrs_any l v 0 w hl (by omega)).mono fun _ _ ⟨r, a, b, c⟩ => ⟨by rw [a, b.2 h], c⟩
theorem areInstrs_no (l : M.L) (v : Value) (w : World) (hl : LB w v l) (h : ¬ M.ok 40 l) : Calls Tryz.prog 205 #[v, .int .i64 0] w fun e w' => e = .returned (.bool false) ∧ Below w.heap.size w w' :=
  (areInstrs_any l v 0 w hl (by omega)).mono fun _ _ ⟨r, a, b, c⟩ => ⟨by rw [a]; cases r with | false => rfl | true => exact absurd (b.1 rfl) h, c⟩
end Go.Proofs.YtmejgbbdehndaaaGreat
