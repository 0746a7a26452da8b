/-
  What the program's reader of one instruction answers, given what its reader of a list answers one block deeper; condition: the place and the instruction lie in memory that was there at the call.
-/
import Derived.Test.YtmejgbbdehndaaaGreatWithin
namespace Go.Proofs.YtmejgbbdehndaaaGreat
open Go.RowKit
def LabelsOk : Prop := ∀ (P : Nat) (ad : Addr) (c : Nat) (bs : List Nat) (d g o base : Nat) (sub : M.Rd) (s : M.Stt) (w : World) (p : Nat) (vL vB vE : Value), RS P (some ad) c bs d g o base s w p vL vB vE → s.h.labels = [] → (vL = .slice none 0 0 ∧ vB = .slice none 0 0 ∧ vE = .slice none 0 0 ∧ s.b = .nil ∧ s.e = .nil) →
    Calls Tryz.prog 248 #[.pointer (some ⟨P, 0, none⟩), .pointer (some ⟨g, o, none⟩)] w (RdPost P (some ad) c bs d g o base w (M.rdPart sub 1 s))
/-- What the loop over the parts keeps up. -/
def InsRel (P : Nat) (ad : Addr) (c : Nat) (bs : List Nat) (d g o base : Nat) (sub : M.Rd) (m : Nat) (R : Option M.Stt) (w : World) (i : Value) (w' : World) : Prop :=
  ∃ (k q : Nat) (s : M.Stt) (vL vB vE : Value), k ≤ 10 ∧ i = .int .i64 (k : Nat) ∧ RS P (some ad) c bs d g o base s w' q vL vB vE ∧ Step P g o w w' ∧ M.rdAll sub m (10 - k) s = R ∧ (k ≤ 1 → s.h.labels = [] ∧ (hasB m 0 = false → (vL = .slice none 0 0 ∧ vB = .slice none 0 0 ∧ vE = .slice none 0 0 ∧ s.b = .nil ∧ s.e = .nil)))
theorem mask_01 (op : Int) : hasB (M.mask op) 1 = true → hasB (M.mask op) 0 = false := by
  unfold M.mask
  rcases M.kind_cases op with k | k | k | k | k | k | k | k | k | k
  all_goals rw [k]; simp only [M.maskK]
  case inr.inr.inl => split <;> decide
  all_goals decide
theorem zero_rng : Rng (M.hd0 0) := by constructor <;> (simp only [M.hd0]; omega)
theorem part_1 {sub : M.Rd} {k : Nat} {s s' : M.Stt} (h : M.rdPart sub k s = some s') (hk : k = 0) : s'.h.labels = s.h.labels := by
  subst hk
  simp only [M.rdPart] at h
  split at h
  · cases h
  · split at h
    · cases h; rfl
    · cases h

set_option maxRecDepth 100000 in
set_option maxHeartbeats 4000000 in
theorem instr_of (lab : LabelsOk) (P : Nat) (ad : Addr) (c : Nat) (bs : List Nat) (d p g o b0 : Nat) (w : World) (ih : d < 40 → ListOk (d + 1)) (h : PlaceAt w P (some ad) c bs p d) (hb : bs.drop p = b0 :: bs.drop (p + 1)) (hp : p < bs.length) (hPg : P < g) (hi : ItemAt w g o (M.hd0 0) (.slice none 0 0) (.slice none 0 0) (.slice none 0 0)) (hblk : ∃ cur, Blk w g cur) :
    Calls Tryz.prog 258 #[.pointer (some ⟨P, 0, none⟩), .pointer (some ⟨g, o, none⟩)] w (RdPost P (some ad) c bs d g o w.heap.size w ((M.ins (M.subOf (40 - d)) b0 (bs.drop (p + 1))).bind fun x => some ⟨x.2, x.1.1, x.1.2.1, x.1.2.2⟩)) := by
  have hglt : g < w.heap.size := World.block_lt_of_cell? w ⟨g, o, none⟩ hi.c0
  have h0 := Lib.hid h
  obtain ⟨ad', y, ea, hd, hy, q⟩ := h.byte hp
  injection ea with ea
  subst ea
  have hyb : y = b0 := by rw [hb] at hd; injection hd with hd _; exact hd.symm
  subst hyb
  clear hd hb
  have hi0 := Lib.hid hi
  have hc0 := hi.c0
  simp only [M.hd0] at hc0
  obtain ⟨cur, hcur⟩ := hblk
  have hf := hcur.frozen o
  replace hcur := Lib.hid hcur
  obtain ⟨c0, c1, c2, c3, c4, c5, c6, c7, c8, c9, c10, c11, c12, f1, f2, le, cap, small, deep, bytes, size⟩ := h
  clear c2 c3 c4 c5 c6 c7 c8 c9 c10 c11 c12 f2 bytes hi
  obtain ⟨cap1, cap2⟩ := cap
  unfold maxLen at cap2
  have t0 : (0 : Int) ≤ (p : Int) := by omega
  have t1 : (p : Int) < (bs.length : Int) := by omega
  have hgP : ¬ g = P := by omega
  replace ih := Lib.hid ih
  obtain ⟨R, hR⟩ : ∃ R, R = ((M.ins (M.subOf (40 - d)) y (bs.drop (p + 1))).bind fun x => some (⟨x.2, x.1.1, x.1.2.1, x.1.2.2⟩ : M.Stt)) := ⟨_, rfl⟩
  rw [← hR]
  replace hR := Lib.hid hR
  go_enter Tryz.func258, Tryz.ntmps258
  go_wp2_with fail
  go_still_tail 14, (by kernel_rfl)
  change wpList _ _ _ _ _ w.drew
  have hbd := Lib.hid ((Below.refl w.heap.size w).drew)
  replace hc0 : w.drew.cell? ⟨g, o, none⟩ = some (.int .i64 0) := hc0
  replace hf : w.drew.frozen? ⟨g, o, none⟩ = false := hf
  replace c1 : w.drew.cell? ⟨P, 1, none⟩ = some (.int .i64 (p : Nat)) := c1
  replace f1 : w.drew.frozen? ⟨P, 1, none⟩ = false := f1
  have r0 := Lib.hid (show RS P (some ad) c bs d g o w.heap.size ⟨bs.drop p, M.hd0 0, .nil, .nil⟩ w p (.slice none 0 0) (.slice none 0 0) (.slice none 0 0) from ⟨h0.out, rfl, hi0.out, ⟨cur, hcur.out⟩, hPg, ⟨size, hglt, Nat.le_refl _⟩, zero_rng, OwnN.nil _ _, OwnL.nil _ _, OwnL.nil _ _⟩)
  clear c0 q
  generalize w.drew = w1 at hc0 hf c1 f1 hbd ⊢
  obtain ⟨st, pl, it, it1⟩ := r0.out.num (j := 0) (v := (y : Int)) (q := p + 1) hbd.out (by omega) (by decide)
  have r1 := r0.out.step (s' := ⟨bs.drop (p + 1), M.hd0 y, .nil, .nil⟩) st pl rfl (it _ (it1.put0 (y : Int))) (by constructor <;> (simp only [M.hd0]; omega)) rfl rfl rfl
  rw [Int.natCast_add] at r1 st
  simp only [Nat.add_zero] at r1 st
  replace r1 := Lib.hid r1
  replace st := Lib.hid st
  clear pl it it1 r0 hi0
  by_cases hk : M.kind (y : Int) = 0
  · have hres := Lib.hid (show R = none by rw [hR.out]; unfold M.ins; rw [hk]; rfl)
    replace hk := Lib.hid hk
    go_wp2_with fail
    refine (partsOf_no _ _ hk.out).mono ?_
    rintro e1 w2 ⟨rfl, b2⟩
    replace b2 := Lib.hid b2
    go_wp2_with fail
    go_ret
    have s2 : Step P g o _ w2 := Step.of_kb (.of_below b2.out) r1.out.lt (by omega)
    exact .inr ⟨hres.out, rfl, ⟨p + 1, r1.out.place.agree (fun k hk => b2.out.block k (Nat.lt_of_le_of_lt hk r1.out.place.size)) b2.out.size⟩, st.out.trans s2⟩
  · have hres := M.rd_ins (M.subOf (40 - d)) y (bs.drop (p + 1)) hk
    rw [← hR.out] at hres
    have hml := mask_lt (y : Int)
    replace hk := Lib.hid hk
    go_wp2_with fail
    refine (partsOf_yes _ _ hk.out).mono ?_
    rintro e1 w2 ⟨rfl, b2⟩
    have s2 : Step P g o _ w2 := Step.of_kb (.of_below b2) r1.out.lt (by omega)
    have r2 := Lib.hid (r1.out.step (s' := ⟨bs.drop (p + 1), M.hd0 y, .nil, .nil⟩) s2 (r1.out.place.agree (fun k hk => b2.block k (Nat.lt_of_le_of_lt hk r1.out.place.size)) b2.size) rfl (r1.out.item.agree (b2.block g r1.out.lt)) r1.out.rng rfl rfl rfl)
    have st2 := Lib.hid (st.out.trans s2)
    clear b2 s2 r1 st
    obtain ⟨m, hm⟩ : ∃ m, m = M.mask (y : Int) := ⟨_, rfl⟩
    have hm01 := mask_01 (y : Int)
    rw [← hm] at hres hml hm01 ⊢
    replace hm01 := Lib.hid hm01
    replace hm := Lib.hid hm
    replace hres := Lib.hid hres
    clear hR hc0 hf c1 f1
    go_wp2_with fail
    go_loopw [7, 39] (fun _ i w' => InsRel P ad c bs d g o w.heap.size (M.subOf (40 - d)) m R w i w') (fun _ i _ => 10 - (intOf i).toNat)
    case atStart => exact ⟨0, p + 1, _, _, _, _, by omega, rfl, r2.out, st2.out, hres.out, fun _ => ⟨rfl, fun _ => ⟨rfl, rfl, rfl, rfl, rfl⟩⟩⟩
    case round =>
      obtain ⟨k, q, s, vL, vB, vE, hk10, rfl, hrs, hstp, hR, hl⟩ := hrel
      replace hrs := Lib.hid hrs
      replace hstp := Lib.hid hstp
      replace hR := Lib.hid hR
      replace hl := Lib.hid hl
      have hks : k = 0 ∨ k = 1 ∨ k = 2 ∨ k = 3 ∨ k = 4 ∨ k = 5 ∨ k = 6 ∨ k = 7 ∨ k = 8 ∨ k = 9 ∨ k = 10 := by omega
      clear hk10 r2 st2 hres
      rcases hks with rfl | rfl | rfl | rfl | rfl | rfl | rfl | rfl | rfl | rfl | rfl
      · -- part 0: blockType
        have hst := Lib.hid (M.rd_at (M.subOf (40 - d)) m 0 s (by omega))
        cases hm : hasB m 0 with
        | false =>
          replace hm := Lib.hid hm
          go_wp2_with fail
          refine (has_any m 0 _ hml (by omega)).mono ?_
          rintro e1 w1 ⟨rfl, rfl⟩
          rw [hm.out]
          go_wp2_with fail
          exact ⟨⟨1, q, s, vL, vB, vE, by omega, rfl, hrs.out, hstp.out, by rw [← hR.out, hst.out, if_neg (by rw [hm.out]; decide)], fun _ => hl.out (by omega)⟩, by simp [intOf]⟩
        | true =>
          replace hm := Lib.hid hm
          have cf := hrs.out.place.c3
          go_wp2_with fail
          refine (has_any m 0 _ hml (by omega)).mono ?_
          rintro e1 w1 ⟨rfl, rfl⟩
          rw [hm.out]
          go_wp2_with fail
          refine (blockType_any P ad c bs d g o _ (M.subOf (40 - d)) s _ q vL vB vE hrs.out).mono ?_
          rintro e1 w1 (⟨s', q', vL', vB', vE', hres, rfl, hrs', hst'⟩ | ⟨hres, rfl, hpl', hst'⟩)
          · have hR' := Lib.hid (show M.rdAll (M.subOf (40 - d)) m (10 - 1) s' = R by rw [← hR.out, hst.out, if_pos hm.out, hres]; rfl)
            have hst2 := Lib.hid (hstp.out.trans hst')
            replace hrs' := Lib.hid hrs'
            have hl2 := Lib.hid (show s'.h.labels = [] ∧ (hasB m 0 = false → (vL' = .slice none 0 0 ∧ vB' = .slice none 0 0 ∧ vE' = .slice none 0 0 ∧ s'.b = .nil ∧ s'.e = .nil)) from ⟨by rw [part_1 hres rfl]; exact (hl.out (by omega)).1, fun h9 => by rw [hm.out] at h9; cases h9⟩)
            clear hst' hres cf
            go_wp2_with fail
            exact ⟨⟨1, q', s', vL', vB', vE', by omega, rfl, hrs'.out, hst2.out, hR'.out, fun _ => hl2.out⟩, by simp [intOf]⟩
          · have hR' := Lib.hid (show R = none by rw [← hR.out, hst.out, if_pos hm.out, hres]; rfl)
            have hst2 := Lib.hid (hstp.out.trans hst')
            replace hpl' := Lib.hid hpl'
            clear hst' hres cf
            go_wp2_with fail
            go_ret
            exact .inr ⟨hR'.out, rfl, hpl'.out, hst2.out⟩
      · -- part 1: labels
        have hst := Lib.hid (M.rd_at (M.subOf (40 - d)) m 1 s (by omega))
        cases hm : hasB m 1 with
        | false =>
          replace hm := Lib.hid hm
          go_wp2_with fail
          refine (has_any m 1 _ hml (by omega)).mono ?_
          rintro e1 w1 ⟨rfl, rfl⟩
          rw [hm.out]
          go_wp2_with fail
          exact ⟨⟨2, q, s, vL, vB, vE, by omega, rfl, hrs.out, hstp.out, by rw [← hR.out, hst.out, if_neg (by rw [hm.out]; decide)], fun _ => hl.out (by omega)⟩, by simp [intOf]⟩
        | true =>
          replace hm := Lib.hid hm
          have cf := hrs.out.place.c4
          go_wp2_with fail
          refine (has_any m 1 _ hml (by omega)).mono ?_
          rintro e1 w1 ⟨rfl, rfl⟩
          rw [hm.out]
          go_wp2_with fail
          refine (lab P ad c bs d g o _ (M.subOf (40 - d)) s _ q vL vB vE hrs.out (hl.out (by omega)).1 ((hl.out (by omega)).2 (hm01.out hm.out))).mono ?_
          rintro e1 w1 (⟨s', q', vL', vB', vE', hres, rfl, hrs', hst'⟩ | ⟨hres, rfl, hpl', hst'⟩)
          · have hR' := Lib.hid (show M.rdAll (M.subOf (40 - d)) m (10 - 2) s' = R by rw [← hR.out, hst.out, if_pos hm.out, hres]; rfl)
            have hst2 := Lib.hid (hstp.out.trans hst')
            replace hrs' := Lib.hid hrs'
            clear hst' hres cf
            go_wp2_with fail
            exact ⟨⟨2, q', s', vL', vB', vE', by omega, rfl, hrs'.out, hst2.out, hR'.out, fun h => by omega⟩, by simp [intOf]⟩
          · have hR' := Lib.hid (show R = none by rw [← hR.out, hst.out, if_pos hm.out, hres]; rfl)
            have hst2 := Lib.hid (hstp.out.trans hst')
            replace hpl' := Lib.hid hpl'
            clear hst' hres cf
            go_wp2_with fail
            go_ret
            exact .inr ⟨hR'.out, rfl, hpl'.out, hst2.out⟩
      · -- part 2: index
        have hst := Lib.hid (M.rd_at (M.subOf (40 - d)) m 2 s (by omega))
        cases hm : hasB m 2 with
        | false =>
          replace hm := Lib.hid hm
          go_wp2_with fail
          refine (has_any m 2 _ hml (by omega)).mono ?_
          rintro e1 w1 ⟨rfl, rfl⟩
          rw [hm.out]
          go_wp2_with fail
          exact ⟨⟨3, q, s, vL, vB, vE, by omega, rfl, hrs.out, hstp.out, by rw [← hR.out, hst.out, if_neg (by rw [hm.out]; decide)], fun _ => hl.out (by omega)⟩, by simp [intOf]⟩
        | true =>
          replace hm := Lib.hid hm
          have cf := hrs.out.place.c5
          go_wp2_with fail
          refine (has_any m 2 _ hml (by omega)).mono ?_
          rintro e1 w1 ⟨rfl, rfl⟩
          rw [hm.out]
          go_wp2_with fail
          refine (index_any P ad c bs d g o _ (M.subOf (40 - d)) s _ q vL vB vE hrs.out).mono ?_
          rintro e1 w1 (⟨s', q', vL', vB', vE', hres, rfl, hrs', hst'⟩ | ⟨hres, rfl, hpl', hst'⟩)
          · have hR' := Lib.hid (show M.rdAll (M.subOf (40 - d)) m (10 - 3) s' = R by rw [← hR.out, hst.out, if_pos hm.out, hres]; rfl)
            have hst2 := Lib.hid (hstp.out.trans hst')
            replace hrs' := Lib.hid hrs'
            clear hst' hres cf
            go_wp2_with fail
            exact ⟨⟨3, q', s', vL', vB', vE', by omega, rfl, hrs'.out, hst2.out, hR'.out, fun h => by omega⟩, by simp [intOf]⟩
          · have hR' := Lib.hid (show R = none by rw [← hR.out, hst.out, if_pos hm.out, hres]; rfl)
            have hst2 := Lib.hid (hstp.out.trans hst')
            replace hpl' := Lib.hid hpl'
            clear hst' hres cf
            go_wp2_with fail
            go_ret
            exact .inr ⟨hR'.out, rfl, hpl'.out, hst2.out⟩
      · -- part 3: align
        have hst := Lib.hid (M.rd_at (M.subOf (40 - d)) m 3 s (by omega))
        cases hm : hasB m 3 with
        | false =>
          replace hm := Lib.hid hm
          go_wp2_with fail
          refine (has_any m 3 _ hml (by omega)).mono ?_
          rintro e1 w1 ⟨rfl, rfl⟩
          rw [hm.out]
          go_wp2_with fail
          exact ⟨⟨4, q, s, vL, vB, vE, by omega, rfl, hrs.out, hstp.out, by rw [← hR.out, hst.out, if_neg (by rw [hm.out]; decide)], fun _ => hl.out (by omega)⟩, by simp [intOf]⟩
        | true =>
          replace hm := Lib.hid hm
          have cf := hrs.out.place.c6
          go_wp2_with fail
          refine (has_any m 3 _ hml (by omega)).mono ?_
          rintro e1 w1 ⟨rfl, rfl⟩
          rw [hm.out]
          go_wp2_with fail
          refine (align_any P ad c bs d g o _ (M.subOf (40 - d)) s _ q vL vB vE hrs.out).mono ?_
          rintro e1 w1 (⟨s', q', vL', vB', vE', hres, rfl, hrs', hst'⟩ | ⟨hres, rfl, hpl', hst'⟩)
          · have hR' := Lib.hid (show M.rdAll (M.subOf (40 - d)) m (10 - 4) s' = R by rw [← hR.out, hst.out, if_pos hm.out, hres]; rfl)
            have hst2 := Lib.hid (hstp.out.trans hst')
            replace hrs' := Lib.hid hrs'
            clear hst' hres cf
            go_wp2_with fail
            exact ⟨⟨4, q', s', vL', vB', vE', by omega, rfl, hrs'.out, hst2.out, hR'.out, fun h => by omega⟩, by simp [intOf]⟩
          · have hR' := Lib.hid (show R = none by rw [← hR.out, hst.out, if_pos hm.out, hres]; rfl)
            have hst2 := Lib.hid (hstp.out.trans hst')
            replace hpl' := Lib.hid hpl'
            clear hst' hres cf
            go_wp2_with fail
            go_ret
            exact .inr ⟨hR'.out, rfl, hpl'.out, hst2.out⟩
      · -- part 4: offset
        have hst := Lib.hid (M.rd_at (M.subOf (40 - d)) m 4 s (by omega))
        cases hm : hasB m 4 with
        | false =>
          replace hm := Lib.hid hm
          go_wp2_with fail
          refine (has_any m 4 _ hml (by omega)).mono ?_
          rintro e1 w1 ⟨rfl, rfl⟩
          rw [hm.out]
          go_wp2_with fail
          exact ⟨⟨5, q, s, vL, vB, vE, by omega, rfl, hrs.out, hstp.out, by rw [← hR.out, hst.out, if_neg (by rw [hm.out]; decide)], fun _ => hl.out (by omega)⟩, by simp [intOf]⟩
        | true =>
          replace hm := Lib.hid hm
          have cf := hrs.out.place.c7
          go_wp2_with fail
          refine (has_any m 4 _ hml (by omega)).mono ?_
          rintro e1 w1 ⟨rfl, rfl⟩
          rw [hm.out]
          go_wp2_with fail
          refine (offset_any P ad c bs d g o _ (M.subOf (40 - d)) s _ q vL vB vE hrs.out).mono ?_
          rintro e1 w1 (⟨s', q', vL', vB', vE', hres, rfl, hrs', hst'⟩ | ⟨hres, rfl, hpl', hst'⟩)
          · have hR' := Lib.hid (show M.rdAll (M.subOf (40 - d)) m (10 - 5) s' = R by rw [← hR.out, hst.out, if_pos hm.out, hres]; rfl)
            have hst2 := Lib.hid (hstp.out.trans hst')
            replace hrs' := Lib.hid hrs'
            clear hst' hres cf
            go_wp2_with fail
            exact ⟨⟨5, q', s', vL', vB', vE', by omega, rfl, hrs'.out, hst2.out, hR'.out, fun h => by omega⟩, by simp [intOf]⟩
          · have hR' := Lib.hid (show R = none by rw [← hR.out, hst.out, if_pos hm.out, hres]; rfl)
            have hst2 := Lib.hid (hstp.out.trans hst')
            replace hpl' := Lib.hid hpl'
            clear hst' hres cf
            go_wp2_with fail
            go_ret
            exact .inr ⟨hR'.out, rfl, hpl'.out, hst2.out⟩
      · -- part 5: nought
        have hst := Lib.hid (M.rd_at (M.subOf (40 - d)) m 5 s (by omega))
        cases hm : hasB m 5 with
        | false =>
          replace hm := Lib.hid hm
          go_wp2_with fail
          refine (has_any m 5 _ hml (by omega)).mono ?_
          rintro e1 w1 ⟨rfl, rfl⟩
          rw [hm.out]
          go_wp2_with fail
          exact ⟨⟨6, q, s, vL, vB, vE, by omega, rfl, hrs.out, hstp.out, by rw [← hR.out, hst.out, if_neg (by rw [hm.out]; decide)], fun _ => hl.out (by omega)⟩, by simp [intOf]⟩
        | true =>
          replace hm := Lib.hid hm
          have cf := hrs.out.place.c8
          go_wp2_with fail
          refine (has_any m 5 _ hml (by omega)).mono ?_
          rintro e1 w1 ⟨rfl, rfl⟩
          rw [hm.out]
          go_wp2_with fail
          refine (nought_any P ad c bs d g o _ (M.subOf (40 - d)) s _ q vL vB vE hrs.out).mono ?_
          rintro e1 w1 (⟨s', q', vL', vB', vE', hres, rfl, hrs', hst'⟩ | ⟨hres, rfl, hpl', hst'⟩)
          · have hR' := Lib.hid (show M.rdAll (M.subOf (40 - d)) m (10 - 6) s' = R by rw [← hR.out, hst.out, if_pos hm.out, hres]; rfl)
            have hst2 := Lib.hid (hstp.out.trans hst')
            replace hrs' := Lib.hid hrs'
            clear hst' hres cf
            go_wp2_with fail
            exact ⟨⟨6, q', s', vL', vB', vE', by omega, rfl, hrs'.out, hst2.out, hR'.out, fun h => by omega⟩, by simp [intOf]⟩
          · have hR' := Lib.hid (show R = none by rw [← hR.out, hst.out, if_pos hm.out, hres]; rfl)
            have hst2 := Lib.hid (hstp.out.trans hst')
            replace hpl' := Lib.hid hpl'
            clear hst' hres cf
            go_wp2_with fail
            go_ret
            exact .inr ⟨hR'.out, rfl, hpl'.out, hst2.out⟩
      · -- part 6: val
        have hst := Lib.hid (M.rd_at (M.subOf (40 - d)) m 6 s (by omega))
        cases hm : hasB m 6 with
        | false =>
          replace hm := Lib.hid hm
          go_wp2_with fail
          refine (has_any m 6 _ hml (by omega)).mono ?_
          rintro e1 w1 ⟨rfl, rfl⟩
          rw [hm.out]
          go_wp2_with fail
          exact ⟨⟨7, q, s, vL, vB, vE, by omega, rfl, hrs.out, hstp.out, by rw [← hR.out, hst.out, if_neg (by rw [hm.out]; decide)], fun _ => hl.out (by omega)⟩, by simp [intOf]⟩
        | true =>
          replace hm := Lib.hid hm
          have cf := hrs.out.place.c9
          go_wp2_with fail
          refine (has_any m 6 _ hml (by omega)).mono ?_
          rintro e1 w1 ⟨rfl, rfl⟩
          rw [hm.out]
          go_wp2_with fail
          refine (val_any P ad c bs d g o _ (M.subOf (40 - d)) s _ q vL vB vE hrs.out).mono ?_
          rintro e1 w1 (⟨s', q', vL', vB', vE', hres, rfl, hrs', hst'⟩ | ⟨hres, rfl, hpl', hst'⟩)
          · have hR' := Lib.hid (show M.rdAll (M.subOf (40 - d)) m (10 - 7) s' = R by rw [← hR.out, hst.out, if_pos hm.out, hres]; rfl)
            have hst2 := Lib.hid (hstp.out.trans hst')
            replace hrs' := Lib.hid hrs'
            clear hst' hres cf
            go_wp2_with fail
            exact ⟨⟨7, q', s', vL', vB', vE', by omega, rfl, hrs'.out, hst2.out, hR'.out, fun h => by omega⟩, by simp [intOf]⟩
          · have hR' := Lib.hid (show R = none by rw [← hR.out, hst.out, if_pos hm.out, hres]; rfl)
            have hst2 := Lib.hid (hstp.out.trans hst')
            replace hpl' := Lib.hid hpl'
            clear hst' hres cf
            go_wp2_with fail
            go_ret
            exact .inr ⟨hR'.out, rfl, hpl'.out, hst2.out⟩
      · -- part 7: body
        have hst := Lib.hid (M.rd_at (M.subOf (40 - d)) m 7 s (by omega))
        cases hm : hasB m 7 with
        | false =>
          replace hm := Lib.hid hm
          go_wp2_with fail
          refine (has_any m 7 _ hml (by omega)).mono ?_
          rintro e1 w1 ⟨rfl, rfl⟩
          rw [hm.out]
          go_wp2_with fail
          exact ⟨⟨8, q, s, vL, vB, vE, by omega, rfl, hrs.out, hstp.out, by rw [← hR.out, hst.out, if_neg (by rw [hm.out]; decide)], fun _ => hl.out (by omega)⟩, by simp [intOf]⟩
        | true =>
          replace hm := Lib.hid hm
          have cf := hrs.out.place.c10
          go_wp2_with fail
          refine (has_any m 7 _ hml (by omega)).mono ?_
          rintro e1 w1 ⟨rfl, rfl⟩
          rw [hm.out]
          go_wp2_with fail
          refine (body_any P ad c bs d g o _ s _ q vL vB vE ih.out hrs.out).mono ?_
          rintro e1 w1 (⟨s', q', vL', vB', vE', hres, rfl, hrs', hst'⟩ | ⟨hres, rfl, hpl', hst'⟩)
          · have hR' := Lib.hid (show M.rdAll (M.subOf (40 - d)) m (10 - 8) s' = R by rw [← hR.out, hst.out, if_pos hm.out, hres]; rfl)
            have hst2 := Lib.hid (hstp.out.trans hst')
            replace hrs' := Lib.hid hrs'
            clear hst' hres cf
            go_wp2_with fail
            exact ⟨⟨8, q', s', vL', vB', vE', by omega, rfl, hrs'.out, hst2.out, hR'.out, fun h => by omega⟩, by simp [intOf]⟩
          · have hR' := Lib.hid (show R = none by rw [← hR.out, hst.out, if_pos hm.out, hres]; rfl)
            have hst2 := Lib.hid (hstp.out.trans hst')
            replace hpl' := Lib.hid hpl'
            clear hst' hres cf
            go_wp2_with fail
            go_ret
            exact .inr ⟨hR'.out, rfl, hpl'.out, hst2.out⟩
      · -- part 8: otherwise
        have hst := Lib.hid (M.rd_at (M.subOf (40 - d)) m 8 s (by omega))
        cases hm : hasB m 8 with
        | false =>
          replace hm := Lib.hid hm
          go_wp2_with fail
          refine (has_any m 8 _ hml (by omega)).mono ?_
          rintro e1 w1 ⟨rfl, rfl⟩
          rw [hm.out]
          go_wp2_with fail
          exact ⟨⟨9, q, s, vL, vB, vE, by omega, rfl, hrs.out, hstp.out, by rw [← hR.out, hst.out, if_neg (by rw [hm.out]; decide)], fun _ => hl.out (by omega)⟩, by simp [intOf]⟩
        | true =>
          replace hm := Lib.hid hm
          have cf := hrs.out.place.c11
          go_wp2_with fail
          refine (has_any m 8 _ hml (by omega)).mono ?_
          rintro e1 w1 ⟨rfl, rfl⟩
          rw [hm.out]
          go_wp2_with fail
          refine (otherwise_any P ad c bs d g o _ s _ q vL vB vE ih.out hrs.out).mono ?_
          rintro e1 w1 (⟨s', q', vL', vB', vE', hres, rfl, hrs', hst'⟩ | ⟨hres, rfl, hpl', hst'⟩)
          · have hR' := Lib.hid (show M.rdAll (M.subOf (40 - d)) m (10 - 9) s' = R by rw [← hR.out, hst.out, if_pos hm.out, hres]; rfl)
            have hst2 := Lib.hid (hstp.out.trans hst')
            replace hrs' := Lib.hid hrs'
            clear hst' hres cf
            go_wp2_with fail
            exact ⟨⟨9, q', s', vL', vB', vE', by omega, rfl, hrs'.out, hst2.out, hR'.out, fun h => by omega⟩, by simp [intOf]⟩
          · have hR' := Lib.hid (show R = none by rw [← hR.out, hst.out, if_pos hm.out, hres]; rfl)
            have hst2 := Lib.hid (hstp.out.trans hst')
            replace hpl' := Lib.hid hpl'
            clear hst' hres cf
            go_wp2_with fail
            go_ret
            exact .inr ⟨hR'.out, rfl, hpl'.out, hst2.out⟩
      · -- part 9: end
        have hst := Lib.hid (M.rd_at (M.subOf (40 - d)) m 9 s (by omega))
        cases hm : hasB m 9 with
        | false =>
          replace hm := Lib.hid hm
          go_wp2_with fail
          refine (has_any m 9 _ hml (by omega)).mono ?_
          rintro e1 w1 ⟨rfl, rfl⟩
          rw [hm.out]
          go_wp2_with fail
          exact ⟨⟨10, q, s, vL, vB, vE, by omega, rfl, hrs.out, hstp.out, by rw [← hR.out, hst.out, if_neg (by rw [hm.out]; decide)], fun _ => hl.out (by omega)⟩, by simp [intOf]⟩
        | true =>
          replace hm := Lib.hid hm
          have cf := hrs.out.place.c12
          go_wp2_with fail
          refine (has_any m 9 _ hml (by omega)).mono ?_
          rintro e1 w1 ⟨rfl, rfl⟩
          rw [hm.out]
          go_wp2_with fail
          refine (end_any P ad c bs d g o _ (M.subOf (40 - d)) s _ q vL vB vE hrs.out).mono ?_
          rintro e1 w1 (⟨s', q', vL', vB', vE', hres, rfl, hrs', hst'⟩ | ⟨hres, rfl, hpl', hst'⟩)
          · have hR' := Lib.hid (show M.rdAll (M.subOf (40 - d)) m (10 - 10) s' = R by rw [← hR.out, hst.out, if_pos hm.out, hres]; rfl)
            have hst2 := Lib.hid (hstp.out.trans hst')
            replace hrs' := Lib.hid hrs'
            clear hst' hres cf
            go_wp2_with fail
            exact ⟨⟨10, q', s', vL', vB', vE', by omega, rfl, hrs'.out, hst2.out, hR'.out, fun h => by omega⟩, by simp [intOf]⟩
          · have hR' := Lib.hid (show R = none by rw [← hR.out, hst.out, if_pos hm.out, hres]; rfl)
            have hst2 := Lib.hid (hstp.out.trans hst')
            replace hpl' := Lib.hid hpl'
            clear hst' hres cf
            go_wp2_with fail
            go_ret
            exact .inr ⟨hR'.out, rfl, hpl'.out, hst2.out⟩
      · have hR' := Lib.hid (show R = some s by rw [← hR.out]; rfl)
        go_wp2_with fail
        go_ret
        exact .inl ⟨s, q, vL, vB, vE, hR'.out, rfl, hrs.out, hstp.out⟩
end Go.Proofs.YtmejgbbdehndaaaGreat
