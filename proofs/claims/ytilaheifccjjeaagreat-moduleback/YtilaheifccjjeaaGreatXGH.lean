/-
  The ground of the proofs of this seat, put together: WrList, Encode, XFit, MReadC, MReadD, XExpr. No condition beyond what each text names.
-/
import Derived.StillTailTactics
import Derived.Deep.DeepCutAuto
import Derived.BigRegion
import Derived.Test.YtilaheifccjjeaaGreatXGG
import Derived.Test.YtilaheifccjjeaaGreatXGF
import Derived.Test.YtilaheifccjjeaaGreatXGE
import Derived.Test.YtilaheifccjjeaaGreatXGA
import Derived.Test.YtilaheifccjjeaaGreatXGB
import Derived.Test.YtilaheifccjjeaaGreatXGC
import Derived.Test.YtilaheifccjjeaaGreatXGD
namespace Go.Proofs.YtilaheifccjjeaaGreat
open Go.RowKit
/-- What the loop over the parts keeps up. -/
def TRel (B P N d : Nat) (full : List Nat) (m : Nat) (h : M.Hd) (b e : M.L) (vL vB vE : Value) (g o : Nat) (w : World) (i : Value) (w' : World) : Prop :=
  ∃ (k : Nat) (out : List Nat), k ≤ 10 ∧ i = .int .i64 (k : Nat) ∧ TextAt B w' P out ∧ Below B w w' ∧ Wr1 B N d w' h b e vL vB vE g o ∧ full = out ++ M.wrAll m h b e (10 - k)
theorem TextAt.cells {B : Nat} {w : World} {P : Nat} {out : List Nat} (h : TextAt B w P out) : ∃ vb, ∀ j u, (textRow P vb)[j]? = some u → w.cell? ⟨P, j, none⟩ = some u := by
  obtain ⟨vb, h⟩ := h
  exact ⟨vb, fun j u hu => by rw [cell_of_row w P j _ _ (0, 0) h.row]; exact hu⟩
set_option maxRecDepth 100000 in
set_option maxHeartbeats 8000000 in
theorem tinstr_any (N : Nat) (ih : TListOk N) (B d : Nat) (w : World) (P : Nat) (out : List Nat) (h : M.Hd) (b e : M.L) (vL vB vE : Value) (g o : Nat) (ht : TextAt B w P out) (q : Wr1 B N d w h b e vL vB vE g o) (hl : out.length + (M.enc (.cons h b e .nil)).length ≤ 1000000) :
    Calls Tryz.prog 229 #[.pointer (some ⟨P, 0, none⟩), .pointer (some ⟨g, o, none⟩)] w (WPostT B P (out ++ M.enc (.cons h b e .nil)) w) := by
  obtain ⟨hfl, _, _, he4, hk0⟩ := okI_subs q.ok
  have hops := M.kind_op h.op hk0
  obtain ⟨x, hx⟩ := Int.eq_ofNat_of_zero_le hops.1
  have hx2 : x < 256 := by omega
  have hc := q.item.c0
  have hg := q.hg
  have hBP := ht.hB
  have henc : M.enc (.cons h b e .nil) = [x] ++ M.wrAll (M.mask h.op) h b e 10 := by
    rw [M.enc_cons, M.wr_all h b e hk0 he4, hx, Int.toNat_natCast]
    simp [M.enc]
  rw [henc] at hl ⊢
  have hml := mask_lt h.op
  obtain ⟨m, hm⟩ : ∃ m, m = M.mask h.op := ⟨_, rfl⟩
  have hpk := Lib.hid (fun w => partsOf_yes h.op w hk0)
  rw [← hm] at hl hml hpk ⊢
  obtain ⟨full, hfull⟩ : ∃ full, full = out ++ ([x] ++ M.wrAll m h b e 10) := ⟨_, rfl⟩
  have hlen : full.length ≤ 1000000 := by rw [hfull, List.length_append]; exact hl
  rw [← hfull]
  rw [hx] at hc hpk
  simp only [List.length_append, List.length_cons, List.length_nil] at hl
  replace hfl := Lib.hid hfl
  replace hfull := Lib.hid hfull
  replace henc := Lib.hid henc
  replace hx := Lib.hid hx
  replace hk0 := Lib.hid hk0
  replace he4 := Lib.hid he4
  replace hops := Lib.hid hops
  replace hm := Lib.hid hm
  replace q := Lib.hid q
  replace ht := Lib.hid ht
  replace ih := Lib.hid ih
  go_enter Tryz.func229, Tryz.ntmps229
  go_wp2_with fail
  refine (tfixed_any B _ P out x ht.out hx2 (by omega)).mono ?_
  rintro e1 w1 ⟨rfl, t1, b1⟩
  have hc1 : w1.cell? ⟨g, o, none⟩ = some (.int .i64 (x : Nat)) := by rw [b1.cell (by exact hg)]; exact hc
  have q1 := q.out.later b1
  replace t1 := Lib.hid t1
  replace b1 := Lib.hid b1
  replace q1 := Lib.hid q1
  go_wp2_with fail
  refine (hpk.out _).mono ?_
  rintro e2 w2 ⟨rfl, b2⟩
  have hsz : B ≤ w1.heap.size := by have := t1.out.hB; omega
  have rel0 := Lib.hid (show TRel B P N d full m h b e vL vB vE g o w (.int .i64 ((0 : Nat) : Int)) w2 from ⟨0, out ++ [x], by omega, rfl, t1.out.later b2, b1.out.trans (b2.mono hsz), q1.out.later (b2.mono hsz), by rw [hfull.out, List.append_assoc]⟩)
  clear b2 t1 b1 q1 hc1
  go_wp2_with fail
  go_loopw [22] (fun i w' => TRel B P N d full m h b e vL vB vE g o w i w') (fun i _ => 10 - (intOf i).toNat)
  case atStart => exact rel0.out
  case round =>
    obtain ⟨k, out1, hk10, rfl, hT, hb, q1, hrest⟩ := hrel
    clear rel0
    have hks : k = 0 ∨ k = 1 ∨ k = 2 ∨ k = 3 ∨ k = 4 ∨ k = 5 ∨ k = 6 ∨ k = 7 ∨ k = 8 ∨ k = 9 ∨ k = 10 := by omega
    obtain ⟨vb, hcells⟩ := hT.cells
    replace hT := Lib.hid hT
    replace hb := Lib.hid hb
    replace q1 := Lib.hid q1
    replace hrest := Lib.hid hrest
    replace hcells := Lib.hid hcells
    clear hk10
    rcases hks with rfl | rfl | rfl | rfl | rfl | rfl | rfl | rfl | rfl | rfl | rfl
    · -- part 0: blockType
      have hwa := Lib.hid (M.wr_at m 0 h b e (by omega))
      cases hmh : hasB m 0 with
      | false =>
        replace hmh := Lib.hid hmh
        go_wp2_with fail
        refine (has_any m 0 _ hml (by omega)).mono ?_
        rintro e1 w1 ⟨rfl, rfl⟩
        rw [hmh.out]
        go_wp2_with fail
        exact ⟨⟨1, out1, by omega, rfl, hT.out, hb.out, q1.out, by rw [hrest.out, hwa.out, if_neg (by rw [hmh.out]; decide)]; rfl⟩, by simp [intOf]⟩
      | true =>
        have hwr := Lib.hid (show full = out1 ++ (M.wr 0 h b e ++ M.wrAll m h b e (10 - 1)) by rw [hrest.out, hwa.out, if_pos hmh])
        rw [hm.out] at hmh
        replace hmh := Lib.hid hmh
        have hmt := Lib.hid (show hasB m 0 = true by rw [hm.out]; exact hmh.out)
        have cf : wr.cell? ⟨P, 1, none⟩ = some (.func (.func 219) #[.pointer (some ⟨P, 0, none⟩)] #[]) := hcells.out 1 _ rfl
        go_wp2_with fail
        refine (has_any m 0 _ hml (by omega)).mono ?_
        rintro e1 w1 ⟨rfl, rfl⟩
        rw [hmt.out]
        go_wp2_with fail
        refine (tblockType_any B _ P _ h b e vL vB vE g o hT.out q1.out.item (M.part_ok hfl.out 0 hmh.out (by omega)) (by rw [hwr.out] at hlen; simp only [List.length_append] at hlen ⊢; omega)).mono ?_
        rintro e1 w1 ⟨rfl, t2, b2⟩
        have b3 := Lib.hid (hb.out.trans b2)
        have q2 := Lib.hid (q1.out.later b2)
        replace t2 := Lib.hid t2
        clear b2 cf
        go_wp2_with fail
        exact ⟨⟨1, _, by omega, rfl, t2.out, b3.out, q2.out, by first | (rw [hwr.out, List.append_assoc]; done) | (rw [hwr.out, List.append_assoc]; rfl)⟩, by simp [intOf]⟩
    · -- part 1: labels
      have hwa := Lib.hid (M.wr_at m 1 h b e (by omega))
      cases hmh : hasB m 1 with
      | false =>
        replace hmh := Lib.hid hmh
        go_wp2_with fail
        refine (has_any m 1 _ hml (by omega)).mono ?_
        rintro e1 w1 ⟨rfl, rfl⟩
        rw [hmh.out]
        go_wp2_with fail
        exact ⟨⟨2, out1, by omega, rfl, hT.out, hb.out, q1.out, by rw [hrest.out, hwa.out, if_neg (by rw [hmh.out]; decide)]; rfl⟩, by simp [intOf]⟩
      | true =>
        have hwr := Lib.hid (show full = out1 ++ (M.wr 1 h b e ++ M.wrAll m h b e (10 - 2)) by rw [hrest.out, hwa.out, if_pos hmh])
        rw [hm.out] at hmh
        replace hmh := Lib.hid hmh
        have hmt := Lib.hid (show hasB m 1 = true by rw [hm.out]; exact hmh.out)
        have cf : wr.cell? ⟨P, 2, none⟩ = some (.func (.func 220) #[.pointer (some ⟨P, 0, none⟩)] #[]) := hcells.out 2 _ rfl
        go_wp2_with fail
        refine (has_any m 1 _ hml (by omega)).mono ?_
        rintro e1 w1 ⟨rfl, rfl⟩
        rw [hmt.out]
        go_wp2_with fail
        refine (tlabels_any B _ P _ h b e vL vB vE g o hT.out q1.out.item q1.out.hg q1.out.lab (M.part_ok hfl.out 1 hmh.out (by omega)) (by rw [hwr.out] at hlen; simp only [List.length_append] at hlen ⊢; omega)).mono ?_
        rintro e1 w1 ⟨rfl, t2, b2⟩
        have b3 := Lib.hid (hb.out.trans b2)
        have q2 := Lib.hid (q1.out.later b2)
        replace t2 := Lib.hid t2
        clear b2 cf
        go_wp2_with fail
        exact ⟨⟨2, _, by omega, rfl, t2.out, b3.out, q2.out, by first | (rw [hwr.out, List.append_assoc]; done) | (rw [hwr.out, List.append_assoc]; rfl)⟩, by simp [intOf]⟩
    · -- part 2: index
      have hwa := Lib.hid (M.wr_at m 2 h b e (by omega))
      cases hmh : hasB m 2 with
      | false =>
        replace hmh := Lib.hid hmh
        go_wp2_with fail
        refine (has_any m 2 _ hml (by omega)).mono ?_
        rintro e1 w1 ⟨rfl, rfl⟩
        rw [hmh.out]
        go_wp2_with fail
        exact ⟨⟨3, out1, by omega, rfl, hT.out, hb.out, q1.out, by rw [hrest.out, hwa.out, if_neg (by rw [hmh.out]; decide)]; rfl⟩, by simp [intOf]⟩
      | true =>
        have hwr := Lib.hid (show full = out1 ++ (M.wr 2 h b e ++ M.wrAll m h b e (10 - 3)) by rw [hrest.out, hwa.out, if_pos hmh])
        rw [hm.out] at hmh
        replace hmh := Lib.hid hmh
        have hmt := Lib.hid (show hasB m 2 = true by rw [hm.out]; exact hmh.out)
        have cf : wr.cell? ⟨P, 3, none⟩ = some (.func (.func 221) #[.pointer (some ⟨P, 0, none⟩)] #[]) := hcells.out 3 _ rfl
        go_wp2_with fail
        refine (has_any m 2 _ hml (by omega)).mono ?_
        rintro e1 w1 ⟨rfl, rfl⟩
        rw [hmt.out]
        go_wp2_with fail
        refine (tindex_any B _ P _ h b e vL vB vE g o hT.out q1.out.item (M.part_ok hfl.out 2 hmh.out (by omega)) (by rw [hwr.out] at hlen; simp only [List.length_append] at hlen ⊢; omega)).mono ?_
        rintro e1 w1 ⟨rfl, t2, b2⟩
        have b3 := Lib.hid (hb.out.trans b2)
        have q2 := Lib.hid (q1.out.later b2)
        replace t2 := Lib.hid t2
        clear b2 cf
        go_wp2_with fail
        exact ⟨⟨3, _, by omega, rfl, t2.out, b3.out, q2.out, by first | (rw [hwr.out, List.append_assoc]; done) | (rw [hwr.out, List.append_assoc]; rfl)⟩, by simp [intOf]⟩
    · -- part 3: align
      have hwa := Lib.hid (M.wr_at m 3 h b e (by omega))
      cases hmh : hasB m 3 with
      | false =>
        replace hmh := Lib.hid hmh
        go_wp2_with fail
        refine (has_any m 3 _ hml (by omega)).mono ?_
        rintro e1 w1 ⟨rfl, rfl⟩
        rw [hmh.out]
        go_wp2_with fail
        exact ⟨⟨4, out1, by omega, rfl, hT.out, hb.out, q1.out, by rw [hrest.out, hwa.out, if_neg (by rw [hmh.out]; decide)]; rfl⟩, by simp [intOf]⟩
      | true =>
        have hwr := Lib.hid (show full = out1 ++ (M.wr 3 h b e ++ M.wrAll m h b e (10 - 4)) by rw [hrest.out, hwa.out, if_pos hmh])
        rw [hm.out] at hmh
        replace hmh := Lib.hid hmh
        have hmt := Lib.hid (show hasB m 3 = true by rw [hm.out]; exact hmh.out)
        have cf : wr.cell? ⟨P, 4, none⟩ = some (.func (.func 222) #[.pointer (some ⟨P, 0, none⟩)] #[]) := hcells.out 4 _ rfl
        go_wp2_with fail
        refine (has_any m 3 _ hml (by omega)).mono ?_
        rintro e1 w1 ⟨rfl, rfl⟩
        rw [hmt.out]
        go_wp2_with fail
        refine (talign_any B _ P _ h b e vL vB vE g o hT.out q1.out.item (M.part_ok hfl.out 3 hmh.out (by omega)) (by rw [hwr.out] at hlen; simp only [List.length_append] at hlen ⊢; omega)).mono ?_
        rintro e1 w1 ⟨rfl, t2, b2⟩
        have b3 := Lib.hid (hb.out.trans b2)
        have q2 := Lib.hid (q1.out.later b2)
        replace t2 := Lib.hid t2
        clear b2 cf
        go_wp2_with fail
        exact ⟨⟨4, _, by omega, rfl, t2.out, b3.out, q2.out, by first | (rw [hwr.out, List.append_assoc]; done) | (rw [hwr.out, List.append_assoc]; rfl)⟩, by simp [intOf]⟩
    · -- part 4: offset
      have hwa := Lib.hid (M.wr_at m 4 h b e (by omega))
      cases hmh : hasB m 4 with
      | false =>
        replace hmh := Lib.hid hmh
        go_wp2_with fail
        refine (has_any m 4 _ hml (by omega)).mono ?_
        rintro e1 w1 ⟨rfl, rfl⟩
        rw [hmh.out]
        go_wp2_with fail
        exact ⟨⟨5, out1, by omega, rfl, hT.out, hb.out, q1.out, by rw [hrest.out, hwa.out, if_neg (by rw [hmh.out]; decide)]; rfl⟩, by simp [intOf]⟩
      | true =>
        have hwr := Lib.hid (show full = out1 ++ (M.wr 4 h b e ++ M.wrAll m h b e (10 - 5)) by rw [hrest.out, hwa.out, if_pos hmh])
        rw [hm.out] at hmh
        replace hmh := Lib.hid hmh
        have hmt := Lib.hid (show hasB m 4 = true by rw [hm.out]; exact hmh.out)
        have cf : wr.cell? ⟨P, 5, none⟩ = some (.func (.func 223) #[.pointer (some ⟨P, 0, none⟩)] #[]) := hcells.out 5 _ rfl
        go_wp2_with fail
        refine (has_any m 4 _ hml (by omega)).mono ?_
        rintro e1 w1 ⟨rfl, rfl⟩
        rw [hmt.out]
        go_wp2_with fail
        refine (toffset_any B _ P _ h b e vL vB vE g o hT.out q1.out.item (M.part_ok hfl.out 4 hmh.out (by omega)) (by rw [hwr.out] at hlen; simp only [List.length_append] at hlen ⊢; omega)).mono ?_
        rintro e1 w1 ⟨rfl, t2, b2⟩
        have b3 := Lib.hid (hb.out.trans b2)
        have q2 := Lib.hid (q1.out.later b2)
        replace t2 := Lib.hid t2
        clear b2 cf
        go_wp2_with fail
        exact ⟨⟨5, _, by omega, rfl, t2.out, b3.out, q2.out, by first | (rw [hwr.out, List.append_assoc]; done) | (rw [hwr.out, List.append_assoc]; rfl)⟩, by simp [intOf]⟩
    · -- part 5: nought
      have hwa := Lib.hid (M.wr_at m 5 h b e (by omega))
      cases hmh : hasB m 5 with
      | false =>
        replace hmh := Lib.hid hmh
        go_wp2_with fail
        refine (has_any m 5 _ hml (by omega)).mono ?_
        rintro e1 w1 ⟨rfl, rfl⟩
        rw [hmh.out]
        go_wp2_with fail
        exact ⟨⟨6, out1, by omega, rfl, hT.out, hb.out, q1.out, by rw [hrest.out, hwa.out, if_neg (by rw [hmh.out]; decide)]; rfl⟩, by simp [intOf]⟩
      | true =>
        have hwr := Lib.hid (show full = out1 ++ (M.wr 5 h b e ++ M.wrAll m h b e (10 - 6)) by rw [hrest.out, hwa.out, if_pos hmh])
        rw [hm.out] at hmh
        replace hmh := Lib.hid hmh
        have hmt := Lib.hid (show hasB m 5 = true by rw [hm.out]; exact hmh.out)
        have cf : wr.cell? ⟨P, 6, none⟩ = some (.func (.func 224) #[.pointer (some ⟨P, 0, none⟩)] #[]) := hcells.out 6 _ rfl
        go_wp2_with fail
        refine (has_any m 5 _ hml (by omega)).mono ?_
        rintro e1 w1 ⟨rfl, rfl⟩
        rw [hmt.out]
        go_wp2_with fail
        refine (tnought_any B _ P _ h b e _ hT.out (by rw [hwr.out] at hlen; simp only [List.length_append] at hlen ⊢; omega)).mono ?_
        rintro e1 w1 ⟨rfl, t2, b2⟩
        have b3 := Lib.hid (hb.out.trans b2)
        have q2 := Lib.hid (q1.out.later b2)
        replace t2 := Lib.hid t2
        clear b2 cf
        go_wp2_with fail
        exact ⟨⟨6, _, by omega, rfl, t2.out, b3.out, q2.out, by first | (rw [hwr.out, List.append_assoc]; done) | (rw [hwr.out, List.append_assoc]; rfl)⟩, by simp [intOf]⟩
    · -- part 6: val
      have hwa := Lib.hid (M.wr_at m 6 h b e (by omega))
      cases hmh : hasB m 6 with
      | false =>
        replace hmh := Lib.hid hmh
        go_wp2_with fail
        refine (has_any m 6 _ hml (by omega)).mono ?_
        rintro e1 w1 ⟨rfl, rfl⟩
        rw [hmh.out]
        go_wp2_with fail
        exact ⟨⟨7, out1, by omega, rfl, hT.out, hb.out, q1.out, by rw [hrest.out, hwa.out, if_neg (by rw [hmh.out]; decide)]; rfl⟩, by simp [intOf]⟩
      | true =>
        have hwr := Lib.hid (show full = out1 ++ (M.wr 6 h b e ++ M.wrAll m h b e (10 - 7)) by rw [hrest.out, hwa.out, if_pos hmh])
        rw [hm.out] at hmh
        replace hmh := Lib.hid hmh
        have hmt := Lib.hid (show hasB m 6 = true by rw [hm.out]; exact hmh.out)
        have cf : wr.cell? ⟨P, 7, none⟩ = some (.func (.func 225) #[.pointer (some ⟨P, 0, none⟩)] #[]) := hcells.out 7 _ rfl
        go_wp2_with fail
        refine (has_any m 6 _ hml (by omega)).mono ?_
        rintro e1 w1 ⟨rfl, rfl⟩
        rw [hmt.out]
        go_wp2_with fail
        refine (tval_any B _ P _ h vL vB vE g o hT.out q1.out.item q1.out.rng (by
          have h9 : M.wr 6 h b e = M.putS 10 h.val := rfl
          rw [hwr.out, h9] at hlen
          simp only [List.length_append] at hlen
          omega)).mono ?_
        rintro e1 w1 ⟨rfl, t2, b2⟩
        have b3 := Lib.hid (hb.out.trans b2)
        have q2 := Lib.hid (q1.out.later b2)
        replace t2 := Lib.hid t2
        clear b2 cf
        go_wp2_with fail
        exact ⟨⟨7, _, by omega, rfl, t2.out, b3.out, q2.out, by first | (rw [hwr.out, List.append_assoc]; done) | (rw [hwr.out, List.append_assoc]; rfl)⟩, by simp [intOf]⟩
    · -- part 7: body
      have hwa := Lib.hid (M.wr_at m 7 h b e (by omega))
      cases hmh : hasB m 7 with
      | false =>
        replace hmh := Lib.hid hmh
        go_wp2_with fail
        refine (has_any m 7 _ hml (by omega)).mono ?_
        rintro e1 w1 ⟨rfl, rfl⟩
        rw [hmh.out]
        go_wp2_with fail
        exact ⟨⟨8, out1, by omega, rfl, hT.out, hb.out, q1.out, by rw [hrest.out, hwa.out, if_neg (by rw [hmh.out]; decide)]; rfl⟩, by simp [intOf]⟩
      | true =>
        have hwr := Lib.hid (show full = out1 ++ (M.wr 7 h b e ++ M.wrAll m h b e (10 - 8)) by rw [hrest.out, hwa.out, if_pos hmh])
        rw [hm.out] at hmh
        replace hmh := Lib.hid hmh
        have hmt := Lib.hid (show hasB m 7 = true by rw [hm.out]; exact hmh.out)
        have cf : wr.cell? ⟨P, 8, none⟩ = some (.func (.func 226) #[.pointer (some ⟨P, 0, none⟩)] #[]) := hcells.out 8 _ rfl
        go_wp2_with fail
        refine (has_any m 7 _ hml (by omega)).mono ?_
        rintro e1 w1 ⟨rfl, rfl⟩
        rw [hmt.out]
        go_wp2_with fail
        refine (tbody_any N ih.out B d _ P _ h b e vL vB vE g o hT.out q1.out (by rw [hwr.out] at hlen; simp only [List.length_append] at hlen ⊢; omega)).mono ?_
        rintro e1 w1 ⟨rfl, t2, b2⟩
        have b3 := Lib.hid (hb.out.trans b2)
        have q2 := Lib.hid (q1.out.later b2)
        replace t2 := Lib.hid t2
        clear b2 cf
        go_wp2_with fail
        exact ⟨⟨8, _, by omega, rfl, t2.out, b3.out, q2.out, by first | (rw [hwr.out, List.append_assoc]; done) | (rw [hwr.out, List.append_assoc]; rfl)⟩, by simp [intOf]⟩
    · -- part 8: otherwise
      have hwa := Lib.hid (M.wr_at m 8 h b e (by omega))
      cases hmh : hasB m 8 with
      | false =>
        replace hmh := Lib.hid hmh
        go_wp2_with fail
        refine (has_any m 8 _ hml (by omega)).mono ?_
        rintro e1 w1 ⟨rfl, rfl⟩
        rw [hmh.out]
        go_wp2_with fail
        exact ⟨⟨9, out1, by omega, rfl, hT.out, hb.out, q1.out, by rw [hrest.out, hwa.out, if_neg (by rw [hmh.out]; decide)]; rfl⟩, by simp [intOf]⟩
      | true =>
        have hwr := Lib.hid (show full = out1 ++ (M.wr 8 h b e ++ M.wrAll m h b e (10 - 9)) by rw [hrest.out, hwa.out, if_pos hmh])
        rw [hm.out] at hmh
        replace hmh := Lib.hid hmh
        have hmt := Lib.hid (show hasB m 8 = true by rw [hm.out]; exact hmh.out)
        have cf : wr.cell? ⟨P, 9, none⟩ = some (.func (.func 227) #[.pointer (some ⟨P, 0, none⟩)] #[]) := hcells.out 9 _ rfl
        go_wp2_with fail
        refine (has_any m 8 _ hml (by omega)).mono ?_
        rintro e1 w1 ⟨rfl, rfl⟩
        rw [hmt.out]
        go_wp2_with fail
        refine (totherwise_any N ih.out B d _ P _ h b e vL vB vE g o hT.out q1.out (by rw [hwr.out] at hlen; simp only [List.length_append] at hlen ⊢; omega)).mono ?_
        rintro e1 w1 ⟨rfl, t2, b2⟩
        have b3 := Lib.hid (hb.out.trans b2)
        have q2 := Lib.hid (q1.out.later b2)
        replace t2 := Lib.hid t2
        clear b2 cf
        go_wp2_with fail
        exact ⟨⟨9, _, by omega, rfl, t2.out, b3.out, q2.out, by first | (rw [hwr.out, List.append_assoc]; done) | (rw [hwr.out, List.append_assoc]; rfl)⟩, by simp [intOf]⟩
    · -- part 9: end
      have hwa := Lib.hid (M.wr_at m 9 h b e (by omega))
      cases hmh : hasB m 9 with
      | false =>
        replace hmh := Lib.hid hmh
        go_wp2_with fail
        refine (has_any m 9 _ hml (by omega)).mono ?_
        rintro e1 w1 ⟨rfl, rfl⟩
        rw [hmh.out]
        go_wp2_with fail
        exact ⟨⟨10, out1, by omega, rfl, hT.out, hb.out, q1.out, by rw [hrest.out, hwa.out, if_neg (by rw [hmh.out]; decide)]; rfl⟩, by simp [intOf]⟩
      | true =>
        have hwr := Lib.hid (show full = out1 ++ (M.wr 9 h b e ++ M.wrAll m h b e (10 - 10)) by rw [hrest.out, hwa.out, if_pos hmh])
        rw [hm.out] at hmh
        replace hmh := Lib.hid hmh
        have hmt := Lib.hid (show hasB m 9 = true by rw [hm.out]; exact hmh.out)
        have cf : wr.cell? ⟨P, 10, none⟩ = some (.func (.func 228) #[.pointer (some ⟨P, 0, none⟩)] #[]) := hcells.out 10 _ rfl
        go_wp2_with fail
        refine (has_any m 9 _ hml (by omega)).mono ?_
        rintro e1 w1 ⟨rfl, rfl⟩
        rw [hmt.out]
        go_wp2_with fail
        refine (tend_any B _ P _ h b e _ hT.out (by rw [hwr.out] at hlen; simp only [List.length_append] at hlen ⊢; omega)).mono ?_
        rintro e1 w1 ⟨rfl, t2, b2⟩
        have b3 := Lib.hid (hb.out.trans b2)
        have q2 := Lib.hid (q1.out.later b2)
        replace t2 := Lib.hid t2
        clear b2 cf
        go_wp2_with fail
        exact ⟨⟨10, _, by omega, rfl, t2.out, b3.out, q2.out, by first | (rw [hwr.out, List.append_assoc]; done) | (rw [hwr.out, List.append_assoc]; rfl)⟩, by simp [intOf]⟩
    · have hfin := Lib.hid (show full = out1 by rw [hrest.out]; simp [M.wrAll])
      go_wp2_with fail
      go_end0
      exact ⟨rfl, by rw [hfin.out]; exact hT.out, hb.out⟩
set_option maxRecDepth 100000 in
set_option maxHeartbeats 4000000 in
theorem tlist_of (N : Nat) (ih : TListOk N) : TListOk (N + 1) := by
  intro B w P out l v d hN ht hls hok hl
  obtain ⟨A, c, rfl, hf1, hf2, hf3⟩ := LS.form hls
  unfold maxLen at hf3
  have hBP := ht.hB
  replace ht := Lib.hid ht
  replace hls := Lib.hid hls
  replace hok := Lib.hid hok
  replace ih := Lib.hid ih
  obtain ⟨n, hn⟩ : ∃ n, n = l.len := ⟨_, rfl⟩
  rw [← hn] at hf1 hf2 hls ⊢
  replace hn := Lib.hid hn
  go_enter Tryz.func206, Tryz.ntmps206
  go_wp2_with fail
  go_loopw [7] (fun i w' => ∃ k : Nat, k ≤ n ∧ i = .int .i64 k ∧ TextAt B w' P (out ++ M.enc (M.L.take k l)) ∧ Below B w w') (fun i _ => n - (intOf i).toNat)
  case atStart => exact ⟨0, by omega, rfl, by rw [M.take_zero]; simpa [M.enc] using ht.out, Below.refl _ _⟩
  case round =>
    obtain ⟨k, hk, rfl, hT, hb⟩ := hrel
    by_cases hlt : k < n
    · obtain ⟨h, b, e, hnth⟩ := M.nth_of (l := l) (k := k) (by rw [← hn.out]; exact hlt)
      obtain ⟨g, o, vL, vB, vE, rfl, hg, hi, hR, hL, hB, hE⟩ := hls.out.nth' hnth
      have hsz := (M.nth_some hnth).2
      have hst := Lib.hid (show M.enc (M.L.take (k + 1) l) = M.enc (M.L.take k l) ++ M.enc (.cons h b e .nil) by rw [M.take_nth hnth, M.enc_app])
      have hle := M.enc_take l (k + 1)
      rw [hst.out, List.length_append] at hle
      have q0 : Wr1 B N d w h b e vL vB vE g (o + k * 9) := ⟨hi, hg, hR, hL, hB, hE, ok_of_nth hok.out k h b e hnth, by omega, by omega⟩
      have q1 := Lib.hid (q0.later hb)
      clear q0 hi hR hL hB hE hnth
      have t0 : (0 : Int) ≤ (k : Int) := by omega
      have t1 : (k : Int) < (n : Int) := by omega
      replace hT := Lib.hid hT
      replace hb := Lib.hid hb
      go_wp2_with fail
      refine (tinstr_any N ih.out B d _ P _ h b e vL vB vE g (o + k * 9) hT.out q1.out (by simp only [List.length_append]; omega)).mono ?_
      rintro e2 w2 ⟨rfl, t2, b2⟩
      have b3 := Lib.hid (hb.out.trans b2)
      replace t2 := Lib.hid t2
      clear b2
      go_wp2_with fail
      exact ⟨⟨k + 1, by omega, by go_num, by rw [hst.out, ← List.append_assoc]; exact t2.out, b3.out⟩, by simp [intOf]; omega⟩
    · rw [M.take_all l (by rw [← hn.out]; omega)] at hT
      have tlt : decide ((k : Int) < (n : Int)) = false := by simp; omega
      replace hT := Lib.hid hT
      replace hb := Lib.hid hb
      go_wp2_with fail
      go_end0
      exact ⟨rfl, hT.out, hb.out⟩
theorem tlist_any : ∀ N, TListOk N := by
  intro N
  induction N with
  | zero => intro B w P out l v d h; omega
  | succ N ih => exact tlist_of N ih
end Go.Proofs.YtilaheifccjjeaaGreat
namespace Go.Proofs.YtilaheifccjjeaaGreat
open Go.RowKit
set_option maxRecDepth 100000 in
set_option maxHeartbeats 4000000 in
theorem newText_any (w : World) : Calls Tryz.prog 205 #[] w fun e w' => e = .returned (.pointer (some ⟨w.heap.size, 0, none⟩)) ∧ TextAt w.heap.size w' w.heap.size [] ∧ Below w.heap.size w w' := by
  go_enter Tryz.func205, Tryz.ntmps205
  go_wp2_with fail
  go_ret
  exact ⟨rfl, ⟨.slice none 0 0, ⟨Nat.le_refl _, heap_alloc_new w _, World.ownsRow_nil _ _ _ _, by simp, fun b hb => by cases hb⟩⟩, (Below.refl _ _).alloc (Nat.le_refl _) _⟩
/-- The bytes that Encode tells. -/
def EncPost (l : M.L) (w : World) (e : Ending) (w' : World) : Prop :=
  ∃ u, e = .returned (.tuple #[u, .int .i64 0]) ∧ w'.ownsRow w.heap.size 5 1 u (M.enc l ++ [11]).length (vals (M.enc l ++ [11])) ∧ BS w' w'.heap.size u (M.enc l ++ [11]) ∧ Below w.heap.size w w'
set_option maxRecDepth 100000 in
set_option maxHeartbeats 4000000 in
theorem Encode_yes (l : M.L) (v : Value) (w : World) (hl : LB w v l) (hok : M.ok 40 l) (hlen : (M.enc l).length + 1 ≤ 1000000) : Calls Tryz.prog 191 #[v] w (EncPost l w) := by
  replace hl := Lib.hid hl
  replace hok := Lib.hid hok
  obtain ⟨A, c, rfl, _⟩ := LS.form hl.out
  go_enter Tryz.func191, Tryz.ntmps191
  go_wp2_with fail
  refine (areInstrs_yes l _ _ hl.out hok.out).mono ?_
  rintro e1 w1 ⟨rfl, b1⟩
  have l1 := Lib.hid (LS.later hl.out b1)
  replace b1 := Lib.hid b1
  go_wp2_with fail
  refine (newText_any _).mono ?_
  rintro e2 w2 ⟨rfl, t2, b2⟩
  have l2 := Lib.hid (show LS w2 (· < w1.heap.size) _ l from LS.agree l1.out (below_agree b2) (fun _ hk => hk))
  have d2 := Lib.hid (b1.out.trans (b2.mono b1.out.size))
  have e12 : w.heap.size ≤ w1.heap.size := b1.out.size
  replace t2 := Lib.hid t2
  clear b2
  go_wp2_with fail
  refine (tlist_any (l.sz + 1) w1.heap.size _ _ [] l _ 40 (Nat.lt_succ_self _) t2.out l2.out hok.out (by simp; omega)).mono ?_
  rintro e3 w3 ⟨rfl, t3, b3⟩
  have d3 := Lib.hid (d2.out.trans (b3.mono e12))
  rw [List.nil_append] at t3
  replace t3 := Lib.hid t3
  clear b3
  go_wp2_with fail
  refine (tfixed_any w1.heap.size _ _ _ 11 t3.out (by omega) hlen).mono ?_
  rintro e4 w4 ⟨rfl, ⟨vb, t4⟩, b4⟩
  have d4 := Lib.hid (d3.out.trans (b4.mono e12))
  have c0 := t4.cell.1
  have own4 := Lib.hid (show w4.ownsRow w.heap.size 5 1 vb (M.enc l ++ [11]).length (vals (M.enc l ++ [11])) from ownsRow_base t4.own (fun g hg => by have := (t4.ge g hg).1; omega))
  have bs4 := Lib.hid (own_BS t4.own t4.rng)
  replace t4 := Lib.hid t4
  clear b4
  go_wp2_with fail
  go_ret2
  exact ⟨vb, rfl, own4.out, bs4.out, d4.out⟩
set_option maxRecDepth 100000 in
theorem Encode_no (l : M.L) (v : Value) (w : World) (hl : LB w v l) (hok : ¬ M.ok 40 l) : Calls Tryz.prog 191 #[v] w fun e w' => e = .returned (.tuple #[.slice none 0 0, .int .i64 100]) ∧ Below w.heap.size w w' := by
  replace hl := Lib.hid hl
  replace hok := Lib.hid hok
  go_enter Tryz.func191, Tryz.ntmps191
  go_wp2_with fail
  refine (areInstrs_no l _ _ hl.out hok.out).mono ?_
  rintro e1 w1 ⟨rfl, b1⟩
  replace b1 := Lib.hid b1
  go_wp2_with fail
  go_ret2
  exact ⟨rfl, b1.out⟩
namespace M
theorem U_le (x : Int) : (U x).length ≤ 11 := (putU_length 10 x.toNat).2
theorem S_le (x : Int) : (S x).length ≤ 11 := (putS_length 10 x).2
theorem Us_len (xs : List Int) : (Us xs).length ≤ 11 * xs.length := by
  induction xs with
  | nil => simp [Us]
  | cons x t ih => simp only [Us, List.length_append, List.length_cons]; have := U_le x; omega
/-- The bytes are no more than so many times the weight. -/
theorem enc_len (l : L) : (enc l).length ≤ 40 * l.sz := by
  induction l with
  | nil => simp [enc, L.sz]
  | cons h b e r ihb ihe ihr =>
    rw [enc_cons]
    simp only [List.length_cons, List.length_append, L.sz]
    have h1 : (tailOf h b e).length ≤ 11 * h.labels.length + (enc b).length + (enc e).length + 35 := by
      unfold tailOf tailK
      have u1 := U_le h.ix
      have u2 := U_le h.al
      have u3 := U_le h.ofs
      have u4 := U_le (h.labels.length : Int)
      have u5 := Us_len h.labels
      have u6 := S_le h.val
      have u7 := els_len e
      split <;> (try simp only [List.length_cons, List.length_append, List.length_nil]) <;> omega
    omega
end M
end Go.Proofs.YtilaheifccjjeaaGreat
namespace Go.Proofs.YtilaheifccjjeaaGreat
open Go.RowKit
namespace M
theorem sz_take (l : L) (k : Nat) : (L.take k l).sz ≤ l.sz := by
  have := take_drop l k
  have h : ((L.take k l).app (L.drop k l)).sz = l.sz := by rw [this]
  rw [sz_app] at h
  omega
theorem sz_next {l : L} {k : Nat} {h : Hd} {b e : L} (hn : l.nth k = some (h, b, e)) : (L.take (k + 1) l).sz = (L.take k l).sz + (1 + h.labels.length) + b.sz + e.sz := by
  rw [take_nth hn, sz_app]
  simp only [L.sz]
  omega
end M
/-- What counting answers: the room that is left, or none. -/
def FitPost (R : Nat) (r z : Int) (w : World) (e : Ending) (w' : World) : Prop :=
  (z ≤ r ∧ e = .returned (.bool true) ∧ w'.heap[R]? = some (.cells #[.int .i64 (r - z)] 3 (0, 0)) ∧ Kb (· = R) w w') ∨ (r < z ∧ e = .returned (.bool false) ∧ Kb (· = R) w w')
def FitOk (N : Nat) : Prop := ∀ (B : Nat) (w : World) (R : Nat) (r : Int) (l : M.L) (v : Value), l.sz < N → B ≤ R → w.heap[R]? = some (.cells #[.int .i64 r] 3 (0, 0)) → 0 ≤ r ∧ r ≤ 65536 → LS w (· < B) v l →
  Calls Tryz.prog 190 #[v, .pointer (some ⟨R, 0, none⟩)] w (FitPost R r l.sz w)
theorem kb_LS {B R : Nat} {w w' : World} {v : Value} {l : M.L} (h : LS w (· < B) v l) (hb : Kb (· = R) w w') (hB : B ≤ R) (hl : R < w.heap.size) : LS w' (· < B) v l :=
  LS.agree h (below_agree (hb.below hB (by omega))) fun _ hk => hk
set_option maxRecDepth 100000 in
set_option maxHeartbeats 4000000 in
theorem fit_of (N : Nat) (ih : FitOk N) : FitOk (N + 1) := by
  intro B w R r l v hN hBR hR hr hls
  obtain ⟨A, c, rfl, hf1, hf2, hf3⟩ := LS.form hls
  unfold maxLen at hf3
  have hRl : R < w.heap.size := (Array.getElem?_eq_some_iff.1 hR).1
  have hsub := Lib.hid (fun k => M.sz_take l k)
  replace hls := Lib.hid hls
  replace ih := Lib.hid ih
  obtain ⟨n, hn⟩ : ∃ n, n = l.len := ⟨_, rfl⟩
  obtain ⟨z, hz⟩ : ∃ z, z = l.sz := ⟨_, rfl⟩
  rw [← hn] at hf1 hf2 hls ⊢
  rw [← hz] at hsub hN ⊢
  replace hn := Lib.hid hn
  replace hz := Lib.hid hz
  replace hR := Lib.hid hR
  go_enter Tryz.func190, Tryz.ntmps190
  go_wp2_with fail
  go_loopw [8] (fun i w' => ∃ (k y : Nat), k ≤ n ∧ i = .int .i64 k ∧ y = (M.L.take k l).sz ∧ (y : Int) ≤ r ∧ w'.heap[R]? = some (.cells #[.int .i64 (r - y)] 3 (0, 0)) ∧ Kb (· = R) w w') (fun i _ => n - (intOf i).toNat)
  case atStart => exact ⟨0, 0, by omega, rfl, by rw [M.take_zero]; rfl, hr.1, by simpa using hR.out, Kb.refl _ _⟩
  case round =>
    obtain ⟨k, y, hk, rfl, hy, hyr, hRk, hb⟩ := hrel
    have hyz := hsub.out k
    rw [← hy] at hyz
    have bel : Below B w wr := hb.below hBR (by omega)
    by_cases hlt : k < n
    · obtain ⟨h, b, e, hnth⟩ := M.nth_of (l := l) (k := k) (by rw [← hn.out]; exact hlt)
      obtain ⟨g, o, vL, vB, vE, rfl, hg, hi, hRr, hL, hB, hE⟩ := hls.out.nth' hnth
      have hszk := (M.nth_some hnth).2
      have hnx := M.sz_next hnth
      have hnz := hsub.out (k + 1)
      rw [← hy] at hnx
      obtain ⟨A1, k1, rfl, ⟨f1, f2, f3⟩⟩ := hL.form
      unfold maxLen at f3
      obtain ⟨m, hm⟩ : ∃ m, m = h.labels.length := ⟨_, rfl⟩
      rw [← hm] at hnx f1 f2
      have i6 : wr.cell? ⟨g, o + k * 9 + 6, none⟩ = some (.slice A1 m k1) := by rw [hm]; exact (bel.cell (p := ⟨g, _, none⟩) hg).trans hi.c6
      have i7 : wr.cell? ⟨g, o + k * 9 + 7, none⟩ = some vB := (bel.cell (p := ⟨g, _, none⟩) hg).trans hi.c7
      have i8 : wr.cell? ⟨g, o + k * 9 + 8, none⟩ = some vE := (bel.cell (p := ⟨g, _, none⟩) hg).trans hi.c8
      have hBk := Lib.hid (LS.agree hB (below_agree bel) (fun _ hk => hk))
      have hEk := Lib.hid (LS.agree hE (below_agree bel) (fun _ hk => hk))
      have c0 : wr.cell? ⟨R, 0, none⟩ = some (.int .i64 (r - y)) := by rw [cell_of_row wr R 0 _ _ (0, 0) hRk]; rfl
      have f0 : wr.frozen? ⟨R, 0, none⟩ = false := frozen_of_row wr R 0 _ _ hRk
      have hRl2 : R < wr.heap.size := Nat.lt_of_lt_of_le hRl hb.size
      have hgR : ¬ g = R := by omega
      have t0 : (0 : Int) ≤ (k : Int) := by omega
      have t1 : (k : Int) < (n : Int) := by omega
      obtain ⟨q, hq⟩ : ∃ q : Int, q = r - y - (1 + (m : Int)) := ⟨_, rfl⟩
      have hq1 : q ≤ 65535 := by omega
      have hq2 : -9000000000000000000 ≤ q := by omega
      have w1 : IntKind.i64.wrap (1 + (m : Int)) = 1 + (m : Int) := by rw [IntKind.wrap_i64]; omega
      have w2 : IntKind.i64.wrap (r - (y : Int) - (1 + (m : Int))) = q := by rw [hq, IntKind.wrap_i64]; omega
      have hfail : q < 0 → r < (z : Int) := by omega
      have hq0 : q ≤ r - (y : Int) - 1 := by omega
      have hall : (M.L.take (k + 1) l).sz = y + (1 + m) + b.sz + e.sz := hnx
      have hqr : q = r - (y : Int) - (1 + (m : Int)) := hq
      replace hall := Lib.hid hall
      replace hqr := Lib.hid hqr
      replace hfail := Lib.hid hfail
      have hzz : y + (1 + m) + b.sz + e.sz ≤ z := by rw [← hnx]; exact hnz
      have sB : b.sz < N := by omega
      have sE : e.sz < N := by omega
      replace hzz := Lib.hid hzz
      replace hRk := Lib.hid hRk
      replace hb := Lib.hid hb
      replace bel := Lib.hid bel
      clear hy hq hnx hnz hszk hnth hm hi hL hB hE hRr hyz
      go_wp2_with fail
      go_still_tail 12, (by kernel_rfl)
      change wpList _ _ _ _ _ wr.drew
      go_upto_region 5 with fail
      obtain ⟨W5, hW5⟩ : ∃ W5, W5 = (wr.setCell ⟨R, 0, none⟩ (.int .i64 q)).drew := ⟨_, rfl⟩
      rw [← hW5]
      have h5 : W5.heap[R]? = some (.cells #[.int .i64 q] 3 (0, 0)) := by
        have := heap_setCell_same wr R 0 _ _ (.int .i64 q) hRk.out
        rw [hW5]; exact this
      have k5 : Kb (· = R) wr W5 := by
        have := Kb.setCell (T := (· = R)) (Kb.refl _ wr) (p := ⟨R, 0, none⟩) rfl (.int .i64 q)
        rw [hW5]; exact ⟨this.os, this.tape, this.output, this.size, this.block⟩
      have hg5 : g < wr.heap.size := by omega
      have j7 := (World.cell?_of_block (a := ⟨g, o + k * 9 + 7, none⟩) (k5.block g hg5 hgR)).trans i7
      have j8 := (World.cell?_of_block (a := ⟨g, o + k * 9 + 8, none⟩) (k5.block g hg5 hgR)).trans i8
      have j0 : W5.cell? ⟨R, 0, none⟩ = some (.int .i64 q) := by rw [cell_of_row W5 R 0 _ _ (0, 0) h5]; rfl
      have hb5 := Lib.hid (hb.out.trans k5)
      have B5 := Lib.hid (kb_LS hBk.out k5 hBR hRl2)
      have E5 := Lib.hid (kb_LS hEk.out k5 hBR hRl2)
      have hw5 := k5.size
      have hR5 : R < W5.heap.size := Nat.lt_of_lt_of_le hRl2 k5.size
      replace h5 := Lib.hid h5
      clear hW5 k5 i6 i7 i8 c0 f0 w1 w2
      by_cases hqn : q < 0
      · go_wp2_with fail
        go_ret
        exact .inr ⟨hfail.out hqn, rfl, hb5.out⟩
      · go_wp2_with fail
        refine (ih.out B W5 R q b vB sB hBR h5.out (by omega) B5.out).mono ?_
        rintro e1 w1 (⟨y1, rfl, h6, k6⟩ | ⟨n1, rfl, k6⟩)
        · have m8 := (World.cell?_of_block (a := ⟨g, o + k * 9 + 8, none⟩) (k6.block g (Nat.lt_of_lt_of_le hg5 hw5) hgR)).trans j8
          have hb6 := Lib.hid (hb5.out.trans k6)
          have E6 := Lib.hid (kb_LS E5.out k6 hBR hR5)
          have hR6 : R < w1.heap.size := Nat.lt_of_lt_of_le hR5 k6.size
          obtain ⟨q1, hq1'⟩ : ∃ q1 : Int, q1 = q - b.sz := ⟨_, rfl⟩
          rw [← hq1'] at h6
          have hq1r : q1 = r - (y : Int) - (1 + (m : Int)) - b.sz := by rw [hq1', hqr.out]
          have r1 : 0 ≤ q1 ∧ q1 ≤ 65536 := by omega
          replace h6 := Lib.hid h6
          replace hq1r := Lib.hid hq1r
          clear hq1' k6 j7 j8 j0
          go_wp2_with fail
          refine (ih.out B w1 R q1 e vE sE hBR h6.out r1 E6.out).mono ?_
          rintro e2 w2 (⟨y2, rfl, h7, k7⟩ | ⟨n2, rfl, k7⟩)
          · have fin : (y + (1 + m) + b.sz + e.sz : Int) ≤ r ∧ q1 - (e.sz : Int) = r - ((y + (1 + m) + b.sz + e.sz : Nat) : Int) := by have := hq1r.out; omega
            replace fin := Lib.hid fin
            have hb7 := Lib.hid (hb6.out.trans k7)
            replace h7 := Lib.hid h7
            clear k7
            go_wp2_with fail
            exact ⟨⟨k + 1, y + (1 + m) + b.sz + e.sz, by omega, by go_num, hall.out.symm, by have := fin.out.1; omega, by rw [← fin.out.2]; exact h7.out, hb7.out⟩, by simp [intOf]; omega⟩
          · have fin : r < (z : Int) := by have := hq1r.out; have := hzz.out; omega
            replace fin := Lib.hid fin
            have hb7 := Lib.hid (hb6.out.trans k7)
            clear k7
            go_wp2_with fail
            go_ret
            exact .inr ⟨fin.out, rfl, hb7.out⟩
        · have fin : r < (z : Int) := by have := hqr.out; have := hzz.out; omega
          replace fin := Lib.hid fin
          have hb7 := Lib.hid (hb5.out.trans k6)
          clear k6
          go_wp2_with fail
          go_ret
          exact .inr ⟨fin.out, rfl, hb7.out⟩
    · have e1 : y = z := by rw [hy, M.take_all l (by rw [← hn.out]; omega), ← hz.out]
      subst e1
      have tlt : decide ((k : Int) < (n : Int)) = false := by simp; omega
      replace hRk := Lib.hid hRk
      replace hb := Lib.hid hb
      clear hy
      go_wp2_with fail
      go_ret
      exact .inl ⟨hyr, rfl, hRk.out, hb.out⟩
theorem fit_any : ∀ N, FitOk N := by
  intro N
  induction N with
  | zero => intro B w R r l v h; omega
  | succ N ih => exact fit_of N ih
end Go.Proofs.YtilaheifccjjeaaGreat
namespace Go.Proofs.YtilaheifccjjeaaGreat
open Go.RowKit
theorem Prog.base {α : Type} {R : Rep α} {x : α} {z : List Value} {B P g j t : Nat} {r : List Nat} {w w0 w' : World} (h : Prog R x z B P g j t r w0 w') (kb : Kb (· = P) w w0) (hg : g < w.heap.size) (hP : P < w.heap.size) : Prog R x z B P g j t r w w' := by
  obtain ⟨cs, cur, h1, h2, h3, h4⟩ := h.cells
  have hs := kb.size
  exact ⟨h.pat, ⟨cs, cur, R.agree h1 (fun _ _ => rfl) (fun k hk => ⟨by have := hk.1; omega, hk.2⟩), h2, h3, h4⟩, (Fr.of_kb kb hg h.ne).trans h.fr, hg, h.ne, hP, h.hB⟩
/-- A value has been stored into the next cell. -/
theorem put_here {α : Type} {Q : Rep α} {y : α} {v u : Value} {B P g j t : Nat} {cur : Array Value} {r : List Nat} {w : World} (p1 : PAt B w P r) (hg : w.heap[g]? = some (.cells cur t (0, 0))) (hu : cur[j]? = some u) (hne : g ≠ P) (hB : B ≤ g) (h1 : Q.sz = 1) (hi : ∀ w S, Q.is w S y [v]) : YesPost Q y r B P g j w (.returned (.bool true)) (w.setCell ⟨g, j, none⟩ v) := by
  refine ⟨rfl, p1.set hne hB v, ⟨[v], hi _ _, fun i x hx => ?_⟩, Fr.set w j v (Nat.le_refl _) (by rw [h1]; omega)⟩
  cases i with
  | zero => cases hx; exact World.cell?_setCell_same _ _ _ ((cell_row hg j).trans hu)
  | succ i => cases hx
theorem lim_rd (bs : List Nat) : M.cLim.rd bs = (M.cFlag.rd bs).bind fun p => (M.num p.2).bind fun q => match p.1 with
    | true => (M.num q.2).bind fun s => some (⟨q.1, s.1⟩, s.2)
    | false => some (⟨q.1, -1⟩, q.2) := by
  simp only [M.cLim, M.cMap, M.cSeq, M.cNum]
  cases M.cFlag.rd bs with
  | none => rfl
  | some p =>
    simp only [Option.bind_some]
    cases M.num p.2 with
    | none => rfl
    | some q =>
      simp only [Option.bind_some]
      cases p.1 with
      | true => simp only [M.cMax, M.cNum]; cases M.num q.2 <;> rfl
      | false => rfl
set_option maxRecDepth 100000 in
theorem mlim_ok : MdOk 165 rLim [.int .i64 0, .int .i64 0] M.cLim.rd := by
  intro B P g j t cur bs w h hg hz hne hB
  have hv := Lib.hid (lim_rd bs)
  have hPl := h.lt
  have hPlo := h.lo
  have hgl := lt_row hg
  have ha := Lib.hid (h.alloc (.cells #[.bool false] 4))
  have hPg : ¬ P = g := fun e => hne e.symm
  replace hg := Lib.hid hg
  replace hz := Lib.hid hz
  clear h
  go_enter Tryz.func165, Tryz.ntmps165
  go_wp2_with fail
  refine ((mflag_ok (.bool false)) B P w.heap.size 0 4 #[.bool false] bs _ ha.out (heap_alloc_new w _) (one_row _) (by omega) (by omega)).mono ?_
  rintro e1 w1 (⟨b, r1, cs, hrd, rfl, p1, rfl, hc, fr⟩ | ⟨hrd, rfl, kb⟩)
  · rw [hrd] at hv
    simp only [Option.bind_some] at hv
    have c1 : w1.cell? ⟨w.heap.size, 0, none⟩ = some (.bool b) := hc 0 _ rfl
    have kb := kb_new fr.kb
    have hs1 : w.heap.size < w1.heap.size := by have := fr.kb.size; simp at this; omega
    have hg1 : w1.heap[g]? = some (.cells cur t (0, 0)) := by rw [kb.block g hgl hne]; exact hg.out
    replace hg1 := Lib.hid hg1
    replace kb := Lib.hid kb
    replace p1 := Lib.hid p1
    clear hc fr
    cases hn : M.num r1 with
    | none =>
      rw [hn] at hv
      replace hn := Lib.hid hn
      go_wp2_with fail
      refine ((mnum_ok (.int .i64 0)).no hn.out p1.out hg1.out (fun i u hu => by cases i with | zero => exact hz.out 0 _ hu | succ i => cases hu) hne hB ⟨rfl, rfl, rfl, rfl⟩).mono ?_
      rintro e2 w2 ⟨rfl, kb2⟩
      have kb3 := Lib.hid ((kb_g kb.out).trans kb2)
      clear kb2
      go_wp2_with fail
      go_ret
      exact .inr ⟨hv.out, rfl, kb3.out⟩
    | some q =>
      obtain ⟨mn, r2⟩ := q
      rw [hn] at hv
      simp only [Option.bind_some] at hv
      replace hn := Lib.hid hn
      go_wp2_with fail
      refine ((mnum_ok (.int .i64 0)).yes hn.out p1.out hg1.out (fun i u hu => by cases i with | zero => exact hz.out 0 _ hu | succ i => cases hu) hne hB ⟨rfl, rfl, rfl, rfl⟩).mono ?_
      intro e2 w2 hy
      obtain rfl := hy.1
      have c2 : w2.cell? ⟨w.heap.size, 0, none⟩ = some (.bool b) := (World.cell?_of_block (w := w1) (hy.2.2.2.kb.block w.heap.size hs1 (by omega))).trans c1
      have pr : Prog rInt mn [.int .i64 0] B P g j t r2 w w2 := (Prog.start (zR := [.int .i64 0]) p1.out hg1.out hz.out rfl hne hB hy).base kb.out hgl hPl
      obtain ⟨cur2, hg2, hz2⟩ := pr.row
      have hz2 : cur2[j + 1]? = some (.int .i64 0) := hz2 0 _ rfl
      have c3 : w2.cell? ⟨g, j + 1, none⟩ = some (.int .i64 0) := (cell_row hg2 _).trans hz2
      have f3 := frozen_row hg2 (j + 1)
      replace pr := Lib.hid pr
      replace hg2 := Lib.hid hg2
      replace hz2 := Lib.hid hz2
      clear hy c1
      cases b with
      | false =>
        go_wp2_with fail
        go_ret
        exact (pr.out.step (zQ := [.int .i64 0]) (z := []) (Q := rInt) rfl (put_here (v := .int .i64 (-1)) (y := -1) pr.out.pat hg2.out hz2.out hne hB rfl (fun _ _ => ⟨rfl, ⟨by omega, by omega⟩⟩))).fin hv.out rfl (fun cs h => h)
      | true =>
        simp only at hv
        cases hm : M.num r2 with
        | none =>
          rw [hm] at hv
          replace hm := Lib.hid hm
          go_wp2_with fail
          refine ((mnum_ok (.int .i64 0)).no hm.out pr.out.pat hg2.out (fun i u hu => by cases i with | zero => cases hu; exact hz2.out | succ i => cases hu) hne hB ⟨rfl, rfl, rfl, rfl⟩).mono ?_
          rintro e3 w3 ⟨rfl, kb3⟩
          have kb4 := Lib.hid (pr.out.bad kb3)
          clear kb3
          go_wp2_with fail
          go_ret
          exact .inr ⟨hv.out, rfl, kb4.out⟩
        | some s =>
          obtain ⟨mx, r3⟩ := s
          rw [hm] at hv
          replace hm := Lib.hid hm
          go_wp2_with fail
          refine ((mnum_ok (.int .i64 0)).yes hm.out pr.out.pat hg2.out (fun i u hu => by cases i with | zero => cases hu; exact hz2.out | succ i => cases hu) hne hB ⟨rfl, rfl, rfl, rfl⟩).mono ?_
          intro e3 w3 hy
          obtain rfl := hy.1
          have pr3 := Lib.hid (pr.out.step (zQ := [.int .i64 0]) (z := []) rfl hy)
          clear hy
          go_wp2_with fail
          go_ret
          exact pr3.out.fin hv.out rfl (fun cs h => h)
  · rw [hrd] at hv
    replace kb := Lib.hid (kb_new kb)
    go_wp2_with fail
    go_ret
    exact .inr ⟨hv.out, rfl, kb_g kb.out⟩
theorem tab_rd (bs : List Nat) : M.cTab.rd bs = ((M.cFix 112).rd bs).bind fun p => M.cLim.rd p.2 := by
  simp only [M.cTab, M.cMap, M.cSeq]
  cases (M.cFix 112).rd bs with
  | none => rfl
  | some p =>
    simp only [Option.bind_some]
    cases M.cLim.rd p.2 <;> rfl
theorem MdPost.base {α : Type} {R : Rep α} {rd rd' : List Nat → Option (α × List Nat)} {B P g j : Nat} {bs bs' : List Nat} {w w0 w' : World} {e : Ending} (h : MdPost R rd B P g j bs w0 e w') (kb : Kb (· = P) w w0) (hg : g < w.heap.size) (hgP : g ≠ P) (hrd : rd' bs' = rd bs) : MdPost R rd' B P g j bs' w e w' := by
  have hs := kb.size
  rcases h with ⟨x, r, cs, q1, q2, q3, q4, q5, q6⟩ | ⟨q1, q2, q3⟩
  · exact .inl ⟨x, r, cs, hrd.trans q1, q2, q3, R.agree q4 (fun _ _ => rfl) (fun k hk => ⟨by have := hk.1; omega, hk.2⟩), q5, (Fr.of_kb kb hg hgP).trans q6⟩
  · exact .inr ⟨hrd.trans q1, q2, (kb_g kb).trans q3⟩
set_option maxRecDepth 100000 in
theorem mtab_ok : MdOk 164 rLim [.int .i64 0, .int .i64 0] M.cTab.rd := by
  intro B P g j t cur bs w h hg hz hne hB
  have hv := Lib.hid (tab_rd bs)
  have hgl := lt_row hg
  replace hg := Lib.hid hg
  replace hz := Lib.hid hz
  have cN := Lib.hid (mfixed_any 112 B P bs w h (by omega))
  clear h
  go_enter Tryz.func164, Tryz.ntmps164
  go_wp2_with fail
  refine cN.out.mono ?_
  rintro e1 w1 (⟨r1, hrd, rfl, p1, kb⟩ | ⟨hrd, rfl, kb⟩)
  · rw [hrd] at hv
    simp only [Option.bind_some] at hv
    have hg1 := Lib.hid (show w1.heap[g]? = some (.cells cur t (0, 0)) by rw [kb.block g hgl hne]; exact hg.out)
    replace kb := Lib.hid kb
    have cM := Lib.hid (mlim_ok B P g j t cur r1 w1 p1 hg1.out hz.out hne hB)
    clear p1
    go_wp2_with fail
    refine cM.out.mono ?_
    intro e2 w2 hp
    have hp2 := hp.base kb.out hgl hne hv.out
    rcases hp with ⟨x, r, cs, q1, rfl, _⟩ | ⟨q1, rfl, _⟩
    all_goals
      replace hp2 := Lib.hid hp2
      go_wp2_with fail
      go_ret
      exact hp2.out
  · rw [hrd] at hv
    replace kb := Lib.hid kb
    go_wp2_with fail
    go_ret
    exact .inr ⟨hv.out, rfl, kb_g kb.out⟩
end Go.Proofs.YtilaheifccjjeaaGreat
namespace Go.Proofs.YtilaheifccjjeaaGreat
open Go.RowKit
theorem expr_rd (bs : List Nat) : M.cExpr.rd bs = (M.expr bs).bind fun p => some (p.1, bs.drop p.2) := rfl
theorem put_expr {B P g j t c n : Nat} {cur : Array Value} {bs : List Nat} {w w1 : World} {u v : Value} {A : Option Addr} {l : M.L} (h : PAt B w P bs) (b1 : Below w.heap.size w w1) (hg : w.heap[g]? = some (.cells cur t (0, 0))) (hu : cur[j]? = some u) (hne : g ≠ P) (hB : B ≤ g)
    (hex : M.expr bs = some (l, n)) (hl : LS w1 (Since w.heap.size w1) v l) (hc : (bs.drop n).length ≤ c ∧ c ≤ maxLen) (hb : Bytes w B A (bs.drop n).length (M.bf (bs.drop n))) :
    MdPost rL M.cExpr.rd B P g j bs w (.returned (.bool true)) ((w1.setCell ⟨g, j, none⟩ v).setCell ⟨P, 0, none⟩ (.slice A (bs.length - n) c)).drew := by
  have hgl := lt_row hg
  have hPl := h.lt
  have hPlo := h.lo
  have hs1 := b1.size
  have hdl : (bs.drop n).length = bs.length - n := by rw [List.length_drop]
  rw [← hdl]
  have p1 := h.later b1
  have p2 := p1.set (j := j) hne hB v
  have b2 : Below B w (w1.setCell ⟨g, j, none⟩ v) := (b1.mono (by omega)).setCell (p := ⟨g, j, none⟩) hB _
  have p3 := p2.move (r := bs.drop n) (by rw [hdl]; omega) hc (hb.below b2 (Nat.le_refl _))
  have hg1 : w1.heap[g]? = some (.cells cur t (0, 0)) := by rw [b1.block g hgl]; exact hg
  have sd := same_drew ((w1.setCell ⟨g, j, none⟩ v).setCell ⟨P, 0, none⟩ (.slice A (bs.drop n).length c))
  refine .inl ⟨l, bs.drop n, [v], by rw [expr_rd, hex]; rfl, rfl, sd.pat p3, ⟨v, rfl, ?_⟩, fun i x hi => ?_, ?_⟩
  · refine hl.agree (fun k hk => ?_) (fun k hk => ⟨hk.1, by show k < ((w1.setCell ⟨g, j, none⟩ v).setCell ⟨P, 0, none⟩ _).heap.size; simpa using hk.2⟩)
    show ((w1.setCell ⟨g, j, none⟩ v).setCell ⟨P, 0, none⟩ _).heap[k]? = _
    have := hk.1
    rw [Below.heap_setCell _ _ _ _ (by show k ≠ P; omega), Below.heap_setCell _ _ _ _ (by show k ≠ g; omega)]
  · cases i with
    | zero =>
      cases hi
      rw [Nat.add_zero, sd.pcell, World.cell?_of_block (w := w1.setCell ⟨g, j, none⟩ v) (Below.heap_setCell _ _ _ _ (by show g ≠ P; exact hne))]
      exact World.cell?_setCell_same _ _ _ ((cell_row hg1 j).trans hu)
    | succ i => cases hi
  · exact (((Fr.of_below b1 hgl hne).trans (Fr.set w1 j _ (Nat.le_refl _) (by show j < j + 1; omega))).trans (Fr.setP _ 0 _ hne)).after sd
theorem PAt.BS {B : Nat} {w : World} {P : Nat} {bs : List Nat} (h : PAt B w P bs) : ∃ A c, w.heap[P]? = some (.cells #[.slice A bs.length c] 105 (0, 0)) ∧ bs.length ≤ c ∧ c ≤ maxLen ∧ Bytes w B A bs.length (M.bf bs) ∧ BS w w.heap.size (.slice A bs.length c) bs := by
  obtain ⟨A, c, hP, h1, h2, h3⟩ := h.ex
  have := h.lt
  have := h.lo
  exact ⟨A, c, hP, h1, h2, h3, A, c, rfl, h1, h2, h3.below (Below.refl _ _) (by omega)⟩
set_option maxRecDepth 100000 in
set_option maxHeartbeats 4000000 in
theorem mexpr_ok (u : Value) : MdOk 200 rL [u] M.cExpr.rd := by
  intro B P g j t cur bs w h hg hz hne hB
  have hv := Lib.hid (expr_rd bs)
  have hPl := h.lt
  have hPlo := h.lo
  have hsm := Lib.hid h.small
  have hgl := lt_row hg
  obtain ⟨A, c, hP, h1, h2, h3, hBS⟩ := h.BS
  unfold maxLen at h2
  have c0 : w.cell? ⟨P, 0, none⟩ = some (.slice A bs.length c) := cell_row hP 0
  have f0 := frozen_row hP 0
  have cj : w.cell? ⟨g, j, none⟩ = some u := (cell_row hg j).trans (hz 0 u rfl)
  have fj := frozen_row hg j
  have hPg : ¬ P = g := fun e => hne e.symm
  replace hg := Lib.hid hg
  replace hz := Lib.hid hz
  replace h := Lib.hid h
  replace hP := Lib.hid hP
  replace h3 := Lib.hid h3
  replace hBS := Lib.hid hBS
  replace h2 := Lib.hid h2
  cases hex : M.expr bs with
  | none =>
    rw [hex] at hv
    replace hex := Lib.hid hex
    go_enter Tryz.func200, Tryz.ntmps200
    go_wp2_with fail
    refine (Decode_no _ bs _ hBS.out (by have := hsm.out; omega) hex.out).mono ?_
    rintro e1 w1 ⟨rfl, b1⟩
    replace b1 := Lib.hid b1
    go_wp2_with fail
    go_ret
    exact .inr ⟨hv.out, rfl, .of_below b1.out⟩
  | some p =>
    obtain ⟨l, n⟩ := p
    have hn := (M.expr_sound hex).2.2
    have hn1 : 1 ≤ n := by
      have := (M.expr_sound hex).2.1
      omega
    obtain ⟨ad, rfl, _⟩ := h3.out 0 (by omega)
    have hbr := Lib.hid (rest_bytes n h3.out)
    replace hex := Lib.hid hex
    clear hv
    by_cases hc : c = n
    · subst hc
      go_enter Tryz.func200, Tryz.ntmps200
      go_wp2_with fail
      refine (Decode_yes _ bs l _ _ hBS.out (by have := hsm.out; omega) hex.out).mono ?_
      rintro e1 w1 ⟨v, rfl, own, b1⟩
      obtain ⟨A3, n3, c3, rfl⟩ := own_slice own
      have hls := Lib.hid own.read
      have c01 : w1.cell? ⟨P, 0, none⟩ = _ := (b1.cell (p := ⟨P, 0, none⟩) hPl).trans c0
      have f01 : w1.frozen? ⟨P, 0, none⟩ = _ := (b1.frozen (p := ⟨P, 0, none⟩) hPl).trans f0
      have cj1 : w1.cell? ⟨g, j, none⟩ = _ := (b1.cell (p := ⟨g, j, none⟩) hgl).trans cj
      have fj1 : w1.frozen? ⟨g, j, none⟩ = _ := (b1.frozen (p := ⟨g, j, none⟩) hgl).trans fj
      replace b1 := Lib.hid b1
      clear c0 f0 cj fj own
      go_wp2_with fail
      go_region
      go_wp2_with fail
      go_ret
      have h2' := h2.out
      have e0 : bs.length - c = 0 := by omega
      have F := put_expr (c := 0) (A := some ad) h.out b1.out hg.out (hz.out 0 u rfl) hne hB hex.out hls.out ⟨by rw [List.length_drop]; omega, by unfold maxLen; omega⟩ (fun i hi => by rw [List.length_drop] at hi; omega)
      rw [e0] at F
      exact F
    · skip
      go_enter Tryz.func200, Tryz.ntmps200
      go_wp2_with fail
      refine (Decode_yes _ bs l _ _ hBS.out (by have := hsm.out; omega) hex.out).mono ?_
      rintro e1 w1 ⟨v, rfl, own, b1⟩
      obtain ⟨A3, n3, c3, rfl⟩ := own_slice own
      have hls := Lib.hid own.read
      have c01 : w1.cell? ⟨P, 0, none⟩ = _ := (b1.cell (p := ⟨P, 0, none⟩) hPl).trans c0
      have f01 : w1.frozen? ⟨P, 0, none⟩ = _ := (b1.frozen (p := ⟨P, 0, none⟩) hPl).trans f0
      have cj1 : w1.cell? ⟨g, j, none⟩ = _ := (b1.cell (p := ⟨g, j, none⟩) hgl).trans cj
      have fj1 : w1.frozen? ⟨g, j, none⟩ = _ := (b1.frozen (p := ⟨g, j, none⟩) hgl).trans fj
      replace b1 := Lib.hid b1
      clear c0 f0 cj fj own
      go_wp2_with fail
      go_region
      go_wp2_with fail
      go_ret
      have h2' := h2.out
      exact put_expr h.out b1.out hg.out (hz.out 0 u rfl) hne hB hex.out hls.out ⟨by rw [List.length_drop]; omega, by unfold maxLen; omega⟩ hbr.out
theorem isConstant_any (y : Int) (w : World) : Calls Tryz.prog 184 #[.int .i64 y] w fun e w' => e = .returned (.bool (y == 65 || y == 66 || y == 35)) ∧ w = w' := by
  by_cases h1 : y = 65
  · subst h1
    go_enter Tryz.func184, Tryz.ntmps184
    go_wp2
    go_ret
    exact ⟨rfl, rfl⟩
  · have t1 : (y == 65) = false := by rw [beq_eq_false_iff_ne]; exact h1
    by_cases h2 : y = 66
    · subst h2
      go_enter Tryz.func184, Tryz.ntmps184
      go_wp2
      go_ret
      exact ⟨rfl, rfl⟩
    · have t2 : (y == 66) = false := by rw [beq_eq_false_iff_ne]; exact h2
      go_enter Tryz.func184, Tryz.ntmps184
      go_wp2
      go_ret
      exact ⟨ret_bool (by rw [t1, t2, Bool.false_or, Bool.false_or]), rfl⟩
theorem const_rd (bs : List Nat) : M.cConst.rd bs = (M.cExpr.rd bs).bind fun q => if M.isConst q.1 then some q else none := rfl
/-- The zero of an instruction. -/
def z9 : List Value := [.int .i64 0, .int .i64 0, .int .i64 0, .int .i64 0, .int .i64 0, .int .i64 0, .slice none 0 0, .slice none 0 0, .slice none 0 0]
/-- Nine values have been stored, one behind the other. -/
theorem put9 {P g j t : Nat} {cur : Array Value} {w : World} (v0 v1 v2 v3 v4 v5 v6 v7 v8 : Value) (hg : w.heap[g]? = some (.cells cur t (0, 0))) (hs : j + 9 ≤ cur.size) :
    (∀ i u, [v0, v1, v2, v3, v4, v5, v6, v7, v8][i]? = some u → (((((((((w.setCell ⟨g, j, none⟩ v0).setCell ⟨g, j + 1, none⟩ v1).setCell ⟨g, j + 2, none⟩ v2).setCell ⟨g, j + 3, none⟩ v3).setCell ⟨g, j + 4, none⟩ v4).setCell ⟨g, j + 5, none⟩ v5).setCell ⟨g, j + 6, none⟩ v6).setCell ⟨g, j + 7, none⟩ v7).setCell ⟨g, j + 8, none⟩ v8).cell? ⟨g, j + i, none⟩ = some u) ∧ Fr P g j 9 w (((((((((w.setCell ⟨g, j, none⟩ v0).setCell ⟨g, j + 1, none⟩ v1).setCell ⟨g, j + 2, none⟩ v2).setCell ⟨g, j + 3, none⟩ v3).setCell ⟨g, j + 4, none⟩ v4).setCell ⟨g, j + 5, none⟩ v5).setCell ⟨g, j + 6, none⟩ v6).setCell ⟨g, j + 7, none⟩ v7).setCell ⟨g, j + 8, none⟩ v8) := by
  refine ⟨fun i u hu => ?_, (((((((((Fr.refl P g j 9 w).trans (Fr.set w (j) v0 (by omega) (by omega))).trans (Fr.set (w.setCell ⟨g, j, none⟩ v0) (j + 1) v1 (by omega) (by omega))).trans (Fr.set ((w.setCell ⟨g, j, none⟩ v0).setCell ⟨g, j + 1, none⟩ v1) (j + 2) v2 (by omega) (by omega))).trans (Fr.set (((w.setCell ⟨g, j, none⟩ v0).setCell ⟨g, j + 1, none⟩ v1).setCell ⟨g, j + 2, none⟩ v2) (j + 3) v3 (by omega) (by omega))).trans (Fr.set ((((w.setCell ⟨g, j, none⟩ v0).setCell ⟨g, j + 1, none⟩ v1).setCell ⟨g, j + 2, none⟩ v2).setCell ⟨g, j + 3, none⟩ v3) (j + 4) v4 (by omega) (by omega))).trans (Fr.set (((((w.setCell ⟨g, j, none⟩ v0).setCell ⟨g, j + 1, none⟩ v1).setCell ⟨g, j + 2, none⟩ v2).setCell ⟨g, j + 3, none⟩ v3).setCell ⟨g, j + 4, none⟩ v4) (j + 5) v5 (by omega) (by omega))).trans (Fr.set ((((((w.setCell ⟨g, j, none⟩ v0).setCell ⟨g, j + 1, none⟩ v1).setCell ⟨g, j + 2, none⟩ v2).setCell ⟨g, j + 3, none⟩ v3).setCell ⟨g, j + 4, none⟩ v4).setCell ⟨g, j + 5, none⟩ v5) (j + 6) v6 (by omega) (by omega))).trans (Fr.set (((((((w.setCell ⟨g, j, none⟩ v0).setCell ⟨g, j + 1, none⟩ v1).setCell ⟨g, j + 2, none⟩ v2).setCell ⟨g, j + 3, none⟩ v3).setCell ⟨g, j + 4, none⟩ v4).setCell ⟨g, j + 5, none⟩ v5).setCell ⟨g, j + 6, none⟩ v6) (j + 7) v7 (by omega) (by omega))).trans (Fr.set ((((((((w.setCell ⟨g, j, none⟩ v0).setCell ⟨g, j + 1, none⟩ v1).setCell ⟨g, j + 2, none⟩ v2).setCell ⟨g, j + 3, none⟩ v3).setCell ⟨g, j + 4, none⟩ v4).setCell ⟨g, j + 5, none⟩ v5).setCell ⟨g, j + 6, none⟩ v6).setCell ⟨g, j + 7, none⟩ v7) (j + 8) v8 (by omega) (by omega))⟩
  rw [cell_row (row_set (row_set (row_set (row_set (row_set (row_set (row_set (row_set (row_set hg v0) v1) v2) v3) v4) v5) v6) v7) v8)]
  have hi : i = 0 ∨ i = 1 ∨ i = 2 ∨ i = 3 ∨ i = 4 ∨ i = 5 ∨ i = 6 ∨ i = 7 ∨ i = 8 := by
    have := (List.getElem?_eq_some_iff.1 hu).1
    simp at this
    omega
  rcases hi with rfl | rfl | rfl | rfl | rfl | rfl | rfl | rfl | rfl
  all_goals
    cases hu
    simp [Array.getElem?_setIfInBounds]
    try omega
set_option maxRecDepth 100000 in
set_option maxHeartbeats 4000000 in
theorem mconst_ok : MdOk 196 rIns z9 M.cConst.rd := by
  intro B P g j t cur bs w h hg hz hne hB
  have hv := Lib.hid (const_rd bs)
  have hPl := h.lt
  have hPlo := h.lo
  have hgl := lt_row hg
  have ha := Lib.hid (h.alloc (.cells #[.slice none 0 0] 62))
  have hPg : ¬ P = g := fun e => hne e.symm
  replace hg := Lib.hid hg
  replace hz := Lib.hid hz
  clear h
  go_enter Tryz.func196, Tryz.ntmps196
  go_wp2_with fail
  refine ((mexpr_ok (.slice none 0 0)) B P w.heap.size 0 62 #[.slice none 0 0] bs _ ha.out (heap_alloc_new w _) (one_row _) (by omega) (by omega)).mono ?_
  rintro e1 w1 (⟨l, r1, cs, hrd, rfl, p1, ⟨v, rfl, hls⟩, hc, fr⟩ | ⟨hrd, rfl, kb⟩)
  · rw [hrd] at hv
    simp only [Option.bind_some] at hv
    have c1 : w1.cell? ⟨w.heap.size, 0, none⟩ = some v := hc 0 _ rfl
    have kb := kb_new fr.kb
    have hs1 : w.heap.size < w1.heap.size := by have := fr.kb.size; simp at this; omega
    have hg1 : w1.heap[g]? = some (.cells cur t (0, 0)) := by rw [kb.block g hgl hne]; exact hg.out
    replace hg1 := Lib.hid hg1
    replace kb := Lib.hid kb
    replace p1 := Lib.hid p1
    clear hc fr
    obtain ⟨A3, c3, rfl, hb3, hc3, hd3⟩ := hls.form
    unfold maxLen at hd3
    cases l with
    | nil =>
      replace hls := Lib.hid hls
      simp only [M.L.len] at c1
      go_wp2_with fail
      go_ret
      exact .inr ⟨by rw [hv.out]; rfl, rfl, kb_g kb.out⟩
    | cons hd b e r =>
      cases r with
      | cons hd2 b2 e2 r2 =>
        replace hls := Lib.hid hls
        obtain ⟨m, hm⟩ : ∃ m, m = (M.L.cons hd b e (.cons hd2 b2 e2 r2)).len := ⟨_, rfl⟩
        have hm2 : 2 ≤ m := by rw [hm]; simp [M.L.len]
        rw [← hm] at c1 hb3 hc3
        have t1 : ((m : Int) == 1) = false := by rw [beq_eq_false_iff_ne]; omega
        replace hm := Lib.hid hm
        go_wp2_with fail
        go_ret
        exact .inr ⟨by rw [hv.out]; rfl, rfl, kb_g kb.out⟩
      | nil =>
        obtain ⟨gi, oi, vL, vB, vE, rfl, hgi, hit, hR, hL, hB2, hE⟩ := hls.nth' (k := 0) (h := hd) (b := b) (e := e) rfl
        obtain ⟨i0, i1, i2, i3, i4, i5, i6, i7, i8⟩ := hit
        simp only [Nat.zero_mul, Nat.add_zero] at i0 i1 i2 i3 i4 i5 i6 i7 i8
        simp only [M.L.len, Nat.zero_add] at c1 hb3 hc3
        replace hls := Lib.hid hls
        obtain ⟨AL, cL, rfl, _⟩ := hL.form
        obtain ⟨AB, cB, rfl, _⟩ := hB2.form
        obtain ⟨AE, cE, rfl, _⟩ := hE.form
        have z0 : w1.cell? ⟨g, j, none⟩ = some (.int .i64 0) := (cell_row hg1.out j).trans (hz.out 0 _ rfl)
        have z1 : w1.cell? ⟨g, j + 1, none⟩ = some (.int .i64 0) := (cell_row hg1.out _).trans (hz.out 1 _ rfl)
        have z2 : w1.cell? ⟨g, j + 2, none⟩ = some (.int .i64 0) := (cell_row hg1.out _).trans (hz.out 2 _ rfl)
        have z3 : w1.cell? ⟨g, j + 3, none⟩ = some (.int .i64 0) := (cell_row hg1.out _).trans (hz.out 3 _ rfl)
        have z4 : w1.cell? ⟨g, j + 4, none⟩ = some (.int .i64 0) := (cell_row hg1.out _).trans (hz.out 4 _ rfl)
        have z5 : w1.cell? ⟨g, j + 5, none⟩ = some (.int .i64 0) := (cell_row hg1.out _).trans (hz.out 5 _ rfl)
        have z6 : w1.cell? ⟨g, j + 6, none⟩ = some (.slice none 0 0) := (cell_row hg1.out _).trans (hz.out 6 _ rfl)
        have z7 : w1.cell? ⟨g, j + 7, none⟩ = some (.slice none 0 0) := (cell_row hg1.out _).trans (hz.out 7 _ rfl)
        have z8 : w1.cell? ⟨g, j + 8, none⟩ = some (.slice none 0 0) := (cell_row hg1.out _).trans (hz.out 8 _ rfl)
        have y0 := frozen_row hg1.out j
        have y1 := frozen_row hg1.out (j + 1)
        have y2 := frozen_row hg1.out (j + 2)
        have y3 := frozen_row hg1.out (j + 3)
        have y4 := frozen_row hg1.out (j + 4)
        have y5 := frozen_row hg1.out (j + 5)
        have y6 := frozen_row hg1.out (j + 6)
        have y7 := frozen_row hg1.out (j + 7)
        have y8 := frozen_row hg1.out (j + 8)
        have hsz : j + 9 ≤ cur.size := by
          have := (Array.getElem?_eq_some_iff.1 (hz.out 8 _ rfl)).1
          omega
        replace hR := Lib.hid hR
        replace hL := Lib.hid hL
        replace hB2 := Lib.hid hB2
        replace hE := Lib.hid hE
        go_wp2_with fail
        refine (isConstant_any hd.op _).mono ?_
        rintro e2 w2 ⟨rfl, rfl⟩
        obtain ⟨q, hq⟩ : ∃ q, (hd.op == 65 || hd.op == 66 || hd.op == 35) = q := ⟨_, rfl⟩
        rw [hq]
        replace hq := Lib.hid hq
        cases q with
        | false =>
          go_wp2_with fail
          go_ret
          exact .inr ⟨by rw [hv.out, if_neg (by show ¬ (hd.op == 65 || hd.op == 66 || hd.op == 35) = true; rw [hq.out]; exact Bool.false_ne_true)], rfl, kb_g kb.out⟩
        | true =>
          go_wp2_with fail
          go_ret
          obtain ⟨q1, q2⟩ := put9 (P := P) (.int .i64 hd.op) (.int .i64 hd.ty) (.int .i64 hd.ix) (.int .i64 hd.al) (.int .i64 hd.ofs) (.int .i64 hd.val) (.slice AL hd.labels.length cL) (.slice AB b.len cB) (.slice AE e.len cE) hg1.out hsz
          have hs2 := q2.kb.size
          have p1l := p1.out.lt
          have p1o := p1.out.lo
          have ag : Agree (Since (w.alloc (.cells #[.slice none 0 0] 62)).heap.size w1) w1 _ := fun k hk => q2.kb.block k hk.2 (by have := hk.1; simp at this; omega)
          have mono : ∀ k, Since (w.alloc (.cells #[.slice none 0 0] 62)).heap.size w1 k → Since w.heap.size _ k := fun k hk => ⟨by have := hk.1; simp at this; omega, Nat.lt_of_lt_of_le hk.2 hs2⟩
          refine .inl ⟨_, r1, item9 hd _ _ _, by rw [hv.out, if_pos (by exact hq.out)], rfl, ?_, ⟨hd, b, e, _, _, _, rfl, rfl, hR.out, hL.out.agree ag mono, hB2.out.agree ag mono, hE.out.agree ag mono⟩, q1, (Fr.of_kb kb.out hgl hne).trans q2⟩
          have hrow := (p1.out.ex)
          refine p1.out.agree (fun k hk => ?_)
          iterate 9 rw [Below.heap_setCell _ _ _ _ (by show k ≠ g; rcases hk with hk | rfl <;> omega)]
  · rw [hrd] at hv
    replace kb := Lib.hid (kb_new kb)
    go_wp2_with fail
    go_ret
    exact .inr ⟨hv.out, rfl, kb_g kb.out⟩
end Go.Proofs.YtilaheifccjjeaaGreat
namespace Go.Proofs.YtilaheifccjjeaaGreat
open Go.RowKit
theorem cExpr_wr (l : M.L) : M.cExpr.wr l = M.enc l ++ [11] := rfl
set_option maxRecDepth 100000 in
set_option maxHeartbeats 1000000 in
theorem texpr_any (B : Nat) (w : World) (P : Nat) (out : List Nat) (l : M.L) (v : Value) (h : MTx B w P out) (hl : LS w (· < w.heap.size) v l) (hs : l.sz ≤ 24000) :
    Calls Tryz.prog 154 #[.pointer (some ⟨P, 0, none⟩), v] w (WrPost B P out (M.cExpr.ok l) (M.cExpr.wr l) w) := by
  have hiff : M.cExpr.ok l ↔ M.ok 40 l := ⟨fun hh => hh.1, fun hh => ⟨hh, by omega⟩⟩
  rw [cExpr_wr]
  obtain ⟨ys, hys⟩ : ∃ ys, ys = M.enc l ++ [11] := ⟨_, rfl⟩
  have hyl : ys.length = (M.enc l).length + 1 := by rw [hys]; simp
  rw [← hys]
  have hys' := Lib.hid hys
  clear hys
  have hel : (M.enc l).length ≤ 40 * l.sz := M.enc_len l
  have hszl := Lib.hid (fun (ho : M.ok 40 l) => M.sz_le l 40 ho)
  obtain ⟨ok, hok⟩ : ∃ ok, ok = M.cExpr.ok l := ⟨_, rfl⟩
  rw [← hok] at hiff ⊢
  clear hok
  replace hiff := Lib.hid hiff
  obtain ⟨A, c, rfl, _⟩ := LS.form hl
  have hnn := h.nn
  have hPl := h.lt
  have hlen := h.len
  obtain ⟨r, hr⟩ : ∃ r : Int, r = 65536 - (out.length : Int) := ⟨_, rfl⟩
  obtain ⟨W1, hW1⟩ : ∃ W1, W1 = w.alloc (.cells #[.int .i64 r] 3) := ⟨_, rfl⟩
  have b1 : Below w.heap.size w W1 := by rw [hW1]; exact (Below.refl _ _).alloc (Nat.le_refl _) _
  have hR : W1.heap[w.heap.size]? = some (.cells #[.int .i64 r] 3 (0, 0)) := by rw [hW1]; exact heap_alloc_new w _
  have hz1 : W1.heap.size = w.heap.size + 1 := by rw [hW1]; simp
  have hl1 : LS W1 (· < w.heap.size) (.slice A l.len c) l := LS.agree hl (below_agree b1) (fun _ hk => hk)
  have hfit := Lib.hid (fit_any (l.sz + 1) w.heap.size W1 w.heap.size r l _ (Nat.lt_succ_self _) (Nat.le_refl _) hR (by omega) hl1)
  have hlat := Lib.hid (fun w' (b : Below w.heap.size w w') => LS.agree hl (below_agree b) (fun k (hk : k < w.heap.size) => Nat.lt_of_lt_of_le hk b.size))
  have hmt := Lib.hid (fun w' (b : Below w.heap.size w w') => h.later b)
  replace h := Lib.hid h
  replace hW1 := Lib.hid hW1
  replace b1 := Lib.hid b1
  replace hr := Lib.hid hr
  obtain ⟨n, hn⟩ : ∃ n, n = l.len := ⟨_, rfl⟩
  rw [← hn] at hfit hlat ⊢
  clear hl hl1 hR hn
  go_enter Tryz.func154, Tryz.ntmps154
  go_wp2_with fail
  refine (troom_any B w P out h.out).mono ?_
  rintro e0 w0 ⟨rfl, rfl⟩
  rw [← hr.out]
  go_upto_region 2 with fail
  rw [← hW1.out]
  go_wp2_with fail
  refine hfit.out.mono ?_
  rintro e1 w1 (⟨y1, rfl, h6, k6⟩ | ⟨n1, rfl, k6⟩)
  · have d1 := b1.out.trans (k6.below (B := w0.heap.size) (Nat.le_refl _) (by omega))
    have l1 := Lib.hid (hlat.out w1 d1)
    replace d1 := Lib.hid d1
    clear h6 k6
    by_cases ho : M.ok 40 l
    · replace ho := Lib.hid ho
      go_wp2_with fail
      refine (Encode_yes l _ w1 l1.out ho.out (by omega)).mono ?_
      rintro e2 w2 ⟨u, rfl, _, hu, b2⟩
      rw [← hys'.out] at hu
      have d2 := d1.out.trans (b2.mono d1.out.size)
      have t2 := Lib.hid (hmt.out w2 d2)
      have D2 := Lib.hid (Wro.ofBelow hPl d2)
      have hu' := Lib.hid hu
      obtain ⟨U, uc, rfl, _⟩ := hu
      have hbl := Lib.hid (show ys.length ≤ 1000000000 by omega)
      clear hyl
      clear b2 d2
      go_wp2_with fail
      refine (tput_any B w2 P out _ _ t2.out hu'.out hbl.out).mono ?_
      intro e3 w3 k3
      have this := Lib.hid ((k3.pre D2.out).iff (C := ok) ⟨fun _ => hiff.out.2 ho.out, fun _ => trivial⟩)
      rcases k3 with ⟨_, _, rfl, _⟩ | ⟨_, rfl, _⟩
      all_goals
        go_wp2_with fail
        go_ret
        exact this.out
    · replace ho := Lib.hid ho
      go_wp2_with fail
      refine (Encode_no l _ w1 l1.out ho.out).mono ?_
      rintro e2 w2 ⟨rfl, b2⟩
      have this := Lib.hid ((WrPost.no (B := B) (P := P) (out := out) (w := w2) (ys := ys) (C := ok) (fun hh => ho.out (hiff.out.1 hh))).pre (Wro.ofBelow hPl (d1.out.trans (b2.mono d1.out.size))))
      clear b2
      go_wp2_with fail
      go_ret
      exact this.out
  · have d1 := b1.out.trans (k6.below (B := w0.heap.size) (Nat.le_refl _) (by omega))
    have this : WrPost B P out ok ys w0 (.returned (.bool false)) w1 := .inr ⟨fun hh => by
      have h1 := hszl.out (hiff.out.1 hh.1)
      have h2 := hh.2
      have h3 := hr.out
      omega, rfl, Wro.ofBelow hPl d1⟩
    replace this := Lib.hid this
    clear k6 d1
    go_wp2_with fail
    go_ret
    exact this.out
theorem one_LS {w : World} {S : Nat → Prop} {g : Nat} {h : M.Hd} {b e : M.L} {vL vB vE : Value} (hi : ItemAt w g 0 h vL vB vE) (hr : Rng h) (hL : NS w S vL h.labels) (hB : LS w S vB b) (hE : LS w S vE e) (hg : S g) : LS w S (.slice (some ⟨g, 0, none⟩) 1 1) (.cons h b e .nil) :=
  ⟨_, _, rfl, ⟨by simp [M.L.len], by simp [M.L.len], by unfold maxLen; omega⟩, .inr ⟨g, 0, rfl, hg, vL, vB, vE, hi, hr, hL, hB, hE, trivial⟩⟩
theorem cConst_ok (x : M.L) : M.cConst.ok x ↔ M.cExpr.ok x ∧ M.isConst x = true := Iff.rfl
theorem cConst_wr (x : M.L) : M.cConst.wr x = M.cExpr.wr x := rfl
theorem isConst_one (h : M.Hd) (b e : M.L) : M.isConst (.cons h b e .nil) = (h.op == 65 || h.op == 66 || h.op == 35) := rfl
set_option maxRecDepth 100000 in
set_option maxHeartbeats 4000000 in
theorem tconst_any (B : Nat) (w : World) (P : Nat) (out : List Nat) (x : M.L) (cs : List Value) (h : MTx B w P out) (his : rIns.is w (· < B) x cs) (hs : x.sz ≤ 24000) :
    Calls Tryz.prog 150 #[.pointer (some ⟨P, 0, none⟩), .agg cs.toArray] w (WrPost B P out (M.cConst.ok x) (M.cConst.wr x) w) := by
  obtain ⟨hd, b, e, vL, vB, vE, rfl, rfl, hr, hL, hB, hE⟩ := his
  obtain ⟨A1, c1, rfl, _⟩ := hL.form
  obtain ⟨A2, c2, rfl, _⟩ := LS.form hB
  obtain ⟨A3, c3, rfl, _⟩ := LS.form hE
  rw [cConst_wr]
  obtain ⟨ys, hys⟩ : ∃ ys, ys = M.cExpr.wr (.cons hd b e .nil) := ⟨_, rfl⟩
  obtain ⟨ok, hok⟩ : ∃ ok, ok = M.cExpr.ok (.cons hd b e .nil) := ⟨_, rfl⟩
  obtain ⟨ok2, hok2⟩ : ∃ ok2, ok2 = M.cConst.ok (.cons hd b e .nil) := ⟨_, rfl⟩
  have hiff : ok2 ↔ ok ∧ (hd.op == 65 || hd.op == 66 || hd.op == 35) = true := by rw [hok2, hok, cConst_ok, isConst_one]
  rw [← hys, ← hok2]
  have hnn := h.nn
  have hPl := h.lt
  obtain ⟨W0, hW0⟩ : ∃ W0, W0 = w.alloc (.cells (item9 hd (.slice A1 hd.labels.length c1) (.slice A2 b.len c2) (.slice A3 e.len c3)).toArray 68) := ⟨_, rfl⟩
  obtain ⟨W1, hW1⟩ : ∃ W1, W1 = W0.alloc (.cells (item9 hd (.slice A1 hd.labels.length c1) (.slice A2 b.len c2) (.slice A3 e.len c3)).toArray 68) := ⟨_, rfl⟩
  have b0 : Below w.heap.size w W0 := by rw [hW0]; exact (Below.refl _ _).alloc (Nat.le_refl _) _
  have b1 : Below W0.heap.size W0 W1 := by rw [hW1]; exact (Below.refl _ _).alloc (Nat.le_refl _) _
  have b01 := b0.trans (b1.mono b0.size)
  have hz0 : W0.heap.size = w.heap.size + 1 := by rw [hW0]; simp
  have hz1 : W1.heap.size = W0.heap.size + 1 := by rw [hW1]; simp
  have hex := Lib.hid (texpr_any B W1 P out (.cons hd b e .nil) (.slice (some ⟨W0.heap.size, 0, none⟩) 1 1) (h.later b01) (by
    have ag : Agree (· < B) w W1 := below_agree (b01.mono hnn)
    have up : ∀ k, k < B → k < W1.heap.size := fun k hk => by omega
    refine one_LS ?_ hr (hL.agree ag up) (LS.agree hB ag up) (LS.agree hE ag up) (by omega)
    rw [hW1]
    constructor <;> simp [item9]) hs)
  rw [← hys, ← hok] at hex
  have D1 := Lib.hid (Wro.ofBelow hPl b01)
  have D0 := Lib.hid (Wro.ofBelow hPl b0)
  have q : ItemAt W0 w.heap.size 0 hd (.slice A1 hd.labels.length c1) (.slice A2 b.len c2) (.slice A3 e.len c3) := by
    rw [hW0]
    constructor <;> simp [item9]
  obtain ⟨q0, q1, q2, q3, q4, q5, q6, q7, q8⟩ := q
  simp only [Nat.zero_add] at q0 q1 q2 q3 q4 q5 q6 q7 q8
  have e0 := Lib.hid (show W0 = w.alloc (.cells #[.int .i64 hd.op, .int .i64 hd.ty, .int .i64 hd.ix, .int .i64 hd.al, .int .i64 hd.ofs, .int .i64 hd.val, .slice A1 hd.labels.length c1, .slice A2 b.len c2, .slice A3 e.len c3] 68) from hW0)
  have e1 := Lib.hid (show W1 = W0.alloc (.cells #[.int .i64 hd.op, .int .i64 hd.ty, .int .i64 hd.ix, .int .i64 hd.al, .int .i64 hd.ofs, .int .i64 hd.val, .slice A1 hd.labels.length c1, .slice A2 b.len c2, .slice A3 e.len c3] 68) from hW1)
  show Calls Tryz.prog 150 #[.pointer (some ⟨P, 0, none⟩), .agg #[.int .i64 hd.op, .int .i64 hd.ty, .int .i64 hd.ix, .int .i64 hd.al, .int .i64 hd.ofs, .int .i64 hd.val, .slice A1 hd.labels.length c1, .slice A2 b.len c2, .slice A3 e.len c3]] w _
  replace hiff := Lib.hid hiff
  replace hz0 := Lib.hid hz0
  replace hz1 := Lib.hid hz1
  clear hys hok hok2 hW0 hW1 b0 b1 b01 hL hB hE hr h hs
  obtain ⟨m1, hm1⟩ : ∃ m1, m1 = hd.labels.length := ⟨_, rfl⟩
  obtain ⟨m2, hm2⟩ : ∃ m2, m2 = b.len := ⟨_, rfl⟩
  obtain ⟨m3, hm3⟩ : ∃ m3, m3 = e.len := ⟨_, rfl⟩
  rw [← hm1] at e0 e1 q6 ⊢
  rw [← hm2] at e0 e1 q7 ⊢
  rw [← hm3] at e0 e1 q8 ⊢
  clear hm1 hm2 hm3
  cases hc : (hd.op == 65 || hd.op == 66 || hd.op == 35) with
  | true =>
    rw [hc] at hiff
    have hcc := Lib.hid hc
    clear hc
    go_enter Tryz.func150, Tryz.ntmps150
    go_upto_region 1 with fail
    rw [← e0.out]
    go_wp2_with fail
    refine (isConstant_any _ _).mono ?_
    rintro e9 w9 ⟨rfl, rfl⟩
    rw [hcc.out]
    go_wp2_with fail
    rw [← e1.out]
    refine hex.out.mono ?_
    intro e2 w2 k2
    have this := Lib.hid ((k2.pre D1.out).iff (C := ok2) ⟨fun hh => hiff.out.2 ⟨hh, by trivial⟩, fun hh => (hiff.out.1 hh).1⟩)
    rcases k2 with ⟨_, _, rfl, _⟩ | ⟨_, rfl, _⟩
    all_goals
      go_wp2_with fail
      go_ret
      exact this.out
  | false =>
    rw [hc] at hiff
    have hcc := Lib.hid hc
    clear hc
    have this := Lib.hid ((WrPost.no (B := B) (P := P) (out := out) (w := W0) (ys := ys) (C := ok2) (fun hh => by have := (hiff.out.1 hh).2; cases this)).pre D0.out)
    go_enter Tryz.func150, Tryz.ntmps150
    go_upto_region 1 with fail
    rw [← e0.out]
    go_wp2_with fail
    refine (isConstant_any _ _).mono ?_
    rintro e9 w9 ⟨rfl, rfl⟩
    rw [hcc.out]
    go_wp2_with fail
    go_ret
    exact this.out
end Go.Proofs.YtilaheifccjjeaaGreat
