/-
  What the program's writer of an instruction, and of a list, writes; condition: the text lies in memory from B on, the instructions below B, and they may be.
-/
import Derived.Test.YtjapcalndolamaaWriters
namespace Go.Proofs.Ytjapcalndolamaa
open Go.RowKit
/-- What the loop over the parts keeps up. -/
def TRel (B P N d : Nat) (full : List Nat) (m : Nat) (h : M.Hd) (b e : M.L) (vL vB vE : Value) (g o : Nat) (w : World) (i : Value) (w' : World) : Prop :=
  ∃ (k : Nat) (out : List Nat), k ≤ 10 ∧ i = .int .i64 (k : Nat) ∧ TextAt B w' P out ∧ Below B w w' ∧ Wr1 B N d w' h b e vL vB vE g o ∧ full = out ++ M.wrAll m h b e (10 - k)
theorem TextAt.cells {B : Nat} {w : World} {P : Nat} {out : List Nat} (h : TextAt B w P out) : ∃ vb, ∀ j u, (textRow P vb)[j]? = some u → w.cell? ⟨P, j, none⟩ = some u := by
  obtain ⟨vb, h⟩ := h
  exact ⟨vb, fun j u hu => by rw [cell_of_row w P j _ _ (0, 0) h.row]; exact hu⟩
set_option maxRecDepth 100000 in
set_option maxHeartbeats 8000000 in
theorem tinstr_any (N : Nat) (ih : TListOk N) (B d : Nat) (w : World) (P : Nat) (out : List Nat) (h : M.Hd) (b e : M.L) (vL vB vE : Value) (g o : Nat) (ht : TextAt B w P out) (q : Wr1 B N d w h b e vL vB vE g o) (hl : out.length + (M.enc (.cons h b e .nil)).length ≤ 1000000) :
    Calls Try.prog 68 #[.pointer (some ⟨P, 0, none⟩), .pointer (some ⟨g, o, none⟩)] w (WPostT B P (out ++ M.enc (.cons h b e .nil)) w) := by
  obtain ⟨hfl, _, _, he4, hk0⟩ := okI_subs q.ok
  have hops := M.kind_op h.op hk0
  obtain ⟨x, hx⟩ := Int.eq_ofNat_of_zero_le hops.1
  have hx2 : x < 256 := by omega
  have hc := q.item.c0
  have hg := q.hg
  have hBP := ht.hB
  have henc : M.enc (.cons h b e .nil) = [x] ++ M.wrAll (M.mask h.op) h b e 10 := by
    rw [M.enc_cons, M.wr_all h b e hk0 he4, hx, Int.toNat_natCast]
    simp [M.enc]
  rw [henc] at hl ⊢
  have hml := mask_lt h.op
  obtain ⟨m, hm⟩ : ∃ m, m = M.mask h.op := ⟨_, rfl⟩
  have hpk := Lib.hid (fun w => partsOf_yes h.op w hk0)
  rw [← hm] at hl hml hpk ⊢
  obtain ⟨full, hfull⟩ : ∃ full, full = out ++ ([x] ++ M.wrAll m h b e 10) := ⟨_, rfl⟩
  have hlen : full.length ≤ 1000000 := by rw [hfull, List.length_append]; exact hl
  rw [← hfull]
  rw [hx] at hc hpk
  simp only [List.length_append, List.length_cons, List.length_nil] at hl
  replace hfl := Lib.hid hfl
  replace hfull := Lib.hid hfull
  replace henc := Lib.hid henc
  replace hx := Lib.hid hx
  replace hk0 := Lib.hid hk0
  replace he4 := Lib.hid he4
  replace hops := Lib.hid hops
  replace hm := Lib.hid hm
  replace q := Lib.hid q
  replace ht := Lib.hid ht
  replace ih := Lib.hid ih
  go_enter Try.func68, Try.ntmps68
  go_wp2_with fail
  refine (tfixed_any B _ P out x ht.out hx2 (by omega)).mono ?_
  rintro e1 w1 ⟨rfl, t1, b1⟩
  have hc1 : w1.cell? ⟨g, o, none⟩ = some (.int .i64 (x : Nat)) := by rw [b1.cell (by exact hg)]; exact hc
  have q1 := q.out.later b1
  replace t1 := Lib.hid t1
  replace b1 := Lib.hid b1
  replace q1 := Lib.hid q1
  go_wp2_with fail
  refine (hpk.out _).mono ?_
  rintro e2 w2 ⟨rfl, b2⟩
  have hsz : B ≤ w1.heap.size := by have := t1.out.hB; omega
  have rel0 := Lib.hid (show TRel B P N d full m h b e vL vB vE g o w (.int .i64 ((0 : Nat) : Int)) w2 from ⟨0, out ++ [x], by omega, rfl, t1.out.later b2, b1.out.trans (b2.mono hsz), q1.out.later (b2.mono hsz), by rw [hfull.out, List.append_assoc]⟩)
  clear b2 t1 b1 q1 hc1
  go_wp2_with fail
  go_loopw [22] (fun i w' => TRel B P N d full m h b e vL vB vE g o w i w') (fun i _ => 10 - (intOf i).toNat)
  case atStart => exact rel0.out
  case round =>
    obtain ⟨k, out1, hk10, rfl, hT, hb, q1, hrest⟩ := hrel
    clear rel0
    have hks : k = 0 ∨ k = 1 ∨ k = 2 ∨ k = 3 ∨ k = 4 ∨ k = 5 ∨ k = 6 ∨ k = 7 ∨ k = 8 ∨ k = 9 ∨ k = 10 := by omega
    obtain ⟨vb, hcells⟩ := hT.cells
    replace hT := Lib.hid hT
    replace hb := Lib.hid hb
    replace q1 := Lib.hid q1
    replace hrest := Lib.hid hrest
    replace hcells := Lib.hid hcells
    clear hk10
    rcases hks with rfl | rfl | rfl | rfl | rfl | rfl | rfl | rfl | rfl | rfl | rfl
    · -- part 0: blockType
      have hwa := Lib.hid (M.wr_at m 0 h b e (by omega))
      cases hmh : hasB m 0 with
      | false =>
        replace hmh := Lib.hid hmh
        go_wp2_with fail
        refine (has_any m 0 _ hml (by omega)).mono ?_
        rintro e1 w1 ⟨rfl, rfl⟩
        rw [hmh.out]
        go_wp2_with fail
        exact ⟨⟨1, out1, by omega, rfl, hT.out, hb.out, q1.out, by rw [hrest.out, hwa.out, if_neg (by rw [hmh.out]; decide)]; rfl⟩, by simp [intOf]⟩
      | true =>
        have hwr := Lib.hid (show full = out1 ++ (M.wr 0 h b e ++ M.wrAll m h b e (10 - 1)) by rw [hrest.out, hwa.out, if_pos hmh])
        rw [hm.out] at hmh
        replace hmh := Lib.hid hmh
        have hmt := Lib.hid (show hasB m 0 = true by rw [hm.out]; exact hmh.out)
        have cf : wr.cell? ⟨P, 1, none⟩ = some (.func (.func 58) #[.pointer (some ⟨P, 0, none⟩)] #[]) := hcells.out 1 _ rfl
        go_wp2_with fail
        refine (has_any m 0 _ hml (by omega)).mono ?_
        rintro e1 w1 ⟨rfl, rfl⟩
        rw [hmt.out]
        go_wp2_with fail
        refine (tblockType_any B _ P _ h b e vL vB vE g o hT.out q1.out.item (M.part_ok hfl.out 0 hmh.out (by omega)) (by rw [hwr.out] at hlen; simp only [List.length_append] at hlen ⊢; omega)).mono ?_
        rintro e1 w1 ⟨rfl, t2, b2⟩
        have b3 := Lib.hid (hb.out.trans b2)
        have q2 := Lib.hid (q1.out.later b2)
        replace t2 := Lib.hid t2
        clear b2 cf
        go_wp2_with fail
        exact ⟨⟨1, _, by omega, rfl, t2.out, b3.out, q2.out, by first | (rw [hwr.out, List.append_assoc]; done) | (rw [hwr.out, List.append_assoc]; rfl)⟩, by simp [intOf]⟩
    · -- part 1: labels
      have hwa := Lib.hid (M.wr_at m 1 h b e (by omega))
      cases hmh : hasB m 1 with
      | false =>
        replace hmh := Lib.hid hmh
        go_wp2_with fail
        refine (has_any m 1 _ hml (by omega)).mono ?_
        rintro e1 w1 ⟨rfl, rfl⟩
        rw [hmh.out]
        go_wp2_with fail
        exact ⟨⟨2, out1, by omega, rfl, hT.out, hb.out, q1.out, by rw [hrest.out, hwa.out, if_neg (by rw [hmh.out]; decide)]; rfl⟩, by simp [intOf]⟩
      | true =>
        have hwr := Lib.hid (show full = out1 ++ (M.wr 1 h b e ++ M.wrAll m h b e (10 - 2)) by rw [hrest.out, hwa.out, if_pos hmh])
        rw [hm.out] at hmh
        replace hmh := Lib.hid hmh
        have hmt := Lib.hid (show hasB m 1 = true by rw [hm.out]; exact hmh.out)
        have cf : wr.cell? ⟨P, 2, none⟩ = some (.func (.func 59) #[.pointer (some ⟨P, 0, none⟩)] #[]) := hcells.out 2 _ rfl
        go_wp2_with fail
        refine (has_any m 1 _ hml (by omega)).mono ?_
        rintro e1 w1 ⟨rfl, rfl⟩
        rw [hmt.out]
        go_wp2_with fail
        refine (tlabels_any B _ P _ h b e vL vB vE g o hT.out q1.out.item q1.out.hg q1.out.lab (M.part_ok hfl.out 1 hmh.out (by omega)) (by rw [hwr.out] at hlen; simp only [List.length_append] at hlen ⊢; omega)).mono ?_
        rintro e1 w1 ⟨rfl, t2, b2⟩
        have b3 := Lib.hid (hb.out.trans b2)
        have q2 := Lib.hid (q1.out.later b2)
        replace t2 := Lib.hid t2
        clear b2 cf
        go_wp2_with fail
        exact ⟨⟨2, _, by omega, rfl, t2.out, b3.out, q2.out, by first | (rw [hwr.out, List.append_assoc]; done) | (rw [hwr.out, List.append_assoc]; rfl)⟩, by simp [intOf]⟩
    · -- part 2: index
      have hwa := Lib.hid (M.wr_at m 2 h b e (by omega))
      cases hmh : hasB m 2 with
      | false =>
        replace hmh := Lib.hid hmh
        go_wp2_with fail
        refine (has_any m 2 _ hml (by omega)).mono ?_
        rintro e1 w1 ⟨rfl, rfl⟩
        rw [hmh.out]
        go_wp2_with fail
        exact ⟨⟨3, out1, by omega, rfl, hT.out, hb.out, q1.out, by rw [hrest.out, hwa.out, if_neg (by rw [hmh.out]; decide)]; rfl⟩, by simp [intOf]⟩
      | true =>
        have hwr := Lib.hid (show full = out1 ++ (M.wr 2 h b e ++ M.wrAll m h b e (10 - 3)) by rw [hrest.out, hwa.out, if_pos hmh])
        rw [hm.out] at hmh
        replace hmh := Lib.hid hmh
        have hmt := Lib.hid (show hasB m 2 = true by rw [hm.out]; exact hmh.out)
        have cf : wr.cell? ⟨P, 3, none⟩ = some (.func (.func 60) #[.pointer (some ⟨P, 0, none⟩)] #[]) := hcells.out 3 _ rfl
        go_wp2_with fail
        refine (has_any m 2 _ hml (by omega)).mono ?_
        rintro e1 w1 ⟨rfl, rfl⟩
        rw [hmt.out]
        go_wp2_with fail
        refine (tindex_any B _ P _ h b e vL vB vE g o hT.out q1.out.item (M.part_ok hfl.out 2 hmh.out (by omega)) (by rw [hwr.out] at hlen; simp only [List.length_append] at hlen ⊢; omega)).mono ?_
        rintro e1 w1 ⟨rfl, t2, b2⟩
        have b3 := Lib.hid (hb.out.trans b2)
        have q2 := Lib.hid (q1.out.later b2)
        replace t2 := Lib.hid t2
        clear b2 cf
        go_wp2_with fail
        exact ⟨⟨3, _, by omega, rfl, t2.out, b3.out, q2.out, by first | (rw [hwr.out, List.append_assoc]; done) | (rw [hwr.out, List.append_assoc]; rfl)⟩, by simp [intOf]⟩
    · -- part 3: align
      have hwa := Lib.hid (M.wr_at m 3 h b e (by omega))
      cases hmh : hasB m 3 with
      | false =>
        replace hmh := Lib.hid hmh
        go_wp2_with fail
        refine (has_any m 3 _ hml (by omega)).mono ?_
        rintro e1 w1 ⟨rfl, rfl⟩
        rw [hmh.out]
        go_wp2_with fail
        exact ⟨⟨4, out1, by omega, rfl, hT.out, hb.out, q1.out, by rw [hrest.out, hwa.out, if_neg (by rw [hmh.out]; decide)]; rfl⟩, by simp [intOf]⟩
      | true =>
        have hwr := Lib.hid (show full = out1 ++ (M.wr 3 h b e ++ M.wrAll m h b e (10 - 4)) by rw [hrest.out, hwa.out, if_pos hmh])
        rw [hm.out] at hmh
        replace hmh := Lib.hid hmh
        have hmt := Lib.hid (show hasB m 3 = true by rw [hm.out]; exact hmh.out)
        have cf : wr.cell? ⟨P, 4, none⟩ = some (.func (.func 61) #[.pointer (some ⟨P, 0, none⟩)] #[]) := hcells.out 4 _ rfl
        go_wp2_with fail
        refine (has_any m 3 _ hml (by omega)).mono ?_
        rintro e1 w1 ⟨rfl, rfl⟩
        rw [hmt.out]
        go_wp2_with fail
        refine (talign_any B _ P _ h b e vL vB vE g o hT.out q1.out.item (M.part_ok hfl.out 3 hmh.out (by omega)) (by rw [hwr.out] at hlen; simp only [List.length_append] at hlen ⊢; omega)).mono ?_
        rintro e1 w1 ⟨rfl, t2, b2⟩
        have b3 := Lib.hid (hb.out.trans b2)
        have q2 := Lib.hid (q1.out.later b2)
        replace t2 := Lib.hid t2
        clear b2 cf
        go_wp2_with fail
        exact ⟨⟨4, _, by omega, rfl, t2.out, b3.out, q2.out, by first | (rw [hwr.out, List.append_assoc]; done) | (rw [hwr.out, List.append_assoc]; rfl)⟩, by simp [intOf]⟩
    · -- part 4: offset
      have hwa := Lib.hid (M.wr_at m 4 h b e (by omega))
      cases hmh : hasB m 4 with
      | false =>
        replace hmh := Lib.hid hmh
        go_wp2_with fail
        refine (has_any m 4 _ hml (by omega)).mono ?_
        rintro e1 w1 ⟨rfl, rfl⟩
        rw [hmh.out]
        go_wp2_with fail
        exact ⟨⟨5, out1, by omega, rfl, hT.out, hb.out, q1.out, by rw [hrest.out, hwa.out, if_neg (by rw [hmh.out]; decide)]; rfl⟩, by simp [intOf]⟩
      | true =>
        have hwr := Lib.hid (show full = out1 ++ (M.wr 4 h b e ++ M.wrAll m h b e (10 - 5)) by rw [hrest.out, hwa.out, if_pos hmh])
        rw [hm.out] at hmh
        replace hmh := Lib.hid hmh
        have hmt := Lib.hid (show hasB m 4 = true by rw [hm.out]; exact hmh.out)
        have cf : wr.cell? ⟨P, 5, none⟩ = some (.func (.func 62) #[.pointer (some ⟨P, 0, none⟩)] #[]) := hcells.out 5 _ rfl
        go_wp2_with fail
        refine (has_any m 4 _ hml (by omega)).mono ?_
        rintro e1 w1 ⟨rfl, rfl⟩
        rw [hmt.out]
        go_wp2_with fail
        refine (toffset_any B _ P _ h b e vL vB vE g o hT.out q1.out.item (M.part_ok hfl.out 4 hmh.out (by omega)) (by rw [hwr.out] at hlen; simp only [List.length_append] at hlen ⊢; omega)).mono ?_
        rintro e1 w1 ⟨rfl, t2, b2⟩
        have b3 := Lib.hid (hb.out.trans b2)
        have q2 := Lib.hid (q1.out.later b2)
        replace t2 := Lib.hid t2
        clear b2 cf
        go_wp2_with fail
        exact ⟨⟨5, _, by omega, rfl, t2.out, b3.out, q2.out, by first | (rw [hwr.out, List.append_assoc]; done) | (rw [hwr.out, List.append_assoc]; rfl)⟩, by simp [intOf]⟩
    · -- part 5: nought
      have hwa := Lib.hid (M.wr_at m 5 h b e (by omega))
      cases hmh : hasB m 5 with
      | false =>
        replace hmh := Lib.hid hmh
        go_wp2_with fail
        refine (has_any m 5 _ hml (by omega)).mono ?_
        rintro e1 w1 ⟨rfl, rfl⟩
        rw [hmh.out]
        go_wp2_with fail
        exact ⟨⟨6, out1, by omega, rfl, hT.out, hb.out, q1.out, by rw [hrest.out, hwa.out, if_neg (by rw [hmh.out]; decide)]; rfl⟩, by simp [intOf]⟩
      | true =>
        have hwr := Lib.hid (show full = out1 ++ (M.wr 5 h b e ++ M.wrAll m h b e (10 - 6)) by rw [hrest.out, hwa.out, if_pos hmh])
        rw [hm.out] at hmh
        replace hmh := Lib.hid hmh
        have hmt := Lib.hid (show hasB m 5 = true by rw [hm.out]; exact hmh.out)
        have cf : wr.cell? ⟨P, 6, none⟩ = some (.func (.func 63) #[.pointer (some ⟨P, 0, none⟩)] #[]) := hcells.out 6 _ rfl
        go_wp2_with fail
        refine (has_any m 5 _ hml (by omega)).mono ?_
        rintro e1 w1 ⟨rfl, rfl⟩
        rw [hmt.out]
        go_wp2_with fail
        refine (tnought_any B _ P _ h b e _ hT.out (by rw [hwr.out] at hlen; simp only [List.length_append] at hlen ⊢; omega)).mono ?_
        rintro e1 w1 ⟨rfl, t2, b2⟩
        have b3 := Lib.hid (hb.out.trans b2)
        have q2 := Lib.hid (q1.out.later b2)
        replace t2 := Lib.hid t2
        clear b2 cf
        go_wp2_with fail
        exact ⟨⟨6, _, by omega, rfl, t2.out, b3.out, q2.out, by first | (rw [hwr.out, List.append_assoc]; done) | (rw [hwr.out, List.append_assoc]; rfl)⟩, by simp [intOf]⟩
    · -- part 6: val
      have hwa := Lib.hid (M.wr_at m 6 h b e (by omega))
      cases hmh : hasB m 6 with
      | false =>
        replace hmh := Lib.hid hmh
        go_wp2_with fail
        refine (has_any m 6 _ hml (by omega)).mono ?_
        rintro e1 w1 ⟨rfl, rfl⟩
        rw [hmh.out]
        go_wp2_with fail
        exact ⟨⟨7, out1, by omega, rfl, hT.out, hb.out, q1.out, by rw [hrest.out, hwa.out, if_neg (by rw [hmh.out]; decide)]; rfl⟩, by simp [intOf]⟩
      | true =>
        have hwr := Lib.hid (show full = out1 ++ (M.wr 6 h b e ++ M.wrAll m h b e (10 - 7)) by rw [hrest.out, hwa.out, if_pos hmh])
        rw [hm.out] at hmh
        replace hmh := Lib.hid hmh
        have hmt := Lib.hid (show hasB m 6 = true by rw [hm.out]; exact hmh.out)
        have cf : wr.cell? ⟨P, 7, none⟩ = some (.func (.func 64) #[.pointer (some ⟨P, 0, none⟩)] #[]) := hcells.out 7 _ rfl
        go_wp2_with fail
        refine (has_any m 6 _ hml (by omega)).mono ?_
        rintro e1 w1 ⟨rfl, rfl⟩
        rw [hmt.out]
        go_wp2_with fail
        refine (tval_any B _ P _ h vL vB vE g o hT.out q1.out.item q1.out.rng (by
          have h9 : M.wr 6 h b e = M.putS 10 h.val := rfl
          rw [hwr.out, h9] at hlen
          simp only [List.length_append] at hlen
          omega)).mono ?_
        rintro e1 w1 ⟨rfl, t2, b2⟩
        have b3 := Lib.hid (hb.out.trans b2)
        have q2 := Lib.hid (q1.out.later b2)
        replace t2 := Lib.hid t2
        clear b2 cf
        go_wp2_with fail
        exact ⟨⟨7, _, by omega, rfl, t2.out, b3.out, q2.out, by first | (rw [hwr.out, List.append_assoc]; done) | (rw [hwr.out, List.append_assoc]; rfl)⟩, by simp [intOf]⟩
    · -- part 7: body
      have hwa := Lib.hid (M.wr_at m 7 h b e (by omega))
      cases hmh : hasB m 7 with
      | false =>
        replace hmh := Lib.hid hmh
        go_wp2_with fail
        refine (has_any m 7 _ hml (by omega)).mono ?_
        rintro e1 w1 ⟨rfl, rfl⟩
        rw [hmh.out]
        go_wp2_with fail
        exact ⟨⟨8, out1, by omega, rfl, hT.out, hb.out, q1.out, by rw [hrest.out, hwa.out, if_neg (by rw [hmh.out]; decide)]; rfl⟩, by simp [intOf]⟩
      | true =>
        have hwr := Lib.hid (show full = out1 ++ (M.wr 7 h b e ++ M.wrAll m h b e (10 - 8)) by rw [hrest.out, hwa.out, if_pos hmh])
        rw [hm.out] at hmh
        replace hmh := Lib.hid hmh
        have hmt := Lib.hid (show hasB m 7 = true by rw [hm.out]; exact hmh.out)
        have cf : wr.cell? ⟨P, 8, none⟩ = some (.func (.func 65) #[.pointer (some ⟨P, 0, none⟩)] #[]) := hcells.out 8 _ rfl
        go_wp2_with fail
        refine (has_any m 7 _ hml (by omega)).mono ?_
        rintro e1 w1 ⟨rfl, rfl⟩
        rw [hmt.out]
        go_wp2_with fail
        refine (tbody_any N ih.out B d _ P _ h b e vL vB vE g o hT.out q1.out (by rw [hwr.out] at hlen; simp only [List.length_append] at hlen ⊢; omega)).mono ?_
        rintro e1 w1 ⟨rfl, t2, b2⟩
        have b3 := Lib.hid (hb.out.trans b2)
        have q2 := Lib.hid (q1.out.later b2)
        replace t2 := Lib.hid t2
        clear b2 cf
        go_wp2_with fail
        exact ⟨⟨8, _, by omega, rfl, t2.out, b3.out, q2.out, by first | (rw [hwr.out, List.append_assoc]; done) | (rw [hwr.out, List.append_assoc]; rfl)⟩, by simp [intOf]⟩
    · -- part 8: otherwise
      have hwa := Lib.hid (M.wr_at m 8 h b e (by omega))
      cases hmh : hasB m 8 with
      | false =>
        replace hmh := Lib.hid hmh
        go_wp2_with fail
        refine (has_any m 8 _ hml (by omega)).mono ?_
        rintro e1 w1 ⟨rfl, rfl⟩
        rw [hmh.out]
        go_wp2_with fail
        exact ⟨⟨9, out1, by omega, rfl, hT.out, hb.out, q1.out, by rw [hrest.out, hwa.out, if_neg (by rw [hmh.out]; decide)]; rfl⟩, by simp [intOf]⟩
      | true =>
        have hwr := Lib.hid (show full = out1 ++ (M.wr 8 h b e ++ M.wrAll m h b e (10 - 9)) by rw [hrest.out, hwa.out, if_pos hmh])
        rw [hm.out] at hmh
        replace hmh := Lib.hid hmh
        have hmt := Lib.hid (show hasB m 8 = true by rw [hm.out]; exact hmh.out)
        have cf : wr.cell? ⟨P, 9, none⟩ = some (.func (.func 66) #[.pointer (some ⟨P, 0, none⟩)] #[]) := hcells.out 9 _ rfl
        go_wp2_with fail
        refine (has_any m 8 _ hml (by omega)).mono ?_
        rintro e1 w1 ⟨rfl, rfl⟩
        rw [hmt.out]
        go_wp2_with fail
        refine (totherwise_any N ih.out B d _ P _ h b e vL vB vE g o hT.out q1.out (by rw [hwr.out] at hlen; simp only [List.length_append] at hlen ⊢; omega)).mono ?_
        rintro e1 w1 ⟨rfl, t2, b2⟩
        have b3 := Lib.hid (hb.out.trans b2)
        have q2 := Lib.hid (q1.out.later b2)
        replace t2 := Lib.hid t2
        clear b2 cf
        go_wp2_with fail
        exact ⟨⟨9, _, by omega, rfl, t2.out, b3.out, q2.out, by first | (rw [hwr.out, List.append_assoc]; done) | (rw [hwr.out, List.append_assoc]; rfl)⟩, by simp [intOf]⟩
    · -- part 9: end
      have hwa := Lib.hid (M.wr_at m 9 h b e (by omega))
      cases hmh : hasB m 9 with
      | false =>
        replace hmh := Lib.hid hmh
        go_wp2_with fail
        refine (has_any m 9 _ hml (by omega)).mono ?_
        rintro e1 w1 ⟨rfl, rfl⟩
        rw [hmh.out]
        go_wp2_with fail
        exact ⟨⟨10, out1, by omega, rfl, hT.out, hb.out, q1.out, by rw [hrest.out, hwa.out, if_neg (by rw [hmh.out]; decide)]; rfl⟩, by simp [intOf]⟩
      | true =>
        have hwr := Lib.hid (show full = out1 ++ (M.wr 9 h b e ++ M.wrAll m h b e (10 - 10)) by rw [hrest.out, hwa.out, if_pos hmh])
        rw [hm.out] at hmh
        replace hmh := Lib.hid hmh
        have hmt := Lib.hid (show hasB m 9 = true by rw [hm.out]; exact hmh.out)
        have cf : wr.cell? ⟨P, 10, none⟩ = some (.func (.func 67) #[.pointer (some ⟨P, 0, none⟩)] #[]) := hcells.out 10 _ rfl
        go_wp2_with fail
        refine (has_any m 9 _ hml (by omega)).mono ?_
        rintro e1 w1 ⟨rfl, rfl⟩
        rw [hmt.out]
        go_wp2_with fail
        refine (tend_any B _ P _ h b e _ hT.out (by rw [hwr.out] at hlen; simp only [List.length_append] at hlen ⊢; omega)).mono ?_
        rintro e1 w1 ⟨rfl, t2, b2⟩
        have b3 := Lib.hid (hb.out.trans b2)
        have q2 := Lib.hid (q1.out.later b2)
        replace t2 := Lib.hid t2
        clear b2 cf
        go_wp2_with fail
        exact ⟨⟨10, _, by omega, rfl, t2.out, b3.out, q2.out, by first | (rw [hwr.out, List.append_assoc]; done) | (rw [hwr.out, List.append_assoc]; rfl)⟩, by simp [intOf]⟩
    · have hfin := Lib.hid (show full = out1 by rw [hrest.out]; simp [M.wrAll])
      go_wp2_with fail
      go_end0
      exact ⟨rfl, by rw [hfin.out]; exact hT.out, hb.out⟩
set_option maxRecDepth 100000 in
set_option maxHeartbeats 4000000 in
theorem tlist_of (N : Nat) (ih : TListOk N) : TListOk (N + 1) := by
  intro B w P out l v d hN ht hls hok hl
  obtain ⟨A, c, rfl, hf1, hf2, hf3⟩ := LS.form hls
  unfold maxLen at hf3
  have hBP := ht.hB
  replace ht := Lib.hid ht
  replace hls := Lib.hid hls
  replace hok := Lib.hid hok
  replace ih := Lib.hid ih
  obtain ⟨n, hn⟩ : ∃ n, n = l.len := ⟨_, rfl⟩
  rw [← hn] at hf1 hf2 hls ⊢
  replace hn := Lib.hid hn
  go_enter Try.func35, Try.ntmps35
  go_wp2_with fail
  go_loopw [7] (fun i w' => ∃ k : Nat, k ≤ n ∧ i = .int .i64 k ∧ TextAt B w' P (out ++ M.enc (M.L.take k l)) ∧ Below B w w') (fun i _ => n - (intOf i).toNat)
  case atStart => exact ⟨0, by omega, rfl, by rw [M.take_zero]; simpa [M.enc] using ht.out, Below.refl _ _⟩
  case round =>
    obtain ⟨k, hk, rfl, hT, hb⟩ := hrel
    by_cases hlt : k < n
    · obtain ⟨h, b, e, hnth⟩ := M.nth_of (l := l) (k := k) (by rw [← hn.out]; exact hlt)
      obtain ⟨g, o, vL, vB, vE, rfl, hg, hi, hR, hL, hB, hE⟩ := hls.out.nth' hnth
      have hsz := (M.nth_some hnth).2
      have hst := Lib.hid (show M.enc (M.L.take (k + 1) l) = M.enc (M.L.take k l) ++ M.enc (.cons h b e .nil) by rw [M.take_nth hnth, M.enc_app])
      have hle := M.enc_take l (k + 1)
      rw [hst.out, List.length_append] at hle
      have q0 : Wr1 B N d w h b e vL vB vE g (o + k * 9) := ⟨hi, hg, hR, hL, hB, hE, ok_of_nth hok.out k h b e hnth, by omega, by omega⟩
      have q1 := Lib.hid (q0.later hb)
      clear q0 hi hR hL hB hE hnth
      have t0 : (0 : Int) ≤ (k : Int) := by omega
      have t1 : (k : Int) < (n : Int) := by omega
      replace hT := Lib.hid hT
      replace hb := Lib.hid hb
      go_wp2_with fail
      refine (tinstr_any N ih.out B d _ P _ h b e vL vB vE g (o + k * 9) hT.out q1.out (by simp only [List.length_append]; omega)).mono ?_
      rintro e2 w2 ⟨rfl, t2, b2⟩
      have b3 := Lib.hid (hb.out.trans b2)
      replace t2 := Lib.hid t2
      clear b2
      go_wp2_with fail
      exact ⟨⟨k + 1, by omega, by go_num, by rw [hst.out, ← List.append_assoc]; exact t2.out, b3.out⟩, by simp [intOf]; omega⟩
    · rw [M.take_all l (by rw [← hn.out]; omega)] at hT
      have tlt : decide ((k : Int) < (n : Int)) = false := by simp; omega
      replace hT := Lib.hid hT
      replace hb := Lib.hid hb
      go_wp2_with fail
      go_end0
      exact ⟨rfl, hT.out, hb.out⟩
theorem tlist_any : ∀ N, TListOk N := by
  intro N
  induction N with
  | zero => intro B w P out l v d h; omega
  | succ N ih => exact tlist_of N ih
end Go.Proofs.Ytjapcalndolamaa
