/-
  The walk over a text that keeps its points: it tells them, or that there are none; condition: the bytes lie in memory that was there at the call, and are at most 100000.
-/
import Derived.Test.YtlppgaaepllbiaaWalk
namespace Go.Proofs.Ytlppgaaepllbiaa
open Go.RowKit
set_option maxRecDepth 100000 in
set_option maxHeartbeats 1000000 in
theorem walk_points (v : Value) (bs : List Nat) (w : World) (L : Nat) (hL : L < w.heap.size) (hcL : w.cell? ⟨L, 0, none⟩ = some (.slice none 0 0)) (hzL : w.frozen? ⟨L, 0, none⟩ = false) (hbs : bs.length ≤ 100000) (h : BS w L v bs) :
    Calls Try.prog 20 #[v, .func (.func 21) #[] #[.pointer (some ⟨L, 0, none⟩)]] w (WPost (XP L w.heap.size) L bs w) := by
  obtain ⟨A, c, rfl, h1, h2, h3⟩ := h
  replace h3 := Lib.hid h3
  replace hcL := Lib.hid hcL
  replace hzL := Lib.hid hzL
  replace hbs := Lib.hid hbs
  go_enter Try.func20, Try.ntmps20
  go_wp2
  go_loopw [7] (fun _ w' => WRel (XP L w.heap.size) L bs w w') (fun _ w' => lenAt w' w.heap.size)
  case atStart => exact wrel_start (Nat.le_of_lt hL) h1 h2 h3.out (XP_start hcL.out hzL.out (((Below.refl _ _).alloc (by omega) _).alloc (by simp; omega) _)) rfl
  case round =>
    obtain ⟨done, rest, A', l, c', hd, he, rfl, hcP, h4, h5, hB, hR, hbel, hX⟩ := hrel
    have hlt := Lib.hid (bytes_lt hB)
    replace hd := Lib.hid hd
    replace he := Lib.hid he
    replace hB := Lib.hid hB
    replace hbel := Lib.hid hbel
    replace hX := Lib.hid hX
    unfold maxLen at h5
    by_cases hr : rest.length = 0
    · have HR := Lib.hid hR
      rw [hr] at hcP
      clear hR
      replace hr := Lib.hid hr
      go_wp2
      go_ret
      refine ⟨.inl ⟨done, ⟨hd.out, ?_⟩, rfl, hX.out⟩, hbel.out⟩
      rw [he.out, List.eq_nil_of_length_eq_zero hr.out, List.append_nil]
    · have hne : Hid (rest ≠ []) := Lib.hid (fun h => hr (by rw [h]; rfl))
      obtain ⟨ad, rfl, hadL, hf0, q0⟩ := hB.out 0 (by omega)
      obtain ⟨b0, hb0⟩ : ∃ b0, b0 = rest.getD 0 0 := ⟨_, rfl⟩
      replace hf0 : b0 < 256 := by rw [hb0]; exact hf0
      replace q0 : wr.cell? ad = some (.int .u8 (b0 : Int)) := by rw [hb0]; simpa only [Addr.add, if_true] using q0
      replace hb0 := Lib.hid hb0
      have HR := Lib.hid hR
      obtain ⟨r00, r0, r1, r2, r3, r4, r5⟩ := hR
      have hkinds : b0 < 128 ∨ (128 ≤ b0 ∧ b0 < 192) ∨ (192 ≤ b0 ∧ b0 < 224) ∨ (224 ≤ b0 ∧ b0 < 240) ∨ (240 ≤ b0 ∧ b0 < 248) ∨ 248 ≤ b0 := by omega
      rcases hkinds with kd | ⟨kd, kd'⟩ | ⟨kd, kd'⟩ | ⟨kd, kd'⟩ | ⟨kd, kd'⟩ | kd
      · -- one
        have hK := Lib.hid (show M.Kind 1 (rest.getD 0 0) by rw [← hb0.out]; exact .inl ⟨rfl, by omega⟩)
        have hone := (ones_spec b0 hf0).2.1.2 (by omega)
        go_wp2_with fail
        refine (leadingOnes_any _ _ hf0).mono ?_
        rintro e wx ⟨rfl, rfl⟩
        go_wp2_with fail
        refine (one_any L w.heap.size ad rest.length c' (fun i => rest.getD i 0) _ r0 hcP h4 h5 hB.out (by omega)).mono ?_
        rintro e w2 (⟨p, A', c2, ht, rfl, hbT, h4', h5', hA0⟩ | ⟨ht, rfl, hbT⟩)
        · have hA' := Lib.hid hA0
          replace ht := Lib.hid ht
          replace hbT := Lib.hid hbT
          clear hA0 hone
          go_wp2_with fail
          obtain ⟨vX, x1, x2, x3⟩ := XP_took hX.out hL HR.out hbT.out
          have hdl : done.length ≤ 100000 := done_le he.out hbs.out
          have hz2 : w.heap.size + 2 ≤ w2.heap.size := by have := (HR.out.took hbT.out).1; omega
          refine (points1_any L p done vX (w.heap.size + 2) w2 x2 x1 (by omega) hz2 x3 hdl).mono ?_
          rintro e w3 ⟨rfl, ⟨v', y1, y2⟩, y3, y4⟩
          replace y1 := Lib.hid y1
          replace y2 := Lib.hid y2
          replace y3 := Lib.hid y3
          replace y4 := Lib.hid y4
          clear x1 x2 x3
          go_wp2
          have hst := wrel_step (X := XP L w.heap.size) (w3 := w3) (Nat.le_of_lt hL) hd.out he.out hK.out hlt.out ht.out hbT.out h4' h5' hA'.out HR.out hbel.out (by rw [hcP]; rfl) y4.out ⟨v', y1.out, y3.out, y2.out⟩ (.inl hL)
          exact ⟨hst.1, by rw [lenAt_eq hcP]; exact hst.2⟩
        · have hno := Lib.hid (stuck_by hK.out ht)
          replace hbT := Lib.hid hbT
          clear ht hone
          go_wp2
          go_ret
          refine ⟨.inr ⟨fun ps => ?_, rfl⟩, hbel.out.trans (hbT.out.mono (by have := hbel.out.size; omega))⟩
          rw [he.out]
          exact M.text_stuck hd.out hne.out hno.out
      · have hno := Lib.hid (stuck_kind (rest := rest) (.inl (by rw [← hb0.out]; exact ⟨kd, kd'⟩)))
        have hone := (ones_spec b0 hf0).2.2.1.2 (by omega)
        go_wp2_with fail
        refine (leadingOnes_any _ _ hf0).mono ?_
        rintro e wx ⟨rfl, rfl⟩
        go_wp2_with fail
        refine (none_any _ _).mono ?_
        rintro e wx ⟨rfl, rfl⟩
        go_wp2
        go_ret
        refine ⟨.inr ⟨fun ps => ?_, rfl⟩, hbel.out⟩
        rw [he.out]
        exact M.text_stuck hd.out hne.out hno.out
      · -- two
        have hK := Lib.hid (show M.Kind 2 (rest.getD 0 0) by rw [← hb0.out]; exact .inr (.inl ⟨rfl, by omega, by omega⟩))
        have hone := (ones_spec b0 hf0).2.2.2.1.2 (by omega)
        go_wp2_with fail
        refine (leadingOnes_any _ _ hf0).mono ?_
        rintro e wx ⟨rfl, rfl⟩
        go_wp2_with fail
        refine (two_any L w.heap.size ad rest.length c' (fun i => rest.getD i 0) _ r0 hcP h4 h5 hB.out (by omega)).mono ?_
        rintro e w2 (⟨p, A', c2, ht, rfl, hbT, h4', h5', hA0⟩ | ⟨ht, rfl, hbT⟩)
        · have hA' := Lib.hid hA0
          replace ht := Lib.hid ht
          replace hbT := Lib.hid hbT
          clear hA0 hone
          go_wp2_with fail
          obtain ⟨vX, x1, x2, x3⟩ := XP_took hX.out hL HR.out hbT.out
          have hdl : done.length ≤ 100000 := done_le he.out hbs.out
          have hz2 : w.heap.size + 2 ≤ w2.heap.size := by have := (HR.out.took hbT.out).1; omega
          refine (points1_any L p done vX (w.heap.size + 2) w2 x2 x1 (by omega) hz2 x3 hdl).mono ?_
          rintro e w3 ⟨rfl, ⟨v', y1, y2⟩, y3, y4⟩
          replace y1 := Lib.hid y1
          replace y2 := Lib.hid y2
          replace y3 := Lib.hid y3
          replace y4 := Lib.hid y4
          clear x1 x2 x3
          go_wp2
          have hst := wrel_step (X := XP L w.heap.size) (w3 := w3) (Nat.le_of_lt hL) hd.out he.out hK.out hlt.out ht.out hbT.out h4' h5' hA'.out HR.out hbel.out (by rw [hcP]; rfl) y4.out ⟨v', y1.out, y3.out, y2.out⟩ (.inl hL)
          exact ⟨hst.1, by rw [lenAt_eq hcP]; exact hst.2⟩
        · have hno := Lib.hid (stuck_by hK.out ht)
          replace hbT := Lib.hid hbT
          clear ht hone
          go_wp2
          go_ret
          refine ⟨.inr ⟨fun ps => ?_, rfl⟩, hbel.out.trans (hbT.out.mono (by have := hbel.out.size; omega))⟩
          rw [he.out]
          exact M.text_stuck hd.out hne.out hno.out
      · -- three
        have hK := Lib.hid (show M.Kind 3 (rest.getD 0 0) by rw [← hb0.out]; exact .inr (.inr (.inl ⟨rfl, by omega, by omega⟩)))
        have hone := (ones_spec b0 hf0).2.2.2.2.1.2 (by omega)
        go_wp2_with fail
        refine (leadingOnes_any _ _ hf0).mono ?_
        rintro e wx ⟨rfl, rfl⟩
        go_wp2_with fail
        refine (three_any L w.heap.size ad rest.length c' (fun i => rest.getD i 0) _ r0 hcP h4 h5 hB.out (by omega)).mono ?_
        rintro e w2 (⟨p, A', c2, ht, rfl, hbT, h4', h5', hA0⟩ | ⟨ht, rfl, hbT⟩)
        · have hA' := Lib.hid hA0
          replace ht := Lib.hid ht
          replace hbT := Lib.hid hbT
          clear hA0 hone
          go_wp2_with fail
          obtain ⟨vX, x1, x2, x3⟩ := XP_took hX.out hL HR.out hbT.out
          have hdl : done.length ≤ 100000 := done_le he.out hbs.out
          have hz2 : w.heap.size + 2 ≤ w2.heap.size := by have := (HR.out.took hbT.out).1; omega
          refine (points1_any L p done vX (w.heap.size + 2) w2 x2 x1 (by omega) hz2 x3 hdl).mono ?_
          rintro e w3 ⟨rfl, ⟨v', y1, y2⟩, y3, y4⟩
          replace y1 := Lib.hid y1
          replace y2 := Lib.hid y2
          replace y3 := Lib.hid y3
          replace y4 := Lib.hid y4
          clear x1 x2 x3
          go_wp2
          have hst := wrel_step (X := XP L w.heap.size) (w3 := w3) (Nat.le_of_lt hL) hd.out he.out hK.out hlt.out ht.out hbT.out h4' h5' hA'.out HR.out hbel.out (by rw [hcP]; rfl) y4.out ⟨v', y1.out, y3.out, y2.out⟩ (.inl hL)
          exact ⟨hst.1, by rw [lenAt_eq hcP]; exact hst.2⟩
        · have hno := Lib.hid (stuck_by hK.out ht)
          replace hbT := Lib.hid hbT
          clear ht hone
          go_wp2
          go_ret
          refine ⟨.inr ⟨fun ps => ?_, rfl⟩, hbel.out.trans (hbT.out.mono (by have := hbel.out.size; omega))⟩
          rw [he.out]
          exact M.text_stuck hd.out hne.out hno.out
      · -- four
        have hK := Lib.hid (show M.Kind 4 (rest.getD 0 0) by rw [← hb0.out]; exact .inr (.inr (.inr ⟨rfl, by omega, by omega⟩)))
        have hone := (ones_spec b0 hf0).2.2.2.2.2.2 (by omega)
        go_wp2_with fail
        refine (leadingOnes_any _ _ hf0).mono ?_
        rintro e wx ⟨rfl, rfl⟩
        go_wp2_with fail
        refine (four_any L w.heap.size ad rest.length c' (fun i => rest.getD i 0) _ r0 hcP h4 h5 hB.out (by omega)).mono ?_
        rintro e w2 (⟨p, A', c2, ht, rfl, hbT, h4', h5', hA0⟩ | ⟨ht, rfl, hbT⟩)
        · have hA' := Lib.hid hA0
          replace ht := Lib.hid ht
          replace hbT := Lib.hid hbT
          clear hA0 hone
          go_wp2_with fail
          obtain ⟨vX, x1, x2, x3⟩ := XP_took hX.out hL HR.out hbT.out
          have hdl : done.length ≤ 100000 := done_le he.out hbs.out
          have hz2 : w.heap.size + 2 ≤ w2.heap.size := by have := (HR.out.took hbT.out).1; omega
          refine (points1_any L p done vX (w.heap.size + 2) w2 x2 x1 (by omega) hz2 x3 hdl).mono ?_
          rintro e w3 ⟨rfl, ⟨v', y1, y2⟩, y3, y4⟩
          replace y1 := Lib.hid y1
          replace y2 := Lib.hid y2
          replace y3 := Lib.hid y3
          replace y4 := Lib.hid y4
          clear x1 x2 x3
          go_wp2
          have hst := wrel_step (X := XP L w.heap.size) (w3 := w3) (Nat.le_of_lt hL) hd.out he.out hK.out hlt.out ht.out hbT.out h4' h5' hA'.out HR.out hbel.out (by rw [hcP]; rfl) y4.out ⟨v', y1.out, y3.out, y2.out⟩ (.inl hL)
          exact ⟨hst.1, by rw [lenAt_eq hcP]; exact hst.2⟩
        · have hno := Lib.hid (stuck_by hK.out ht)
          replace hbT := Lib.hid hbT
          clear ht hone
          go_wp2
          go_ret
          refine ⟨.inr ⟨fun ps => ?_, rfl⟩, hbel.out.trans (hbT.out.mono (by have := hbel.out.size; omega))⟩
          rw [he.out]
          exact M.text_stuck hd.out hne.out hno.out
      · have hno := Lib.hid (stuck_kind (rest := rest) (.inr (by rw [← hb0.out]; exact kd)))
        have hone : 5 ≤ ones b0 := by
          have := ones_spec b0 hf0
          omega
        go_wp2_with fail
        refine (leadingOnes_any _ _ hf0).mono ?_
        rintro e wx ⟨rfl, rfl⟩
        go_wp2
        go_ret
        refine ⟨.inr ⟨fun ps => ?_, rfl⟩, hbel.out⟩
        rw [he.out]
        exact M.text_stuck hd.out hne.out hno.out
end Go.Proofs.Ytlppgaaepllbiaa
