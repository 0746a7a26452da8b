/-
  The law on points read back, walked: for every list of questions it returns true and writes nothing that was there; condition: the list lies in memory as 'Asks' says.
-/
import Derived.Test.YtlppgaaepllbiaaCat
import Derived.Test.YtlppgaaepllbiaaMathB
namespace Go.Proofs.Ytlppgaaepllbiaa
open Go.RowKit
set_option maxRecDepth 100000 in
set_option maxHeartbeats 4000000 in
theorem UtfBack_walk (A : Option Addr) (n c : Nat) (w : World) (h : Asks w A n) :
    Calls Try.prog 5 #[.slice A n c] w fun e w' => e = .returned (.bool true) ∧ Below w.heap.size w w' := by
  obtain ⟨hn, h⟩ := h
  unfold maxLen at hn
  replace h := Lib.hid h
  go_enter Try.func5, Try.ntmps5
  go_wp2
  go_loopw [3] (fun i w' => ∃ k : Nat, k ≤ n ∧ i = .int .i64 k ∧ Below w.heap.size w w') (fun i _ => n - (intOf i).toNat)
  case atStart => exact ⟨0, by omega, rfl, Below.refl _ _⟩
  case round =>
    obtain ⟨k, hk, rfl, hbw⟩ := hrel
    by_cases hlt : k < n
    · obtain ⟨g, o, vB, vL, bs, xs, rfl, hg, q0, q1, hB, hL⟩ := h.out k hlt
      have t0 : (0 : Int) ≤ (k : Int) := by omega
      have t1 : (k : Int) < (n : Int) := by omega
      have r0 : wr.cell? ⟨g, o + k * 2, none⟩ = some vB := by rw [hbw.cell (by exact hg)]; exact q0
      have r1 : wr.cell? ⟨g, o + k * 2 + 1, none⟩ = some vL := by rw [hbw.cell (by exact hg)]; exact q1
      have HB := Lib.hid (hB.later hbw)
      have HL := Lib.hid (hL.later hbw)
      have hgr : g < wr.heap.size := Nat.lt_of_lt_of_le hg hbw.size
      clear q0 q1 hB hL
      by_cases h20 : k < 20
      · by_cases hv : 3000 < bs.length ∨ 1000 < xs.length
        · replace hv := Lib.hid hv
          go_wp2_with fail
          refine (heavyW_yes vB vL bs xs _ HB.out HL.out hv.out).mono ?_
          rintro e w1 ⟨rfl, b1⟩
          replace b1 := Lib.hid b1
          go_wp2
          go_ret
          exact ⟨rfl, hbw.trans (b1.out.mono hbw.size)⟩
        · have hv1 : bs.length ≤ 3000 := by omega
          have hv2 : xs.length ≤ 1000 := by omega
          clear hv
          go_wp2_with fail
          refine (heavyW_no vB vL bs xs _ HB.out HL.out hv1 hv2).mono ?_
          rintro e w1 ⟨rfl, d1⟩
          have p0 : w1.cell? ⟨g, o + k * 2, none⟩ = some vB := by rw [d1.cell (by exact hgr)]; exact r0
          have p1 : w1.cell? ⟨g, o + k * 2 + 1, none⟩ = some vL := by rw [d1.cell (by exact hgr)]; exact r1
          have HB1 := Lib.hid (HB.out.later d1)
          have HL1 := Lib.hid (HL.out.later d1)
          have D1 : Below w.heap.size w w1 := hbw.trans (d1.mono hbw.size)
          have hg1 : g < w1.heap.size := Nat.lt_of_lt_of_le hgr d1.size
          clear d1 hbw HB HL r0 r1 hgr
          by_cases hall : AllPI xs
          · replace hall := Lib.hid hall
            go_wp2_with fail
            refine (Bytes_yes vL xs _ HL1.out (by omega) hall.out).mono ?_
            rintro e w2 ⟨vb, rfl, o2, b2⟩
            obtain ⟨cs, hcs⟩ : ∃ cs, cs = M.encs (nats xs) := ⟨_, rfl⟩
            rw [← hcs] at o2
            have htx := Lib.hid (show M.Text cs (nats xs) from ⟨nats_isP hall.out, hcs⟩)
            have hcl : cs.length ≤ 4000 := by
              have := (M.encs_length_le (nats xs)).2
              rw [← hcs] at this
              have h8 : (nats xs).length = xs.length := by simp [nats]
              omega
            have hb2 := own_BS o2 (by rw [hcs]; exact M.encs_lt (nats_isP hall.out))
            replace hcs := Lib.hid hcs
            have d2 : Below w1.heap.size w1 w2 := b2
            obtain ⟨l, hl⟩ : ∃ l, l = cs.length := ⟨_, rfl⟩
            have Hb2 := Lib.hid hb2
            obtain ⟨A1, c1, rfl, e1, e2, _⟩ := hb2
            unfold maxLen at e2
            rw [← hl] at Hb2 e1 hcl
            rw [← hl]
            replace hl := Lib.hid hl
            have p12 : w2.cell? ⟨g, o + k * 2 + 1, none⟩ = some vL := by rw [d2.cell (by exact hg1)]; exact p1
            have HL2 := Lib.hid (HL1.out.later d2)
            clear b2 o2
            go_wp2_with fail
            refine (num_any _ _).mono ?_
            rintro e wx ⟨rfl, rfl⟩
            go_wp2_with fail
            refine (Points_yes _ cs (nats xs) _ Hb2.out (by rw [← hl.out]; omega) htx.out).mono ?_
            rintro e w3 ⟨vp, rfl, o3, b3⟩
            have d3 := d2.trans (b3.mono d2.size)
            have p13 : w3.cell? ⟨g, o + k * 2 + 1, none⟩ = some vL := by rw [d3.cell (by exact hg1)]; exact p1
            have HL3 := Lib.hid (HL1.out.later d3)
            have Hb3 := Lib.hid (Hb2.out.later b3)
            replace o3 := Lib.hid o3
            clear b3
            go_wp2_with fail
            refine (num_any _ _).mono ?_
            rintro e wx ⟨rfl, rfl⟩
            go_wp2_with fail
            refine (EqPoints_same vp vL xs _ (by have := own_IS o3.out htx.out.1; rwa [ints_nats hall.out] at this) HL3.out).mono ?_
            rintro e w4 ⟨rfl, b4⟩
            have d4 := d3.trans (b4.mono d3.size)
            have Hb4 := Lib.hid (Hb3.out.later b4)
            clear b4 d2 d3 p12 p13 HL2 HL3 Hb2 Hb3 o3
            by_cases l0 : l = 0
            · subst l0
              have dw4 := d4
              have Hbw4 := Hb4
              have pB : w4.cell? ⟨g, o + k * 2, none⟩ = some vB := by rw [dw4.cell (by exact hg1)]; exact p0
              have HBp := Lib.hid (HB1.out.later dw4)
              have HbP0 := Lib.hid (Hbw4.out)
              by_cases ht : ∃ ps, M.Text bs ps
              · obtain ⟨ps, ht⟩ := ht
                have hpl := text_lenW ht
                replace ht := Lib.hid ht
                go_wp2_with fail
                refine (Points_yes vB bs ps _ HBp.out (by omega) ht.out).mono ?_
                rintro e w6 ⟨vp2, rfl, op, b6⟩
                have dP := dw4.trans (b6.mono dw4.size)
                have pP : w6.cell? ⟨g, o + k * 2, none⟩ = some vB := by rw [dP.cell (by exact hg1)]; exact p0
                have e56 : w4.heap.size ≤ w6.heap.size := b6.size
                have HbP := Lib.hid (HbP0.out.later b6)
                replace op := Lib.hid op
                clear b6
                go_wp2_with fail
                refine (num_any _ _).mono ?_
                rintro e wx ⟨rfl, rfl⟩
                go_wp2_with fail
                refine (Bytes_yes vp2 (ints ps) _ (own_IS op.out ht.out.1) (by rw [ints_length]; omega) (allPI_ints ht.out.1)).mono ?_
                rintro e w7 ⟨vc, rfl, oc, b7⟩
                rw [nats_ints, ← ht.out.2] at oc
                have d7 := dP.trans (b7.mono dP.size)
                have p7 : w7.cell? ⟨g, o + k * 2, none⟩ = some vB := by rw [d7.cell (by exact hg1)]; exact p0
                have HB7 := Lib.hid (HB1.out.later d7)
                have Hb7 := Lib.hid (HbP.out.later b7)
                replace oc := Lib.hid oc
                have e67 : w6.heap.size ≤ w7.heap.size := b7.size
                clear b7
                go_wp2_with fail
                refine (num_any _ _).mono ?_
                rintro e wx ⟨rfl, rfl⟩
                go_wp2_with fail
                refine (EqBytes_same vc vB bs _ (own_BS oc.out HBp.out.lt) HB7.out).mono ?_
                rintro e w8 ⟨rfl, b8⟩
                have dQ := d7.trans (b8.mono d7.size)
                have HbQ := Lib.hid (Hb7.out.later b8)
                have oc8 := Lib.hid (own_later oc.out b8)
                have e78 : w6.heap.size ≤ w8.heap.size := Nat.le_trans e67 b8.size
                clear b8
                go_wp2_with fail
                refine (num_any _ _).mono ?_
                rintro e wx ⟨rfl, rfl⟩
                go_wp2_with (first
                  | (at_builtin; refine wpList_cat (by first | rfl | decide | simp [Region.wanted, yielded, go_sem]) _ _ rfl w6.heap.size _ _ bs cs rfl oc8.out rfl HbQ.out (by rw [← hl.out]; omega) (by have := e78; omega) ?_; intro v' w9 o9 g9)
                  | fail)
                have dc9 : Below w6.heap.size w8 w9 := (Below.refl _ _).grown g9 (by have := e78; omega) (fun q hq => (oc8.out.lt q hq).1)
                have d9 : Below w1.heap.size w1 w9 := dQ.trans (dc9.mono (by have := dP.size; have := e56; omega))
                replace o9 := Lib.hid o9
                clear g9 dc9
                refine (Check_yes _ (bs ++ cs) (ps ++ nats xs) _ (own_BS o9.out (fun b hb => by
                  rcases List.mem_append.1 hb with h | h
                  · exact HBp.out.lt b h
                  · exact HbQ.out.lt b h)) (M.text_cat ht.out htx.out)).mono ?_
                rintro e w10 ⟨rfl, b10⟩
                have d10 := d9.trans (b10.mono d9.size)
                clear b10
                go_wp2_with fail
                refine (num_any _ _).mono ?_
                rintro e wx ⟨rfl, rfl⟩
                have f10 := Lib.hid (D1.trans (d10.mono D1.size))
                clear d10
                go_wp2
                exact ⟨⟨k + 1, by omega, by go_num, f10.out⟩, by simp [intOf]; omega⟩
              · replace ht := Lib.hid (fun ps hp => ht ⟨ps, hp⟩ : ∀ ps, ¬ M.Text bs ps)
                go_wp2_with fail
                refine (Points_no vB bs _ HBp.out (by omega) ht.out).mono ?_
                rintro e w6 ⟨rfl, b6⟩
                have dP := dw4.trans (b6.mono dw4.size)
                clear b6
                go_wp2_with fail
                refine (num_any _ _).mono ?_
                rintro e wx ⟨rfl, rfl⟩
                have f10 := Lib.hid (D1.trans (dP.mono D1.size))
                go_wp2
                exact ⟨⟨k + 1, by omega, by go_num, f10.out⟩, by simp [intOf]; omega⟩
            · obtain ⟨f, hf⟩ : ∃ f : Nat → Nat, f = fun i => cs.getD i 0 := ⟨_, rfl⟩
              have hI : Bytes w4 w4.heap.size A1 l f := by
                obtain ⟨C2, c2, x2, _, _, h2⟩ := Hb4.out
                rw [← hl.out] at x2 h2
                injection x2 with x3 x4 x5
                rw [hf, x3]; exact h2
              obtain ⟨ad, rfl, _, hfl, qx⟩ := hI (l - 1) (by omega)
              have hI2 := Lib.hid hI
              obtain ⟨y, hy⟩ : ∃ y, y = f (l - 1) := ⟨_, rfl⟩
              rw [← hy] at qx hfl
              have hy2 := Lib.hid (show y = cs.getD (cs.length - 1) 0 by rw [hy, hf, ← hl.out])
              replace hf := Lib.hid hf
              clear hI hy
              by_cases y128 : y < 128
              · have dw4 := d4
                have Hbw4 := Hb4
                have ty : decide ((128 : Int) ≤ (y : Int)) = false := by simp; omega
                have pB : w4.cell? ⟨g, o + k * 2, none⟩ = some vB := by rw [dw4.cell (by exact hg1)]; exact p0
                have HBp := Lib.hid (HB1.out.later dw4)
                have HbP0 := Lib.hid (Hbw4.out)
                by_cases ht : ∃ ps, M.Text bs ps
                · obtain ⟨ps, ht⟩ := ht
                  have hpl := text_lenW ht
                  replace ht := Lib.hid ht
                  go_wp2_with fail
                  refine (Points_yes vB bs ps _ HBp.out (by omega) ht.out).mono ?_
                  rintro e w6 ⟨vp2, rfl, op, b6⟩
                  have dP := dw4.trans (b6.mono dw4.size)
                  have pP : w6.cell? ⟨g, o + k * 2, none⟩ = some vB := by rw [dP.cell (by exact hg1)]; exact p0
                  have e56 : w4.heap.size ≤ w6.heap.size := b6.size
                  have HbP := Lib.hid (HbP0.out.later b6)
                  replace op := Lib.hid op
                  clear b6
                  go_wp2_with fail
                  refine (num_any _ _).mono ?_
                  rintro e wx ⟨rfl, rfl⟩
                  go_wp2_with fail
                  refine (Bytes_yes vp2 (ints ps) _ (own_IS op.out ht.out.1) (by rw [ints_length]; omega) (allPI_ints ht.out.1)).mono ?_
                  rintro e w7 ⟨vc, rfl, oc, b7⟩
                  rw [nats_ints, ← ht.out.2] at oc
                  have d7 := dP.trans (b7.mono dP.size)
                  have p7 : w7.cell? ⟨g, o + k * 2, none⟩ = some vB := by rw [d7.cell (by exact hg1)]; exact p0
                  have HB7 := Lib.hid (HB1.out.later d7)
                  have Hb7 := Lib.hid (HbP.out.later b7)
                  replace oc := Lib.hid oc
                  have e67 : w6.heap.size ≤ w7.heap.size := b7.size
                  clear b7
                  go_wp2_with fail
                  refine (num_any _ _).mono ?_
                  rintro e wx ⟨rfl, rfl⟩
                  go_wp2_with fail
                  refine (EqBytes_same vc vB bs _ (own_BS oc.out HBp.out.lt) HB7.out).mono ?_
                  rintro e w8 ⟨rfl, b8⟩
                  have dQ := d7.trans (b8.mono d7.size)
                  have HbQ := Lib.hid (Hb7.out.later b8)
                  have oc8 := Lib.hid (own_later oc.out b8)
                  have e78 : w6.heap.size ≤ w8.heap.size := Nat.le_trans e67 b8.size
                  clear b8
                  go_wp2_with fail
                  refine (num_any _ _).mono ?_
                  rintro e wx ⟨rfl, rfl⟩
                  go_wp2_with (first
                    | (at_builtin; refine wpList_cat (by first | rfl | decide | simp [Region.wanted, yielded, go_sem]) _ _ rfl w6.heap.size _ _ bs cs rfl oc8.out rfl HbQ.out (by rw [← hl.out]; omega) (by have := e78; omega) ?_; intro v' w9 o9 g9)
                    | fail)
                  have dc9 : Below w6.heap.size w8 w9 := (Below.refl _ _).grown g9 (by have := e78; omega) (fun q hq => (oc8.out.lt q hq).1)
                  have d9 : Below w1.heap.size w1 w9 := dQ.trans (dc9.mono (by have := dP.size; have := e56; omega))
                  replace o9 := Lib.hid o9
                  clear g9 dc9
                  refine (Check_yes _ (bs ++ cs) (ps ++ nats xs) _ (own_BS o9.out (fun b hb => by
                    rcases List.mem_append.1 hb with h | h
                    · exact HBp.out.lt b h
                    · exact HbQ.out.lt b h)) (M.text_cat ht.out htx.out)).mono ?_
                  rintro e w10 ⟨rfl, b10⟩
                  have d10 := d9.trans (b10.mono d9.size)
                  clear b10
                  go_wp2_with fail
                  refine (num_any _ _).mono ?_
                  rintro e wx ⟨rfl, rfl⟩
                  have f10 := Lib.hid (D1.trans (d10.mono D1.size))
                  clear d10
                  go_wp2
                  exact ⟨⟨k + 1, by omega, by go_num, f10.out⟩, by simp [intOf]; omega⟩
                · replace ht := Lib.hid (fun ps hp => ht ⟨ps, hp⟩ : ∀ ps, ¬ M.Text bs ps)
                  go_wp2_with fail
                  refine (Points_no vB bs _ HBp.out (by omega) ht.out).mono ?_
                  rintro e w6 ⟨rfl, b6⟩
                  have dP := dw4.trans (b6.mono dw4.size)
                  clear b6
                  go_wp2_with fail
                  refine (num_any _ _).mono ?_
                  rintro e wx ⟨rfl, rfl⟩
                  have f10 := Lib.hid (D1.trans (dP.mono D1.size))
                  go_wp2
                  exact ⟨⟨k + 1, by omega, by go_num, f10.out⟩, by simp [intOf]; omega⟩
              · go_wp2_with fail
                refine (Check_no _ (cs.take (cs.length - 1)) _ ?_ (M.text_cut htx.out (by rw [← hl.out]; omega) (by rw [← hy2.out]; omega))).mono ?_
                · exact ⟨some ad, c1, by rw [List.length_take, ← hl.out, Nat.min_eq_left (by omega)], by rw [List.length_take, ← hl.out]; omega, by unfold maxLen; omega, fun i hi => by
                    rw [List.length_take, ← hl.out] at hi
                    have h9 := hI2.out i (by omega)
                    rw [hf.out] at h9
                    have e9 : (cs.take (cs.length - 1)).getD i 0 = cs.getD i 0 := by
                      rw [List.getD_eq_getElem?_getD, List.getD_eq_getElem?_getD, List.getElem?_take_of_lt (by rw [← hl.out]; omega)]
                    simp only [e9]
                    exact h9⟩
                rintro e w5 ⟨rfl, b5⟩
                have dw5 := d4.trans (b5.mono d4.size)
                have Hbw5 := Lib.hid (Hb4.out.later b5)
                clear b5 hI2 qx
                go_wp2_with fail
                refine (num_any _ _).mono ?_
                rintro e wx ⟨rfl, rfl⟩
                have pB : w5.cell? ⟨g, o + k * 2, none⟩ = some vB := by rw [dw5.cell (by exact hg1)]; exact p0
                have HBp := Lib.hid (HB1.out.later dw5)
                have HbP0 := Lib.hid (Hbw5.out)
                by_cases ht : ∃ ps, M.Text bs ps
                · obtain ⟨ps, ht⟩ := ht
                  have hpl := text_lenW ht
                  replace ht := Lib.hid ht
                  go_wp2_with fail
                  refine (Points_yes vB bs ps _ HBp.out (by omega) ht.out).mono ?_
                  rintro e w6 ⟨vp2, rfl, op, b6⟩
                  have dP := dw5.trans (b6.mono dw5.size)
                  have pP : w6.cell? ⟨g, o + k * 2, none⟩ = some vB := by rw [dP.cell (by exact hg1)]; exact p0
                  have e56 : w5.heap.size ≤ w6.heap.size := b6.size
                  have HbP := Lib.hid (HbP0.out.later b6)
                  replace op := Lib.hid op
                  clear b6
                  go_wp2_with fail
                  refine (num_any _ _).mono ?_
                  rintro e wx ⟨rfl, rfl⟩
                  go_wp2_with fail
                  refine (Bytes_yes vp2 (ints ps) _ (own_IS op.out ht.out.1) (by rw [ints_length]; omega) (allPI_ints ht.out.1)).mono ?_
                  rintro e w7 ⟨vc, rfl, oc, b7⟩
                  rw [nats_ints, ← ht.out.2] at oc
                  have d7 := dP.trans (b7.mono dP.size)
                  have p7 : w7.cell? ⟨g, o + k * 2, none⟩ = some vB := by rw [d7.cell (by exact hg1)]; exact p0
                  have HB7 := Lib.hid (HB1.out.later d7)
                  have Hb7 := Lib.hid (HbP.out.later b7)
                  replace oc := Lib.hid oc
                  have e67 : w6.heap.size ≤ w7.heap.size := b7.size
                  clear b7
                  go_wp2_with fail
                  refine (num_any _ _).mono ?_
                  rintro e wx ⟨rfl, rfl⟩
                  go_wp2_with fail
                  refine (EqBytes_same vc vB bs _ (own_BS oc.out HBp.out.lt) HB7.out).mono ?_
                  rintro e w8 ⟨rfl, b8⟩
                  have dQ := d7.trans (b8.mono d7.size)
                  have HbQ := Lib.hid (Hb7.out.later b8)
                  have oc8 := Lib.hid (own_later oc.out b8)
                  have e78 : w6.heap.size ≤ w8.heap.size := Nat.le_trans e67 b8.size
                  clear b8
                  go_wp2_with fail
                  refine (num_any _ _).mono ?_
                  rintro e wx ⟨rfl, rfl⟩
                  go_wp2_with (first
                    | (at_builtin; refine wpList_cat (by first | rfl | decide | simp [Region.wanted, yielded, go_sem]) _ _ rfl w6.heap.size _ _ bs cs rfl oc8.out rfl HbQ.out (by rw [← hl.out]; omega) (by have := e78; omega) ?_; intro v' w9 o9 g9)
                    | fail)
                  have dc9 : Below w6.heap.size w8 w9 := (Below.refl _ _).grown g9 (by have := e78; omega) (fun q hq => (oc8.out.lt q hq).1)
                  have d9 : Below w1.heap.size w1 w9 := dQ.trans (dc9.mono (by have := dP.size; have := e56; omega))
                  replace o9 := Lib.hid o9
                  clear g9 dc9
                  refine (Check_yes _ (bs ++ cs) (ps ++ nats xs) _ (own_BS o9.out (fun b hb => by
                    rcases List.mem_append.1 hb with h | h
                    · exact HBp.out.lt b h
                    · exact HbQ.out.lt b h)) (M.text_cat ht.out htx.out)).mono ?_
                  rintro e w10 ⟨rfl, b10⟩
                  have d10 := d9.trans (b10.mono d9.size)
                  clear b10
                  go_wp2_with fail
                  refine (num_any _ _).mono ?_
                  rintro e wx ⟨rfl, rfl⟩
                  have f10 := Lib.hid (D1.trans (d10.mono D1.size))
                  clear d10
                  go_wp2
                  exact ⟨⟨k + 1, by omega, by go_num, f10.out⟩, by simp [intOf]; omega⟩
                · replace ht := Lib.hid (fun ps hp => ht ⟨ps, hp⟩ : ∀ ps, ¬ M.Text bs ps)
                  go_wp2_with fail
                  refine (Points_no vB bs _ HBp.out (by omega) ht.out).mono ?_
                  rintro e w6 ⟨rfl, b6⟩
                  have dP := dw5.trans (b6.mono dw5.size)
                  clear b6
                  go_wp2_with fail
                  refine (num_any _ _).mono ?_
                  rintro e wx ⟨rfl, rfl⟩
                  have f10 := Lib.hid (D1.trans (dP.mono D1.size))
                  go_wp2
                  exact ⟨⟨k + 1, by omega, by go_num, f10.out⟩, by simp [intOf]; omega⟩
          · replace hall := Lib.hid hall
            go_wp2_with fail
            refine (Bytes_no vL xs _ HL1.out (by omega) hall.out).mono ?_
            rintro e w2 ⟨rfl, b2⟩
            have dw2 : Below w1.heap.size w1 w2 := b2
            clear b2
            go_wp2_with fail
            refine (num_any _ _).mono ?_
            rintro e wx ⟨rfl, rfl⟩
            have pB : w2.cell? ⟨g, o + k * 2, none⟩ = some vB := by rw [dw2.cell (by exact hg1)]; exact p0
            have HBp := Lib.hid (HB1.out.later dw2)
            by_cases ht : ∃ ps, M.Text bs ps
            · obtain ⟨ps, ht⟩ := ht
              have hpl := text_lenW ht
              replace ht := Lib.hid ht
              go_wp2_with fail
              refine (Points_yes vB bs ps _ HBp.out (by omega) ht.out).mono ?_
              rintro e w6 ⟨vp2, rfl, op, b6⟩
              have dP := dw2.trans (b6.mono dw2.size)
              have pP : w6.cell? ⟨g, o + k * 2, none⟩ = some vB := by rw [dP.cell (by exact hg1)]; exact p0
              have e56 : w2.heap.size ≤ w6.heap.size := b6.size
              skip
              replace op := Lib.hid op
              clear b6
              go_wp2_with fail
              refine (num_any _ _).mono ?_
              rintro e wx ⟨rfl, rfl⟩
              go_wp2_with fail
              refine (Bytes_yes vp2 (ints ps) _ (own_IS op.out ht.out.1) (by rw [ints_length]; omega) (allPI_ints ht.out.1)).mono ?_
              rintro e w7 ⟨vc, rfl, oc, b7⟩
              rw [nats_ints, ← ht.out.2] at oc
              have d7 := dP.trans (b7.mono dP.size)
              have p7 : w7.cell? ⟨g, o + k * 2, none⟩ = some vB := by rw [d7.cell (by exact hg1)]; exact p0
              have HB7 := Lib.hid (HB1.out.later d7)
              skip
              replace oc := Lib.hid oc
              have e67 : w6.heap.size ≤ w7.heap.size := b7.size
              clear b7
              go_wp2_with fail
              refine (num_any _ _).mono ?_
              rintro e wx ⟨rfl, rfl⟩
              go_wp2_with fail
              refine (EqBytes_same vc vB bs _ (own_BS oc.out HBp.out.lt) HB7.out).mono ?_
              rintro e w8 ⟨rfl, b8⟩
              have dQ := d7.trans (b8.mono d7.size)
              skip
              have oc8 := Lib.hid (own_later oc.out b8)
              have e78 : w6.heap.size ≤ w8.heap.size := Nat.le_trans e67 b8.size
              clear b8
              go_wp2_with fail
              refine (num_any _ _).mono ?_
              rintro e wx ⟨rfl, rfl⟩
              have f10 := Lib.hid (D1.trans (dQ.mono D1.size))
              go_wp2
              exact ⟨⟨k + 1, by omega, by go_num, f10.out⟩, by simp [intOf]; omega⟩
            · replace ht := Lib.hid (fun ps hp => ht ⟨ps, hp⟩ : ∀ ps, ¬ M.Text bs ps)
              go_wp2_with fail
              refine (Points_no vB bs _ HBp.out (by omega) ht.out).mono ?_
              rintro e w6 ⟨rfl, b6⟩
              have dP := dw2.trans (b6.mono dw2.size)
              clear b6
              go_wp2_with fail
              refine (num_any _ _).mono ?_
              rintro e wx ⟨rfl, rfl⟩
              have f10 := Lib.hid (D1.trans (dP.mono D1.size))
              go_wp2
              exact ⟨⟨k + 1, by omega, by go_num, f10.out⟩, by simp [intOf]; omega⟩
      · go_wp2_with fail
        refine (wakes_any _).mono ?_
        rintro e w7 ⟨rfl, hb7⟩
        go_wp2
        go_ret
        exact ⟨rfl, hbw.trans (hb7.mono hbw.size)⟩
    · go_wp2_with fail
      refine (wakes_any _).mono ?_
      rintro e w7 ⟨rfl, hb7⟩
      go_wp2
      go_ret
      exact ⟨rfl, hbw.trans (hb7.mono hbw.size)⟩
end Go.Proofs.Ytlppgaaepllbiaa
