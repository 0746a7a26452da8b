/-
  The law on reading back what is written, walked: for every list of questions it returns true and writes nothing that was there; condition: the list lies in memory as 'Asks' says.
-/
import Derived.Test.YtjapcalndolamaaEncode
import Derived.Test.YtjapcalndolamaaCat
namespace Go.Proofs.Ytjapcalndolamaa
open Go.RowKit
set_option maxRecDepth 100000 in
set_option maxHeartbeats 16000000 in
theorem CodeBack_walk (A : Option Addr) (n c : Nat) (w : World) (h : Asks w A n) :
    Calls Try.prog 5 #[.slice A n c] w fun e w' => e = .returned (.bool true) ∧ Below w.heap.size w w' := by
  obtain ⟨hn, h⟩ := h
  unfold maxLen at hn
  replace h := Lib.hid h
  go_enter Try.func5, Try.ntmps5
  go_wp2_with fail
  go_loopw [3] (fun i w' => ∃ k : Nat, k ≤ n ∧ i = .int .i64 k ∧ Below w.heap.size w w') (fun i _ => n - (intOf i).toNat)
  case atStart => exact ⟨0, by omega, rfl, Below.refl _ _⟩
  case round =>
    obtain ⟨k, hk, rfl, hbw⟩ := hrel
    by_cases hlt : k < n
    · obtain ⟨g, o, vL, vB, l, bs, rfl, hg, q0, q1, hL, hB⟩ := h.out k hlt
      have t0 : (0 : Int) ≤ (k : Int) := by omega
      have t1 : (k : Int) < (n : Int) := by omega
      have p0 : wr.cell? ⟨g, o + k * 2, none⟩ = some vL := by rw [hbw.cell (by exact hg)]; exact q0
      have p1 : wr.cell? ⟨g, o + k * 2 + 1, none⟩ = some vB := by rw [hbw.cell (by exact hg)]; exact q1
      have HLw := LS.later hL hbw
      have HBw := hB.later hbw
      obtain ⟨AL, cL, rfl, hLl⟩ := LS.form hL
      obtain ⟨AB, cB, rfl, hBl⟩ := hB
      replace hBl := Lib.hid hBl
      replace hLl := Lib.hid hLl
      clear q0 q1 hL
      by_cases h10 : k < 10
      · have t10 : decide ((k : Int) < 10) = true := by simp; omega
        have balloc : ∀ ob : Obj, Below wr.heap.size wr (wr.alloc ob) := fun ob => (Below.refl _ _).alloc (Nat.le_refl _) ob
        go_wp2_with fail
        have HL := Lib.hid (LS.later HLw (balloc (.cells #[.slice AL l.len cL, .slice AB bs.length cB] 26)))
        have HB := Lib.hid (HBw.later (balloc (.cells #[.slice AL l.len cL, .slice AB bs.length cB] 26)))
        refine (heavy_any _ _ l bs _ HL.out HB.out).mono ?_
        rintro e1 w1 ⟨rfl | ⟨rfl, hsz, hbl⟩, b1⟩
        · have b1' := Lib.hid ((balloc _).trans (b1.mono (by simp)))
          clear b1
          go_wp2_with fail
          go_ret
          exact ⟨rfl, hbw.trans (b1'.out.mono hbw.size)⟩
        · obtain ⟨wa, hwa⟩ : ∃ wa, wa = wr.alloc (.cells #[.slice AL l.len cL, .slice AB bs.length cB] 26) := ⟨_, rfl⟩
          rw [← hwa] at HL HB b1
          have q0 : wa.cell? ⟨wr.heap.size, 0, none⟩ = some (.slice AL l.len cL) := by rw [hwa]; simp
          have q1 : wa.cell? ⟨wr.heap.size, 1, none⟩ = some (.slice AB bs.length cB) := by rw [hwa]; simp
          have hsa : wr.heap.size < wa.heap.size := by rw [hwa]; simp
          have hfin := Lib.hid (show ∀ w9, Below wa.heap.size wa w9 → Below w.heap.size w w9 from fun w9 b9 => hbw.trans (((show Below wr.heap.size wr wa by rw [hwa]; exact balloc _).trans (b9.mono (Nat.le_of_lt hsa))).mono hbw.size))
          replace hwa := Lib.hid hwa
          have d1 := Lib.hid b1
          have pL1 : w1.cell? ⟨wr.heap.size, 0, none⟩ = some (.slice AL l.len cL) := by rw [b1.cell (by exact hsa)]; exact q0
          have HL1 := Lib.hid (LS.later HL.out b1)
          replace HLw := Lib.hid HLw
          replace HBw := Lib.hid HBw
          replace balloc := Lib.hid balloc
          have hel := M.enc_len l
          replace hbw := Lib.hid hbw
          clear b1 p0 p1
          by_cases hok : M.ok 40 l
          · have hbk := M.expr_back bs hok (by omega)
            have hcut := fun j hj => M.expr_cut (l := l) (k := j) hok (by omega) hj
            obtain ⟨eb, heb⟩ : ∃ eb, eb = M.enc l ++ [11] := ⟨_, rfl⟩
            have hebl : eb.length = (M.enc l).length + 1 := by rw [heb]; simp
            have hbk2 : M.expr (eb ++ bs) = some (l, eb.length) := by rw [heb, List.append_assoc, ← hebl, heb] at *; simpa using hbk
            replace hok := Lib.hid hok
            go_wp2_with fail
            refine (Encode_yes l _ _ HL1.out hok.out (by omega)).mono ?_
            rintro e2 w2 ⟨u2, rfl, own2, bs2, b2⟩
            rw [← heb] at own2 bs2
            rw [← heb] at hcut
            have hebL : eb.length ≤ 80001 := by omega
            have hcatL : (eb ++ bs).length ≤ 100000 := by rw [List.length_append]; omega
            obtain ⟨m, hm⟩ : ∃ m, m = eb.length := ⟨_, rfl⟩
            rw [← hm] at own2 hbk2 hebl
            have hmle : m ≤ 80001 ∧ 1 ≤ m := by omega
            have hcut2 := Lib.hid (show ∀ j, j < m → M.expr (eb.take j) = none from fun j hj => hcut j (by omega))
            replace hebl := Lib.hid hebl
            obtain ⟨g2, c2, rfl, _⟩ := own_some own2 (by omega)
            have d2 := d1.out.trans (b2.mono d1.out.size)
            have pB2 : w2.cell? ⟨wr.heap.size, 1, none⟩ = some (.slice AB bs.length cB) := by rw [d2.cell (by exact hsa)]; exact q1
            have fin2 : BS w2 w2.heap.size (.slice (some ⟨g2, 0, none⟩) m c2) eb := bs2
            replace d2 := Lib.hid d2
            replace bs2 := Lib.hid bs2
            have hclt := Lib.hid (show ∀ b ∈ eb ++ bs, b < 256 from fun b hb => (List.mem_append.1 hb).elim (fun hb => bs2.out.lt b hb) (fun hb => HB.out.lt b hb))
            replace heb := Lib.hid heb
            replace hm := Lib.hid hm
            replace hbk2 := Lib.hid hbk2
            clear hcut
            replace fin2 := Lib.hid fin2
            clear own2 b2 hbk pL1
            go_wp2_with (go_at_call 13; refine (num_any _ _).mono ?_; rintro e wn ⟨rfl, rfl⟩)
            go_region_law (first
              | (refine step_call1 (by rfl) 10 _ _ (by rfl) Try.call10 (.slice (some ⟨g2, 0, none⟩) m c2) (by rfl) ?_; refine (CopyBytes_any _ eb w2.drew (by omega) (BS.below bs2.out (Below.drew (Below.refl _ _)) (Nat.le_refl _))).mono ?_; rintro e3 w3 ⟨u3, rfl, own3, b3⟩; refine ⟨_, rfl, ?_⟩; have b3' : Below w2.heap.size w2 w3 := ⟨b3.os, b3.tape, b3.output, b3.size, b3.block⟩; have hs3 : w2.heap.size ≤ w3.heap.size := b3'.size; have d3 := d2.out.trans (b3'.mono d2.out.size); have pB3 : w3.cell? ⟨wr.heap.size, 1, none⟩ = some (.slice AB bs.length cB) := (d3.cell (p := ⟨wr.heap.size, 1, none⟩) hsa).trans q1; have HB3 := Lib.hid (HB.out.later d3); have own3' := Lib.hid (show w3.ownsRow w2.heap.size 5 1 u3 eb.length (vals eb) from own3); replace b3' := Lib.hid b3'; replace d3 := Lib.hid d3; clear b3 own3)
              | (refine step_cat (by rfl) _ _ (by rfl) w2.heap.size u3 (.slice AB bs.length cB) eb bs (by rfl) own3'.out (by rfl) HB3.out (by omega) hs3 ?_; intro u4 w4 hown4 hgr4; have b4 : Below w2.heap.size w2 w4 := b3'.out.grown hgr4 hs3 (fun q hq => (own3'.out.lt q hq).1); have hB4 := Lib.hid (show BS w4 w4.heap.size u4 (eb ++ bs) from own_BS hown4 hclt.out); replace b4 := Lib.hid b4; clear hown4 hgr4)
              | (refine step_call1 (by rfl) 11 _ _ (by rfl) Try.call11 u4 (by rfl) ?_; refine (Decode_yes _ (eb ++ bs) l m w4 hB4.out hcatL hbk2.out).mono ?_; rintro e5 w5 ⟨u5, rfl, own5, b5⟩; refine ⟨_, rfl, ?_⟩; obtain ⟨A5, n5, c5, rfl⟩ := own_slice own5; have l5 := Lib.hid (own_LB own5 (Below.refl _ _) since_lt); have d5 := Lib.hid (d2.out.trans ((b4.out.trans (b5.mono b4.out.size)).mono d2.out.size)); have e5 := Lib.hid (show Below w2.heap.size w2 w5 from b4.out.trans (b5.mono b4.out.size)); clear b5 own5))
            all_goals (
              have pL5 : w5.cell? ⟨wr.heap.size, 0, none⟩ = some (.slice AL l.len cL) := (d5.out.cell (p := ⟨wr.heap.size, 0, none⟩) hsa).trans q0
              have HL5 := Lib.hid (LS.later HL.out d5.out)
              go_wp2_with (go_at_call 13; refine (num_any _ _).mono ?_; rintro e wn ⟨rfl, rfl⟩)
              refine (EqInstrs_same l _ _ _ l5.out HL5.out).mono ?_
              rintro e6 w6 ⟨rfl, b6⟩
              have d6 := Lib.hid (d5.out.trans (b6.mono d5.out.size))
              have f6 := Lib.hid (e5.out.trans (b6.mono e5.out.size))
              clear b6 pL5 HL5
              obtain ⟨_, c2', ec2, hc2a, hc2b, _⟩ := fin2.out
              have hmc : m ≤ c2 := by have := hc2a; have e9 := hm.out; cases ec2; omega
              have hcm : c2 ≤ maxLen := by cases ec2; exact hc2b
              unfold maxLen at hcm
              clear ec2 hc2a hc2b
              obtain ⟨wo, rfl⟩ : ∃ wo, wo = wr := ⟨wr, rfl⟩
              go_wp2_with fail
              go_loopw [10] (fun i w' => ∃ j : Nat, i = .int .i64 j ∧ j ≤ 200000 ∧ Below w6.heap.size w6 w') (fun i _ => m - (intOf i).toNat)
              case atStart => exact ⟨0, rfl, by omega, Below.refl _ _⟩
              case round =>
                obtain ⟨j, rfl, hj2, hbj⟩ := hrel
                have f7 := Lib.hid (f6.out.trans (hbj.mono f6.out.size))
                have d7w := Lib.hid (d6.out.trans (hbj.mono d6.out.size))
                replace hbj := Lib.hid hbj
                by_cases hjm : j < m
                · have t0j : (0 : Int) ≤ (j : Int) := by omega
                  have t1j : (j : Int) < (m : Int) := by omega
                  have hBj := Lib.hid ((fin2.out.later f7.out).take j (by rw [← hm.out]; omega))
                  have hxj := Lib.hid (hcut2.out j hjm)
                  have hlj : (eb.take j).length ≤ 100000 := by rw [List.length_take]; omega
                  go_wp2_with fail
                  refine (Decode_no _ (eb.take j) _ hBj.out hlj hxj.out).mono ?_
                  rintro e8 w8 ⟨rfl, b8⟩
                  have b9 := Lib.hid (hbj.out.trans (b8.mono hbj.out.size))
                  clear b8
                  go_wp2_with (go_at_call 13; refine (num_any _ _).mono ?_; rintro e wn ⟨rfl, rfl⟩)
                  exact ⟨⟨j + 1 + m / 20, by go_num, by omega, b9.out⟩, by simp [intOf]; omega⟩
                · have tj : decide ((j : Int) < (m : Int)) = false := by simp; omega
                  have HB4 := Lib.hid (HB.out.later d7w.out)
                  have pB4 : wr.cell? ⟨wo.heap.size, 1, none⟩ = some (.slice AB bs.length cB) := (d7w.out.cell (p := ⟨wo.heap.size, 1, none⟩) hsa).trans q1
                  cases hx : M.expr bs with
                  | none =>
                    replace hx := Lib.hid hx
                    go_wp2_with fail
                    refine (Decode_no _ bs _ HB4.out (by omega) hx.out).mono ?_
                    rintro e6 w6 ⟨rfl, b6⟩
                    have d6 := Lib.hid (d7w.out.trans (b6.mono d7w.out.size))
                    clear b6
                    go_wp2_with (go_at_call 13; refine (num_any _ _).mono ?_; rintro e wn ⟨rfl, rfl⟩)
                    exact ⟨⟨k + 1, by omega, by go_num, hfin.out _ d6.out⟩, by simp [intOf]; omega⟩
                  | some xn =>
                    obtain ⟨xl, m⟩ := xn
                    obtain ⟨hxok, hxe, hxm⟩ := M.expr_sound hx
                    replace hx := Lib.hid hx
                    replace hxok := Lib.hid hxok
                    go_wp2_with fail
                    refine (Decode_yes _ bs xl m _ HB4.out (by omega) hx.out).mono ?_
                    rintro e6 w6 ⟨u6, rfl, own6, b6⟩
                    obtain ⟨A6, n6, c6, rfl⟩ := own_slice own6
                    have l6 := Lib.hid (own_LB own6 (Below.refl _ _) since_lt)
                    have d6 := Lib.hid (d7w.out.trans (b6.mono d7w.out.size))
                    clear b6 own6
                    go_wp2_with (go_at_call 13; refine (num_any _ _).mono ?_; rintro e wn ⟨rfl, rfl⟩)
                    refine (Encode_yes xl _ _ l6.out hxok.out (by omega)).mono ?_
                    rintro e7 w7 ⟨u7, rfl, own7, bs7, b7⟩
                    obtain ⟨b7l, hb7l⟩ : ∃ x, x = (M.enc xl ++ [11]).length := ⟨_, rfl⟩
                    have hb7e : b7l ≤ m := by rw [hb7l]; simp; omega
                    rw [← hb7l] at own7
                    obtain ⟨g7, c7, rfl, _⟩ := own_some own7 (by rw [hb7l]; simp)
                    have l7 := Lib.hid (LS.later l6.out b7)
                    have d7 := Lib.hid (d6.out.trans (b7.mono d6.out.size))
                    have tle : decide ((b7l : Int) > (m : Int)) = false := by simp; omega
                    have tle2 : decide ((m : Int) < (b7l : Int)) = false := by simp; omega
                    have tle3 : decide (m < b7l) = false := by simp; omega
                    replace hb7l := Lib.hid hb7l
                    clear b7 own7 bs7
                    go_wp2_with (go_at_call 13; refine (num_any _ _).mono ?_; rintro e wn ⟨rfl, rfl⟩)
                    refine (Check_yes xl _ _ l7.out hxok.out).mono ?_
                    rintro e8 w8 ⟨rfl, b8⟩
                    have d8 := Lib.hid (d7.out.trans (b8.mono d7.out.size))
                    clear b8
                    go_wp2_with (go_at_call 13; refine (num_any _ _).mono ?_; rintro e wn ⟨rfl, rfl⟩)
                    exact ⟨⟨k + 1, by omega, by go_num, hfin.out _ d8.out⟩, by simp [intOf]; omega⟩)
          · replace hok := Lib.hid hok
            go_wp2_with fail
            refine (Encode_no l _ _ HL1.out hok.out).mono ?_
            rintro e2 w2 ⟨rfl, b2⟩
            have d2 := Lib.hid (d1.out.trans (b2.mono d1.out.size))
            clear b2
            have HB4 := Lib.hid (HB.out.later d2.out)
            have pB4 : w2.cell? ⟨wr.heap.size, 1, none⟩ = some (.slice AB bs.length cB) := (d2.out.cell (p := ⟨wr.heap.size, 1, none⟩) hsa).trans q1
            cases hx : M.expr bs with
            | none =>
              replace hx := Lib.hid hx
              go_wp2_with (go_at_call 13; refine (num_any _ _).mono ?_; rintro e wn ⟨rfl, rfl⟩)
              refine (Decode_no _ bs _ HB4.out (by omega) hx.out).mono ?_
              rintro e6 w6 ⟨rfl, b6⟩
              have d6 := Lib.hid (d2.out.trans (b6.mono d2.out.size))
              clear b6
              go_wp2_with (go_at_call 13; refine (num_any _ _).mono ?_; rintro e wn ⟨rfl, rfl⟩)
              exact ⟨⟨k + 1, by omega, by go_num, hfin.out _ d6.out⟩, by simp [intOf]; omega⟩
            | some xn =>
              obtain ⟨xl, m⟩ := xn
              obtain ⟨hxok, hxe, hxm⟩ := M.expr_sound hx
              replace hx := Lib.hid hx
              replace hxok := Lib.hid hxok
              go_wp2_with (go_at_call 13; refine (num_any _ _).mono ?_; rintro e wn ⟨rfl, rfl⟩)
              refine (Decode_yes _ bs xl m _ HB4.out (by omega) hx.out).mono ?_
              rintro e6 w6 ⟨u6, rfl, own6, b6⟩
              obtain ⟨A6, n6, c6, rfl⟩ := own_slice own6
              have l6 := Lib.hid (own_LB own6 (Below.refl _ _) since_lt)
              have d6 := Lib.hid (d2.out.trans (b6.mono d2.out.size))
              clear b6 own6
              go_wp2_with (go_at_call 13; refine (num_any _ _).mono ?_; rintro e wn ⟨rfl, rfl⟩)
              refine (Encode_yes xl _ _ l6.out hxok.out (by omega)).mono ?_
              rintro e7 w7 ⟨u7, rfl, own7, bs7, b7⟩
              obtain ⟨b7l, hb7l⟩ : ∃ x, x = (M.enc xl ++ [11]).length := ⟨_, rfl⟩
              have hb7e : b7l ≤ m := by rw [hb7l]; simp; omega
              rw [← hb7l] at own7
              obtain ⟨g7, c7, rfl, _⟩ := own_some own7 (by rw [hb7l]; simp)
              have l7 := Lib.hid (LS.later l6.out b7)
              have d7 := Lib.hid (d6.out.trans (b7.mono d6.out.size))
              have tle : decide ((b7l : Int) > (m : Int)) = false := by simp; omega
              have tle2 : decide ((m : Int) < (b7l : Int)) = false := by simp; omega
              have tle3 : decide (m < b7l) = false := by simp; omega
              replace hb7l := Lib.hid hb7l
              clear b7 own7 bs7
              go_wp2_with (go_at_call 13; refine (num_any _ _).mono ?_; rintro e wn ⟨rfl, rfl⟩)
              refine (Check_yes xl _ _ l7.out hxok.out).mono ?_
              rintro e8 w8 ⟨rfl, b8⟩
              have d8 := Lib.hid (d7.out.trans (b8.mono d7.out.size))
              clear b8
              go_wp2_with (go_at_call 13; refine (num_any _ _).mono ?_; rintro e wn ⟨rfl, rfl⟩)
              exact ⟨⟨k + 1, by omega, by go_num, hfin.out _ d8.out⟩, by simp [intOf]; omega⟩
      · have t10 : decide ((k : Int) < 10) = false := by simp; omega
        go_wp2_with fail
        refine (wakes_any _).mono ?_
        rintro e w7 ⟨rfl, hb7⟩
        go_wp2
        go_ret
        exact ⟨rfl, hbw.trans (hb7.mono hbw.size)⟩
    · go_wp2_with fail
      refine (wakes_any _).mono ?_
      rintro e w7 ⟨rfl, hb7⟩
      go_wp2
      go_ret
      exact ⟨rfl, hbw.trans (hb7.mono hbw.size)⟩
end Go.Proofs.Ytjapcalndolamaa
