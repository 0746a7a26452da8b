/-
  The law on reading, walked: for every list of questions it returns true and writes nothing that was there; condition: the list lies in memory as 'Asks' says.
-/
import Derived.Test.YtjapcalndolamaaSpoilW
import Derived.Test.YtjapcalndolamaaDecode
namespace Go.Proofs.Ytjapcalndolamaa
open Go.RowKit
set_option maxRecDepth 100000 in
set_option maxHeartbeats 16000000 in
theorem CodeDecodes_walk (A : Option Addr) (n c : Nat) (w : World) (h : Asks w A n) :
    Calls Try.prog 3 #[.slice A n c] w fun e w' => e = .returned (.bool true) ∧ Below w.heap.size w w' := by
  obtain ⟨hn, h⟩ := h
  unfold maxLen at hn
  replace h := Lib.hid h
  go_enter Try.func3, Try.ntmps3
  go_wp2_with fail
  go_loopw [3] (fun i w' => ∃ k : Nat, k ≤ n ∧ i = .int .i64 k ∧ Below w.heap.size w w') (fun i _ => n - (intOf i).toNat)
  case atStart => exact ⟨0, by omega, rfl, Below.refl _ _⟩
  case round =>
    obtain ⟨k, hk, rfl, hbw⟩ := hrel
    by_cases hlt : k < n
    · obtain ⟨g, o, vL, vB, l, bs, rfl, hg, q0, q1, hL, hB⟩ := h.out k hlt
      have t0 : (0 : Int) ≤ (k : Int) := by omega
      have t1 : (k : Int) < (n : Int) := by omega
      have p0 : wr.cell? ⟨g, o + k * 2, none⟩ = some vL := by rw [hbw.cell (by exact hg)]; exact q0
      have p1 : wr.cell? ⟨g, o + k * 2 + 1, none⟩ = some vB := by rw [hbw.cell (by exact hg)]; exact q1
      have HLw := LS.later hL hbw
      have HBw := hB.later hbw
      obtain ⟨AL, cL, rfl, hLl⟩ := LS.form hL
      obtain ⟨AB, cB, rfl, hBl⟩ := hB
      replace hBl := Lib.hid hBl
      replace hLl := Lib.hid hLl
      clear q0 q1 hL
      by_cases h10 : k < 10
      · have t10 : decide ((k : Int) < 10) = true := by simp; omega
        have balloc : ∀ ob : Obj, Below wr.heap.size wr (wr.alloc ob) := fun ob => (Below.refl _ _).alloc (Nat.le_refl _) ob
        go_wp2_with fail
        have HL := Lib.hid (LS.later HLw (balloc (.cells #[.slice AL l.len cL, .slice AB bs.length cB] 26)))
        have HB := Lib.hid (HBw.later (balloc (.cells #[.slice AL l.len cL, .slice AB bs.length cB] 26)))
        refine (heavy_any _ _ l bs _ HL.out HB.out).mono ?_
        rintro e1 w1 ⟨rfl | ⟨rfl, hsz, hbl⟩, b1⟩
        · have b1' := Lib.hid ((balloc _).trans (b1.mono (by simp)))
          clear b1
          go_wp2_with fail
          go_ret
          exact ⟨rfl, hbw.trans (b1'.out.mono hbw.size)⟩
        · obtain ⟨wa, hwa⟩ : ∃ wa, wa = wr.alloc (.cells #[.slice AL l.len cL, .slice AB bs.length cB] 26) := ⟨_, rfl⟩
          rw [← hwa] at HL HB b1
          have q0 : wa.cell? ⟨wr.heap.size, 0, none⟩ = some (.slice AL l.len cL) := by rw [hwa]; simp
          have q1 : wa.cell? ⟨wr.heap.size, 1, none⟩ = some (.slice AB bs.length cB) := by rw [hwa]; simp
          have hsa : wr.heap.size < wa.heap.size := by rw [hwa]; simp
          have hfin := Lib.hid (show ∀ w9, Below wa.heap.size wa w9 → Below w.heap.size w w9 from fun w9 b9 => hbw.trans (((show Below wr.heap.size wr wa by rw [hwa]; exact balloc _).trans (b9.mono (Nat.le_of_lt hsa))).mono hbw.size))
          replace hwa := Lib.hid hwa
          have d1 := Lib.hid b1
          have pB1 : w1.cell? ⟨wr.heap.size, 1, none⟩ = some (.slice AB bs.length cB) := (b1.cell (p := ⟨wr.heap.size, 1, none⟩) hsa).trans q1
          have HB1 := Lib.hid (HB.out.later b1)
          replace HLw := Lib.hid HLw
          replace HBw := Lib.hid HBw
          replace balloc := Lib.hid balloc
          replace hbw := Lib.hid hbw
          clear b1 p0 p1
          go_wp2_with fail
          refine (CopyBytes_any _ bs _ (by omega) HB1.out).mono ?_
          rintro e2 w2 ⟨u2, rfl, own2, b2⟩
          have bs2 := Lib.hid (own_BS own2 HB.out.lt)
          have d2 := Lib.hid (d1.out.trans (b2.mono d1.out.size))
          clear own2 b2 pB1
          cases hx : M.expr bs with
          | none =>
            replace hx := Lib.hid hx
            go_wp2_with fail
            refine (Decode_no _ bs _ bs2.out (by omega) hx.out).mono ?_
            rintro e3 w3 ⟨rfl, b3⟩
            have bs3 := Lib.hid (bs2.out.later b3)
            have d3 := Lib.hid (d2.out.trans (b3.mono d2.out.size))
            have HB3 := Lib.hid (HB.out.later d3.out)
            have pB3 : w3.cell? ⟨wr.heap.size, 1, none⟩ = some (.slice AB bs.length cB) := (d3.out.cell (p := ⟨wr.heap.size, 1, none⟩) hsa).trans q1
            clear b3
            go_wp2_with fail
            refine (Expr_no _ bs _ HB3.out (by omega) hx.out).mono ?_
            rintro e4 w4 ⟨rfl, b4⟩
            have bs4 := Lib.hid (bs3.out.later b4)
            have d4 := Lib.hid (d3.out.trans (b4.mono d3.out.size))
            clear b4 pB3
            go_wp2_with (go_at_call 13; refine (num_any _ _).mono ?_; rintro e wn ⟨rfl, rfl⟩)
            refine (EqInstrs_same .nil _ _ _ (nil_LB _) (nil_LB _)).mono ?_
            rintro e5 w5 ⟨rfl, b5⟩
            have bs5 := Lib.hid (bs4.out.later b5)
            have d5 := Lib.hid (d4.out.trans (b5.mono d4.out.size))
            have HB5 := Lib.hid (HB.out.later d5.out)
            have pB5 : w5.cell? ⟨wr.heap.size, 1, none⟩ = some (.slice AB bs.length cB) := (d5.out.cell (p := ⟨wr.heap.size, 1, none⟩) hsa).trans q1
            clear b5
            go_wp2_with fail
            refine (EqBytes_same _ _ bs _ bs5.out HB5.out).mono ?_
            rintro e6 w6 ⟨rfl, b6⟩
            have d6 := Lib.hid (d5.out.trans (b6.mono d5.out.size))
            clear b6 pB5
            go_wp2_with fail
            refine (Instrs_any 1 w6.heap.size _ _ (nil_WF _ _ _)).mono ?_
            rintro e7 w7 ⟨rfl, s7⟩
            have d7 := Lib.hid (d6.out.trans ((s7.below (Nat.le_refl _)).mono d6.out.size))
            clear s7
            go_wp2_with fail
            exact ⟨⟨k + 1, by omega, by go_num, hfin.out _ d7.out⟩, by simp [intOf]; omega⟩
          | some xn =>
            obtain ⟨xl, m⟩ := xn
            obtain ⟨_, hxe, hxm⟩ := M.expr_sound hx
            have hm1 : 1 ≤ m := by omega
            have tm : decide ((m : Int) > 0) = true := by simp; omega
            have tm2 : decide ((0 : Int) < (m : Int)) = true := by simp; omega
            have tm3 : ((m : Int) == 0) = false := by rw [beq_eq_false_iff_ne]; omega
            replace hx := Lib.hid hx
            clear hxe
            go_wp2_with fail
            refine (Decode_yes _ bs xl m _ bs2.out (by omega) hx.out).mono ?_
            rintro e3 w3 ⟨u3, rfl, own3, b3⟩
            obtain ⟨A3, n3, c3, rfl⟩ := own_slice own3
            have bs3 := Lib.hid (bs2.out.later b3)
            have d3 := Lib.hid (d2.out.trans (b3.mono d2.out.size))
            have HB3 := Lib.hid (HB.out.later d3.out)
            have pB3 : w3.cell? ⟨wr.heap.size, 1, none⟩ = some (.slice AB bs.length cB) := (d3.out.cell (p := ⟨wr.heap.size, 1, none⟩) hsa).trans q1
            have hs23 : w2.heap.size ≤ w3.heap.size := b3.size
            replace own3 := Lib.hid own3
            clear b3
            go_wp2_with fail
            refine (Expr_yes _ bs xl m _ HB3.out (by omega) hx.out).mono ?_
            rintro e4 w4 ⟨u4, rfl, own4, b4⟩
            obtain ⟨A4, n4, c4, rfl⟩ := own_slice own4
            have l4 := Lib.hid (own_LB own4 (Below.refl _ _) since_lt)
            have own34 := Lib.hid (show OwnL w4 (Since w2.heap.size w4) _ xl from own3.out.agree (fun q hq => b4.block q hq.2) (fun q hq => ⟨hq.1, Nat.lt_of_lt_of_le hq.2 b4.size⟩))
            have l34 := Lib.hid (own_LB own34.out (Below.refl _ _) since_lt)
            have bs4 := Lib.hid (bs3.out.later b4)
            have d4 := Lib.hid (d3.out.trans (b4.mono d3.out.size))
            have hs24 : w2.heap.size ≤ w4.heap.size := Nat.le_trans hs23 b4.size
            clear b4 own4 pB3
            go_wp2_with (go_at_call 13; refine (num_any _ _).mono ?_; rintro e wn ⟨rfl, rfl⟩)
            refine (EqInstrs_same xl _ _ _ l34.out l4.out).mono ?_
            rintro e5 w5 ⟨rfl, b5⟩
            have own35 := Lib.hid (show OwnL w5 (Since w2.heap.size w5) _ xl from own34.out.agree (fun q hq => b5.block q hq.2) (fun q hq => ⟨hq.1, Nat.lt_of_lt_of_le hq.2 b5.size⟩))
            have bs5 := Lib.hid (bs4.out.later b5)
            have d5 := Lib.hid (d4.out.trans (b5.mono d4.out.size))
            have HB5 := Lib.hid (HB.out.later d5.out)
            have pB5 : w5.cell? ⟨wr.heap.size, 1, none⟩ = some (.slice AB bs.length cB) := (d5.out.cell (p := ⟨wr.heap.size, 1, none⟩) hsa).trans q1
            have hs25 : w2.heap.size ≤ w5.heap.size := Nat.le_trans hs24 b5.size
            clear b5
            go_wp2_with fail
            refine (EqBytes_same _ _ bs _ bs5.out HB5.out).mono ?_
            rintro e6 w6 ⟨rfl, b6⟩
            have own36 := Lib.hid (show OwnL w6 (Since w2.heap.size w6) _ xl from own35.out.agree (fun q hq => b6.block q hq.2) (fun q hq => ⟨hq.1, Nat.lt_of_lt_of_le hq.2 b6.size⟩))
            have d6 := Lib.hid (d5.out.trans (b6.mono d5.out.size))
            have hs26 : w2.heap.size ≤ w6.heap.size := Nat.le_trans hs25 b6.size
            clear b6 pB5
            go_wp2_with fail
            refine (Instrs_any (xl.sz + 1) w2.heap.size _ _ (own_WF (fun q hq => hq.1) (xl.sz + 1) xl _ (Nat.lt_succ_self _) own36.out)).mono ?_
            rintro e7 w7 ⟨rfl, s7⟩
            have d7 := Lib.hid (d6.out.trans ((s7.below hs26).mono d2.out.size))
            clear s7
            go_wp2_with fail
            exact ⟨⟨k + 1, by omega, by go_num, hfin.out _ d7.out⟩, by simp [intOf]; omega⟩
      · have t10 : decide ((k : Int) < 10) = false := by simp; omega
        go_wp2_with fail
        refine (wakes_any _).mono ?_
        rintro e w7 ⟨rfl, hb7⟩
        go_wp2
        go_ret
        exact ⟨rfl, hbw.trans (hb7.mono hbw.size)⟩
    · go_wp2_with fail
      refine (wakes_any _).mono ?_
      rintro e w7 ⟨rfl, hb7⟩
      go_wp2
      go_ret
      exact ⟨rfl, hbw.trans (hb7.mono hbw.size)⟩
end Go.Proofs.Ytjapcalndolamaa
