/-
  The law on writing, walked: for every list of questions it returns true and writes nothing that was there; condition: the list lies in memory as 'Asks' says.
-/
import Derived.Test.YtjapcalndolamaaPBody
import Derived.Test.YtjapcalndolamaaCopy
namespace Go.Proofs.Ytjapcalndolamaa
open Go.RowKit
set_option maxRecDepth 100000 in
theorem pBytes_any (l : M.L) (v : Value) (w : World) (d : Nat) (hl : LB w v l) (hok : M.ok d l) (hs : l.sz ≤ 2000) : Calls Try.prog 19 #[v] w (Gives (M.enc l ++ [11]) w) := by
  have hel := M.enc_len l
  replace hl := Lib.hid hl
  replace hok := Lib.hid hok
  go_enter Try.func19, Try.ntmps19
  go_wp2_with fail
  refine (pbody_any (l.sz + 1) l v _ d (Nat.lt_succ_self _) hl.out hok.out hs).mono ?_
  rintro e1 w1 ⟨u, rfl, o1, b1⟩
  have hsz : w.heap.size ≤ w1.heap.size := b1.size
  replace o1 := Lib.hid o1
  replace b1 := Lib.hid b1
  go_wp2_with (first
    | (at_builtin; refine wpList_cat rfl _ _ rfl w.heap.size _ _ _ [11] rfl (o1.out.alloc _) rfl (one_BS _ 11 (by omega)) (by simp; omega) (by simp; omega) ?_; intro v9 w9 own9 gr9; have b9 := Lib.hid ((b1.out.alloc hsz _).grown gr9 (by simp; omega) (fun q hq => (o1.out.lt q hq).1)); replace own9 := Lib.hid own9; clear gr9))
  go_ret
  exact ⟨_, rfl, own9.out, b9.out⟩
theorem nil_BS (w : World) : BS w w.heap.size (.slice none 0 0) [] := ⟨none, 0, rfl, by simp, by unfold maxLen; omega, fun i hi => by simp at hi⟩
set_option maxRecDepth 100000 in
set_option maxHeartbeats 16000000 in
theorem CodeEncodes_walk (A : Option Addr) (n c : Nat) (w : World) (h : Asks w A n) :
    Calls Try.prog 4 #[.slice A n c] w fun e w' => e = .returned (.bool true) ∧ Below w.heap.size w w' := by
  obtain ⟨hn, h⟩ := h
  unfold maxLen at hn
  replace h := Lib.hid h
  go_enter Try.func4, Try.ntmps4
  go_wp2_with fail
  go_loopw [3] (fun i w' => ∃ k : Nat, k ≤ n ∧ i = .int .i64 k ∧ Below w.heap.size w w') (fun i _ => n - (intOf i).toNat)
  case atStart => exact ⟨0, by omega, rfl, Below.refl _ _⟩
  case round =>
    obtain ⟨k, hk, rfl, hbw⟩ := hrel
    by_cases hlt : k < n
    · obtain ⟨g, o, vL, vB, l, bs, rfl, hg, q0, q1, hL, hB⟩ := h.out k hlt
      have t0 : (0 : Int) ≤ (k : Int) := by omega
      have t1 : (k : Int) < (n : Int) := by omega
      have p0 : wr.cell? ⟨g, o + k * 2, none⟩ = some vL := by rw [hbw.cell (by exact hg)]; exact q0
      have p1 : wr.cell? ⟨g, o + k * 2 + 1, none⟩ = some vB := by rw [hbw.cell (by exact hg)]; exact q1
      have HLw := LS.later hL hbw
      have HBw := hB.later hbw
      obtain ⟨AL, cL, rfl, hLl⟩ := LS.form hL
      obtain ⟨AB, cB, rfl, hBl⟩ := hB
      replace hBl := Lib.hid hBl
      replace hLl := Lib.hid hLl
      clear q0 q1 hL
      by_cases h10 : k < 10
      · have t10 : decide ((k : Int) < 10) = true := by simp; omega
        have balloc : ∀ ob : Obj, Below wr.heap.size wr (wr.alloc ob) := fun ob => (Below.refl _ _).alloc (Nat.le_refl _) ob
        go_wp2_with fail
        have HL := Lib.hid (LS.later HLw (balloc (.cells #[.slice AL l.len cL, .slice AB bs.length cB] 26)))
        have HB := Lib.hid (HBw.later (balloc (.cells #[.slice AL l.len cL, .slice AB bs.length cB] 26)))
        refine (heavy_any _ _ l bs _ HL.out HB.out).mono ?_
        rintro e1 w1 ⟨rfl | ⟨rfl, hsz, hbl⟩, b1⟩
        · have b1' := Lib.hid ((balloc _).trans (b1.mono (by simp)))
          clear b1
          go_wp2_with fail
          go_ret
          exact ⟨rfl, hbw.trans (b1'.out.mono hbw.size)⟩
        · obtain ⟨wa, hwa⟩ : ∃ wa, wa = wr.alloc (.cells #[.slice AL l.len cL, .slice AB bs.length cB] 26) := ⟨_, rfl⟩
          rw [← hwa] at HL HB b1
          have q0 : wa.cell? ⟨wr.heap.size, 0, none⟩ = some (.slice AL l.len cL) := by rw [hwa]; simp
          have q1 : wa.cell? ⟨wr.heap.size, 1, none⟩ = some (.slice AB bs.length cB) := by rw [hwa]; simp
          have hsa : wr.heap.size < wa.heap.size := by rw [hwa]; simp
          have hfin := Lib.hid (show ∀ w9, Below wa.heap.size wa w9 → Below w.heap.size w w9 from fun w9 b9 => hbw.trans (((show Below wr.heap.size wr wa by rw [hwa]; exact balloc _).trans (b9.mono (Nat.le_of_lt hsa))).mono hbw.size))
          replace hwa := Lib.hid hwa
          have d1 := Lib.hid b1
          have pL1 : w1.cell? ⟨wr.heap.size, 0, none⟩ = some (.slice AL l.len cL) := (b1.cell (p := ⟨wr.heap.size, 0, none⟩) hsa).trans q0
          have HL1 := Lib.hid (LS.later HL.out b1)
          replace HLw := Lib.hid HLw
          replace HBw := Lib.hid HBw
          replace balloc := Lib.hid balloc
          have hel := M.enc_len l
          replace hbw := Lib.hid hbw
          clear b1 p0 p1
          by_cases hok : M.ok 40 l
          · have hlt9 := Lib.hid (show ∀ b ∈ M.enc l ++ [11], b < 256 from fun b hb => (List.mem_append.1 hb).elim (fun hb => enc_lt l 40 hok b hb) (fun hb => by simp at hb; omega))
            replace hok := Lib.hid hok
            go_wp2_with fail
            refine (May_yes l _ _ HL1.out hok.out).mono ?_
            rintro e2 w2 ⟨rfl, b2⟩
            have d2 := Lib.hid (d1.out.trans (b2.mono d1.out.size))
            have pL2 : w2.cell? ⟨wr.heap.size, 0, none⟩ = some (.slice AL l.len cL) := (d2.out.cell (p := ⟨wr.heap.size, 0, none⟩) hsa).trans q0
            have HL2 := Lib.hid (LS.later HL.out d2.out)
            clear b2 pL1
            go_wp2_with fail
            refine (pBytes_any l _ _ 40 HL2.out hok.out hsz).mono ?_
            rintro e3 w3 ⟨u3, rfl, own3, b3⟩
            have bs3 := Lib.hid (own_BS own3 hlt9.out)
            have d3 := Lib.hid (d2.out.trans (b3.mono d2.out.size))
            have pL3 : w3.cell? ⟨wr.heap.size, 0, none⟩ = some (.slice AL l.len cL) := (d3.out.cell (p := ⟨wr.heap.size, 0, none⟩) hsa).trans q0
            have HL3 := Lib.hid (LS.later HL.out d3.out)
            clear b3 own3 pL2
            go_wp2_with fail
            refine (CopyInstrs_any (l.sz + 1) l _ _ (Nat.lt_succ_self _) HL3.out (by omega)).mono ?_
            rintro e4 w4 ⟨u4, rfl, own4, b4⟩
            obtain ⟨A4, n4, c4, rfl⟩ := own_slice own4
            have l4 := Lib.hid (own_LB own4 (Below.refl _ _) since_lt)
            have d4 := Lib.hid (d3.out.trans (b4.mono d3.out.size))
            have bs4 := Lib.hid (bs3.out.later b4)
            clear b4 own4 pL3
            go_wp2_with fail
            refine (Encode_yes l _ _ l4.out hok.out (by omega)).mono ?_
            rintro e5 w5 ⟨u5, rfl, own5, bs5, b5⟩
            have bs45 := Lib.hid (bs4.out.later b5)
            have l5 := Lib.hid (LS.later l4.out b5)
            have d5 := Lib.hid (d4.out.trans (b5.mono d4.out.size))
            replace bs5 := Lib.hid bs5
            clear own5 b5
            go_wp2_with fail
            refine (Check_yes l _ _ l5.out hok.out).mono ?_
            rintro e6 w6 ⟨rfl, b6⟩
            have bs46 := Lib.hid (bs45.out.later b6)
            have bs56 := Lib.hid (bs5.out.later b6)
            have l6 := Lib.hid (LS.later l5.out b6)
            have d6 := Lib.hid (d5.out.trans (b6.mono d5.out.size))
            clear b6
            go_wp2_with (go_at_call 13; refine (num_any _ _).mono ?_; rintro e wn ⟨rfl, rfl⟩)
            refine (EqBytes_same _ _ (M.enc l ++ [11]) _ bs56.out bs46.out).mono ?_
            rintro e7 w7 ⟨rfl, b7⟩
            have l7 := Lib.hid (LS.later l6.out b7)
            have d7 := Lib.hid (d6.out.trans (b7.mono d6.out.size))
            have HL7 := Lib.hid (LS.later HL.out d7.out)
            have pL7 : w7.cell? ⟨wr.heap.size, 0, none⟩ = some (.slice AL l.len cL) := (d7.out.cell (p := ⟨wr.heap.size, 0, none⟩) hsa).trans q0
            clear b7
            go_wp2_with fail
            refine (EqInstrs_same l _ _ _ l7.out HL7.out).mono ?_
            rintro e8 w8 ⟨rfl, b8⟩
            have d8 := Lib.hid (d7.out.trans (b8.mono d7.out.size))
            clear b8
            go_wp2_with fail
            exact ⟨⟨k + 1, by omega, by go_num, hfin.out _ d8.out⟩, by simp [intOf]; omega⟩
          · replace hok := Lib.hid hok
            go_wp2_with fail
            refine (May_no l _ _ HL1.out hok.out).mono ?_
            rintro e2 w2 ⟨rfl, b2⟩
            have d2 := Lib.hid (d1.out.trans (b2.mono d1.out.size))
            have pL2 : w2.cell? ⟨wr.heap.size, 0, none⟩ = some (.slice AL l.len cL) := (d2.out.cell (p := ⟨wr.heap.size, 0, none⟩) hsa).trans q0
            have HL2 := Lib.hid (LS.later HL.out d2.out)
            clear b2 pL1
            go_wp2_with fail
            refine (CopyInstrs_any (l.sz + 1) l _ _ (Nat.lt_succ_self _) HL2.out (by omega)).mono ?_
            rintro e4 w4 ⟨u4, rfl, own4, b4⟩
            obtain ⟨A4, n4, c4, rfl⟩ := own_slice own4
            have l4 := Lib.hid (own_LB own4 (Below.refl _ _) since_lt)
            have d4 := Lib.hid (d2.out.trans (b4.mono d2.out.size))
            clear b4 own4 pL2
            go_wp2_with fail
            refine (Encode_no l _ _ l4.out hok.out).mono ?_
            rintro e5 w5 ⟨rfl, b5⟩
            have l5 := Lib.hid (LS.later l4.out b5)
            have d5 := Lib.hid (d4.out.trans (b5.mono d4.out.size))
            clear b5
            go_wp2_with fail
            refine (Check_no l _ _ l5.out hok.out).mono ?_
            rintro e6 w6 ⟨rfl, b6⟩
            have l6 := Lib.hid (LS.later l5.out b6)
            have d6 := Lib.hid (d5.out.trans (b6.mono d5.out.size))
            clear b6
            go_wp2_with (go_at_call 13; refine (num_any _ _).mono ?_; rintro e wn ⟨rfl, rfl⟩)
            refine (EqBytes_same _ _ [] _ (nil_BS _) (nil_BS _)).mono ?_
            rintro e7 w7 ⟨rfl, b7⟩
            have l7 := Lib.hid (LS.later l6.out b7)
            have d7 := Lib.hid (d6.out.trans (b7.mono d6.out.size))
            have HL7 := Lib.hid (LS.later HL.out d7.out)
            have pL7 : w7.cell? ⟨wr.heap.size, 0, none⟩ = some (.slice AL l.len cL) := (d7.out.cell (p := ⟨wr.heap.size, 0, none⟩) hsa).trans q0
            clear b7
            go_wp2_with fail
            refine (EqInstrs_same l _ _ _ l7.out HL7.out).mono ?_
            rintro e8 w8 ⟨rfl, b8⟩
            have d8 := Lib.hid (d7.out.trans (b8.mono d7.out.size))
            clear b8
            go_wp2_with fail
            exact ⟨⟨k + 1, by omega, by go_num, hfin.out _ d8.out⟩, by simp [intOf]; omega⟩
      · have t10 : decide ((k : Int) < 10) = false := by simp; omega
        go_wp2_with fail
        refine (wakes_any _).mono ?_
        rintro e w7 ⟨rfl, hb7⟩
        go_wp2
        go_ret
        exact ⟨rfl, hbw.trans (hb7.mono hbw.size)⟩
    · go_wp2_with fail
      refine (wakes_any _).mono ?_
      rintro e w7 ⟨rfl, hb7⟩
      go_wp2
      go_ret
      exact ⟨rfl, hbw.trans (hb7.mono hbw.size)⟩
end Go.Proofs.Ytjapcalndolamaa
