/-
  The law on what instructions may be, walked: for every list of questions it returns true and writes nothing that was there; condition: the list lies in memory as 'Asks' says.
-/
import Derived.Test.YtjapcalndolamaaWakes
import Derived.Test.YtjapcalndolamaaChk3
import Derived.Test.YtjapcalndolamaaMay3
namespace Go.Proofs.Ytjapcalndolamaa
open Go.RowKit
set_option maxRecDepth 100000 in
set_option maxHeartbeats 4000000 in
theorem CodeChecks_walk (A : Option Addr) (n c : Nat) (w : World) (h : Asks w A n) :
    Calls Try.prog 7 #[.slice A n c] w fun e w' => e = .returned (.bool true) ∧ Below w.heap.size w w' := by
  obtain ⟨hn, h⟩ := h
  unfold maxLen at hn
  replace h := Lib.hid h
  go_enter Try.func7, Try.ntmps7
  go_wp2_with fail
  go_loopw [3] (fun i w' => ∃ k : Nat, k ≤ n ∧ i = .int .i64 k ∧ Below w.heap.size w w') (fun i _ => n - (intOf i).toNat)
  case atStart => exact ⟨0, by omega, rfl, Below.refl _ _⟩
  case round =>
    obtain ⟨k, hk, rfl, hbw⟩ := hrel
    by_cases hlt : k < n
    · obtain ⟨g, o, vL, vB, l, bs, rfl, hg, q0, q1, hL, hB⟩ := h.out k hlt
      have t0 : (0 : Int) ≤ (k : Int) := by omega
      have t1 : (k : Int) < (n : Int) := by omega
      have p0 : wr.cell? ⟨g, o + k * 2, none⟩ = some vL := by rw [hbw.cell (by exact hg)]; exact q0
      have p1 : wr.cell? ⟨g, o + k * 2 + 1, none⟩ = some vB := by rw [hbw.cell (by exact hg)]; exact q1
      have HL := Lib.hid (LS.later hL hbw)
      have HB := Lib.hid (hB.later hbw)
      have hgr : g < wr.heap.size := Nat.lt_of_lt_of_le hg hbw.size
      obtain ⟨AL, cL, rfl, hLl⟩ := LS.form hL
      obtain ⟨AB, cB, rfl, hBl⟩ := hB
      replace hBl := Lib.hid hBl
      replace hLl := Lib.hid hLl
      clear q0 q1 hL
      by_cases h10 : k < 10
      · go_wp2_with fail
        refine (heavy_any _ _ l bs _ HL.out HB.out).mono ?_
        rintro e1 w1 ⟨rfl | ⟨rfl, hsz, hbl⟩, b1⟩
        · replace b1 := Lib.hid b1
          go_wp2_with fail
          go_ret
          exact ⟨rfl, hbw.trans (b1.out.mono hbw.size)⟩
        · have d1 : Below wr.heap.size wr w1 := b1
          have p0' : w1.cell? ⟨g, o + k * 2, none⟩ = some (.slice AL l.len cL) := by rw [d1.cell (by exact hgr)]; exact p0
          have HL1 := Lib.hid (LS.later HL.out d1)
          clear b1
          by_cases hok : M.ok 40 l
          · replace hok := Lib.hid hok
            go_wp2_with fail
            refine (Check_yes l _ _ HL1.out hok.out).mono ?_
            rintro e2 w2 ⟨rfl, b2⟩
            have d2 : Below wr.heap.size wr w2 := d1.trans (b2.mono d1.size)
            have p2' : w2.cell? ⟨g, o + k * 2, none⟩ = some (.slice AL l.len cL) := by rw [d2.cell (by exact hgr)]; exact p0
            have HL2 := Lib.hid (LS.later HL.out d2)
            clear b2
            go_wp2_with (go_at_call 13; refine (num_any _ _).mono ?_; rintro e wn ⟨rfl, rfl⟩)
            refine (May_yes l _ _ HL2.out hok.out).mono ?_
            rintro e3 w3 ⟨rfl, b3⟩
            have d3 : Below wr.heap.size wr w3 := d2.trans (b3.mono d2.size)
            replace d3 := Lib.hid d3
            clear b3 d1 d2
            go_wp2_with fail
            exact ⟨⟨k + 1, by omega, by go_num, hbw.trans (d3.out.mono hbw.size)⟩, by simp [intOf]; omega⟩
          · replace hok := Lib.hid hok
            go_wp2_with fail
            refine (Check_no l _ _ HL1.out hok.out).mono ?_
            rintro e2 w2 ⟨rfl, b2⟩
            have d2 : Below wr.heap.size wr w2 := d1.trans (b2.mono d1.size)
            have p2' : w2.cell? ⟨g, o + k * 2, none⟩ = some (.slice AL l.len cL) := by rw [d2.cell (by exact hgr)]; exact p0
            have HL2 := Lib.hid (LS.later HL.out d2)
            clear b2
            go_wp2_with (go_at_call 13; refine (num_any _ _).mono ?_; rintro e wn ⟨rfl, rfl⟩)
            refine (May_no l _ _ HL2.out hok.out).mono ?_
            rintro e3 w3 ⟨rfl, b3⟩
            have d3 : Below wr.heap.size wr w3 := d2.trans (b3.mono d2.size)
            have p3' : w3.cell? ⟨g, o + k * 2, none⟩ = some (.slice AL l.len cL) := by rw [d3.cell (by exact hgr)]; exact p0
            have HL3 := Lib.hid (LS.later HL.out d3)
            clear b3
            go_wp2_with fail
            refine (Check_no l _ _ HL3.out hok.out).mono ?_
            rintro e4 w4 ⟨rfl, b4⟩
            have d4 : Below wr.heap.size wr w4 := d3.trans (b4.mono d3.size)
            replace d4 := Lib.hid d4
            clear b4 d1 d2 d3
            go_wp2_with (go_at_call 13; refine (num_any _ _).mono ?_; rintro e wn ⟨rfl, rfl⟩)
            exact ⟨⟨k + 1, by omega, by go_num, hbw.trans (d4.out.mono hbw.size)⟩, by simp [intOf]; omega⟩
      · go_wp2_with fail
        refine (wakes_any _).mono ?_
        rintro e w7 ⟨rfl, hb7⟩
        go_wp2
        go_ret
        exact ⟨rfl, hbw.trans (hb7.mono hbw.size)⟩
    · go_wp2_with fail
      refine (wakes_any _).mono ?_
      rintro e w7 ⟨rfl, hb7⟩
      go_wp2
      go_ret
      exact ⟨rfl, hbw.trans (hb7.mono hbw.size)⟩
end Go.Proofs.Ytjapcalndolamaa
