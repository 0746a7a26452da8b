/-
  The law on sizes, walked: for every list of questions it returns true and writes nothing that was there; condition: the list lies in memory as 'Asks' says.
-/
import Derived.Test.YtflchcdafcoenaaOpen
import Derived.Test.YtflchcdafcoenaaLebS
namespace Go.Proofs.Ytflchcdafcoenaa
open Go.RowKit
def CountU (u : Nat) (cn v : Value) : Prop := ∃ j m c : Nat, cn = .int .i64 c ∧ v = .int .u64 m ∧ c + (M.putU (j + 1) m).length = (M.putU 10 u).length + 1 ∧ m < 2 ^ (7 * j + 1)
def CountS (s : Int) (cn v : Value) : Prop := ∃ (j : Nat) (m : Int) (c : Nat), cn = .int .i64 c ∧ v = .int .i64 m ∧ c + (M.putS (j + 1) m).length = (M.putS 10 s).length + 1 ∧ (-2 ^ (7 * j) ≤ m ∧ m < 2 ^ (7 * j))
set_option maxRecDepth 100000 in
theorem LebSizes_walk (A : Option Addr) (n c : Nat) (w : World) (h : Asks w A n) :
    Calls Try.prog 8 #[.slice A n c] w fun e w' => e = .returned (.bool true) ∧ Below w.heap.size w w' := by
  obtain ⟨hn, h⟩ := h
  unfold maxLen at hn
  have h := Lib.hid h
  go_enter Try.func8, Try.ntmps8
  go_wp2
  go_loopw [3] (fun i w' => ∃ k : Nat, k ≤ n ∧ i = .int .i64 k ∧ Below w.heap.size w w') (fun i _ => n - (intOf i).toNat)
  case atStart => exact ⟨0, by omega, rfl, Below.refl _ _⟩
  case round =>
    obtain ⟨k, hk, rfl, hbw⟩ := hrel
    by_cases hlt : k < n
    · obtain ⟨g, o, B, l, cB, f, b, u, s, rfl, hl, q0, q1, q2, q3, hB, hlm, hb, hu, hs⟩ := h.out k hlt
      have t0 : (0 : Int) ≤ (k : Int) := by omega
      have t1 : (k : Int) < (n : Int) := by omega
      have p2 : wr.cell? ⟨g, o + k * 4 + 2, none⟩ = some (.int .u64 u) := by rw [hbw.cell (by exact hl)]; exact q2
      have p3 : wr.cell? ⟨g, o + k * 4 + 3, none⟩ = some (.int .i64 s) := by rw [hbw.cell (by exact hl)]; exact q3
      have hlU := M.putU_length 10 u
      have hlS := M.putS_length 10 s
      clear q0 q1 q2 q3
      by_cases h30 : k < 30
      · go_wp2_with fail
        go_loop [4, 5] (fun cn v => CountU u cn v) (fun _ v => (intOf v).toNat)
        case atStart => exact ⟨9, u, 1, rfl, rfl, by show 1 + (M.putU 10 u).length = _; omega, by simpa using hu⟩
        case round =>
          obtain ⟨j, m, cn, rfl, rfl, hcn, hm⟩ := hrel
          have HC := Lib.hid hcn
          have HM := Lib.hid hm
          have hcb : cn ≤ 11 := by have := M.putU_length (j + 1) m; omega
          clear hcn hm
          by_cases hge : 128 ≤ m
          · go_wp2
            obtain ⟨i, rfl, hi⟩ := M.fuel_pos m j HM.out (by omega)
            refine ⟨⟨i, m / 128, cn + 1, by go_num, by simp, ?_, hi⟩, by simp [intOf]; omega⟩
            have hc := HC.out
            rw [M.putU_more (i + 1) m (by omega), List.length_cons] at hc
            omega
          · have hcu : cn = (M.putU 10 u).length := by
              have hc := HC.out
              rw [M.putU_last j m (by omega)] at hc
              simpa using hc
            subst hcu
            clear HC HM hcb
            go_wp2_with fail
            go_loop [6, 7] (fun cn v => CountS s cn v) (fun _ v => (intOf v).natAbs)
            case atStart => exact ⟨9, s, 1, rfl, rfl, by show 1 + (M.putS 10 s).length = _; omega, by simpa using hs⟩
            case round =>
              obtain ⟨j, m, cn, rfl, rfl, hcn, hm⟩ := hrel
              have HC := Lib.hid hcn
              have HM := Lib.hid hm
              have hcb : cn ≤ 11 := by have := M.putS_length (j + 1) m; omega
              clear hcn hm
              by_cases hge : -64 ≤ m ∧ m < 64
              · have hcu : cn = (M.putS 10 s).length := by
                  have hc := HC.out
                  rw [M.putS_last j m hge] at hc
                  simpa using hc
                subst hcu
                obtain ⟨hg1, hg2⟩ := hge
                have d1 : decide (63 < m) = false := by simp; omega
                have d2 : decide (m < -64) = false := by simp; omega
                clear HC HM hcb
                go_wp2_with fail
                refine (PutUint_any u _ hu).mono ?_
                rintro e w1 ⟨v1, rfl, hown1, hb1⟩
                have c1 : Below w.heap.size w w1 := hbw.trans (hb1.mono hbw.size)
                obtain ⟨A1, cap1, rfl, hA1⟩ := own_bytes hown1 (M.putU_lt 10 u)
                have hA1 := Lib.hid hA1
                have p3 : w1.cell? ⟨g, o + k * 4 + 3, none⟩ = some (.int .i64 s) := by rw [hb1.cell (by exact Nat.lt_of_lt_of_le hl hbw.size)]; exact p3
                go_wp2_with fail
                refine (PutSint_any s _ hs).mono ?_
                rintro e w2 ⟨v2, rfl, hown2, hb2⟩
                have c2 : Below w.heap.size w w2 := c1.trans (hb2.mono c1.size)
                obtain ⟨A2, cap2, rfl, hA2⟩ := own_bytes hown2 (M.putS_lt 10 s)
                have hA1 := Lib.hid (hA1.out.later hb2)
                have hA2 := Lib.hid hA2
                have e1 : (((M.putU 10 u).length : Int) != ((M.putU 10 u).length : Int)) = false := by simp
                have e2 : (((M.putS 10 s).length : Int) != ((M.putS 10 s).length : Int)) = false := by simp
                clear hown1 hown2 hb1 hb2 c1
                have FU := Lib.hid (M.putU_flags 9 u (by simpa using hu))
                have FS := Lib.hid (M.putS_flags 9 s (by simpa using hs))
                go_wp2_with fail
                go_loop [10] (fun j => ∃ t : Nat, t ≤ (M.putU 10 u).length ∧ j = .int .i64 t) (fun j => (M.putU 10 u).length - (intOf j).toNat)
                case atStart => exact ⟨0, by omega, rfl⟩
                case round =>
                  obtain ⟨t, ht, rfl⟩ := hrel
                  by_cases htl : t < (M.putU 10 u).length
                  · obtain ⟨a1, rfl, _, hx, hc⟩ := hA1.out t htl
                    have fl := FU.out t htl
                    have z0 : (0 : Int) ≤ (t : Int) := by omega
                    have z1 : (t : Int) < ((M.putU 10 u).length : Int) := by omega
                    replace hc : w2.cell? (a1.add t) = some (.int .u8 (((M.putU 10 u).getD t 0 : Nat) : Int)) := hc
                    replace hx : (M.putU 10 u).getD t 0 < 256 := hx
                    generalize hg : ((M.putU 10 u).getD t 0) = x at *
                    clear hg
                    by_cases hlast : t + 1 < (M.putU 10 u).length
                    · have y1 : decide ((128 : Int) ≤ (x : Int)) = true := by have := fl.2 hlast; simp; omega
                      have y2 : (t : Int) < ((M.putU 10 u).length : Int) - 1 := by omega
                      clear fl
                      go_wp2
                      exact ⟨⟨t + 1, by omega, by go_num⟩, by simp [intOf]; omega⟩
                    · have y1 : decide ((128 : Int) ≤ (x : Int)) = false := by have : ¬ 128 ≤ x := fun hh => hlast (fl.1 hh); simp; omega
                      have y2 : ¬ (t : Int) < ((M.putU 10 u).length : Int) - 1 := by omega
                      clear fl
                      go_wp2
                      exact ⟨⟨t + 1, by omega, by go_num⟩, by simp [intOf]; omega⟩
                  · go_wp2_with fail
                    go_loop [11] (fun j => ∃ t : Nat, t ≤ (M.putS 10 s).length ∧ j = .int .i64 t) (fun j => (M.putS 10 s).length - (intOf j).toNat)
                    case atStart => exact ⟨0, by omega, rfl⟩
                    case round =>
                      obtain ⟨t, ht, rfl⟩ := hrel
                      by_cases htl : t < (M.putS 10 s).length
                      · obtain ⟨a1, rfl, _, hx, hc⟩ := hA2.out t htl
                        have fl := FS.out t htl
                        have z0 : (0 : Int) ≤ (t : Int) := by omega
                        have z1 : (t : Int) < ((M.putS 10 s).length : Int) := by omega
                        replace hc : w2.cell? (a1.add t) = some (.int .u8 (((M.putS 10 s).getD t 0 : Nat) : Int)) := hc
                        replace hx : (M.putS 10 s).getD t 0 < 256 := hx
                        generalize hg : ((M.putS 10 s).getD t 0) = x at *
                        clear hg
                        by_cases hlast : t + 1 < (M.putS 10 s).length
                        · have y1 : decide ((128 : Int) ≤ (x : Int)) = true := by have := fl.2 hlast; simp; omega
                          have y2 : (t : Int) < ((M.putS 10 s).length : Int) - 1 := by omega
                          clear fl
                          go_wp2
                          exact ⟨⟨t + 1, by omega, by go_num⟩, by simp [intOf]; omega⟩
                        · have y1 : decide ((128 : Int) ≤ (x : Int)) = false := by have : ¬ 128 ≤ x := fun hh => hlast (fl.1 hh); simp; omega
                          have y2 : ¬ (t : Int) < ((M.putS 10 s).length : Int) - 1 := by omega
                          clear fl
                          go_wp2
                          exact ⟨⟨t + 1, by omega, by go_num⟩, by simp [intOf]; omega⟩
                      · go_wp2_with fail
                        exact ⟨⟨k + 1, by omega, by go_num, c2⟩, by simp [intOf]; omega⟩
              · by_cases hlo : 63 < m
                all_goals
                  go_wp2
                  obtain ⟨i, rfl, hi⟩ := M.fuelS_pos m j HM.out hge
                  refine ⟨⟨i, m / 128, cn + 1, by go_num, rfl, ?_, hi⟩, by simp [intOf]; omega⟩
                  have hc := HC.out
                  rw [M.putS_more (i + 1) m hge, List.length_cons] at hc
                  omega
      · go_wp2_with fail
        refine (Uint_no none 0 0 (fun _ => 0) 32 _ (fun i hi => by omega) (by unfold maxLen; omega) (by omega) (by omega) (fun n hh => hh.2.1 (by rw [← hh.1]; rfl))).mono ?_
        rintro e w3 ⟨rfl, hb3⟩
        have c3 : Below w.heap.size w w3 := hbw.trans (hb3.mono hbw.size)
        clear hb3
        go_wp2_with fail
        refine (Sint_bad _ _ _ 65 _ (by omega)).mono ?_
        rintro e w4 ⟨rfl, hb4⟩
        have c4 : Below w.heap.size w w4 := (c3.alloc c3.size _).trans (hb4.mono (by have := c3.size; simp; omega))
        clear hb4
        go_wp2_with fail
        refine (num_any _ _).mono ?_
        rintro e w5 ⟨rfl, rfl⟩
        go_wp2_with fail
        refine (num_any _ _).mono ?_
        rintro e w5 ⟨rfl, rfl⟩
        go_wp2_with fail
        refine (wakes_any _).mono ?_
        rintro e w6 ⟨rfl, hb6⟩
        go_wp2
        go_ret
        exact ⟨rfl, c4.trans (hb6.mono c4.size)⟩
    · go_wp2_with fail
      refine (Uint_no none 0 0 (fun _ => 0) 32 _ (fun i hi => by omega) (by unfold maxLen; omega) (by omega) (by omega) (fun n hh => hh.2.1 (by rw [← hh.1]; rfl))).mono ?_
      rintro e w3 ⟨rfl, hb3⟩
      have c3 : Below w.heap.size w w3 := hbw.trans (hb3.mono hbw.size)
      clear hb3
      go_wp2_with fail
      refine (Sint_bad _ _ _ 65 _ (by omega)).mono ?_
      rintro e w4 ⟨rfl, hb4⟩
      have c4 : Below w.heap.size w w4 := (c3.alloc c3.size _).trans (hb4.mono (by have := c3.size; simp; omega))
      clear hb4
      go_wp2_with fail
      refine (num_any _ _).mono ?_
      rintro e w5 ⟨rfl, rfl⟩
      go_wp2_with fail
      refine (num_any _ _).mono ?_
      rintro e w5 ⟨rfl, rfl⟩
      go_wp2_with fail
      refine (wakes_any _).mono ?_
      rintro e w6 ⟨rfl, hb6⟩
      go_wp2
      go_ret
      exact ⟨rfl, c4.trans (hb6.mono c4.size)⟩
end Go.Proofs.Ytflchcdafcoenaa
