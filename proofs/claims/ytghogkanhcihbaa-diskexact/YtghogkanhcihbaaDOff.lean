/-
  The law DiskOff, walked: it answers true; condition: the acts lie in memory as they were handed in.
-/
import Derived.Test.YtghogkanhcihbaaDWakes
import Derived.Deep.RegionHeld3
namespace Go.Proofs.Ytghogkanhcihbaa
open Go.RowKit
namespace M
def o0 : List Nat := List.replicate 256 0
def o1 : List Nat := lay o0 (0 * 64) (pat 1)
def o2 : List Nat := lay o1 (1 * 64) (pat 2)
def oa : List Nat := crash o1 o2 4 0 []
def ob : List Nat := crash o1 o2 4 0 [1, 1, 1]
theorem o0_length : o0.length = 4 * 64 := by unfold o0; rw [List.length_replicate]
theorem o1_length : o1.length = 4 * 64 := by unfold o1; rw [lay_length (by rw [o0_length, pat_length]; omega), o0_length]
theorem o2_length : o2.length = 4 * 64 := by unfold o2; rw [lay_length (by rw [o1_length, pat_length]; omega), o1_length]
theorem oa_length : oa.length = 256 := crash_length (by rw [o1_length]; omega) (by rw [o2_length]; omega)
theorem ob_length : ob.length = 256 := crash_length (by rw [o1_length]; omega) (by rw [o2_length]; omega)
theorem oa_0 : (oa.drop 0).take 64 = pat 1 := by decide +kernel
theorem oa_1 : (oa.drop 64).take 64 = List.replicate 64 0 := by decide +kernel
theorem ob_1 : (ob.drop 64).take 64 = pat 2 := by decide +kernel
theorem ob_2 : (ob.drop 128).take 64 = List.replicate 64 0 := by decide +kernel
theorem oa_lt : ∀ b ∈ oa, b < 256 := by decide +kernel
theorem ob_lt : ∀ b ∈ ob, b < 256 := by decide +kernel
end M
/-- What a crash has told, and noughts. -/
structure OffK (W w' : World) (ra ca rb cb rz : Nat) (A Bb Z : List Nat) : Prop where
  a : RowAt w' ra ca A
  b : RowAt w' rb cb Bb
  z : RowAt w' rz 64 Z
  bel : Below W.heap.size W w'
theorem OffK.later {W w' w2 : World} {ra ca rb cb rz : Nat} {A Bb Z : List Nat} (h : OffK W w' ra ca rb cb rz A Bb Z) (hb : Below w'.heap.size w' w2) : OffK W w2 ra ca rb cb rz A Bb Z :=
  ⟨h.a.later hb, h.b.later hb, h.z.later hb, h.bel.trans (hb.mono h.bel.size)⟩
section
variable {W w' : World} {ra ca rb cb rz : Nat}
theorem OffK.pa0 (h : OffK W w' ra ca rb cb rz M.oa M.ob (List.replicate 64 0)) (d : Nat) (hd : 64 ≤ d ∧ d ≤ maxLen) : BS w' w'.heap.size (.slice (some ⟨ra, 0, none⟩) 64 d) (M.pat 1) := by
  rw [← M.oa_0]; exact h.a.part 0 64 d (by rw [M.oa_length]; omega) hd
theorem OffK.pa1 (h : OffK W w' ra ca rb cb rz M.oa M.ob (List.replicate 64 0)) (d : Nat) (hd : 64 ≤ d ∧ d ≤ maxLen) : BS w' w'.heap.size (.slice (some ⟨ra, 64, none⟩) 64 d) (List.replicate 64 0) := by
  rw [← M.oa_1]; exact h.a.part 64 64 d (by rw [M.oa_length]; omega) hd
theorem OffK.pb1 (h : OffK W w' ra ca rb cb rz M.oa M.ob (List.replicate 64 0)) (d : Nat) (hd : 64 ≤ d ∧ d ≤ maxLen) : BS w' w'.heap.size (.slice (some ⟨rb, 64, none⟩) 64 d) (M.pat 2) := by
  rw [← M.ob_1]; exact h.b.part 64 64 d (by rw [M.ob_length]; omega) hd
theorem OffK.pb2 (h : OffK W w' ra ca rb cb rz M.oa M.ob (List.replicate 64 0)) (d : Nat) (hd : 64 ≤ d ∧ d ≤ maxLen) : BS w' w'.heap.size (.slice (some ⟨rb, 128, none⟩) 64 d) (List.replicate 64 0) := by
  rw [← M.ob_2]; exact h.b.part 128 64 d (by rw [M.ob_length]; omega) hd
theorem OffK.pz (h : OffK W w' ra ca rb cb rz M.oa M.ob (List.replicate 64 0)) : BS w' w'.heap.size (.slice (some ⟨rz, 0, none⟩) 64 64) (List.replicate 64 0) :=
  h.z.all (by simp)
end
theorem crash_row {w w' : World} {bs : List Nat} {e : Ending} (h : CrashPost bs w e w') (hl : 0 < bs.length) (hlt : ∀ b ∈ bs, b < 256) : ∃ r c, e = .returned (.slice (some ⟨r, 0, none⟩) bs.length c) ∧ RowAt w' r c bs ∧ w.heap.size ≤ r ∧ Below w.heap.size w w' := by
  obtain ⟨v, rfl, hown, hb⟩ := h
  obtain ⟨A, c, rfl, h5, h6⟩ := own_form hown
  obtain ⟨r, cur, rfl, _⟩ := own_at hown hl
  have hr := RowAt.of_own hown hlt
  exact ⟨r, c, rfl, hr.1, hr.2.1, hb⟩
set_option maxRecDepth 100000 in
set_option maxHeartbeats 4000000 in
theorem offWalk (cs : Array Value) (w : World) (hp : IsPlay w (.agg cs)) : Calls Try.prog 5 #[.agg cs] w fun e w' => e = .returned (.bool true) ∧ Below w.heap.size w w' := by
  obtain ⟨size, A, l, c, ts, A2, l2, c2, hv, _, _, ⟨hlc, hcm⟩, _⟩ := hp
  injection hv with hv
  subst hv
  unfold maxLen at hcm
  have hmk := make_run 256 256 256 256 rfl rfl (by omega) (by omega)
  have hmk2 := make_run 64 64 64 64 rfl rfl (by omega) (by omega)
  go_enter Try.func5, Try.ntmps5
  go_wp2_with fail
  obtain ⟨W1, hW1⟩ : ∃ W1, W1 = w.alloc (.cells #[.int .i64 size, .slice A l c, .slice A2 l2 c2] 25) := ⟨_, rfl⟩
  have hz1 : W1.heap.size = w.heap.size + 1 := by rw [hW1]; simp
  have q2 : W1.cell? ⟨w.heap.size, 2, none⟩ = some (.slice A2 l2 c2) := by rw [hW1]; simp
  have hbW : Below w.heap.size w W1 := by rw [hW1]; exact (Below.refl _ _).alloc (Nat.le_refl _) _
  rw [← hW1]
  clear hW1
  have hZ := (zrow_at W1 256 (by omega)).but (But.alloc (fun _ => False) _ (.cells #[.int .i64 3] 57)) (fun h => h)
  have hb2 : Below W1.heap.size W1 ((W1.alloc (.cells (zrow 256) 5)).alloc (.cells #[.int .i64 3] 57)) := ((Below.refl _ _).alloc (Nat.le_refl _) _).alloc (by simp) _
  have q3 : ((W1.alloc (.cells (zrow 256) 5)).alloc (.cells #[.int .i64 3] 57)).cell? ⟨w.heap.size + 1 + 1, 0, none⟩ = some (.int .i64 3) := by rw [← hz1]; simp
  have hz2 : ((W1.alloc (.cells (zrow 256) 5)).alloc (.cells #[.int .i64 3] 57)).heap.size = w.heap.size + 3 := by simp [hz1]
  obtain ⟨W2, hW2⟩ : ∃ W2, W2 = (W1.alloc (.cells (zrow 256) 5)).alloc (.cells #[.int .i64 3] 57) := ⟨_, rfl⟩
  rw [← hW2] at hZ hb2 q3 hz2 ⊢
  clear hW2
  rw [hz1, show List.replicate 256 0 = M.o0 from rfl] at hZ
  have hB := Lib.hid (hZ.all (n := 256) (by rw [M.o0_length]))
  have p2 := (hb2.cell (p := ⟨w.heap.size, 2, none⟩) (by show w.heap.size < _; omega)).trans q2
  have hbw := Lib.hid (hbW.trans (hb2.mono (by omega)))
  have hN : NS W2 W2.heap.size (.slice (some ⟨w.heap.size + 1 + 1, 0, none⟩) 1 1) [3] := ⟨_, 1, rfl, by simp, by unfold maxLen; omega, fun i hi => by
    obtain rfl : i = 0 := by simpa using hi
    exact ⟨_, rfl, by show w.heap.size + 1 + 1 < _; omega, by simp, by rw [add_none]; exact q3⟩⟩
  replace hN := Lib.hid hN
  clear hZ hb2 q2 q3 hbW hz1 hmk
  refine (New_any _ _ _ M.o0 [3] 4 (by omega) M.o0_length hB.out hN.out).mono ?_
  rintro e1 w1 h1
  obtain ⟨g, r, q, cS, cE, rfl, d1, b1⟩ := new_rows h1 (by simp)
  rw [show M.least [3] = 3 from rfl] at d1
  have p2' := (b1.cell (p := ⟨w.heap.size, 2, none⟩) (by show w.heap.size < _; omega)).trans p2
  have hp2 : W2.cell? ⟨w.heap.size, 2, none⟩ = some (.slice A2 l2 c2) := p2
  replace hp2 := Lib.hid hp2
  clear h1 hN hB p2
  replace d1 := Lib.hid d1
  replace b1 := Lib.hid b1
  go_wp2_with (go_at_call 10; refine (num_any _ _).mono ?_; rintro e wn ⟨rfl, rfl⟩)
  refine (sector_any 1 _).mono ?_
  rintro e2 w2 ⟨rfl, r2, b2⟩
  have d2 := Lib.hid (d1.out.later b2)
  have bb2 := Lib.hid (b1.out.trans (b2.mono b1.out.size))
  have s2 := Lib.hid (r2.all (n := 64) (M.pat_length 1).symm)
  clear r2 b2
  go_wp2_with fail
  refine (Write_any _ 0 0 _ (M.pat 1) M.o1 1 0 d2.out s2.out rfl (by omega) (M.pat_length 1) (by omega) (by rw [if_neg (by omega)]; rfl) rfl (by rw [if_neg (by omega)])).mono ?_
  rintro e3 w3 ⟨rfl, d3, x3⟩
  have bb3 := Lib.hid (d2.out.since bb2.out (Nat.le_refl _) x3)
  replace d3 := Lib.hid d3
  clear x3
  go_wp2_with (go_at_call 10; refine (num_any _ _).mono ?_; rintro e wn ⟨rfl, rfl⟩)
  refine (Flush_any _ M.o1 2 0 d3.out (by omega) (by rw [if_neg (by omega)]) rfl (by rw [if_neg (by omega)])).mono ?_
  rintro e4 w4 ⟨rfl, d4, x4⟩
  have bb4 := Lib.hid (d3.out.since bb3.out (Nat.le_refl _) x4)
  replace d4 := Lib.hid d4
  clear x4
  go_wp2_with (go_at_call 10; refine (num_any _ _).mono ?_; rintro e wn ⟨rfl, rfl⟩)
  refine (sector_any 2 _).mono ?_
  rintro e5 w5 ⟨rfl, r5, b5⟩
  have d5 := Lib.hid (d4.out.later b5)
  have bb5 := Lib.hid (bb4.out.trans (b5.mono bb4.out.size))
  have s5 := Lib.hid (r5.all (n := 64) (M.pat_length 2).symm)
  clear r5 b5
  go_wp2_with fail
  refine (Write_any _ 1 1 _ (M.pat 2) M.o2 3 103 d5.out s5.out rfl (by omega) (M.pat_length 2) (by omega) (by rw [if_neg (by omega)]; rfl) rfl (by rw [if_pos (by omega)])).mono ?_
  rintro e6 w6 ⟨rfl, d6, x6⟩
  have bb6 := Lib.hid (d5.out.since bb5.out (Nat.le_refl _) x6)
  replace d6 := Lib.hid d6
  clear x6 bb2 bb3 bb4 bb5 d1 d2 d3 d4 d5 s2 s5 b1
  go_wp2_with (go_at_call 10; refine (num_any _ _).mono ?_; rintro e wn ⟨rfl, rfl⟩)
  go_loopw [5] (fun i w' => ∃ (j : Nat) (k : Int), (j ≤ l2 ∧ j ≤ 40) ∧ (3 ≤ k ∧ k ≤ 3 + 2 * j) ∧ i = .int .i64 j ∧ DAt w' W2.heap.size g r q 4 cS cE M.o1 M.o2 k 3 ∧ Below W2.heap.size W2 w') (fun i _ => 40 - (intOf i).toNat)
  case atStart => exact ⟨0, 3, by omega, by omega, rfl, d6.out, bb6.out⟩
  case round =>
    clear d6 bb6
    obtain ⟨j, k, hj, hk, rfl, D, bel⟩ := hrel
    have p3 := (bel.cell (p := ⟨w.heap.size, 2, none⟩) (by show w.heap.size < _; omega)).trans ((hp2).out)
    replace D := Lib.hid D
    replace bel := Lib.hid bel
    by_cases hlt : j < l2 ∧ j < 40
    · as_aux_lemma =>
      have t0 : (0 : Int) ≤ (j : Int) := by omega
      have t1 : (j : Int) < (l2 : Int) := by omega
      have t2 : (j : Int) < 40 := by omega
      go_wp2_with fail
      refine (Read_off _ 0 D.out (by omega) (by omega)).mono ?_
      rintro e7 w7 ⟨rfl, b7⟩
      have D7 := Lib.hid (D.out.later b7)
      have bb7 := Lib.hid (bel.out.trans (b7.mono bel.out.size))
      clear b7
      go_wp2_with fail
      refine (sector_any 9 _).mono ?_
      rintro e8 w8 ⟨rfl, r8, b8⟩
      have D8 := Lib.hid (D7.out.later b8)
      have bb8 := Lib.hid (bb7.out.trans (b8.mono bb7.out.size))
      have s8 := Lib.hid (r8.all (n := 64) (M.pat_length 9).symm)
      clear r8 b8
      go_wp2_with fail
      refine (Write_any _ 2 2 _ (M.pat 9) M.o2 (k + 1) 103 D8.out s8.out rfl (by omega) (M.pat_length 9) (by omega) (by rw [if_pos (by omega)]) rfl (by rw [if_pos (by omega)])).mono ?_
      rintro e9 w9 ⟨rfl, D9, x9⟩
      have bb9 := Lib.hid (D8.out.since bb8.out (Nat.le_refl _) x9)
      replace D9 := Lib.hid D9
      clear x9
      go_wp2_with (go_at_call 10; refine (num_any _ _).mono ?_; rintro e wn ⟨rfl, rfl⟩)
      refine (Flush_any _ M.o1 (k + 1 + 1) 103 D9.out (by omega) (by rw [if_pos (by omega)]) rfl (by rw [if_pos (by omega)])).mono ?_
      rintro e10 w10 ⟨rfl, D10, x10⟩
      have bb10 := Lib.hid (D9.out.since bb9.out (Nat.le_refl _) x10)
      replace D10 := Lib.hid D10
      clear x10
      go_wp2_with (go_at_call 10; refine (num_any _ _).mono ?_; rintro e wn ⟨rfl, rfl⟩)
      refine (sector_any 9 _).mono ?_
      rintro e11 w11 ⟨rfl, r11, b11⟩
      have D11 := Lib.hid (D10.out.later b11)
      have bb11 := Lib.hid (bb10.out.trans (b11.mono bb10.out.size))
      have s11 := Lib.hid (r11.all (n := 64) (M.pat_length 9).symm)
      clear r11 b11
      go_wp2_with fail
      refine (Write_bad _ (-1) _ (M.pat 9) D11.out s11.out (by omega)).mono ?_
      rintro e12 w12 ⟨rfl, rfl⟩
      go_wp2_with (go_at_call 10; refine (num_any _ _).mono ?_; rintro e wn ⟨rfl, rfl⟩)
      exact ⟨⟨j + 1, k + 1 + 1, by omega, by omega, by go_num, D11.out, bb11.out⟩, by simp [intOf]; omega⟩
    · have hN0 := nil_NS wr wr.heap.size
      replace hN0 := Lib.hid hN0
      have hor : ¬ (j < l2) ∨ (j < l2 ∧ ¬ j < 40) := by omega
      have hd : (decide ((j : Int) < (l2 : Int)) && decide ((j : Int) < 40)) = false := by simp; omega
      rcases hor with ho | ⟨ho, ho2⟩
      all_goals as_aux_lemma =>
        go_wp2_with fail
        refine (Crash_any _ _ [] D.out hN0.out).mono ?_
        rintro e13 w13 h13
        obtain ⟨ra, ca, rfl, r13, _, b13⟩ := crash_row (bs := M.oa) h13 (by rw [M.oa_length]; omega) M.oa_lt
        rw [M.oa_length]
        have D13 := Lib.hid (D.out.later b13)
        have bb13 := Lib.hid (bel.out.trans (b13.mono bel.out.size))
        replace r13 := Lib.hid r13
        clear h13 b13
        have hb14 : Below w13.heap.size w13 (w13.alloc (.cells #[.int .i64 1, .int .i64 1, .int .i64 1] 3)) := (Below.refl _ _).alloc (Nat.le_refl _) _
        have hN14 : NS (w13.alloc (.cells #[.int .i64 1, .int .i64 1, .int .i64 1] 3)) (w13.alloc (.cells #[.int .i64 1, .int .i64 1, .int .i64 1] 3)).heap.size (.slice (some ⟨w13.heap.size, 0, none⟩) 3 3) [1, 1, 1] := ⟨_, 3, rfl, by simp, by unfold maxLen; omega, fun i hi => by
          have hi3 : i < 3 := by simpa using hi
          refine ⟨_, rfl, by simp, ?_, ?_⟩
          · rcases (show i = 0 ∨ i = 1 ∨ i = 2 by omega) with rfl | rfl | rfl <;> simp
          · rw [add_none]
            rcases (show i = 0 ∨ i = 1 ∨ i = 2 by omega) with rfl | rfl | rfl <;> simp⟩
        have D14 := Lib.hid (D13.out.later hb14)
        have r14 := Lib.hid (r13.out.later hb14)
        have bb14 := Lib.hid (bb13.out.trans (hb14.mono bb13.out.size))
        replace hN14 := Lib.hid hN14
        clear hb14
        go_wp2_with fail
        refine (Crash_any _ _ [1, 1, 1] D14.out hN14.out).mono ?_
        rintro e15 w15 h15
        obtain ⟨rb, cb, rfl, r15, _, b15⟩ := crash_row (bs := M.ob) h15 (by rw [M.ob_length]; omega) M.ob_lt
        rw [M.ob_length]
        have r15a := Lib.hid (r14.out.later b15)
        have bb15 := Lib.hid (bb14.out.trans (b15.mono bb14.out.size))
        replace r15 := Lib.hid r15
        clear h15 b15 hN14 D14 D13 D
        obtain ⟨ca1, ca2⟩ := r15a.out.le
        obtain ⟨cb1, cb2⟩ := r15.out.le
        rw [M.oa_length] at ca1
        rw [M.ob_length] at cb1
        unfold maxLen at ca2 cb2
        have ha0 : 64 ≤ ca ∧ ca ≤ 2 ^ 63 - 1 := ⟨by omega, ca2⟩
        have ha1 : 64 ≤ ca - 64 ∧ ca - 64 ≤ 2 ^ 63 - 1 := ⟨by omega, by omega⟩
        have hb1 : 64 ≤ cb - 64 ∧ cb - 64 ≤ 2 ^ 63 - 1 := ⟨by omega, by omega⟩
        have hb2 : 64 ≤ cb - 128 ∧ cb - 128 ≤ 2 ^ 63 - 1 := ⟨by omega, by omega⟩
        have hb16 : Below w15.heap.size w15 (w15.alloc (.cells (zrow 64) 5)).drew := ((Below.refl _ _).alloc (Nat.le_refl _) _).drew
        have K0 : OffK W2 (w15.alloc (.cells (zrow 64) 5)).drew ra ca rb cb w15.heap.size M.oa M.ob (List.replicate 64 0) :=
          ⟨r15a.out.later hb16, r15.out.later hb16, (zrow_at w15 64 (by omega)).later (w' := (w15.alloc (.cells (zrow 64) 5)).drew) (below_drewN' _ 1), bb15.out.trans (hb16.mono bb15.out.size)⟩
        replace K0 := Lib.hid K0
        have hsz := Lib.hid (show (w15.alloc (.cells (zrow 64) 5)).drew.heap.size = w15.heap.size + 1 by show (w15.alloc _).heap.size = _; simp)
        replace ha0 := Lib.hid ha0
        replace ha1 := Lib.hid ha1
        replace hb1 := Lib.hid hb1
        replace hb2 := Lib.hid hb2
        clear hb16 r15a r15 r14 r13 bb13 bb14 bb15 hd
        have n1 : (64 : Int) ≤ (ca : Int) := by omega
        have n2 : (128 : Int) ≤ (ca : Int) := by omega
        have n3 : (128 : Int) ≤ (cb : Int) := by omega
        have n4 : (192 : Int) ≤ (cb : Int) := by omega
        have n5 : 64 ≤ ca ∧ 128 ≤ ca ∧ 128 ≤ cb ∧ 192 ≤ cb := by omega
        obtain ⟨n5, n6, n7, n8⟩ := n5
        have n9 : ca ≠ 64 := by omega
        have n10 : cb ≠ 64 := by omega
        have n11 : cb ≠ 128 := by omega
        go_wp2_with fail
        go_region_held3 (fun w' => True)
          (trivial)
          (first
            | (go_at_call 11; (with_reducible refine (wakes_any _).mono ?_); rintro e7 w27 ⟨rfl, y7⟩)
            | (go_at_call 21; (with_reducible refine (sector_any 1 _).mono ?_); rintro e1 w21 ⟨rfl, z1, y1⟩; have K1 := Lib.hid (K0.out.later y1); replace z1 := z1.all (n := 64) (M.pat_length 1).symm; rw [hsz.out] at z1; replace z1 := Lib.hid z1; replace y1 := Lib.hid y1)
            | (go_at_call 21; (with_reducible refine (sector_any 2 _).mono ?_); rintro e4 w24 ⟨rfl, z4, y4⟩; have K4 := Lib.hid (K3.out.later y4); replace z4 := Lib.hid (z4.all (n := 64) (M.pat_length 2).symm); replace y4 := Lib.hid y4)
            | (go_at_call 18; (with_reducible refine (EqBytes_any _ _ (List.replicate 64 0) (List.replicate 64 0) true _ (K5.out.pb2 _ hb2.out) K5.out.pz (by simp)).mono ?_); rintro e6 w26 ⟨rfl, y6⟩; have K6 := Lib.hid (K5.out.later y6); replace y6 := Lib.hid y6)
            | (go_at_call 18; (with_reducible refine (EqBytes_any _ _ (M.pat 2) (M.pat 2) true _ (K4.out.pb1 _ hb1.out) z4.out (by simp)).mono ?_); rintro e5 w25 ⟨rfl, y5⟩; have K5 := Lib.hid (K4.out.later y5); replace y5 := Lib.hid y5)
            | (go_at_call 18; (with_reducible refine (EqBytes_any _ _ (List.replicate 64 0) (List.replicate 64 0) true _ (K2.out.pa1 _ ha1.out) K2.out.pz (by simp)).mono ?_); rintro e3 w23 ⟨rfl, y3⟩; have K3 := Lib.hid (K2.out.later y3); replace y3 := Lib.hid y3)
            | (go_at_call 18; (with_reducible refine (EqBytes_any _ _ (M.pat 1) (M.pat 1) true _ (K1.out.pa0 _ ha0.out) z1.out (by simp)).mono ?_); rintro e2 w22 ⟨rfl, y2⟩; have K2 := Lib.hid (K1.out.later y2); replace y2 := Lib.hid y2))
        have bfin := hbw.out.trans ((K6.out.later y7).bel.mono (by omega))
        replace bfin := Lib.hid bfin
        go_wp2_with fail
        go_ret
        exact ⟨rfl, bfin.out⟩
end Go.Proofs.Ytghogkanhcihbaa
