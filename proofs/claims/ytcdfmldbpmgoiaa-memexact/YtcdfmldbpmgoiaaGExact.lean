/-
  The law MemExact, walked: it answers true; condition: the acts lie in memory as they were handed in.
-/
import Derived.Test.YtcdfmldbpmgoiaaGExact0
import Derived.Deep.DeepCutAuto
namespace Go.Proofs.Ytcdfmldbpmgoiaa
open Go.RowKit
set_option maxRecDepth 100000 in
set_option maxHeartbeats 40000000 in
theorem exactWalk (cs : Array Value) (w : World) (hp : IsPlay w (.agg cs)) : Calls Try.prog 3 #[.agg cs] w fun e w' => e = .returned (.bool true) ∧ Below w.heap.size w w' := by
  obtain ⟨mn, mx, limit, A, l, c, hv, rmn, rmx, rlim, ⟨hlc, hcm⟩, hacts0⟩ := hp
  injection hv with hv
  subst hv
  unfold maxLen at hcm
  have hacts := Lib.hid (hacts0.later ((Below.refl w.heap.size w).alloc (Nat.le_refl _) (.cells #[.int .i64 mn, .int .i64 mx, .int .i64 limit, .slice A l c] 26)))
  clear hacts0
  go_enter Try.func3, Try.ntmps3
  go_wp2_with fail
  obtain ⟨W0, hW0⟩ : ∃ W0, W0 = w.alloc (.cells #[.int .i64 mn, .int .i64 mx, .int .i64 limit, .slice A l c] 26) := ⟨_, rfl⟩
  rw [← hW0] at hacts ⊢
  have hz : W0.heap.size = w.heap.size + 1 := by rw [hW0]; simp
  have q0 : W0.cell? ⟨w.heap.size, 0, none⟩ = some (.int .i64 mn) := by rw [hW0]; simp
  have q1 : W0.cell? ⟨w.heap.size, 1, none⟩ = some (.int .i64 mx) := by rw [hW0]; simp
  have q2 : W0.cell? ⟨w.heap.size, 2, none⟩ = some (.int .i64 limit) := by rw [hW0]; simp
  have q3 : W0.cell? ⟨w.heap.size, 3, none⟩ = some (.slice A l c) := by rw [hW0]; simp
  have hbW : Below w.heap.size w W0 := by rw [hW0]; exact (Below.refl _ _).alloc (Nat.le_refl _) _
  clear hW0
  replace hbW := Lib.hid hbW
  refine (heavy_any mn mx limit A l c W0 hlc (by omega) hacts.out).mono ?_
  rintro e1 w1 ⟨rfl | ⟨rfl, hL, hm1, hm2⟩, b1⟩
  · go_wp2_with fail
    go_ret
    exact ⟨rfl, hbW.out.trans (b1.mono (by omega))⟩
  have p0 := (b1.cell (p := ⟨w.heap.size, 0, none⟩) (by show w.heap.size < _; omega)).trans q0
  have p1 := (b1.cell (p := ⟨w.heap.size, 1, none⟩) (by show w.heap.size < _; omega)).trans q1
  have p2 := (b1.cell (p := ⟨w.heap.size, 2, none⟩) (by show w.heap.size < _; omega)).trans q2
  have p3 := (b1.cell (p := ⟨w.heap.size, 3, none⟩) (by show w.heap.size < _; omega)).trans q3
  have hz1 : w.heap.size + 1 ≤ w1.heap.size := by have := b1.size; omega
  have hacts1 := Lib.hid (hacts.out.later b1)
  have d1 := Lib.hid (hbW.out.trans (b1.mono (by omega)))
  have hL1 : Light w1 A (min l 30) 5000 := fun i hi g o AB len cB e hc => by
    obtain ⟨g', o', d, a, f, m, x, vB, bs, e', hg', hc', _⟩ := hacts.out i (by omega)
    rw [e] at e'
    injection e' with e'
    injection e' with e1 e2
    subst e1
    subst e2
    exact hL i hi g o AB len cB e ((b1.cell (p := ⟨g, o + i * 6 + 5, none⟩) hg').symm.trans hc)
  replace hL1 := Lib.hid hL1
  clear b1 q0 q1 q2 q3 hz hbW hL hacts
  by_cases hok : 0 ≤ limit ∧ limit ≤ 16 ∧ 0 ≤ mn ∧ (mx = -1 ∨ mn ≤ mx)
  · by_cases h2 : limit < mn
    · as_aux_lemma =>
        have hok' := Lib.hid hok
        clear hok
        go_wp2_with fail
        refine (New_nospc mn mx limit _ hok'.out h2).mono ?_
        rintro e2 w2 ⟨rfl, b2⟩
        have s0 := (b2.cell (p := ⟨w.heap.size, 0, none⟩) (by show w.heap.size < _; omega)).trans p0
        have s1 := (b2.cell (p := ⟨w.heap.size, 1, none⟩) (by show w.heap.size < _; omega)).trans p1
        have s2 := (b2.cell (p := ⟨w.heap.size, 2, none⟩) (by show w.heap.size < _; omega)).trans p2
        have z2 := b2.size
        have d2 := Lib.hid (d1.out.trans (b2.mono d1.out.size))
        clear b2
        go_wp2_with fail
        refine (mayMem_any mn mx limit _ true (by have := hok'.out; simpa using this)).mono ?_
        rintro e3 w3 ⟨rfl, b3⟩
        have u0 := (b3.cell (p := ⟨w.heap.size, 0, none⟩) (by show w.heap.size < _; omega)).trans s0
        have u1 := (b3.cell (p := ⟨w.heap.size, 1, none⟩) (by show w.heap.size < _; omega)).trans s1
        have u2 := (b3.cell (p := ⟨w.heap.size, 2, none⟩) (by show w.heap.size < _; omega)).trans s2
        have d3 := Lib.hid (d2.out.trans (b3.mono d2.out.size))
        clear b3
        go_wp2_with fail
        refine (newMem_no mn mx limit _ h2).mono ?_
        rintro e4 w4 ⟨rfl, b4⟩
        have d4 := Lib.hid (d3.out.trans (b4.mono d3.out.size))
        clear b4
        go_wp2_with (first | (go_at_call 8; refine (num_any _ _).mono ?_; rintro e wn ⟨rfl, rfl⟩) | (go_at_call 9; refine (wakes_any _).mono ?_; rintro ew ww ⟨rfl, bw⟩))
        go_ret
        exact ⟨rfl, d4.out.trans (bw.mono d4.out.size)⟩
    · obtain ⟨N, hN⟩ : ∃ N, N = mn.toNat * 65536 := ⟨_, rfl⟩
      obtain ⟨most, hmost⟩ : ∃ most, most = if mx = -1 then limit else min mx limit := ⟨_, rfl⟩
      have hmost2 : most = if 0 ≤ mx then min limit mx else limit := by rw [hmost]; split <;> split <;> omega
      have hmost3 : -1 ≤ most ∧ most ≤ 16 := by rw [hmost]; split <;> omega
      have hN2 : N ≤ 1048576 := by omega
      have hok' := Lib.hid hok
      replace hN := Lib.hid hN
      replace hmost := Lib.hid hmost
      replace hmost2 := Lib.hid hmost2
      clear hok
      go_wp2_with fail
      refine (New_ok mn mx limit most _ hok'.out (by omega) hmost.out).mono ?_
      rintro e2 w2 ⟨g, v, rfl, m2, b2⟩
      rw [← hN.out] at m2
      have s0 := (b2.cell (p := ⟨w.heap.size, 0, none⟩) (by show w.heap.size < _; omega)).trans p0
      have s1 := (b2.cell (p := ⟨w.heap.size, 1, none⟩) (by show w.heap.size < _; omega)).trans p1
      have s2 := (b2.cell (p := ⟨w.heap.size, 2, none⟩) (by show w.heap.size < _; omega)).trans p2
      have z2 := b2.size
      replace m2 := Lib.hid m2
      replace b2 := Lib.hid b2
      go_wp2_with fail
      refine (mayMem_any mn mx limit _ true (by have := hok'.out; simpa using this)).mono ?_
      rintro e3 w3 ⟨rfl, b3⟩
      have u0 := (b3.cell (p := ⟨w.heap.size, 0, none⟩) (by show w.heap.size < _; omega)).trans s0
      have u1 := (b3.cell (p := ⟨w.heap.size, 1, none⟩) (by show w.heap.size < _; omega)).trans s1
      have u2 := (b3.cell (p := ⟨w.heap.size, 2, none⟩) (by show w.heap.size < _; omega)).trans s2
      have m3 := Lib.hid (m2.out.later b3)
      have d3 := Lib.hid (b2.out.trans (b3.mono b2.out.size))
      have z3 := d3.out.size
      clear b3 m2 b2
      go_wp2_with fail
      refine (newMem_ok mn mx limit most N _ ⟨hok'.out.1, hok'.out.2.1⟩ hok'.out.2.2.1 (by omega) hmost2.out hN.out).mono ?_
      rintro e4 w4 ⟨k, u, rfl, m4, b4⟩
      have K0 : Two w1 w1.heap.size w3.heap.size g k v u most w4 (List.replicate N 0) := ⟨m3.out.later b4, m4, fun q hq e => by have h1 := (m3.out.row.lt q hq).2; have h2 := (m4.row.lt q e).1; omega, by rw [List.length_replicate]; exact hN2, by rw [List.length_replicate, hN.out]; omega, Nat.le_refl _, z3, hmost3, d3.out.trans (b4.mono z3)⟩
      replace K0 := Lib.hid K0
      clear m3 m4 b4 d3 s0 s1 s2 u0 u1 u2 p0 p1 p2 hN hmost hmost2 hmost3 hok' hm1 hm2 h2 hN2
      go_wp2_with (go_at_call 8; refine (num_any _ _).mono ?_; rintro e wn ⟨rfl, rfl⟩)
      go_loopw [6] (fun i w' => ∃ (j : Nat) (bs : List Nat) (v u : Value), (j ≤ l ∧ j ≤ 30) ∧ i = .int .i64 j ∧ Two w1 w1.heap.size w3.heap.size g k v u most w' bs) (fun i _ => 30 - (intOf i).toNat)
      case atStart => exact ⟨0, _, v, u, by omega, rfl, K0.out⟩
      case round =>
        clear K0
        obtain ⟨j, bs, v, u, hj, rfl, K2⟩ := hrel
        have p3' : wr.cell? ⟨w.heap.size, 3, none⟩ = some (.slice A l c) := (K2.bel.cell (by show w.heap.size < _; omega)).trans p3
        have hbw := K2.bel
        by_cases hkl : j < l ∧ j < 30
        · obtain ⟨ga, oa, d, a, f, m, x, vB, xs, rfl, hga, hat, hrg, hB, _⟩ := hacts1.out j hkl.1
          have hxs : xs.length ≤ 5000 := by
            obtain ⟨AB, cB, rfl, _⟩ := hB
            exact hL1.out j (by omega) _ _ _ _ _ rfl hat.c5
          have HB := Lib.hid (hB.below hbw (Nat.le_refl _))
          obtain ⟨AB, cB, rfl, h1B, h2B, _⟩ := hB
          obtain ⟨c0, c1, c2, c3, c4, c5⟩ := hat
          have e0 := (hbw.cell (p := ⟨ga, oa + j * 6, none⟩) hga).trans c0
          have e1 := (hbw.cell (p := ⟨ga, oa + j * 6 + 1, none⟩) hga).trans c1
          have e2 := (hbw.cell (p := ⟨ga, oa + j * 6 + 2, none⟩) hga).trans c2
          have e3 := (hbw.cell (p := ⟨ga, oa + j * 6 + 3, none⟩) hga).trans c3
          have e4 := (hbw.cell (p := ⟨ga, oa + j * 6 + 4, none⟩) hga).trans c4
          have e5 := (hbw.cell (p := ⟨ga, oa + j * 6 + 5, none⟩) hga).trans c5
          clear c0 c1 c2 c3 c4 c5
          obtain ⟨r0, r1, r2, r3, r4⟩ := hrg
          have t0 : (0 : Int) ≤ (j : Int) := by omega
          have t1 : (j : Int) < (l : Int) := by omega
          have t2 : (j : Int) < 30 := by omega
          obtain ⟨fm, hfm⟩ : ∃ fm, fm = M.form a f m := ⟨_, rfl⟩
          replace hfm := Lib.hid hfm
          replace K2 := Lib.hid K2
          replace hbw := Lib.hid hbw
          have G4 := Lib.hid r4
          clear r4
          go_upto_region 15 with fail
          obtain ⟨WL, hWL⟩ : ∃ WL, WL = wr.alloc (.cells #[.int .i64 d, .int .i64 a, .int .i64 f, .int .i64 m, .int .u64 (x : Int), .slice AB xs.length cB] 40) := ⟨_, rfl⟩
          rw [← hWL]
          have X3 : Box WL wr.heap.size d a f m x (.slice AB xs.length cB) := by rw [hWL]; exact ⟨by simp, by simp, by simp, by simp, by simp, by simp⟩
          have bl : Below wr.heap.size wr WL := by rw [hWL]; exact (Below.refl _ _).alloc (Nat.le_refl _) _
          have hzl : WL.heap.size = wr.heap.size + 1 := by rw [hWL]; simp
          have K3 := Lib.hid (K2.out.later bl)
          have hvN : ∀ q, v.ownBlock = some q → q < wr.heap.size := fun q hq => (K2.out.a.row.lt q hq).2
          have huN : ∀ q, u.ownBlock = some q → q < wr.heap.size := fun q hq => (K2.out.b.row.lt q hq).2
          have hB3 := Lib.hid (HB.out.below (C := w1.heap.size) (bl.mono hbw.out.size) (Nat.le_refl _))
          have hwz := hbw.out.size
          replace hvN := Lib.hid hvN
          replace huN := Lib.hid huN
          clear hWL e0 e1 e2 e3 e4 e5 bl HB hbw
          replace X3 := Lib.hid X3
          obtain ⟨x0, x1, x2, x3, x4, x5⟩ := X3.out
          obtain ⟨S, hS⟩ : ∃ S, S = bs.length / 65536 := ⟨_, rfl⟩
          replace hS := Lib.hid hS
          go_cut [8] (fun ok w' => ok = .bool fm ∧ w' = WL)
          case first =>
            clear x0 x4 x5
            by_cases hm : m = 1 ∨ m = 2 ∨ m = 4 ∨ m = 8
            · rcases (show (¬ 0 ≤ a) ∨ (0 ≤ a ∧ ¬ a < 4294967296) ∨ (0 ≤ a ∧ a < 4294967296 ∧ ¬ 0 ≤ f) ∨ (0 ≤ a ∧ a < 4294967296 ∧ 0 ≤ f ∧ ¬ f < 4294967296) ∨ (0 ≤ a ∧ a < 4294967296 ∧ 0 ≤ f ∧ f < 4294967296) by omega) with b1 | ⟨b1, b2⟩ | ⟨b1, b2, b3⟩ | ⟨b1, b2, b3, b4⟩ | ⟨b1, b2, b3, b4⟩
              rotate_left 4
              · obtain rfl : fm = true := by rw [hfm.out, M.form_iff]; omega
                rcases hm with rfl | rfl | rfl | rfl
                all_goals as_aux_lemma =>
                  go_wp2_with fail
                  go_meet
                  case rel => exact ⟨rfl, rfl⟩
              all_goals
                obtain rfl : fm = false := by rw [hfm.out]; exact Bool.eq_false_iff.2 (fun h => by rw [M.form_iff] at h; omega)
                rcases hm with rfl | rfl | rfl | rfl
                all_goals as_aux_lemma =>
                  go_wp2_with fail
                  go_meet
                  case rel => exact ⟨rfl, rfl⟩
            · obtain rfl : fm = false := by rw [hfm.out]; exact Bool.eq_false_iff.2 (fun h => by rw [M.form_iff] at h; omega)
              have hms : (m == 1) = false ∧ (m == 2) = false ∧ (m == 4) = false ∧ (m == 8) = false := by simp; omega
              go_wp2_with fail
              go_meet
              case rel => exact ⟨rfl, rfl⟩
          case rest =>
            obtain ⟨rfl, rfl⟩ := hcut
            go_wp2_with fail
            refine (within_any _ _ _ r0 (by omega)).mono ?_
            rintro e7 w7 ⟨⟨qn, rfl, hqn⟩, rfl⟩
            rcases (show qn = 3 ∨ qn = 4 ∨ qn = 5 ∨ qn = 6 ∨ qn = 7 ∨ qn ≤ 2 by omega) with rfl | rfl | rfl | rfl | rfl | hq
            · as_aux_lemma =>
                obtain ⟨rfl⟩ | ⟨rfl⟩ : fm = true ∨ fm = false := by cases fm <;> simp
                · have F := M.form_iff.1 hfm.out.symm
                  obtain ⟨hm, ⟨a0, a1⟩, f0, f1⟩ := F
                  have m0 : 0 ≤ m ∧ m ≤ 8 := by omega
                  clear hm
                  by_cases hfit : a + f + m ≤ bs.length
                  · obtain ⟨y, hy⟩ : ∃ y, y = M.le bs m.toNat (a + f).toNat := ⟨_, rfl⟩
                    have hld : (y, (0 : Int)) = M.ld bs a f m := by rw [hy]; exact M.ld_ok hfm.out.symm hfit
                    replace hld := Lib.hid hld
                    replace hy := Lib.hid hy
                    replace hfit := Lib.hid hfit
                    go_wp2_with fail
                    refine (pLoad_ok 48 _ _ k u bs most (a + f).toNat m.toNat _ _ y (by omega) (by omega) K3.out.b (by omega) (by have := hfit.out; omega) hy.out).mono ?_
                    rintro e8 w8 ⟨rfl, b8, _⟩
                    have K8 := Lib.hid (K3.out.later b8)
                    have X8 := Lib.hid (X3.out.later b8)
                    clear b8
                    clear x0 x1 x2 x3 x4 x5
                    obtain ⟨x0, x1, x2, x3, x4, x5⟩ := X8.out
                    go_wp2_with fail
                    refine (Load_any 62 _ _ g v bs most _ _ _ y 0 K8.out.a r1 r2 hld.out).mono ?_
                    rintro e9 w9 ⟨rfl, rfl⟩
                    go_wp2_with (first | (go_at_call 8; refine (num_any _ _).mono ?_; rintro e wn ⟨rfl, rfl⟩) | (go_at_call 24; refine (size_any 62 _ _ g v _ most S K8.out.a hS.out).mono ?_; rintro e wn ⟨rfl, rfl⟩) | (go_at_call 25; refine (pSize_any 48 _ _ k _ _ most S K8.out.b hS.out).mono ?_; rintro e wn ⟨rfl, rfl⟩))
                    exact ⟨⟨j + 1, bs, v, u, by omega, by go_num, K8.out⟩, by simp [intOf]; omega⟩
                  · have hld : (0, (21 : Int)) = M.ld bs a f m := M.ld_far hfm.out.symm hfit
                    replace hld := Lib.hid hld
                    replace hfit := Lib.hid hfit
                    go_wp2_with fail
                    refine (pLoad_no 48 _ _ k u bs most _ _ K3.out.b (by omega) (by omega) (by have := hfit.out; omega)).mono ?_
                    rintro e8 w8 ⟨rfl, rfl⟩
                    go_wp2_with fail
                    refine (Load_any 62 _ _ g v bs most _ _ _ 0 21 K3.out.a r1 r2 hld.out).mono ?_
                    rintro e9 w9 ⟨rfl, rfl⟩
                    go_wp2_with (first | (go_at_call 8; refine (num_any _ _).mono ?_; rintro e wn ⟨rfl, rfl⟩) | (go_at_call 24; refine (size_any 62 _ _ g v _ most S K3.out.a hS.out).mono ?_; rintro e wn ⟨rfl, rfl⟩) | (go_at_call 25; refine (pSize_any 48 _ _ k _ _ most S K3.out.b hS.out).mono ?_; rintro e wn ⟨rfl, rfl⟩))
                    exact ⟨⟨j + 1, bs, v, u, by omega, by go_num, K3.out⟩, by simp [intOf]; omega⟩
                · have hld : (0, (100 : Int)) = M.ld bs a f m := M.ld_bad hfm.out.symm
                  replace hld := Lib.hid hld
                  go_wp2_with fail
                  refine (Load_any 62 _ _ g v bs most _ _ _ 0 100 K3.out.a r1 r2 hld.out).mono ?_
                  rintro e9 w9 ⟨rfl, rfl⟩
                  go_wp2_with (first | (go_at_call 8; refine (num_any _ _).mono ?_; rintro e wn ⟨rfl, rfl⟩) | (go_at_call 24; refine (size_any 62 _ _ g v _ most S K3.out.a hS.out).mono ?_; rintro e wn ⟨rfl, rfl⟩) | (go_at_call 25; refine (pSize_any 48 _ _ k _ _ most S K3.out.b hS.out).mono ?_; rintro e wn ⟨rfl, rfl⟩))
                  exact ⟨⟨j + 1, bs, v, u, by omega, by go_num, K3.out⟩, by simp [intOf]; omega⟩
            · as_aux_lemma =>
                obtain ⟨rfl⟩ | ⟨rfl⟩ : fm = true ∨ fm = false := by cases fm <;> simp
                · have F := M.form_iff.1 hfm.out.symm
                  obtain ⟨hm, ⟨a0, a1⟩, f0, f1⟩ := F
                  have m0 : 0 ≤ m ∧ m ≤ 8 := by omega
                  clear hm
                  by_cases hfit : a + f + m ≤ bs.length
                  · obtain ⟨y, hy⟩ : ∃ y, y = M.le bs m.toNat (a + f).toNat := ⟨_, rfl⟩
                    have hld : (y, (0 : Int)) = M.ld bs a f m := by rw [hy]; exact M.ld_ok hfm.out.symm hfit
                    replace hld := Lib.hid hld
                    replace hy := Lib.hid hy
                    replace hfit := Lib.hid hfit
                    go_wp2_with fail
                    refine (pLoad_ok 48 _ _ k u bs most (a + f).toNat m.toNat _ _ y (by omega) (by omega) K3.out.b (by omega) (by have := hfit.out; omega) hy.out).mono ?_
                    rintro e8 w8 ⟨rfl, b8, _⟩
                    have K8 := Lib.hid (K3.out.later b8)
                    have X8 := Lib.hid (X3.out.later b8)
                    clear b8
                    clear x0 x1 x2 x3 x4 x5
                    obtain ⟨x0, x1, x2, x3, x4, x5⟩ := X8.out
                    go_wp2_with fail
                    refine (Load_any 62 _ _ g v bs most _ _ _ y 0 K8.out.a r1 r2 hld.out).mono ?_
                    rintro e9 w9 ⟨rfl, rfl⟩
                    go_wp2_with (first | (go_at_call 8; refine (num_any _ _).mono ?_; rintro e wn ⟨rfl, rfl⟩) | (go_at_call 24; refine (size_any 62 _ _ g v _ most S K8.out.a hS.out).mono ?_; rintro e wn ⟨rfl, rfl⟩) | (go_at_call 25; refine (pSize_any 48 _ _ k _ _ most S K8.out.b hS.out).mono ?_; rintro e wn ⟨rfl, rfl⟩))
                    exact ⟨⟨j + 1, bs, v, u, by omega, by go_num, K8.out⟩, by simp [intOf]; omega⟩
                  · have hld : (0, (21 : Int)) = M.ld bs a f m := M.ld_far hfm.out.symm hfit
                    replace hld := Lib.hid hld
                    replace hfit := Lib.hid hfit
                    go_wp2_with fail
                    refine (pLoad_no 48 _ _ k u bs most _ _ K3.out.b (by omega) (by omega) (by have := hfit.out; omega)).mono ?_
                    rintro e8 w8 ⟨rfl, rfl⟩
                    go_wp2_with fail
                    refine (Load_any 62 _ _ g v bs most _ _ _ 0 21 K3.out.a r1 r2 hld.out).mono ?_
                    rintro e9 w9 ⟨rfl, rfl⟩
                    go_wp2_with (first | (go_at_call 8; refine (num_any _ _).mono ?_; rintro e wn ⟨rfl, rfl⟩) | (go_at_call 24; refine (size_any 62 _ _ g v _ most S K3.out.a hS.out).mono ?_; rintro e wn ⟨rfl, rfl⟩) | (go_at_call 25; refine (pSize_any 48 _ _ k _ _ most S K3.out.b hS.out).mono ?_; rintro e wn ⟨rfl, rfl⟩))
                    exact ⟨⟨j + 1, bs, v, u, by omega, by go_num, K3.out⟩, by simp [intOf]; omega⟩
                · have hld : (0, (100 : Int)) = M.ld bs a f m := M.ld_bad hfm.out.symm
                  replace hld := Lib.hid hld
                  go_wp2_with fail
                  refine (Load_any 62 _ _ g v bs most _ _ _ 0 100 K3.out.a r1 r2 hld.out).mono ?_
                  rintro e9 w9 ⟨rfl, rfl⟩
                  go_wp2_with (first | (go_at_call 8; refine (num_any _ _).mono ?_; rintro e wn ⟨rfl, rfl⟩) | (go_at_call 24; refine (size_any 62 _ _ g v _ most S K3.out.a hS.out).mono ?_; rintro e wn ⟨rfl, rfl⟩) | (go_at_call 25; refine (pSize_any 48 _ _ k _ _ most S K3.out.b hS.out).mono ?_; rintro e wn ⟨rfl, rfl⟩))
                  exact ⟨⟨j + 1, bs, v, u, by omega, by go_num, K3.out⟩, by simp [intOf]; omega⟩
            · as_aux_lemma =>
                obtain ⟨A', c', hue, hc1, hc2⟩ := K3.out.b.form
                subst hue
                by_cases hA : 0 ≤ a ∧ 0 ≤ m ∧ a + m ≤ bs.length
                · by_cases h5 : m ≤ 5000
                  · obtain ⟨an, rfl⟩ : ∃ n : Nat, a = n := ⟨a.toNat, by omega⟩
                    obtain ⟨mm, rfl⟩ : ∃ n : Nat, m = n := ⟨m.toNat, by omega⟩
                    obtain ⟨ys, hys⟩ : ∃ ys, ys = (bs.drop an).take mm := ⟨_, rfl⟩
                    have hyl : ys.length = mm := by rw [hys]; simp; omega
                    have hyt : ∀ b ∈ ys, b < 256 := by rw [hys]; exact fun b hb => K3.out.a.lt b (List.mem_of_mem_drop (List.mem_of_mem_take hb))
                    have hW := K3.out.b.cut an mm (by omega)
                    rw [← hys] at hW
                    have hsum : IntKind.i64.wrap ((an : Int) + (mm : Int)) = (an : Int) + (mm : Int) := by rw [IntKind.wrap_i64]; have := K3.out.len; omega
                    have s0 : (0 : Int) ≤ (an : Int) + (mm : Int) := by omega
                    have s1 : ((an : Int) + (mm : Int)).toNat = an + mm := by omega
                    have c0 := K3.out.b.c0
                    obtain ⟨L, hL⟩ : ∃ L, L = bs.length := ⟨_, rfl⟩
                    have hA2 : an + mm ≤ L := by omega
                    have hcL : L ≤ c' := by omega
                    rw [← hL] at c0
                    have hHas := Lib.hid (show true = decide (0 ≤ (an : Int) ∧ 0 ≤ (mm : Int) ∧ (an : Int) + (mm : Int) ≤ bs.length) by simp; omega)
                    have hLe := Lib.hid hL
                    clear hL hA
                    have hA3 := Lib.hid (show an + mm ≤ bs.length by rw [← hLe.out]; exact hA2)
                    replace hyl := Lib.hid hyl
                    replace hys := Lib.hid hys
                    replace hyt := Lib.hid hyt
                    have hcases : (c' = an ∧ mm = 0) ∨ ¬ (c' = an) := by omega
                    go_wp2_with fail
                    refine (pHas_any 48 _ _ k _ bs most _ _ true K3.out.b r1 r3 hHas.out).mono ?_
                    rintro e8 w8 ⟨rfl, rfl⟩
                    go_wp2_with fail
                    rcases hcases with ⟨rfl, rfl⟩ | hca
                    · rw [if_pos rfl, Nat.sub_self] at hW
                      replace hW := Lib.hid hW
                      go_quiet (fail)
                      go_wp2_with fail
                      have K8 := Lib.hid (K3.out.drewN nq)
                      have hW8 := Lib.hid (hW.out.later (Below.drewN' _ nq))
                      clear hW
                      refine (Read_ok 62 _ _ g v bs ys most c' 0 _ _ (by omega) (by omega) K8.out.a hA3.out hys.out).mono ?_
                      rintro e9 w9 ⟨uu, rfl, o9, b9⟩
                      have K9 := Lib.hid (K8.out.later b9)
                      have hW9 := Lib.hid (hW8.out.later b9)
                      have hb9 := Lib.hid (own_BS o9 hyt.out)
                      have g9 := b9.size
                      have o9' := Lib.hid o9
                      clear b9 o9
                      go_wp2_with (first | (go_at_call 8; refine (num_any _ _).mono ?_; rintro e wn ⟨rfl, rfl⟩) | (go_at_call 16; refine (EqBytes_same _ _ ys _ hb9.out hW9.out).mono ?_; rintro eq wq ⟨rfl, bq⟩))
                      have K10 := Lib.hid (K9.out.later bq)
                      have o10 := Lib.hid (own_later o9'.out bq)
                      have g10 := bq.size
                      clear bq
                      refine (Bytes_any _ uu ys _ o10.out (by omega) (by have := hyl.out; omega)).mono ?_
                      rintro e11 w11 ⟨rfl, b11⟩
                      have K11 := Lib.hid (K10.out.spoil (N := (w8.drewN nq).heap.size) o10.out K8.out.bel.size (Nat.le_refl _) (fun q hq => (K8.out.a.row.lt q hq).2) (fun q hq => (K8.out.b.row.lt q hq).2) b11)
                      clear b11
                      go_wp2_with (first | (go_at_call 8; refine (num_any _ _).mono ?_; rintro e wn ⟨rfl, rfl⟩) | (go_at_call 24; refine (size_any 62 _ _ g v _ most S K11.out.a hS.out).mono ?_; rintro e wn ⟨rfl, rfl⟩) | (go_at_call 25; refine (pSize_any 48 _ _ k _ _ most S K11.out.b hS.out).mono ?_; rintro e wn ⟨rfl, rfl⟩))
                      exact ⟨⟨j + 1, bs, v, .slice A' bs.length c', by omega, by go_num, K11.out⟩, by simp [intOf]; omega⟩
                    · rw [if_neg hca] at hW
                      replace hW := Lib.hid hW
                      go_quiet (fail)
                      go_wp2_with fail
                      have K8 := Lib.hid (K3.out.drewN nq)
                      have hW8 := Lib.hid (hW.out.later (Below.drewN' _ nq))
                      clear hW
                      refine (Read_ok 62 _ _ g v bs ys most an mm _ _ (by omega) (by omega) K8.out.a hA3.out hys.out).mono ?_
                      rintro e9 w9 ⟨uu, rfl, o9, b9⟩
                      have K9 := Lib.hid (K8.out.later b9)
                      have hW9 := Lib.hid (hW8.out.later b9)
                      have hb9 := Lib.hid (own_BS o9 hyt.out)
                      have g9 := b9.size
                      have o9' := Lib.hid o9
                      clear b9 o9
                      go_wp2_with (first | (go_at_call 8; refine (num_any _ _).mono ?_; rintro e wn ⟨rfl, rfl⟩) | (go_at_call 16; refine (EqBytes_same _ _ ys _ hb9.out hW9.out).mono ?_; rintro eq wq ⟨rfl, bq⟩))
                      have K10 := Lib.hid (K9.out.later bq)
                      have o10 := Lib.hid (own_later o9'.out bq)
                      have g10 := bq.size
                      clear bq
                      refine (Bytes_any _ uu ys _ o10.out (by omega) (by have := hyl.out; omega)).mono ?_
                      rintro e11 w11 ⟨rfl, b11⟩
                      have K11 := Lib.hid (K10.out.spoil (N := (w8.drewN nq).heap.size) o10.out K8.out.bel.size (Nat.le_refl _) (fun q hq => (K8.out.a.row.lt q hq).2) (fun q hq => (K8.out.b.row.lt q hq).2) b11)
                      clear b11
                      go_wp2_with (first | (go_at_call 8; refine (num_any _ _).mono ?_; rintro e wn ⟨rfl, rfl⟩) | (go_at_call 24; refine (size_any 62 _ _ g v _ most S K11.out.a hS.out).mono ?_; rintro e wn ⟨rfl, rfl⟩) | (go_at_call 25; refine (pSize_any 48 _ _ k _ _ most S K11.out.b hS.out).mono ?_; rintro e wn ⟨rfl, rfl⟩))
                      exact ⟨⟨j + 1, bs, v, .slice A' bs.length c', by omega, by go_num, K11.out⟩, by simp [intOf]; omega⟩
                  · have hHas := Lib.hid (show true = decide (0 ≤ a ∧ 0 ≤ m ∧ a + m ≤ bs.length) by simpa using hA)
                    clear hA
                    go_wp2_with (first | (go_at_call 14; refine (pHas_any 48 _ _ k _ bs most _ _ true K3.out.b r1 r3 hHas.out).mono ?_; rintro eh wh ⟨rfl, rfl⟩))
                    exact ⟨⟨j + 1, bs, v, .slice A' bs.length c', by omega, by go_num, K3.out⟩, by simp [intOf]; omega⟩
                · have hHas := Lib.hid (show false = decide (0 ≤ a ∧ 0 ≤ m ∧ a + m ≤ bs.length) by simpa using hA)
                  replace hA := Lib.hid hA
                  have hnil := fun w => nil_BS w w.heap.size
                  replace hnil := Lib.hid hnil
                  by_cases h5 : m ≤ 5000
                  all_goals
                    go_wp2_with (first | (go_at_call 14; refine (pHas_any 48 _ _ k _ bs most _ _ false K3.out.b r1 r3 hHas.out).mono ?_; rintro eh wh ⟨rfl, rfl⟩) | (go_at_call 15; refine (Read_no 62 _ _ g v bs most _ _ K3.out.a r1 r3 hA.out).mono ?_; rintro er wrr ⟨rfl, rfl⟩) | (go_at_call 8; refine (num_any _ _).mono ?_; rintro e wn ⟨rfl, rfl⟩) | (go_at_call 16; refine (EqBytes_same _ _ [] _ (hnil.out _) (hnil.out _)).mono ?_; rintro eq wq ⟨rfl, bq⟩))
                    have K8 := Lib.hid (K3.out.later bq)
                    clear bq
                    refine (Bytes_any _ (.slice none 0 0) [] _ ⟨rfl, .inl ⟨rfl, rfl⟩⟩ (Nat.le_refl _) (by simp)).mono ?_
                    rintro e9 w9 ⟨rfl, b9⟩
                    have K9 := Lib.hid (K8.out.later ⟨b9.os, b9.tape, b9.output, b9.size, fun q hq => b9.block q hq (fun h => by cases h)⟩)
                    clear b9
                    go_wp2_with (first | (go_at_call 8; refine (num_any _ _).mono ?_; rintro e wn ⟨rfl, rfl⟩) | (go_at_call 24; refine (size_any 62 _ _ g v _ most S K9.out.a hS.out).mono ?_; rintro e wn ⟨rfl, rfl⟩) | (go_at_call 25; refine (pSize_any 48 _ _ k _ _ most S K9.out.b hS.out).mono ?_; rintro e wn ⟨rfl, rfl⟩))
                    exact ⟨⟨j + 1, bs, v, .slice A' bs.length c', by omega, by go_num, K9.out⟩, by simp [intOf]; omega⟩
            · as_aux_lemma =>
                obtain ⟨A', c', hue, hc1, hc2⟩ := K3.out.b.form
                subst hue
                obtain ⟨wo, hwo⟩ : ∃ wo, wo = wr := ⟨wr, rfl⟩
                subst hwo
                have hxt : ∀ b ∈ xs, b < 256 := hB3.out.lt
                replace hxt := Lib.hid hxt
                have x0le : (0 : Int) ≤ (xs.length : Int) := by omega
                obtain ⟨XL, hXL⟩ : ∃ XL, XL = xs.length := ⟨_, rfl⟩
                have hX := Lib.hid hXL
                by_cases hA : 0 ≤ a ∧ a + xs.length ≤ bs.length
                · obtain ⟨an, rfl⟩ : ∃ n : Nat, a = n := ⟨a.toNat, by omega⟩
                  have hA2 : an + xs.length ≤ bs.length := by omega
                  obtain ⟨cs, hcs⟩ : ∃ cs, cs = M.lay bs an xs := ⟨_, rfl⟩
                  have hcl : cs.length = bs.length := by rw [hcs]; exact M.lay_length hA2
                  have hS2 := Lib.hid (show S = cs.length / 65536 by rw [hcl]; exact hS.out)
                  have hHas := Lib.hid (show true = decide (0 ≤ (an : Int) ∧ 0 ≤ (xs.length : Int) ∧ (an : Int) + (xs.length : Int) ≤ bs.length) by simp; omega)
                  have hLb := K3.out.len
                  obtain ⟨L, hL⟩ : ∃ L, L = bs.length := ⟨_, rfl⟩
                  have hLe := Lib.hid hL
                  have hA3 : an + XL ≤ L := by omega
                  have hL2 : L ≤ 1048576 := by omega
                  replace hA2 := Lib.hid hA2
                  replace hcs := Lib.hid hcs
                  replace hcl := Lib.hid hcl
                  rw [← hXL] at hHas x0le hxs
                  rw [← hL] at hHas hc1
                  clear hL hLb hA hXL
                  have e5 := x5
                  rw [← hX.out] at e5
                  clear x0 x1 x2 x3 x4 x5
                  obtain ⟨x0, x1, x2, x3, x4, _⟩ := X3.out
                  go_wp2_with fail
                  refine (pHas_any 48 _ _ k _ bs most _ _ true K3.out.b r1 (by omega) (by rw [← hLe.out]; exact hHas.out)).mono ?_
                  rintro e8 w8 ⟨rfl, rfl⟩
                  go_wp2_with fail
                  go_loopw [20] (fun i w' => ∃ p : Nat, p ≤ XL ∧ i = .int .i64 p ∧ MAt 48 w' w3.heap.size k (.slice A' bs.length c') (M.lay bs an (xs.take p)) most ∧ But (fun q => Value.ownBlock (.slice A' bs.length c') = some q) w8 w') (fun i _ => XL - (intOf i).toNat)
                  case atStart => exact ⟨0, by omega, rfl, by rw [List.take_zero, lay_nil]; exact K3.out.b, But.refl _ _⟩
                  case round =>
                    obtain ⟨p, hp, rfl, m9, b9⟩ := hrel
                    have X9 := Lib.hid (X3.out.but b9 (fun e => by have := huN.out _ e; omega))
                    clear x0 x1 x2 x3 x4 e5
                    obtain ⟨x0, x1, x2, x3, x4, x5⟩ := X9.out
                    rw [← hX.out] at x5
                    have c9 := m9.c0
                    rw [← hLe.out] at c9
                    have hB9 := hB3.out.but b9 (Nat.le_trans hwz (by omega)) (fun q e => Nat.le_trans K3.out.lo2 (K3.out.b.row.lt q e).1)
                    by_cases hpk : p < XL
                    · obtain ⟨AB', cB', eB, _, _, hby⟩ := hB9
                      injection eB with eB1 eB2 eB3
                      subst eB1
                      clear eB2 eB3
                      obtain ⟨ad, rfl, hadl, hz256, hcell⟩ := hby p (by rw [← hX.out]; exact hpk)
                      have hll : (M.lay bs an (xs.take p)).length = bs.length := M.lay_length (by have := hA2.out; simp; omega)
                      obtain ⟨r, rfl, z1, z2⟩ := m9.byte (an + p) (by rw [hll, ← hLe.out]; omega)
                      have hs := m9.set (an + p) (xs.getD p 0) (by rw [hll, ← hLe.out]; omega) hz256
                      rw [← lay_step hA2.out (by rw [← hX.out]; exact hpk)] at hs
                      obtain ⟨z, hz⟩ : ∃ z, z = xs.getD p 0 := ⟨_, rfl⟩
                      simp only [] at hcell
                      rw [← hz] at hs hcell
                      obtain ⟨zo, hzo⟩ : ∃ zo, zo = (M.lay bs an (xs.take p)).getD (an + p) 0 := ⟨_, rfl⟩
                      rw [← hzo] at z1
                      have s0 : (0 : Int) ≤ (an : Int) + (p : Int) := by omega
                      have s1 : (an : Int) + (p : Int) < (L : Int) := by omega
                      have s2 : (0 : Int) ≤ (p : Int) := by omega
                      have s3 : (p : Int) < (XL : Int) := by omega
                      have s4 : ((an : Int) + (p : Int)).toNat = an + p := by omega
                      have s5 : IntKind.i64.wrap ((an : Int) + (p : Int)) = (an : Int) + (p : Int) := by rw [IntKind.wrap_i64]; omega
                      replace hs := Lib.hid hs
                      replace m9 := Lib.hid m9
                      replace b9 := Lib.hid b9
                      clear hz hzo hll hby hadl
                      go_wp2_with fail
                      go_still_tail 13, (by kernel_rfl)
                      change wpList _ _ _ _ _ wr.drew
                      go_wp2_with fail
                      have hx2 := b9.out.trans (hs.out.2.mono (Y := fun q => Value.ownBlock (.slice (some ⟨r, 0, none⟩) bs.length c') = some q) (fun q _ e => by subst e; rfl))
                      exact ⟨⟨p + 1, by omega, by go_num, ⟨hs.out.1.obj, hs.out.1.ge, hs.out.1.row, hs.out.1.lt, hs.out.1.ne, hs.out.1.len⟩, ⟨hx2.os, hx2.tape, hx2.output, hx2.size, hx2.block⟩⟩, by simp [intOf]; omega⟩
                    · obtain rfl : p = XL := by omega
                      rw [hX.out, List.take_length, ← hcs.out] at m9
                      have a9 := K3.out.page b9
                      have d9 := K3.out.belP b9
                      have hB9' := Lib.hid (show BS wr wr.heap.size (.slice AB xs.length cB) xs from hB9.below (Below.refl _ _) d9.size)
                      replace m9 := Lib.hid m9
                      replace a9 := Lib.hid a9
                      have g9 := b9.size
                      replace b9 := Lib.hid b9
                      replace d9 := Lib.hid d9
                      clear hB9
                      go_wp2_with fail
                      rw [hX.out]
                      refine (CopyBytes_any _ xs _ (by have := hX.out; omega) hB9'.out).mono ?_
                      rintro e10 w10 ⟨uu, rfl, o10, b10⟩
                      have X10 := Lib.hid (X9.out.later b10)
                      have a10 := Lib.hid (a9.out.later b10)
                      have m10 := Lib.hid (m9.out.later b10)
                      have d10 := Lib.hid (d9.out.trans (b10.mono d9.out.size))
                      have g10 := b10.size
                      clear b10 x0 x1 x2 x3 x4 x5
                      replace o10 := Lib.hid o10
                      obtain ⟨x0, x1, x2, x3, x4, x5⟩ := X10.out
                      go_wp2_with fail
                      refine (Write_ok 62 _ _ g v bs xs cs most an _ uu rfl a10.out (own_BS o10.out hxt.out) hA2.out hcs.out).mono ?_
                      rintro e11 w11 ⟨rfl, m11, b11⟩
                      have o11 := Lib.hid (own_but o10.out b11 (fun q hq e => by have h1 := (o10.out.lt q hq).1; have h2 := hvN.out q e; omega))
                      have K11 := Lib.hid (K3.out.done m10.out a10.out d10.out b11 m11 hcl.out)
                      have g11 := b11.size
                      clear m11 b11
                      go_wp2_with fail
                      refine (Bytes_any _ uu xs _ o11.out (by omega) (by have := hX.out; omega)).mono ?_
                      rintro e12 w12 ⟨rfl, b12⟩
                      have K12 := Lib.hid (K11.out.spoil (N := wo.heap.size) o11.out hwz (by omega) hvN.out huN.out b12)
                      clear b12
                      replace hS := hS2
                      go_wp2_with (first | (go_at_call 8; refine (num_any _ _).mono ?_; rintro e wn ⟨rfl, rfl⟩) | (go_at_call 24; refine (size_any 62 _ _ g v _ most S K12.out.a hS.out).mono ?_; rintro e wn ⟨rfl, rfl⟩) | (go_at_call 25; refine (pSize_any 48 _ _ k _ _ most S K12.out.b hS.out).mono ?_; rintro e wn ⟨rfl, rfl⟩))
                      exact ⟨⟨j + 1, cs, v, .slice A' bs.length c', by omega, by go_num, K12.out⟩, by simp [intOf]; omega⟩
                · have hHas := Lib.hid (show false = decide (0 ≤ a ∧ 0 ≤ (xs.length : Int) ∧ a + (xs.length : Int) ≤ bs.length) by simp; omega)
                  replace hA := Lib.hid hA
                  clear hXL
                  go_wp2_with fail
                  refine (pHas_any 48 _ _ k _ bs most _ _ false K3.out.b r1 (by omega) hHas.out).mono ?_
                  rintro e8 w8 ⟨rfl, rfl⟩
                  have hB9' := Lib.hid (show BS w8 w8.heap.size (.slice AB xs.length cB) xs from hB3.out.below (Below.refl _ _) K3.out.bel.size)
                  go_wp2_with fail
                  refine (CopyBytes_any _ xs _ (by have := hX.out; omega) hB9'.out).mono ?_
                  rintro e10 w10 ⟨uu, rfl, o10, b10⟩
                  have X10 := Lib.hid (X3.out.later b10)
                  have K10 := Lib.hid (K3.out.later b10)
                  have g10 := b10.size
                  clear x0 x1 x2 x3 x4 x5
                  clear b10
                  replace o10 := Lib.hid o10
                  obtain ⟨x0, x1, x2, x3, x4, x5⟩ := X10.out
                  go_wp2_with fail
                  refine (Write_no 62 _ _ g v bs xs most _ uu K10.out.a r1 (own_BS o10.out hxt.out) hA.out).mono ?_
                  rintro e11 w11 ⟨rfl, m11, b11⟩
                  have o11 := Lib.hid (own_but o10.out b11 (fun q hq e => by have h1 := (o10.out.lt q hq).1; have h2 := hvN.out q e; omega))
                  have K11 := Lib.hid (K10.out.same b11 m11)
                  have g11 := b11.size
                  clear m11 b11
                  go_wp2_with fail
                  refine (Bytes_any _ uu xs _ o11.out (by omega) (by have := hX.out; omega)).mono ?_
                  rintro e12 w12 ⟨rfl, b12⟩
                  have K12 := Lib.hid (K11.out.spoil (N := wo.heap.size) o11.out hwz (by omega) hvN.out huN.out b12)
                  clear b12
                  go_wp2_with (first | (go_at_call 8; refine (num_any _ _).mono ?_; rintro e wn ⟨rfl, rfl⟩) | (go_at_call 24; refine (size_any 62 _ _ g v _ most S K12.out.a hS.out).mono ?_; rintro e wn ⟨rfl, rfl⟩) | (go_at_call 25; refine (pSize_any 48 _ _ k _ _ most S K12.out.b hS.out).mono ?_; rintro e wn ⟨rfl, rfl⟩))
                  exact ⟨⟨j + 1, bs, v, .slice A' bs.length c', by omega, by go_num, K12.out⟩, by simp [intOf]; omega⟩
            · as_aux_lemma =>
                have hFg : ¬ Ft g v wr.heap.size := fun e => e.elim (fun e => by have := K2.out.a.size; omega) (fun e => by have := hvN.out _ e; omega)
                have hFk : ¬ Ft k u wr.heap.size := fun e => e.elim (fun e => by have := K2.out.b.size; omega) (fun e => by have := huN.out _ e; omega)
                have hblk := X3.out.lt
                have hlen := K3.out.len
                have hpg := K3.out.pg
                have hmm := K3.out.most_le
                have hSb := hS.out
                by_cases hy : 0 ≤ m ∧ m ≤ most - (S : Int)
                · obtain ⟨R, hR⟩ : ∃ R, R = m.toNat * 65536 := ⟨_, rfl⟩
                  obtain ⟨cs, hcs⟩ : ∃ cs, cs = bs ++ List.replicate R 0 := ⟨_, rfl⟩
                  have hcl : cs.length = bs.length + R := by rw [hcs, List.length_append, List.length_replicate]
                  have hcl1 := Lib.hid (show cs.length ≤ 1048576 by omega)
                  have hcl2 := Lib.hid (show cs.length % 65536 = 0 by omega)
                  obtain ⟨S2, hS2⟩ : ∃ S2, S2 = cs.length / 65536 := ⟨_, rfl⟩
                  replace hR := Lib.hid hR
                  replace hcs := Lib.hid hcs
                  replace hS2 := Lib.hid hS2
                  replace hlen := Lib.hid hlen
                  replace hFg := Lib.hid hFg
                  replace hFk := Lib.hid hFk
                  clear hcl hpg hSb
                  have K4 := Lib.hid (K3.out.later (Below.refl _ _).drew)
                  have X4 := Lib.hid (X3.out.later (Below.refl _ _).drew)
                  go_wp2_with fail
                  go_region_held3 (fun w' => w'.cell? ⟨wr.heap.size, 3, none⟩ = some (.int .i64 m))
                    (first | exact X4.out.x3 | assumption | exact (World.cell?_of_block (xA.block _ (by exact hblk) hFg.out)).trans X4.out.x3 | exact (World.cell?_of_block (xB.block _ (Nat.lt_of_lt_of_le hblk xA.size) hFk.out)).trans ((World.cell?_of_block (xA.block _ (by exact hblk) hFg.out)).trans X4.out.x3) | (go_split_ands; assumption))
                    (first
                      | (go_at_call 20; refine (Grow_yes 62 _ _ g v bs cs most _ S K4.out.a (Nat.le_trans K4.out.a.ge (Nat.le_of_lt K4.out.a.size)) hmm hlen.out r3 hS.out hy R hR.out hcs.out).mono ?_; rintro eA wA ⟨rfl, vA, mA, xA, hvA⟩)
                      | (go_at_call 21; refine (pGrow_yes 48 _ _ k u bs cs most _ S (K4.out.b.but xA (fun e => e.elim (fun e => K4.out.gk e.symm) (K4.out.b.not_own K4.out.a.row)) (fun q hq e => e.elim (fun e => K4.out.a.not_own K4.out.b.row (e ▸ hq)) (fun e => K4.out.ap q e hq))) (Nat.le_trans (Nat.le_trans K4.out.b.ge (Nat.le_of_lt K4.out.b.size)) xA.size) hmm hlen.out r3 hS.out hy R hR.out hcs.out).mono ?_; rintro eB wB ⟨rfl, uB, mB, xB, huB⟩))
                  have K9 := Lib.hid (K4.out.grown xA mA hvA xB mB huB hcl1.out hcl2.out)
                  clear xA mA hvA xB mB huB
                  replace hS := hS2
                  go_wp2_with (first | (go_at_call 8; refine (num_any _ _).mono ?_; rintro e wn ⟨rfl, rfl⟩) | (go_at_call 24; refine (size_any 62 _ _ g vA _ most S2 K9.out.a hS.out).mono ?_; rintro e wn ⟨rfl, rfl⟩) | (go_at_call 25; refine (pSize_any 48 _ _ k _ _ most S2 K9.out.b hS.out).mono ?_; rintro e wn ⟨rfl, rfl⟩))
                  exact ⟨⟨j + 1, cs, vA, uB, by omega, by go_num, K9.out⟩, by simp [intOf]; omega⟩
                · have hy2 := Lib.hid (show ¬ (0 ≤ m ∧ m ≤ most - ((bs.length / 65536 : Nat) : Int)) by rw [← hSb]; exact hy)
                  replace hlen := Lib.hid hlen
                  clear hpg hSb hy hFg hFk
                  go_wp2_with fail
                  have K4 := Lib.hid (K3.out.later (Below.refl _ _).drew)
                  have X4 := Lib.hid (X3.out.later (Below.refl _ _).drew)
                  go_region_held3 (fun w' => w'.cell? ⟨wr.heap.size, 3, none⟩ = some (.int .i64 m))
                    (first | exact X4.out.x3 | assumption)
                    (first
                      | (go_at_call 20; refine (Grow_no 62 _ _ g v bs most _ K4.out.a (Nat.le_trans K4.out.a.ge (Nat.le_of_lt K4.out.a.size)) hmm hlen.out r3 hy2.out).mono ?_; rintro eA wA ⟨rfl, rfl⟩)
                      | (go_at_call 21; refine (pGrow_no 48 _ _ k u bs most _ K4.out.b (Nat.le_trans K4.out.b.ge (Nat.le_of_lt K4.out.b.size)) hmm hlen.out r3 hy2.out).mono ?_; rintro eB wB ⟨rfl, rfl⟩))
                  go_wp2_with (first | (go_at_call 8; refine (num_any _ _).mono ?_; rintro e wn ⟨rfl, rfl⟩) | (go_at_call 24; refine (size_any 62 _ _ g v _ most S K4.out.a hS.out).mono ?_; rintro e wn ⟨rfl, rfl⟩) | (go_at_call 25; refine (pSize_any 48 _ _ k _ _ most S K4.out.b hS.out).mono ?_; rintro e wn ⟨rfl, rfl⟩))
                  exact ⟨⟨j + 1, bs, v, u, by omega, by go_num, K4.out⟩, by simp [intOf]; omega⟩
            · as_aux_lemma =>
                have hq5 : ((qn : Int) == 3) = false ∧ ((qn : Int) == 4) = false ∧ ((qn : Int) == 5) = false ∧ ((qn : Int) == 6) = false ∧ ((qn : Int) == 7) = false := by simp; omega
                obtain ⟨rfl⟩ | ⟨rfl⟩ : fm = true ∨ fm = false := by cases fm <;> simp
                · have F := M.form_iff.1 hfm.out.symm
                  obtain ⟨hm, ⟨a0, a1⟩, f0, f1⟩ := F
                  have m0 : 0 ≤ m ∧ m ≤ 8 := by omega
                  clear hm
                  by_cases hfit : a + f + m ≤ bs.length
                  · obtain ⟨cs, hcs⟩ : ∃ cs, cs = M.put m.toNat bs (a + f).toNat x := ⟨_, rfl⟩
                    have hst : (cs, (0 : Int)) = M.st bs a f m x := by rw [hcs]; exact M.st_ok hfm.out.symm hfit
                    have hcl : cs.length = bs.length := by rw [hcs, M.put_length]
                    have hS2 := Lib.hid (show S = cs.length / 65536 by rw [hcl]; exact hS.out)
                    replace hst := Lib.hid hst
                    replace hcs := Lib.hid hcs
                    replace hcl := Lib.hid hcl
                    replace hfit := Lib.hid hfit
                    go_wp2_with fail
                    refine (pStore_ok 48 _ _ k u bs most (a + f).toNat m.toNat _ _ x (by omega) (by omega) K3.out.b (by omega) (by have := hfit.out; omega) G4.out).mono ?_
                    rintro e8 w8 ⟨rfl, m8, b8⟩
                    rw [← hcs.out] at m8
                    have X8 := Lib.hid (X3.out.but b8 (fun e => by have := huN.out _ e; omega))
                    replace m8 := Lib.hid m8
                    replace b8 := Lib.hid b8
                    clear x0 x1 x2 x3 x4 x5
                    obtain ⟨x0, x1, x2, x3, x4, x5⟩ := X8.out
                    go_wp2_with fail
                    refine (Store_any 62 _ _ g v bs cs most _ _ _ x _ 0 (K3.out.page b8.out) r1 r2 rfl G4.out hst.out).mono ?_
                    rintro e9 w9 ⟨rfl, m9, b9⟩
                    have K9 := Lib.hid (K3.out.both b8.out m8.out b9 m9 hcl.out)
                    clear m9 b9 m8 b8
                    replace hS := hS2
                    go_wp2_with (first | (go_at_call 8; refine (num_any _ _).mono ?_; rintro e wn ⟨rfl, rfl⟩) | (go_at_call 24; refine (size_any 62 _ _ g v _ most S K9.out.a hS.out).mono ?_; rintro e wn ⟨rfl, rfl⟩) | (go_at_call 25; refine (pSize_any 48 _ _ k _ _ most S K9.out.b hS.out).mono ?_; rintro e wn ⟨rfl, rfl⟩))
                    exact ⟨⟨j + 1, cs, v, u, by omega, by go_num, K9.out⟩, by simp [intOf]; omega⟩
                  · have hst : (bs, (21 : Int)) = M.st bs a f m x := M.st_far hfm.out.symm hfit
                    replace hst := Lib.hid hst
                    replace hfit := Lib.hid hfit
                    go_wp2_with fail
                    refine (pStore_no 48 _ _ k u bs most _ _ _ K3.out.b (by omega) (by omega) (by have := hfit.out; omega)).mono ?_
                    rintro e8 w8 ⟨rfl, rfl⟩
                    go_wp2_with fail
                    refine (Store_any 62 _ _ g v bs bs most _ _ _ x _ 21 K3.out.a r1 r2 rfl G4.out hst.out).mono ?_
                    rintro e9 w9 ⟨rfl, m9, b9⟩
                    have K9 := Lib.hid (K3.out.same b9 m9)
                    clear m9 b9
                    go_wp2_with (first | (go_at_call 8; refine (num_any _ _).mono ?_; rintro e wn ⟨rfl, rfl⟩) | (go_at_call 24; refine (size_any 62 _ _ g v _ most S K9.out.a hS.out).mono ?_; rintro e wn ⟨rfl, rfl⟩) | (go_at_call 25; refine (pSize_any 48 _ _ k _ _ most S K9.out.b hS.out).mono ?_; rintro e wn ⟨rfl, rfl⟩))
                    exact ⟨⟨j + 1, bs, v, u, by omega, by go_num, K9.out⟩, by simp [intOf]; omega⟩
                · have hst : (bs, (100 : Int)) = M.st bs a f m x := M.st_bad hfm.out.symm
                  replace hst := Lib.hid hst
                  go_wp2_with fail
                  refine (Store_any 62 _ _ g v bs bs most _ _ _ x _ 100 K3.out.a r1 r2 rfl G4.out hst.out).mono ?_
                  rintro e9 w9 ⟨rfl, m9, b9⟩
                  have K9 := Lib.hid (K3.out.same b9 m9)
                  clear m9 b9
                  go_wp2_with (first | (go_at_call 8; refine (num_any _ _).mono ?_; rintro e wn ⟨rfl, rfl⟩) | (go_at_call 24; refine (size_any 62 _ _ g v _ most S K9.out.a hS.out).mono ?_; rintro e wn ⟨rfl, rfl⟩) | (go_at_call 25; refine (pSize_any 48 _ _ k _ _ most S K9.out.b hS.out).mono ?_; rintro e wn ⟨rfl, rfl⟩))
                  exact ⟨⟨j + 1, bs, v, u, by omega, by go_num, K9.out⟩, by simp [intOf]; omega⟩
        · obtain ⟨A', c', hue, hc1, hc2⟩ := K2.b.form
          subst hue
          have hor : ¬ (j < l) ∨ (j < l ∧ ¬ j < 30) := by omega
          have hc0 := K2.b.c0
          obtain ⟨L, hL⟩ : ∃ L, L = bs.length := ⟨_, rfl⟩
          rw [← hL] at hc0 hc1
          replace hL := Lib.hid hL
          replace K2 := Lib.hid K2
          replace hbw := Lib.hid hbw
          rcases hor with hor | hor
          all_goals as_aux_lemma =>
            go_wp2_with fail
            refine (Read_ok 62 _ _ g v bs bs most 0 bs.length _ _ (by omega) (by rw [← hL.out]) K2.out.a (by omega) (by simp)).mono ?_
            rintro e7 w7 ⟨uu, rfl, o7, b7⟩
            have K7 := Lib.hid (K2.out.later b7)
            clear hc0 b7
            have hc0 := K7.out.b.c0
            have hb7 := Lib.hid (own_BS o7 K2.out.a.lt)
            have hb8 := own_BS K7.out.b.row K2.out.a.lt
            rw [← hL.out] at hc0
            replace hb8 := Lib.hid hb8
            clear o7
            go_wp2_with (first | (go_at_call 8; refine (num_any _ _).mono ?_; rintro e wn ⟨rfl, rfl⟩) | (go_at_call 16; refine (EqBytes_same _ _ bs _ hb7.out (by rw [hL.out]; exact hb8.out)).mono ?_; rintro eq wq ⟨rfl, bq⟩) | (go_at_call 9; refine (wakes_any _).mono ?_; rintro ew ww ⟨rfl, bw⟩))
            go_ret
            have d7 := d1.out.trans (K7.out.bel.mono (by omega))
            exact ⟨rfl, (d7.trans (bq.mono d7.size)).trans (bw.mono (Nat.le_trans d7.size bq.size))⟩
  · as_aux_lemma =>
      have hok' := Lib.hid hok
      clear hok
      go_wp2_with fail
      refine (New_bad mn mx limit _ hok'.out).mono ?_
      rintro e2 w2 ⟨rfl, b2⟩
      have s0 := (b2.cell (p := ⟨w.heap.size, 0, none⟩) (by show w.heap.size < _; omega)).trans p0
      have s1 := (b2.cell (p := ⟨w.heap.size, 1, none⟩) (by show w.heap.size < _; omega)).trans p1
      have s2 := (b2.cell (p := ⟨w.heap.size, 2, none⟩) (by show w.heap.size < _; omega)).trans p2
      have d2 := Lib.hid (d1.out.trans (b2.mono d1.out.size))
      clear b2
      go_wp2_with fail
      refine (mayMem_any mn mx limit _ false (by have := hok'.out; simpa using this)).mono ?_
      rintro e3 w3 ⟨rfl, b3⟩
      have d3 := Lib.hid (d2.out.trans (b3.mono d2.out.size))
      clear b3
      go_wp2_with (first | (go_at_call 8; refine (num_any _ _).mono ?_; rintro e wn ⟨rfl, rfl⟩) | (go_at_call 9; refine (wakes_any _).mono ?_; rintro ew ww ⟨rfl, bw⟩))
      go_ret
      exact ⟨rfl, d3.out.trans (bw.mono d3.out.size)⟩
end Go.Proofs.Ytcdfmldbpmgoiaa
