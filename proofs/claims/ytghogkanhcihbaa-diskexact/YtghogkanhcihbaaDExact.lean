/-
  The law DiskExact, walked: it answers true; condition: the acts lie in memory as they were handed in.
-/
import Derived.Test.YtghogkanhcihbaaDExact0
import Derived.Deep.RegionHeld3
namespace Go.Proofs.Ytghogkanhcihbaa
open Go.RowKit
theorem nil_BS (w : World) (B : Nat) : BS w B (.slice none 0 0) [] := ⟨none, 0, rfl, by simp, by unfold maxLen; omega, fun i hi => by simp at hi⟩
theorem New_form_is (w : World) (A : Option Addr) (c : Nat) (bs : List Nat) (vt : Value) (hc : bs.length ≤ 4503599627370496) (hb : M.image bs = false) :
    Calls Try.prog 7 #[.slice A bs.length c, vt] w fun e w' => e = .returned (.tuple #[.pointer none, .int .i64 100]) ∧ w = w' := (New_form w A c bs vt hc hb).mono fun _ _ ⟨a, b⟩ => ⟨a, b.symm⟩
theorem Read_bad_is {B g r q n cS cE : Nat} {S E : List Nat} {k last : Int} (w : World) (i : Int) (h : DAt w B g r q n cS cE S E k last) (hbad : ¬ (0 ≤ i ∧ i < n)) :
    Calls Try.prog 16 #[Mp g, .int .i64 i] w fun e w' => e = .returned (.tuple #[.slice none 0 0, .int .i64 100]) ∧ w = w' := (Read_bad w i h hbad).mono fun _ _ ⟨a, b⟩ => ⟨a, b.symm⟩
theorem Write_bad_is {B g r q n cS cE : Nat} {S E : List Nat} {k last : Int} (w : World) (i : Int) (u : Value) (xs : List Nat) (h : DAt w B g r q n cS cE S E k last) (hu : BS w w.heap.size u xs) (hbad : ¬ ((0 ≤ i ∧ i < n) ∧ xs.length = 64)) :
    Calls Try.prog 22 #[Mp g, .int .i64 i, u] w fun e w' => e = .returned (.int .i64 100) ∧ w = w' := (Write_bad w i u xs h hu hbad).mono fun _ _ ⟨a, b⟩ => ⟨a, b.symm⟩
set_option maxRecDepth 100000 in
set_option maxHeartbeats 4000000 in
theorem exactWalk (cs : Array Value) (w : World) (hp : IsPlay w (.agg cs)) : Calls Try.prog 3 #[.agg cs] w fun e w' => e = .returned (.bool true) ∧ Below w.heap.size w w' := by
  obtain ⟨size, A, l, c, ts, A2, l2, c2, hv, rsz, ⟨htl, hts0⟩, ⟨hlc, hcm⟩, hacts0⟩ := hp
  injection hv with hv
  subst hv
  unfold maxLen at hcm
  by_cases h1 : size < 0
  · clear hts0 hacts0 htl
    go_enter Try.func3, Try.ntmps3
    go_wp2_with fail
    go_ret
    exact ⟨rfl, (Below.refl _ _).alloc (Nat.le_refl _) _⟩
  by_cases h2 : 2000 < size
  · clear hts0 hacts0 htl
    go_enter Try.func3, Try.ntmps3
    go_wp2_with fail
    go_ret
    exact ⟨rfl, (Below.refl _ _).alloc (Nat.le_refl _) _⟩
  by_cases h3 : 30 < l
  · have h3' : (30 : Int) < (l : Int) := by omega
    clear hts0 hacts0 htl
    go_enter Try.func3, Try.ntmps3
    go_wp2_with fail
    go_ret
    exact ⟨rfl, (Below.refl _ _).alloc (Nat.le_refl _) _⟩
  obtain ⟨N, rfl⟩ := Int.eq_ofNat_of_zero_le (show 0 ≤ size by omega)
  have hN : N ≤ 2000 := by omega
  have hN' : (N : Int) ≤ 2000 := by omega
  have hl' : (l : Int) ≤ 30 := by omega
  have htl30 := Lib.hid (show ts.length ≤ 30 by omega)
  clear h1 h2 h3 rsz htl
  have hmk := make_run N N (N : Int) (N : Int) rfl rfl (Nat.le_refl _) (by omega)
  go_enter Try.func3, Try.ntmps3
  go_wp2_with fail
  have hbW0 : Below w.heap.size w (w.alloc (.cells #[.int .i64 (N : Int), .slice A l c, .slice A2 l2 c2] 25)) := (Below.refl _ _).alloc (Nat.le_refl _) _
  have hz0 : (w.alloc (.cells #[.int .i64 (N : Int), .slice A l c, .slice A2 l2 c2] 25)).heap.size = w.heap.size + 1 := by simp
  have q10 : (w.alloc (.cells #[.int .i64 (N : Int), .slice A l c, .slice A2 l2 c2] 25)).cell? ⟨w.heap.size, 1, none⟩ = some (.slice A l c) := by simp
  have q20 : (w.alloc (.cells #[.int .i64 (N : Int), .slice A l c, .slice A2 l2 c2] 25)).cell? ⟨w.heap.size, 2, none⟩ = some (.slice A2 l2 c2) := by simp
  obtain ⟨W1, hW1⟩ : ∃ W1, W1 = w.alloc (.cells #[.int .i64 (N : Int), .slice A l c, .slice A2 l2 c2] 25) := ⟨_, rfl⟩
  rw [← hW1] at hbW0 hz0 q10 q20 ⊢
  clear hW1
  have hZ := zrow_at W1 N (by omega)
  have hb2 : Below W1.heap.size W1 (W1.alloc (.cells (zrow N) 5)) := (Below.refl _ _).alloc (Nat.le_refl _) _
  have hz2 : (W1.alloc (.cells (zrow N) 5)).heap.size = w.heap.size + 2 := by simp [hz0]
  obtain ⟨W2, hW2⟩ : ∃ W2, W2 = W1.alloc (.cells (zrow N) 5) := ⟨_, rfl⟩
  rw [← hW2] at hZ hb2 hz2 ⊢
  clear hW2
  rw [hz0] at hZ
  have p1 : W2.cell? ⟨w.heap.size, 1, none⟩ = some (.slice A l c) := (hb2.cell (p := ⟨w.heap.size, 1, none⟩) (by show w.heap.size < _; omega)).trans q10
  have p2 : W2.cell? ⟨w.heap.size, 2, none⟩ = some (.slice A2 l2 c2) := (hb2.cell (p := ⟨w.heap.size, 2, none⟩) (by show w.heap.size < _; omega)).trans q20
  have hbw := hbW0.trans (hb2.mono (by omega))
  have hacts := Lib.hid hacts0
  have hts := Lib.hid hts0
  have hsz2 : w.heap.size + 2 ≤ W2.heap.size := by omega
  replace hbw := Lib.hid hbw
  replace p1 := Lib.hid p1
  replace p2 := Lib.hid p2
  replace hZ := Lib.hid hZ
  clear hb2 q10 q20 hbW0 hz0 hmk hacts0 hts0 hz2
  obtain ⟨rI, hrI⟩ : ∃ rI, rI = w.heap.size + 1 := ⟨_, rfl⟩
  rw [← hrI] at hZ ⊢
  have hrI2 : w.heap.size < rI := by omega
  have hrI3 : rI < W2.heap.size := by omega
  clear hrI
  go_loopw [4] (fun i w' => ∃ (j : Nat) (bs : List Nat), j ≤ N ∧ i = .int .i64 j ∧ bs.length = N ∧ RowAt w' rI N bs ∧ But (· = rI) W2 w') (fun i _ => N - (intOf i).toNat)
  case atStart => exact ⟨0, _, by omega, rfl, by rw [List.length_replicate], hZ.out, But.refl _ _⟩
  case round =>
    clear hZ
    obtain ⟨j, im, hj, rfl, hil, hR, hbt⟩ := hrel
    by_cases hlt : j < N
    · as_aux_lemma =>
      have a1 := hR.cell j (by omega)
      have a2 := hR.f j
      obtain ⟨x, hx⟩ : ∃ x, x = j * 3 % 256 := ⟨_, rfl⟩
      have e : (j : Int) * 3 % 256 = (x : Int) := by omega
      have hs := hR.set j x (by omega) (by omega)
      obtain ⟨z, hz⟩ : ∃ z, z = im.getD j 0 := ⟨_, rfl⟩
      rw [← hz] at a1
      have hlen : (im.set j x).length = N := by rw [List.length_set]; exact hil
      have hbn := hbt.trans (But.setCell wr rI j (.int .u8 (x : Int)))
      clear hx hz hil hR hbt
      replace hs := Lib.hid hs
      replace hbn := Lib.hid hbn
      replace hlen := Lib.hid hlen
      have t0 : (0 : Int) ≤ (j : Int) := by omega
      have t1 : (j : Int) < (N : Int) := by omega
      go_wp2_with fail
      exact ⟨⟨j + 1, _, by omega, by go_num, hlen.out, hs.out, hbn.out⟩, by simp [intOf]; omega⟩
    · have hjN : (N : Int) ≤ (j : Int) := by omega
      have hbelW := Lib.hid (show Below w.heap.size w wr from hbw.out.trans (hbt.below (fun z e => by omega) (by omega)))
      have q1 : wr.cell? ⟨w.heap.size, 1, none⟩ = some (.slice A l c) := (World.cell?_of_block (hbt.block w.heap.size (by omega) (by omega))).trans p1.out
      have q2 : wr.cell? ⟨w.heap.size, 2, none⟩ = some (.slice A2 l2 c2) := (World.cell?_of_block (hbt.block w.heap.size (by omega) (by omega))).trans p2.out
      have hszr : w.heap.size + 2 ≤ wr.heap.size := Nat.le_trans hsz2 hbt.size
      have hrIr : rI < wr.heap.size := hR.lt
      have hactsr : Acts wr A2 l2 := hacts.out.later hbelW.out
      have htsr : NS wr wr.heap.size (.slice A l c) ts := hts.out.below hbelW.out hbelW.out.size
      replace hactsr := Lib.hid hactsr
      replace htsr := Lib.hid htsr
      replace hil := Lib.hid hil
      have hBS := Lib.hid (hR.all (n := N) hil.out.symm)
      have hsm := Lib.hid hR.small
      replace hR := Lib.hid hR
      clear hbt hacts hts p1 p2 hbw hsz2 hrI3
      go_wp2_with fail
      refine (CopyBytes_any _ im _ (by rw [hil.out]; omega) hBS.out).mono ?_
      rintro e1 w1 ⟨vin, rfl, own1, b1⟩
      obtain ⟨Ain, cin, rfl, i1, i2⟩ := own_form own1
      have hown1 := Lib.hid own1
      have q1a := (b1.cell (p := ⟨w.heap.size, 1, none⟩) (by show w.heap.size < _; omega)).trans q1
      have hR1 := Lib.hid (hR.out.later b1)
      have hts1 := Lib.hid (htsr.out.later b1)
      have hs1 := b1.size
      have hinb := Lib.hid (fun z => own1.lt z)
      rw [hil.out] at i1 ⊢
      replace b1 := Lib.hid b1
      clear own1
      by_cases himg : M.image im = true
      · obtain ⟨n, hNn, hn⟩ : ∃ n, N = n * 64 ∧ (0 < n ∧ n ≤ 16384) := by
          unfold M.image at himg
          rw [hil.out] at himg
          simp at himg
          exact ⟨N / 64, by omega, by omega, by omega⟩
        have hlim : im.length = n * 64 := by rw [hil.out]; exact hNn
        have hNew := New_any w1 (.slice Ain im.length cin) (.slice A l c) im ts n hn hlim (own_BS hown1.out hsm.out) hts1.out
        rw [hil.out] at hNew
        replace hNew := Lib.hid hNew
        replace hlim := Lib.hid hlim
        replace hNn := Lib.hid hNn
        clear himg
        go_wp2_with fail
        refine hNew.out.mono ?_
        rintro e2 w2 ⟨hres, b2⟩
        have hs2 : wr.heap.size ≤ w2.heap.size := Nat.le_trans hs1 b2.size
        have hBy := Bytes_any wr.heap.size (.slice Ain im.length cin) im w2 (own_later hown1.out b2) hs2 (by rw [hil.out]; omega)
        rw [hil.out] at hBy hinb
        have q1c := (b2.cell (p := ⟨w.heap.size, 1, none⟩) (by show w.heap.size < _; omega)).trans q1a
        have hR2 := Lib.hid (hR1.out.later b2)
        have bl2 := Lib.hid (b1.out.trans (b2.mono hs1))
        replace hBy := Lib.hid hBy
        replace b2 := Lib.hid b2
        rcases hres with ⟨hge, g, r, q, cS, cE, rfl, d2⟩ | ⟨hex, rfl⟩
        · have hleast := (M.least_rg ts hge).1
          replace hge := Lib.hid hge
          replace d2 := Lib.hid d2
          go_wp2_with fail
          refine hBy.out.mono ?_
          rintro e3 w3 ⟨rfl, x3⟩
          have q1b : w3.cell? ⟨w.heap.size, 1, none⟩ = some (.slice A l c) := (World.cell?_of_block (x3.block w.heap.size (by omega) (fun e => by have := (hinb.out _ e).1; omega))).trans q1c
          have q2b : w3.cell? ⟨w.heap.size, 2, none⟩ = some (.slice A2 l2 c2) := ((bl2.out.trans (x3.below (B := wr.heap.size) (fun z e => (hinb.out z e).1) hs2)).cell (p := ⟨w.heap.size, 2, none⟩) (by show w.heap.size < _; omega)).trans q2
          have bl3 := Lib.hid (bl2.out.trans (x3.below (B := wr.heap.size) (fun z e => (hinb.out z e).1) hs2))
          have hR3 := hR2.out.but x3 (fun e => by have := (hinb.out _ e).1; omega)
          have hts3 := htsr.out.later bl3.out
          have d3 := Lib.hid (d2.out.but x3 (fun z hz e => by have t1 := (hinb.out _ e).2; have t2 := d2.out.ft z hz; omega))
          have hMay := May_any w3 (some ⟨rI, 0, none⟩) N n (.slice A l c) ts hn hts3
          have hPN := pNew_any w3 rI N (.slice A l c) im ts n hn hlim.out hR3 hts3 (by have := htl30.out; omega)
          rw [← hNn.out] at hMay hPN
          have hs3 : wr.heap.size ≤ w3.heap.size := bl3.out.size
          replace hMay := Lib.hid hMay
          replace hPN := Lib.hid hPN
          clear x3 hR3 hts3 q1c
          go_wp2_with fail
          refine hMay.out.mono ?_
          rintro e4 w4 ⟨hm, rfl⟩
          obtain rfl : e4 = .returned (.bool true) := by
            rcases hm with ⟨_, h⟩ | ⟨⟨t, t1, t2⟩, _⟩
            · exact h
            · have := hge.out t t1
              omega
          clear hm
          go_wp2_with (go_at_call 10; refine (num_is _ _).mono ?_; rintro e wn ⟨rfl, rfl⟩)
          refine hPN.out.mono ?_
          rintro e5 w5 ⟨gp, vs, ve, vt, ss, es, rfl, hraw, hsS, hsE, b5⟩
          obtain ⟨ps, pcs, pe, ce, hP⟩ := PAt.of hraw hsS hsE hn.1
          have K0 : XK wr w5 w1.heap.size g r q n cS cE w3.heap.size gp ps pcs pe ce vt ts im im 0 :=
            ⟨d3.out.later b5, ⟨ss, es, by rw [show decide (M.least ts ≤ 0) = false by simp; omega]; exact hP⟩, fun z hz => d3.out.lt z hz, ⟨hs1, bl3.out.size⟩, bl3.out.trans (b5.mono bl3.out.size)⟩
          have p2w : wr.cell? ⟨w.heap.size, 2, none⟩ = some (.slice A2 l2 c2) := q2
          replace p2w := Lib.hid p2w
          replace K0 := Lib.hid K0
          clear hraw hsS hsE b5 hP q1 q2 q1a q1b q2b hNew hBy hMay hPN hR hR1 hR2 hBS hsm hown1 hts1 hinb b1 b2 bl2 bl3 d2 d3
          obtain ⟨Wb, rfl⟩ : ∃ Wb, Wb = wr := ⟨wr, rfl⟩
          obtain ⟨Bd, hBd⟩ : ∃ Bd, Bd = w1.heap.size := ⟨_, rfl⟩
          obtain ⟨Bp, hBp⟩ : ∃ Bp, Bp = w3.heap.size := ⟨_, rfl⟩
          rw [← hBd, ← hBp] at K0
          clear hBd hBp hs1 hs2 hs3
          go_wp2_with fail
          go_loopw [9] (fun i w' => ∃ (j : Nat) (S E : List Nat) (k : Int), (j ≤ l2 ∧ j ≤ 40) ∧ (0 ≤ k ∧ k ≤ j) ∧ i = .int .i64 j ∧ XK Wb w' Bd g r q n cS cE Bp gp ps pcs pe ce vt ts S E k) (fun i _ => 40 - (intOf i).toNat)
          case atStart => exact ⟨0, im, im, 0, by omega, by omega, rfl, K0.out⟩
          case round =>
            clear K0
            obtain ⟨j, S, E, k, hj, hk, rfl, K⟩ := hrel
            have p3 : wr.cell? ⟨w.heap.size, 2, none⟩ = some (.slice A2 l2 c2) := (K.bel.cell (p := ⟨w.heap.size, 2, none⟩) (by show w.heap.size < _; omega)).trans p2w.out
            have hwr : w.heap.size + 2 ≤ wr.heap.size := by have := K.bel.size; omega
            by_cases hlt2 : j < l2 ∧ j < 40
            · obtain ⟨ga, oa, d, ai, b, vP, ps', rfl, hga, hat, ⟨rd, ri, rb⟩, hps⟩ := hactsr.out j hlt2.1
              obtain ⟨c0, c1, c2', c3⟩ := hat
              have e0 := (K.bel.cell (p := ⟨ga, oa + j * 4, none⟩) hga).trans c0
              have e1 := (K.bel.cell (p := ⟨ga, oa + j * 4 + 1, none⟩) hga).trans c1
              have e2 := (K.bel.cell (p := ⟨ga, oa + j * 4 + 2, none⟩) hga).trans c2'
              have e3 := (K.bel.cell (p := ⟨ga, oa + j * 4 + 3, none⟩) hga).trans c3
              have hN3 := hps.below K.bel (Nat.le_refl _)
              have hN2 := hN3.below (C := wr.heap.size) (Below.refl _ _) K.bel.size
              obtain ⟨AP, cP, rfl, hpc1, hpc2, _⟩ := id hN3
              obtain ⟨m, hm⟩ : ∃ m, m = ps'.length := ⟨_, rfl⟩
              rw [← hm] at e3 hN2 hpc1
              unfold maxLen at hpc2
              have hmp := Lib.hid hm
              clear c0 c1 c2' c3 hps hN3 hm
              have t0 : (0 : Int) ≤ (j : Int) := by omega
              have t1 : (j : Int) < (l2 : Int) := by omega
              have t2 : (j : Int) < 40 := by omega
              replace K := Lib.hid K
              replace hN2 := Lib.hid hN2
              by_cases hm100 : 100 < m
              · as_aux_lemma =>
                have hm100' : (100 : Int) < (m : Int) := by omega
                go_wp2_with fail
                go_ret
                exact ⟨rfl, hbelW.out.trans ((K.out.bel.alloc K.out.bel.size _).mono (by omega))⟩
              have hm100' : (m : Int) ≤ 100 := by omega
              go_wp2_with fail
              have K1 := K.out.later (w1 := wr.alloc (.cells #[.int .i64 d, .int .i64 ai, .int .i64 b, .slice AP m cP] 40)) ((Below.refl _ _).alloc (Nat.le_refl _) _)
              have hN1 := hN2.out.later (w' := wr.alloc (.cells #[.int .i64 d, .int .i64 ai, .int .i64 b, .slice AP m cP] 40)) ((Below.refl _ _).alloc (Nat.le_refl _) _)
              have x0 : (wr.alloc (.cells #[.int .i64 d, .int .i64 ai, .int .i64 b, .slice AP m cP] 40)).cell? ⟨wr.heap.size, 0, none⟩ = some (.int .i64 d) := by simp
              have x1 : (wr.alloc (.cells #[.int .i64 d, .int .i64 ai, .int .i64 b, .slice AP m cP] 40)).cell? ⟨wr.heap.size, 1, none⟩ = some (.int .i64 ai) := by simp
              have x2 : (wr.alloc (.cells #[.int .i64 d, .int .i64 ai, .int .i64 b, .slice AP m cP] 40)).cell? ⟨wr.heap.size, 2, none⟩ = some (.int .i64 b) := by simp
              have x3 : (wr.alloc (.cells #[.int .i64 d, .int .i64 ai, .int .i64 b, .slice AP m cP] 40)).cell? ⟨wr.heap.size, 3, none⟩ = some (.slice AP m cP) := by simp
              have hzL : (wr.alloc (.cells #[.int .i64 d, .int .i64 ai, .int .i64 b, .slice AP m cP] 40)).heap.size = wr.heap.size + 1 := by simp
              obtain ⟨WL, hWL⟩ : ∃ WL, WL = wr.alloc (.cells #[.int .i64 d, .int .i64 ai, .int .i64 b, .slice AP m cP] 40) := ⟨_, rfl⟩
              rw [← hWL] at K1 hN1 x0 x1 x2 x3 hzL ⊢
              obtain ⟨gx, hgx⟩ : ∃ gx, gx = wr.heap.size := ⟨_, rfl⟩
              have hgD := Lib.hid (show ∀ z, DX g r q z → z < gx by rw [hgx]; exact K.out.d.lt)
              have hlow := Lib.hid (show ∃ ss es, PAt WL Bp gp ps pcs pe ce vt ss es ts n S E (decide (M.least ts ≤ k)) k ∧ (∀ z, PXX gp ps pe z → z < gx) ∧ (∀ (i r c : Nat), ss[i]? = some (Value.slice (some ⟨r, 0, none⟩) 64 c) → r < gx) ∧ (∀ (i r c : Nat), es[i]? = some (Value.slice (some ⟨r, 0, none⟩) 64 c) → r < gx) by
                obtain ⟨ss, es, hp⟩ := K.out.p
                have hl := hp.lows
                rw [← hgx] at hl
                exact ⟨ss, es, by rw [hWL]; exact hp.later ((Below.refl _ _).alloc (Nat.le_refl _) _), by rw [hgx]; exact hp.lt, hl.1, hl.2⟩)
              have hBpx : Bp ≤ gx := by
                obtain ⟨ss, es, hp, h2, _⟩ := hlow.out
                have := h2 gp (.inl rfl)
                have := hp.ft gp (.inl rfl)
                omega
              rw [← hgx] at x0 x1 x2 x3 hzL ⊢
              have hzL2 : gx < WL.heap.size := by omega
              clear hzL hWL e0 e1 e2 e3 hN2 K hgx p3 hwr
              replace K1 := Lib.hid K1
              replace hN1 := Lib.hid hN1
              refine (within_is _ _ _ rd (by omega)).mono ?_
              rintro e8 w8 ⟨⟨qn, rfl, hqn⟩, rfl⟩
              rcases (show qn = 4 ∨ qn = 5 ∨ qn = 6 ∨ qn < 4 by omega) with rfl | rfl | rfl | h4
              · as_aux_lemma =>
                go_wp2_with fail
                by_cases hoff : M.least ts ≤ k
                · have hd1 : decide (M.least ts ≤ k) = true := by simpa using hoff
                  have hd2 : decide (M.least ts ≤ k + 1) = true := by simp; omega
                  replace hd1 := Lib.hid hd1
                  replace hd2 := Lib.hid hd2
                  replace hoff := Lib.hid hoff
                  refine (Flush_any _ S (k + 1) 103 K1.out.d (by omega) (by rw [if_pos (by have := hoff.out; omega)]) rfl (by rw [if_pos (by have := hoff.out; omega)])).mono ?_
                  rintro e9 w9 ⟨rfl, d9, x9⟩
                  obtain ⟨ss, es, hp⟩ := K1.out.p
                  rw [hd1.out] at hp
                  obtain ⟨p9, bel9⟩ := K1.out.mid hp x9
                  replace d9 := Lib.hid d9
                  replace p9 := Lib.hid p9
                  replace bel9 := Lib.hid bel9
                  clear x9 hp
                  go_wp2_with (go_at_call 10; refine (num_is _ _).mono ?_; rintro e wn ⟨rfl, rfl⟩)
                  refine (pFlush_off _ (k + 1) p9.out (by omega) rfl).mono ?_
                  rintro e10 w10 ⟨rfl, h10, x10⟩
                  have K10 := Lib.hid (XK.fin (k' := k + 1) d9.out K1.out.low K1.out.lo bel9.out p9.out.ft x10 (by rw [hd2.out]; exact h10))
                  clear x10 h10
                  obtain ⟨ssz, esz, hpz⟩ := K10.out.p
                  replace hpz := Lib.hid hpz
                  go_wp2_with (first | (go_at_call 10; refine (num_is _ _).mono ?_; rintro e wn ⟨rfl, rfl⟩) | (go_at_call 24; refine (Strokes_is _ K10.out.d).mono ?_; rintro e wn ⟨rfl, rfl⟩) | (go_at_call 25; refine (pStrokes_any _ hpz.out).mono ?_; rintro e wn ⟨rfl, rfl⟩) | (go_at_call 26; refine (Count_is _ K10.out.d).mono ?_; rintro e wn ⟨rfl, rfl⟩) | (go_at_call 27; refine (pCount_any _ hpz.out).mono ?_; rintro e wn ⟨rfl, rfl⟩))
                  exact ⟨⟨j + 1, S, E, k + 1, by omega, by omega, by go_num, K10.out⟩, by simp [intOf]; omega⟩
                · have hd1 : decide (M.least ts ≤ k) = false := by simpa using hoff
                  have hstep := off_step (ts := ts) (k := k) (by omega) hoff
                  obtain ⟨b9, hb9⟩ : ∃ b9, b9 = decide (M.least ts ≤ k + 1) := ⟨_, rfl⟩
                  obtain ⟨c9, hc9⟩ : ∃ c9 : Int, c9 = if b9 then 103 else 0 := ⟨_, rfl⟩
                  obtain ⟨S', hS'⟩ : ∃ S' : List Nat, S' = if b9 then S else E := ⟨_, rfl⟩
                  have hc9' : c9 = if M.least ts ≤ k + 1 then 103 else 0 := by rw [hc9, hb9]; by_cases e : M.least ts ≤ k + 1 <;> simp [e]
                  have hS9' : S' = if M.least ts ≤ k + 1 then S else E := by rw [hS', hb9]; by_cases e : M.least ts ≤ k + 1 <;> simp [e]
                  rw [← hb9] at hstep
                  replace hstep := Lib.hid hstep.symm
                  replace hd1 := Lib.hid hd1
                  replace hb9 := Lib.hid hb9
                  replace hc9 := Lib.hid hc9
                  replace hS' := Lib.hid hS'
                  replace hc9' := Lib.hid hc9'
                  replace hS9' := Lib.hid hS9'
                  replace hoff := Lib.hid hoff
                  refine (Flush_any _ S' (k + 1) c9 K1.out.d (by omega) hS9'.out rfl hc9'.out).mono ?_
                  rintro e9 w9 ⟨rfl, d9, x9⟩
                  obtain ⟨ss, es, hp⟩ := K1.out.p
                  rw [hd1.out] at hp
                  obtain ⟨p9, bel9⟩ := K1.out.mid hp x9
                  replace d9 := Lib.hid d9
                  replace p9 := Lib.hid p9
                  replace bel9 := Lib.hid bel9
                  clear x9 hp
                  go_wp2_with (go_at_call 10; refine (num_is _ _).mono ?_; rintro e wn ⟨rfl, rfl⟩)
                  refine (pFlush_on _ S' (k + 1) c9 b9 p9.out K1.out.d.n0.2 (by omega) rfl hstep.out (by have := htl30.out; omega) hc9.out hS'.out).mono ?_
                  rintro e10 w10 ⟨rfl, h10, x10⟩
                  have K10 := Lib.hid (XK.fin (k' := k + 1) d9.out K1.out.low K1.out.lo bel9.out p9.out.ft x10 (by rw [← hb9.out]; exact h10))
                  clear x10 h10
                  obtain ⟨ssz, esz, hpz⟩ := K10.out.p
                  replace hpz := Lib.hid hpz
                  go_wp2_with (first | (go_at_call 10; refine (num_is _ _).mono ?_; rintro e wn ⟨rfl, rfl⟩) | (go_at_call 24; refine (Strokes_is _ K10.out.d).mono ?_; rintro e wn ⟨rfl, rfl⟩) | (go_at_call 25; refine (pStrokes_any _ hpz.out).mono ?_; rintro e wn ⟨rfl, rfl⟩) | (go_at_call 26; refine (Count_is _ K10.out.d).mono ?_; rintro e wn ⟨rfl, rfl⟩) | (go_at_call 27; refine (pCount_any _ hpz.out).mono ?_; rintro e wn ⟨rfl, rfl⟩))
                  exact ⟨⟨j + 1, S', E, k + 1, by omega, by omega, by go_num, K10.out⟩, by simp [intOf]; omega⟩
              · as_aux_lemma =>
                go_wp2_with fail
                by_cases hir : 0 ≤ ai ∧ ai < n
                · obtain ⟨ii, rfl⟩ := Int.eq_ofNat_of_zero_le hir.1
                  have hii : ii < n := by omega
                  by_cases hoff : M.least ts ≤ k
                  · have hd1 : decide (M.least ts ≤ k) = true := by simpa using hoff
                    replace hd1 := Lib.hid hd1
                    replace hoff := Lib.hid hoff
                    replace hir := Lib.hid hir
                    refine (Read_off _ (ii : Int) K1.out.d hir.out hoff.out).mono ?_
                    rintro e9 w9 ⟨rfl, b9⟩
                    obtain ⟨ss, es, hp⟩ := (K1.out.later b9).p
                    rw [hd1.out] at hp
                    have x1' : w9.cell? ⟨gx, 1, none⟩ = some (.int .i64 (ii : Int)) := (b9.cell (p := ⟨gx, 1, none⟩) (by show gx < _; omega)).trans x1
                    replace hp := Lib.hid hp
                    replace b9 := Lib.hid b9
                    go_wp2_with fail
                    refine (pRead_off _ (ii : Int) hp.out hir.out).mono ?_
                    rintro e10 w10 ⟨rfl, rfl⟩
                    go_wp2_with (go_at_call 10; refine (num_is _ _).mono ?_; rintro e wn ⟨rfl, rfl⟩)
                    refine (EqBytes_any _ _ [] [] true _ (nil_BS _ _) (nil_BS _ _) (by simp)).mono ?_
                    rintro e11 w11 ⟨rfl, b11⟩
                    have bl11 := Lib.hid (b9.out.trans (b11.mono b9.out.size))
                    clear b11
                    go_wp2_with fail
                    refine (Bytes_any w11.heap.size (.slice none 0 0) [] w11 (World.ownsRow_nil _ _ _ _) (Nat.le_refl _) (by simp)).mono ?_
                    rintro e12 w12 ⟨rfl, x12⟩
                    have bl12 := Lib.hid (bl11.out.trans (x12.below (B := WL.heap.size) (fun z e => by cases e) bl11.out.size))
                    have K10 := Lib.hid (K1.out.later bl12.out)
                    clear x12
                    obtain ⟨ssz, esz, hpz⟩ := K10.out.p
                    replace hpz := Lib.hid hpz
                    go_wp2_with (first | (go_at_call 10; refine (num_is _ _).mono ?_; rintro e wn ⟨rfl, rfl⟩) | (go_at_call 24; refine (Strokes_is _ K10.out.d).mono ?_; rintro e wn ⟨rfl, rfl⟩) | (go_at_call 25; refine (pStrokes_any _ hpz.out).mono ?_; rintro e wn ⟨rfl, rfl⟩) | (go_at_call 26; refine (Count_is _ K10.out.d).mono ?_; rintro e wn ⟨rfl, rfl⟩) | (go_at_call 27; refine (pCount_any _ hpz.out).mono ?_; rintro e wn ⟨rfl, rfl⟩))
                    exact ⟨⟨j + 1, S, E, k, by omega, by omega, by go_num, K10.out⟩, by simp [intOf]; omega⟩
                  · have hd1 : decide (M.least ts ≤ k) = false := by simpa using hoff
                    replace hd1 := Lib.hid hd1
                    replace hoff := Lib.hid hoff
                    obtain ⟨bs, hbs⟩ : ∃ bs, bs = M.sec E ii := ⟨_, rfl⟩
                    have hbl := Lib.hid (show bs.length = 64 by rw [hbs]; exact M.sec_length (by rw [K1.out.d.lE]; omega))
                    replace hbs := Lib.hid hbs
                    replace hir := Lib.hid hir
                    refine (Read_ok _ (ii : Int) ii bs K1.out.d rfl hii (by have := hoff.out; omega) hbs.out).mono ?_
                    rintro e9 w9 ⟨r9, c9, rfl, q9, g9, b9⟩
                    obtain ⟨ss, es, hp⟩ := (K1.out.later b9).p
                    rw [hd1.out] at hp
                    have hlE := Lib.hid K1.out.d.lE
                    have x1' : w9.cell? ⟨gx, 1, none⟩ = some (.int .i64 (ii : Int)) := (b9.cell (p := ⟨gx, 1, none⟩) (by show gx < _; omega)).trans x1
                    replace hp := Lib.hid hp
                    replace b9 := Lib.hid b9
                    replace q9 := Lib.hid q9
                    replace g9 := Lib.hid g9
                    go_wp2_with fail
                    refine (pRead_ok _ (ii : Int) ii bs hp.out rfl hii hlE.out hbs.out).mono ?_
                    rintro e10 w10 ⟨r10, c10, rfl, q10, _, b10⟩
                    have q9a := Lib.hid (q9.out.later b10)
                    have bl10 := Lib.hid (b9.out.trans (b10.mono b9.out.size))
                    replace q10 := Lib.hid q10
                    clear b10
                    go_wp2_with (go_at_call 10; refine (num_is _ _).mono ?_; rintro e wn ⟨rfl, rfl⟩)
                    refine (EqBytes_any _ _ bs bs true _ (q9a.out.all (n := 64) hbl.out.symm) (q10.out.all (n := 64) hbl.out.symm) (by simp)).mono ?_
                    rintro e11 w11 ⟨rfl, b11⟩
                    have bl11 := Lib.hid (bl10.out.trans (b11.mono bl10.out.size))
                    have q9b := Lib.hid (q9a.out.later b11)
                    clear b11
                    go_wp2_with fail
                    refine (spoil_any w11 r9 c9 0 64 c9 bs q9b.out (by rw [hbl.out]; omega) ⟨by have := q9b.out.le.1; rw [hbl.out] at this; omega, by omega⟩ (by rw [hbl.out]; omega)).mono ?_
                    rintro e12 w12 ⟨rfl, x12⟩
                    have K10 := Lib.hid (K1.out.later (bl11.out.trans (x12.below (B := WL.heap.size) (fun z e => by rw [e]; exact g9.out) bl11.out.size)))
                    clear x12
                    obtain ⟨ssz, esz, hpz⟩ := K10.out.p
                    replace hpz := Lib.hid hpz
                    go_wp2_with (first | (go_at_call 10; refine (num_is _ _).mono ?_; rintro e wn ⟨rfl, rfl⟩) | (go_at_call 24; refine (Strokes_is _ K10.out.d).mono ?_; rintro e wn ⟨rfl, rfl⟩) | (go_at_call 25; refine (pStrokes_any _ hpz.out).mono ?_; rintro e wn ⟨rfl, rfl⟩) | (go_at_call 26; refine (Count_is _ K10.out.d).mono ?_; rintro e wn ⟨rfl, rfl⟩) | (go_at_call 27; refine (pCount_any _ hpz.out).mono ?_; rintro e wn ⟨rfl, rfl⟩))
                    exact ⟨⟨j + 1, S, E, k, by omega, by omega, by go_num, K10.out⟩, by simp [intOf]; omega⟩
                · replace hir := Lib.hid hir
                  refine (Read_bad_is _ ai K1.out.d hir.out).mono ?_
                  rintro e9 w9 ⟨rfl, rfl⟩
                  obtain ⟨ss, es, hp⟩ := K1.out.p
                  replace hp := Lib.hid hp
                  have b9 := Lib.hid (Below.refl WL.heap.size WL)
                  go_wp2_with fail
                  refine (pRead_bad _ ai hp.out hir.out).mono ?_
                  rintro e10 w10 ⟨rfl, rfl⟩
                  go_wp2_with (go_at_call 10; refine (num_is _ _).mono ?_; rintro e wn ⟨rfl, rfl⟩)
                  refine (EqBytes_any _ _ [] [] true _ (nil_BS _ _) (nil_BS _ _) (by simp)).mono ?_
                  rintro e11 w11 ⟨rfl, b11⟩
                  have bl11 := Lib.hid (b9.out.trans (b11.mono b9.out.size))
                  clear b11
                  go_wp2_with fail
                  refine (Bytes_any w11.heap.size (.slice none 0 0) [] w11 (World.ownsRow_nil _ _ _ _) (Nat.le_refl _) (by simp)).mono ?_
                  rintro e12 w12 ⟨rfl, x12⟩
                  have bl12 := Lib.hid (bl11.out.trans (x12.below (B := WL.heap.size) (fun z e => by cases e) bl11.out.size))
                  have K10 := Lib.hid (K1.out.later bl12.out)
                  clear x12
                  obtain ⟨ssz, esz, hpz⟩ := K10.out.p
                  replace hpz := Lib.hid hpz
                  go_wp2_with (first | (go_at_call 10; refine (num_is _ _).mono ?_; rintro e wn ⟨rfl, rfl⟩) | (go_at_call 24; refine (Strokes_is _ K10.out.d).mono ?_; rintro e wn ⟨rfl, rfl⟩) | (go_at_call 25; refine (pStrokes_any _ hpz.out).mono ?_; rintro e wn ⟨rfl, rfl⟩) | (go_at_call 26; refine (Count_is _ K10.out.d).mono ?_; rintro e wn ⟨rfl, rfl⟩) | (go_at_call 27; refine (pCount_any _ hpz.out).mono ?_; rintro e wn ⟨rfl, rfl⟩))
                  exact ⟨⟨j + 1, S, E, k, by omega, by omega, by go_num, K10.out⟩, by simp [intOf]; omega⟩
              · as_aux_lemma =>
                obtain ⟨X, hXe⟩ : ∃ X, X = M.crash S E n 0 ps' := ⟨_, rfl⟩
                have hn0 := K1.out.d.n0
                have hXl : X.length = n * 64 := by rw [hXe]; exact M.crash_length (by rw [K1.out.d.lS]; omega) (by rw [K1.out.d.lE]; omega)
                have hXlt : ∀ b ∈ X, b < 256 := by rw [hXe]; exact M.crash_lt K1.out.d.rS.small K1.out.d.rE.small
                have hC : Calls Try.prog 19 #[Mp g, .slice AP m cP] WL (CrashPost X WL) := by rw [hXe]; exact Crash_any _ _ ps' K1.out.d hN1.out
                have hC2 : ∀ w9, Below WL.heap.size WL w9 → Calls Try.prog 20 #[Mp gp, .slice AP m cP] w9 (CrashPost X w9) := fun w9 b9 => by
                  rw [hXe]
                  obtain ⟨ss, es, hp⟩ := (K1.out.later b9).p
                  exact pCrash_any _ _ ps' hp hn0.2 (by rw [← hmp.out]; omega) K1.out.d.lS K1.out.d.lE (hN1.out.later b9)
                replace hXl := Lib.hid hXl
                replace hXlt := Lib.hid hXlt
                replace hC := Lib.hid hC
                replace hC2 := Lib.hid hC2
                replace hn0 := Lib.hid hn0
                clear hXe
                go_wp2_with fail
                refine hC.out.mono ?_
                rintro e9 w9 h9
                obtain ⟨r9, c9, rfl, q9, g9, b9⟩ := crash_row (bs := X) h9 (by rw [hXl.out]; have := hn0.out; omega) hXlt.out
                have x3' : w9.cell? ⟨gx, 3, none⟩ = some (.slice AP m cP) := (b9.cell (p := ⟨gx, 3, none⟩) (by show gx < _; omega)).trans x3
                replace q9 := Lib.hid q9
                replace g9 := Lib.hid g9
                replace b9 := Lib.hid b9
                clear h9
                obtain ⟨XL, hXL⟩ : ∃ XL, XL = X.length := ⟨_, rfl⟩
                rw [← hXL]
                replace hXL := Lib.hid hXL
                go_wp2_with fail
                refine (hC2.out w9 b9.out).mono ?_
                rintro e10 w10 h10
                obtain ⟨r10, c10, rfl, q10, _, b10⟩ := crash_row (bs := X) h10 (by rw [hXl.out]; have := hn0.out; omega) hXlt.out
                rw [← hXL.out]
                have q9a := Lib.hid (q9.out.later b10)
                have bl10 := Lib.hid (b9.out.trans (b10.mono b9.out.size))
                replace q10 := Lib.hid q10
                clear b10 h10
                go_wp2_with fail
                refine (EqBytes_any _ _ X X true _ (q9a.out.all (n := XL) hXL.out) (q10.out.all (n := XL) hXL.out) (by simp)).mono ?_
                rintro e11 w11 ⟨rfl, b11⟩
                have bl11 := Lib.hid (bl10.out.trans (b11.mono bl10.out.size))
                have q9b := Lib.hid (q9a.out.later b11)
                clear b11
                go_wp2_with fail
                refine (spoil_any w11 r9 c9 0 XL c9 X q9b.out (by rw [hXL.out]; omega) ⟨by have := q9b.out.le.1; rw [← hXL.out] at this; omega, by omega⟩ (by have := hXl.out; have := hNn.out; omega)).mono ?_
                rintro e12 w12 ⟨rfl, x12⟩
                have K10 := Lib.hid (K1.out.later (bl11.out.trans (x12.below (B := WL.heap.size) (fun z e => by rw [e]; exact g9.out) bl11.out.size)))
                clear x12
                obtain ⟨ssz, esz, hpz⟩ := K10.out.p
                replace hpz := Lib.hid hpz
                go_wp2_with (first | (go_at_call 10; refine (num_is _ _).mono ?_; rintro e wn ⟨rfl, rfl⟩) | (go_at_call 24; refine (Strokes_is _ K10.out.d).mono ?_; rintro e wn ⟨rfl, rfl⟩) | (go_at_call 25; refine (pStrokes_any _ hpz.out).mono ?_; rintro e wn ⟨rfl, rfl⟩) | (go_at_call 26; refine (Count_is _ K10.out.d).mono ?_; rintro e wn ⟨rfl, rfl⟩) | (go_at_call 27; refine (pCount_any _ hpz.out).mono ?_; rintro e wn ⟨rfl, rfl⟩))
                exact ⟨⟨j + 1, S, E, k, by omega, by omega, by go_num, K10.out⟩, by simp [intOf]; omega⟩
              · as_aux_lemma =>
                have hq4 : ((qn : Int) == 4) = false := by simp; omega
                have hq5 : ((qn : Int) == 5) = false := by simp; omega
                have hq6 : ((qn : Int) == 6) = false := by simp; omega
                clear h4
                go_wp2_with fail
                refine (sector_any b _).mono ?_
                rintro e9 w9 ⟨rfl, r9, b9⟩
                obtain ⟨rb, hrb⟩ : ∃ rb, rb = WL.heap.size := ⟨_, rfl⟩
                rw [← hrb] at r9 ⊢
                have hrb2 : WL.heap.size ≤ rb := by omega
                clear hrb
                have K9 := K1.out.later b9
                have x2' : w9.cell? ⟨gx, 2, none⟩ = some (.int .i64 b) := (b9.cell (p := ⟨gx, 2, none⟩) (by show gx < _; omega)).trans x2
                have x1' : w9.cell? ⟨gx, 1, none⟩ = some (.int .i64 ai) := (b9.cell (p := ⟨gx, 1, none⟩) (by show gx < _; omega)).trans x1
                have hz9 : gx < w9.heap.size := by have := b9.size; omega
                have hnD := Lib.hid (show ¬ DX g r q gx from fun e => Nat.lt_irrefl _ (hgD.out gx e))
                have hnDr := Lib.hid (show ¬ DX g r q rb from fun e => by have := hgD.out rb e; omega)
                have hpl := Lib.hid (show M.pat b = M.pat b ∧ (M.pat b).length = 64 from ⟨rfl, M.pat_length b⟩)
                replace K9 := Lib.hid K9
                replace r9 := Lib.hid r9
                replace b9 := Lib.hid b9
                clear x0 x1 x2 x3
                by_cases hcut : (b.tmod 29 == 7) = true
                · as_aux_lemma =>
                  have hp63 : ((M.pat b).drop 1).length = 63 := by rw [List.length_drop, M.pat_length]
                  have hBS := r9.out.part 1 63 63 (by rw [M.pat_length]; omega) (by unfold maxLen; omega)
                  have hBS2 : BS w9 w9.heap.size (.slice (some ⟨rb, 1, none⟩) 63 63) ((M.pat b).drop 1) := by
                    rw [List.take_of_length_le (by rw [hp63]; omega)] at hBS; exact hBS
                  obtain ⟨xs, hxs⟩ : ∃ xs, xs = (M.pat b).drop 1 := ⟨_, rfl⟩
                  rw [← hxs] at hBS2 hp63
                  clear hxs hBS
                  replace hBS2 := Lib.hid hBS2
                  replace hp63 := Lib.hid hp63
                  go_wp2_with fail
                  refine (Write_bad_is _ ai _ xs K9.out.d hBS2.out (by rw [hp63.out]; omega)).mono ?_
                  rintro e10 w10 ⟨rfl, rfl⟩
                  obtain ⟨ss, es, hp⟩ := K9.out.p
                  replace hp := Lib.hid hp
                  go_wp2_with fail
                  go_region_held3 (fun w' => w'.cell? ⟨gx, 1, none⟩ = some (.int .i64 ai))
                    (first | exact x1' | assumption | exact (b11.cell (p := ⟨gx, 1, none⟩) (by exact hz9)).trans x1')
                    (first
                      | (go_at_call 6; (with_reducible refine (CopyBytes_row _ xs _ (by rw [hp63.out]; omega) (by rw [hp63.out]; omega) (hBS2.out.later ((Below.refl _ _).drew))).mono ?_); rintro e11 w11 ⟨r11, c11, rfl, q11, g11, b11⟩; rw [hp63.out]; replace b11 : Below w9.heap.size w9 w11 := ((Below.refl _ _).drew).trans b11; replace q11 := Lib.hid (q11.all (n := 63) hp63.out.symm))
                      | (go_at_call 23; (with_reducible refine (pWrite_bad _ ai _ xs (hp.out.later b11) q11.out (by rw [hp63.out]; omega)).mono ?_); rintro e12 w12 ⟨rfl, rfl⟩))
                  have r11' := Lib.hid (r9.out.later b11)
                  replace b11 := Lib.hid b11
                  go_wp2_with fail
                  refine (spoil_any _ rb 64 1 63 63 (M.pat b) r11'.out (by rw [M.pat_length]; omega) ⟨by omega, by omega⟩ (by rw [M.pat_length]; omega)).mono ?_
                  rintro e13 w13 ⟨rfl, x13⟩
                  have K10 := Lib.hid (K1.out.later ((b9.out.trans (b11.out.mono b9.out.size)).trans (x13.below (B := WL.heap.size) (fun z e => by rw [e]; exact hrb2) (b9.out.trans (b11.out.mono b9.out.size)).size)))
                  clear x13
                  obtain ⟨ssz, esz, hpz⟩ := K10.out.p
                  replace hpz := Lib.hid hpz
                  go_wp2_with (first | (go_at_call 10; refine (num_is _ _).mono ?_; rintro e wn ⟨rfl, rfl⟩) | (go_at_call 24; refine (Strokes_is _ K10.out.d).mono ?_; rintro e wn ⟨rfl, rfl⟩) | (go_at_call 25; refine (pStrokes_any _ hpz.out).mono ?_; rintro e wn ⟨rfl, rfl⟩) | (go_at_call 26; refine (Count_is _ K10.out.d).mono ?_; rintro e wn ⟨rfl, rfl⟩) | (go_at_call 27; refine (pCount_any _ hpz.out).mono ?_; rintro e wn ⟨rfl, rfl⟩))
                  exact ⟨⟨j + 1, S, E, k, by omega, by omega, by go_num, K10.out⟩, by simp [intOf]; omega⟩
                · have hcut2 : (b.tmod 29 == 7) = false := by simpa using hcut
                  clear hcut
                  have hs9 := Lib.hid (r9.out.all (n := 64) hpl.out.2.symm)
                  by_cases hir : 0 ≤ ai ∧ ai < n
                  · obtain ⟨ii, rfl⟩ := Int.eq_ofNat_of_zero_le hir.1
                    have hii : ii < n := by omega
                    obtain ⟨ss, es, hp0, hpx, hls, hle⟩ := hlow.out
                    have hp9 := hp0.later b9.out
                    have hnP := Lib.hid (show ¬ PXX gp ps pe gx from fun e => Nat.lt_irrefl _ (hpx gx e))
                    have hnPr := Lib.hid (show ¬ PXX gp ps pe rb from fun e => by have := hpx rb e; omega)
                    replace hls := Lib.hid hls
                    replace hle := Lib.hid hle
                    clear hp0 hpx
                    by_cases hoff : M.least ts ≤ k
                    · have hd1 : decide (M.least ts ≤ k) = true := by simpa using hoff
                      have hd2 : decide (M.least ts ≤ k + 1) = true := by simp; omega
                      rw [hd1] at hp9
                      replace hp9 := Lib.hid hp9
                      replace hd2 := Lib.hid hd2
                      replace hoff := Lib.hid hoff
                      clear hd1
                      go_wp2_with fail
                      refine (Write_any _ (ii : Int) ii _ (M.pat b) E (k + 1) 103 K9.out.d hs9.out rfl hii hpl.out.2 (by omega) (by rw [if_pos (by have := hoff.out; omega)]) rfl (by rw [if_pos (by have := hoff.out; omega)])).mono ?_
                      rintro e10 w10 ⟨rfl, d10, x10⟩
                      obtain ⟨p10, bel10⟩ := K9.out.mid hp9.out x10
                      have x1'' : w10.cell? ⟨gx, 1, none⟩ = some (.int .i64 (ii : Int)) := (World.cell?_of_block (x10.block gx hz9 hnD.out)).trans x1'
                      have hz10 : gx < w10.heap.size := Nat.lt_of_lt_of_le hz9 x10.size
                      have r10 := r9.out.but x10 hnDr.out
                      have hs10 := Lib.hid (r10.all (n := 64) hpl.out.2.symm)
                      replace r10 := Lib.hid r10
                      replace d10 := Lib.hid d10
                      replace p10 := Lib.hid p10
                      replace bel10 := Lib.hid bel10
                      clear x10
                      go_wp2_with fail
                      go_region_held3 (fun w' => w'.cell? ⟨gx, 1, none⟩ = some (.int .i64 (ii : Int)))
                        (first | exact x1'' | assumption | exact (b11.cell (p := ⟨gx, 1, none⟩) (by exact hz10)).trans x1'' | exact (World.cell?_of_block (x12.block gx (Nat.lt_of_lt_of_le hz10 b11.size) hnP.out)).trans ((b11.cell (p := ⟨gx, 1, none⟩) (by exact hz10)).trans x1''))
                        (first
                          | (go_at_call 6; (with_reducible refine (CopyBytes_row _ (M.pat b) _ (by rw [hpl.out.2]; omega) (by rw [hpl.out.2]; omega) (hs10.out.later ((Below.refl _ _).drew))).mono ?_); rintro e11 w11 ⟨r11, c11, rfl, q11, g11, b11⟩; rw [hpl.out.2]; replace b11 : Below w10.heap.size w10 w11 := ((Below.refl _ _).drew).trans b11; replace q11 := Lib.hid (q11.all (n := 64) hpl.out.2.symm); have p11 := Lib.hid (p10.out.later b11))
                          | (go_at_call 23; (with_reducible refine (pWrite_off _ (ii : Int) ii _ (M.pat b) (k + 1) p11.out q11.out rfl hii hpl.out.2 (by omega) rfl).mono ?_); rintro e12 w12 ⟨rfl, h12, x12⟩))
                      obtain ⟨es', p12, hes⟩ := h12
                      rw [← hd2.out] at p12
                      have r11' := r10.out.later b11
                      have hrb11 : rb < w11.heap.size := r11'.lt
                      have r12 := Lib.hid (r11'.but x12 hnPr.out)
                      have d11 := Lib.hid (d10.out.later b11)
                      have bel11 := Lib.hid (bel10.out.trans (b11.mono bel10.out.size))
                      have h1ss := Lib.hid (show ∀ (i r c : Nat), ss[i]? = some (Value.slice (some ⟨r, 0, none⟩) 64 c) → r ≠ rb from fun i r c e => by have := hls.out i r c e; omega)
                      have h1es := Lib.hid (show ∀ (i r c : Nat), es'[i]? = some (Value.slice (some ⟨r, 0, none⟩) 64 c) → r ≠ rb from fun i r c e => by
                        rcases hes i _ e with e2 | ⟨r2, c2, e2, h2⟩
                        · have := hle.out i r c e2; omega
                        · cases e2; omega)
                      replace p12 := Lib.hid p12
                      replace x12 := Lib.hid x12
                      clear hes b11 r11'
                      go_wp2_with fail
                      refine (spoil_any w12 rb 64 0 64 64 (M.pat b) r12.out (by rw [hpl.out.2]; omega) ⟨by omega, by omega⟩ (by rw [hpl.out.2]; omega)).mono ?_
                      rintro e13 w13 ⟨rfl, x13⟩
                      have K10 := Lib.hid (XK.spoilW (k' := k + 1) d11.out K1.out.low K1.out.lo bel11.out p12.out.ft x12.out p12.out r12.out (by omega) x13 h1ss.out h1es.out)
                      clear x13
                      obtain ⟨ssz, esz, hpz⟩ := K10.out.p
                      replace hpz := Lib.hid hpz
                      go_wp2_with (first | (go_at_call 10; refine (num_is _ _).mono ?_; rintro e wn ⟨rfl, rfl⟩) | (go_at_call 24; refine (Strokes_is _ K10.out.d).mono ?_; rintro e wn ⟨rfl, rfl⟩) | (go_at_call 25; refine (pStrokes_any _ hpz.out).mono ?_; rintro e wn ⟨rfl, rfl⟩) | (go_at_call 26; refine (Count_is _ K10.out.d).mono ?_; rintro e wn ⟨rfl, rfl⟩) | (go_at_call 27; refine (pCount_any _ hpz.out).mono ?_; rintro e wn ⟨rfl, rfl⟩))
                      exact ⟨⟨j + 1, S, E, k + 1, by omega, by omega, by go_num, K10.out⟩, by simp [intOf]; omega⟩
                    · have hd1 : decide (M.least ts ≤ k) = false := by simpa using hoff
                      have hstep := off_step (ts := ts) (k := k) (by omega) hoff
                      obtain ⟨b9', hb9'⟩ : ∃ b9', b9' = decide (M.least ts ≤ k + 1) := ⟨_, rfl⟩
                      obtain ⟨c9', hc9'⟩ : ∃ c9' : Int, c9' = if b9' then 103 else 0 := ⟨_, rfl⟩
                      have hc9'' : c9' = if M.least ts ≤ k + 1 then 103 else 0 := by rw [hc9', hb9']; by_cases e : M.least ts ≤ k + 1 <;> simp [e]
                      obtain ⟨E', hE'⟩ : ∃ E', E' = M.lay E (ii * 64) (M.pat b) := ⟨_, rfl⟩
                      have hE'' : E' = if M.least ts ≤ k then E else M.lay E (ii * 64) (M.pat b) := by rw [if_neg hoff]; exact hE'
                      rw [← hb9'] at hstep
                      rw [hd1] at hp9
                      have hlE := Lib.hid K1.out.d.lE
                      replace hp9 := Lib.hid hp9
                      replace hstep := Lib.hid hstep.symm
                      replace hb9' := Lib.hid hb9'
                      replace hc9' := Lib.hid hc9'
                      replace hc9'' := Lib.hid hc9''
                      replace hE' := Lib.hid hE'
                      replace hE'' := Lib.hid hE''
                      replace hoff := Lib.hid hoff
                      clear hd1
                      go_wp2_with fail
                      refine (Write_any _ (ii : Int) ii _ (M.pat b) E' (k + 1) c9' K9.out.d hs9.out rfl hii hpl.out.2 (by omega) hE''.out rfl hc9''.out).mono ?_
                      rintro e10 w10 ⟨rfl, d10, x10⟩
                      obtain ⟨p10, bel10⟩ := K9.out.mid hp9.out x10
                      have x1'' : w10.cell? ⟨gx, 1, none⟩ = some (.int .i64 (ii : Int)) := (World.cell?_of_block (x10.block gx hz9 hnD.out)).trans x1'
                      have hz10 : gx < w10.heap.size := Nat.lt_of_lt_of_le hz9 x10.size
                      have r10 := r9.out.but x10 hnDr.out
                      have hs10 := Lib.hid (r10.all (n := 64) hpl.out.2.symm)
                      replace r10 := Lib.hid r10
                      replace d10 := Lib.hid d10
                      replace p10 := Lib.hid p10
                      replace bel10 := Lib.hid bel10
                      clear x10
                      go_wp2_with fail
                      go_region_held3 (fun w' => w'.cell? ⟨gx, 1, none⟩ = some (.int .i64 (ii : Int)))
                        (first | exact x1'' | assumption | exact (b11.cell (p := ⟨gx, 1, none⟩) (by exact hz10)).trans x1'' | exact (World.cell?_of_block (x12.block gx (Nat.lt_of_lt_of_le hz10 b11.size) hnP.out)).trans ((b11.cell (p := ⟨gx, 1, none⟩) (by exact hz10)).trans x1''))
                        (first
                          | (go_at_call 6; (with_reducible refine (CopyBytes_row _ (M.pat b) _ (by rw [hpl.out.2]; omega) (by rw [hpl.out.2]; omega) (hs10.out.later ((Below.refl _ _).drew))).mono ?_); rintro e11 w11 ⟨r11, c11, rfl, q11, g11, b11⟩; rw [hpl.out.2]; replace b11 : Below w10.heap.size w10 w11 := ((Below.refl _ _).drew).trans b11; replace q11 := Lib.hid q11; have hB11 : Bp ≤ w11.heap.size := Nat.le_trans (by omega) b11.size; have p11 := Lib.hid (p10.out.later b11))
                          | (go_at_call 23; (with_reducible refine (pWrite_on _ (ii : Int) ii r11 c11 (M.pat b) E' (k + 1) c9' b9' p11.out hB11 q11.out rfl hii hpl.out.2 (by omega) rfl hlE.out hE'.out hstep.out (by have := htl30.out; omega) hc9'.out).mono ?_); rintro e12 w12 ⟨rfl, h12, x12⟩))
                      obtain ⟨es', p12, hes⟩ := h12
                      rw [hb9'.out] at p12
                      have r11' := r10.out.later b11
                      have hrb11 : rb < w11.heap.size := r11'.lt
                      have r12 := Lib.hid (r11'.but x12 hnPr.out)
                      have d11 := Lib.hid (d10.out.later b11)
                      have bel11 := Lib.hid (bel10.out.trans (b11.mono bel10.out.size))
                      have h1ss := Lib.hid (show ∀ (i r c : Nat), ss[i]? = some (Value.slice (some ⟨r, 0, none⟩) 64 c) → r ≠ rb from fun i r c e => by have := hls.out i r c e; omega)
                      have h1es := Lib.hid (show ∀ (i r c : Nat), es'[i]? = some (Value.slice (some ⟨r, 0, none⟩) 64 c) → r ≠ rb from fun i r c e => by
                        rcases hes i _ e with e2 | ⟨r2, c2, e2, h2⟩
                        · have := hle.out i r c e2; omega
                        · cases e2; omega)
                      replace p12 := Lib.hid p12
                      replace x12 := Lib.hid x12
                      clear hes b11 r11'
                      go_wp2_with fail
                      refine (spoil_any w12 rb 64 0 64 64 (M.pat b) r12.out (by rw [hpl.out.2]; omega) ⟨by omega, by omega⟩ (by rw [hpl.out.2]; omega)).mono ?_
                      rintro e13 w13 ⟨rfl, x13⟩
                      have K10 := Lib.hid (XK.spoilW (k' := k + 1) d11.out K1.out.low K1.out.lo bel11.out p12.out.ft x12.out p12.out r12.out (by omega) x13 h1ss.out h1es.out)
                      clear x13
                      obtain ⟨ssz, esz, hpz⟩ := K10.out.p
                      replace hpz := Lib.hid hpz
                      go_wp2_with (first | (go_at_call 10; refine (num_is _ _).mono ?_; rintro e wn ⟨rfl, rfl⟩) | (go_at_call 24; refine (Strokes_is _ K10.out.d).mono ?_; rintro e wn ⟨rfl, rfl⟩) | (go_at_call 25; refine (pStrokes_any _ hpz.out).mono ?_; rintro e wn ⟨rfl, rfl⟩) | (go_at_call 26; refine (Count_is _ K10.out.d).mono ?_; rintro e wn ⟨rfl, rfl⟩) | (go_at_call 27; refine (pCount_any _ hpz.out).mono ?_; rintro e wn ⟨rfl, rfl⟩))
                      exact ⟨⟨j + 1, S, E', k + 1, by omega, by omega, by go_num, K10.out⟩, by simp [intOf]; omega⟩
                  · as_aux_lemma =>
                    replace hir := Lib.hid hir
                    go_wp2_with fail
                    refine (Write_bad_is _ ai _ (M.pat b) K9.out.d hs9.out (fun e => absurd e.1 hir.out)).mono ?_
                    rintro e10 w10 ⟨rfl, rfl⟩
                    obtain ⟨ss, es, hp⟩ := K9.out.p
                    replace hp := Lib.hid hp
                    go_wp2_with fail
                    go_region_held3 (fun w' => w'.cell? ⟨gx, 1, none⟩ = some (.int .i64 ai))
                      (first | exact x1' | assumption | exact (b11.cell (p := ⟨gx, 1, none⟩) (by exact hz9)).trans x1')
                      (first
                        | (go_at_call 6; (with_reducible refine (CopyBytes_row _ (M.pat b) _ (by rw [hpl.out.2]; omega) (by rw [hpl.out.2]; omega) (hs9.out.later ((Below.refl _ _).drew))).mono ?_); rintro e11 w11 ⟨r11, c11, rfl, q11, g11, b11⟩; rw [hpl.out.2]; replace b11 : Below w9.heap.size w9 w11 := ((Below.refl _ _).drew).trans b11; replace q11 := Lib.hid (q11.all (n := 64) hpl.out.2.symm))
                        | (go_at_call 23; (with_reducible refine (pWrite_bad _ ai _ (M.pat b) (hp.out.later b11) q11.out (fun e => absurd e.1 hir.out)).mono ?_); rintro e12 w12 ⟨rfl, rfl⟩))
                    have r11' := Lib.hid (r9.out.later b11)
                    replace b11 := Lib.hid b11
                    go_wp2_with fail
                    refine (spoil_any _ rb 64 0 64 64 (M.pat b) r11'.out (by rw [M.pat_length]; omega) ⟨by omega, by omega⟩ (by rw [M.pat_length]; omega)).mono ?_
                    rintro e13 w13 ⟨rfl, x13⟩
                    have K10 := Lib.hid (K1.out.later ((b9.out.trans (b11.out.mono b9.out.size)).trans (x13.below (B := WL.heap.size) (fun z e => by rw [e]; exact hrb2) (b9.out.trans (b11.out.mono b9.out.size)).size)))
                    clear x13
                    obtain ⟨ssz, esz, hpz⟩ := K10.out.p
                    replace hpz := Lib.hid hpz
                    go_wp2_with (first | (go_at_call 10; refine (num_is _ _).mono ?_; rintro e wn ⟨rfl, rfl⟩) | (go_at_call 24; refine (Strokes_is _ K10.out.d).mono ?_; rintro e wn ⟨rfl, rfl⟩) | (go_at_call 25; refine (pStrokes_any _ hpz.out).mono ?_; rintro e wn ⟨rfl, rfl⟩) | (go_at_call 26; refine (Count_is _ K10.out.d).mono ?_; rintro e wn ⟨rfl, rfl⟩) | (go_at_call 27; refine (pCount_any _ hpz.out).mono ?_; rintro e wn ⟨rfl, rfl⟩))
                    exact ⟨⟨j + 1, S, E, k, by omega, by omega, by go_num, K10.out⟩, by simp [intOf]; omega⟩
            · have hor : ¬ (j < l2) ∨ (j < l2 ∧ ¬ j < 40) := by omega
              replace K := Lib.hid K
              rcases hor with ho | ⟨ho, ho2⟩
              all_goals as_aux_lemma =>
                go_wp2_with fail
                refine (wakes_any _).mono ?_
                rintro e9 w9 ⟨rfl, b9⟩
                have K9 := Lib.hid (K.out.later b9)
                clear b9
                go_wp2_with fail
                go_ret
                exact ⟨rfl, hbelW.out.trans (K9.out.bel.mono (by omega))⟩
        · as_aux_lemma =>
          replace hex := Lib.hid hex
          go_wp2_with fail
          refine hBy.out.mono ?_
          rintro e3 w3 ⟨rfl, x3⟩
          have q1b : w3.cell? ⟨w.heap.size, 1, none⟩ = some (.slice A l c) := (World.cell?_of_block (x3.block w.heap.size (by omega) (fun e => by have := (hinb.out _ e).1; omega))).trans q1c
          have bl3 := Lib.hid (bl2.out.trans (x3.below (B := wr.heap.size) (fun z e => (hinb.out z e).1) hs2))
          have hts3 := htsr.out.later bl3.out
          have hMay := May_any w3 (some ⟨rI, 0, none⟩) N n (.slice A l c) ts hn hts3
          rw [← hNn.out] at hMay
          replace hMay := Lib.hid hMay
          clear x3 hts3 q1c
          go_wp2_with fail
          refine hMay.out.mono ?_
          rintro e4 w4 ⟨hm, rfl⟩
          obtain rfl : e4 = .returned (.bool false) := by
            rcases hm with ⟨h1, _⟩ | ⟨_, h⟩
            · obtain ⟨t, t1, t2⟩ := hex.out
              have := h1 t t1
              omega
            · exact h
          clear hm
          go_wp2_with (first | (go_at_call 10; refine (num_is _ _).mono ?_; rintro e wn ⟨rfl, rfl⟩) | (go_at_call 11; refine (wakes_any _).mono ?_; rintro ew ww ⟨rfl, bw⟩))
          go_ret
          exact ⟨rfl, (hbelW.out.trans (bl3.out.mono (by omega))).trans (bw.mono (Nat.le_trans (by omega) bl3.out.size))⟩
      · as_aux_lemma =>
        have himg2 : M.image im = false := by simpa using himg
        clear himg
        have hNF := New_form_is w1 Ain cin im (.slice A l c) (by rw [hil.out]; omega) himg2
        have hMF := fun w9 => May_form w9 (some ⟨rI, 0, none⟩) N im (.slice A l c) (by rw [hil.out]; omega) himg2
        rw [hil.out] at hNF hMF
        replace hNF := Lib.hid hNF
        replace hMF := Lib.hid hMF
        replace himg2 := Lib.hid himg2
        go_wp2_with fail
        refine hNF.out.mono ?_
        rintro e2 w2 ⟨rfl, rfl⟩
        have hBy := Bytes_any wr.heap.size (.slice Ain im.length cin) im w1 hown1.out hs1 (by rw [hil.out]; omega)
        rw [hil.out] at hBy hinb
        replace hBy := Lib.hid hBy
        go_wp2_with fail
        refine hBy.out.mono ?_
        rintro e3 w3 ⟨rfl, x3⟩
        have q1b : w3.cell? ⟨w.heap.size, 1, none⟩ = some (.slice A l c) := (World.cell?_of_block (x3.block w.heap.size (by omega) (fun e => by have := (hinb.out _ e).1; omega))).trans q1a
        have bl3 := Lib.hid (b1.out.trans (x3.below (B := wr.heap.size) (fun z e => (hinb.out z e).1) hs1))
        clear x3
        go_wp2_with fail
        refine (hMF.out w3).mono ?_
        rintro e4 w4 ⟨rfl, rfl⟩
        go_wp2_with (first | (go_at_call 10; refine (num_is _ _).mono ?_; rintro e wn ⟨rfl, rfl⟩) | (go_at_call 11; refine (wakes_any _).mono ?_; rintro ew ww ⟨rfl, bw⟩))
        go_ret
        exact ⟨rfl, (hbelW.out.trans (bl3.out.mono (by omega))).trans (bw.mono (Nat.le_trans (by omega) bl3.out.size))⟩
end Go.Proofs.Ytghogkanhcihbaa
