/-
  The law MemParts, walked: it answers true; condition: the acts lie in memory as they were handed in.
-/
import Derived.Test.YtcdfmldbpmgoiaaGParts0
import Derived.Test.YtcdfmldbpmgoiaaGPage2
import Derived.Deep.QuietTactic
import Derived.BigQuiet
namespace Go.Proofs.Ytcdfmldbpmgoiaa
open Go.RowKit
theorem Kept.drewN {w0 w1 : World} {B g : Nat} {v : Value} {n : Nat} {most : Int} {bs : List Nat} (h : Kept w0 B g v n most w1 bs) (q : Nat) : Kept w0 B g v n most (w1.drewN q) bs :=
  ⟨⟨h.mem.obj, h.mem.ge, h.mem.row, h.mem.lt, h.mem.ne, h.mem.len⟩, h.len, ⟨h.bel.os, h.bel.tape, h.bel.output, h.bel.size, h.bel.block⟩⟩
theorem shr_cast (x i : Nat) : ((x / 256 ^ i % 256 : Nat) : Int) = (x : Int) / 2 ^ (8 * i) % 256 := by
  rw [show (256 : Nat) ^ i = 2 ^ (8 * i) by rw [show (256 : Nat) = 2 ^ 8 from rfl, ← Nat.pow_mul]]
  rw [Int.natCast_emod, Int.natCast_ediv, Int.natCast_pow]
  rfl
theorem two_BS (w : World) : BS (w.alloc (.cells #[.int .u8 1, .int .u8 2] 5)) (w.alloc (.cells #[.int .u8 1, .int .u8 2] 5)).heap.size (.slice (some ⟨w.heap.size, 0, none⟩) 2 2) [1, 2] := by
  refine ⟨_, 2, rfl, by simp, by unfold maxLen; omega, fun i hi => ⟨_, rfl, by simp, ?_, ?_⟩⟩
  all_goals
    have hi2 : i < 2 := hi
    rcases (show i = 0 ∨ i = 1 by omega) with rfl | rfl <;> simp [Addr.add]
set_option maxRecDepth 100000 in
set_option maxHeartbeats 4000000 in
theorem partsWalk (cs : Array Value) (w : World) (hp : IsPlay w (.agg cs)) : Calls Try.prog 4 #[.agg cs] w fun e w' => e = .returned (.bool true) ∧ Below w.heap.size w w' := by
  obtain ⟨mn, mx, limit, A, l, c, hv, _, _, _, ⟨hlc, hcm⟩, hacts⟩ := hp
  injection hv with hv
  subst hv
  unfold maxLen at hcm
  replace hacts := Lib.hid hacts
  go_enter Try.func4, Try.ntmps4
  go_wp2_with fail
  obtain ⟨W0, hW0⟩ : ∃ W0, W0 = w.alloc (.cells #[.int .i64 mn, .int .i64 mx, .int .i64 limit, .slice A l c] 26) := ⟨_, rfl⟩
  rw [← hW0]
  have hz : W0.heap.size = w.heap.size + 1 := by rw [hW0]; simp
  have q3 : W0.cell? ⟨w.heap.size, 3, none⟩ = some (.slice A l c) := by rw [hW0]; simp
  have hbW : Below w.heap.size w W0 := by rw [hW0]; exact (Below.refl _ _).alloc (Nat.le_refl _) _
  clear hW0
  replace hbW := Lib.hid hbW
  obtain ⟨N, hN⟩ : ∃ N : Nat, N = 65536 := ⟨_, rfl⟩
  refine (New_ok 1 (-1) 1 1 _ (by decide) (by decide) (by decide)).mono ?_
  rintro e1 w1 ⟨g, v, rfl, m1, b1⟩
  rw [show (1 : Int).toNat * 65536 = N by rw [hN]; rfl] at m1
  obtain ⟨bs, hbs⟩ : ∃ bs, bs = List.replicate N 0 := ⟨_, rfl⟩
  have hlen : bs.length = 65536 := by rw [hbs, List.length_replicate, hN]
  have hz0 : M.le bs 1 65535 = 0 := by rw [hbs, M.le_one, List.getD_eq_getElem?_getD, List.getElem?_replicate]; split <;> rfl
  rw [← hbs] at m1
  clear hbs hN
  replace hlen := Lib.hid hlen
  replace hz0 := Lib.hid hz0
  replace m1 := Lib.hid m1
  replace b1 := Lib.hid b1
  go_wp2_with (go_at_call 8; refine (num_any _ _).mono ?_; rintro e wn ⟨rfl, rfl⟩)
  refine (Grow_no 62 _ _ g v bs 1 _ m1.out b1.out.size (by omega) (by have := hlen.out; omega) (by omega) (by have := hlen.out; omega)).mono ?_
  rintro e5 w5 ⟨rfl, rfl⟩
  go_wp2_with fail
  refine (Grow_yes 62 _ _ g v bs bs 1 _ 1 m1.out b1.out.size (by omega) (by have := hlen.out; omega) (by omega) (by have := hlen.out; omega) (by omega) 0 (by omega) (by rw [List.replicate_zero, List.append_nil])).mono ?_
  rintro e6 w6 ⟨rfl, v6, m6, x6, _⟩
  have K1 := Lib.hid (show Kept W0 W0.heap.size g v6 65536 1 w6 bs from ⟨m6, hlen.out, m1.out.sinceF b1.out (Nat.le_refl _) x6⟩)
  clear m6 x6 m1 b1
  go_wp2_with fail
  go_loopw [5] (fun i w' => ∃ (k : Nat) (bs : List Nat), (k ≤ l ∧ k ≤ 30) ∧ i = .int .i64 k ∧ Kept W0 W0.heap.size g v6 65536 1 w' bs ∧ (k = 0 → M.le bs 1 65535 = 0)) (fun i _ => 30 - (intOf i).toNat)
  case atStart => exact ⟨0, bs, by omega, rfl, K1.out, fun _ => hz0.out⟩
  case round =>
    clear K1 hz0 hlen
    obtain ⟨k, bs, hk, rfl, K2, hz0⟩ := hrel
    have q3' : wr.cell? ⟨w.heap.size, 3, none⟩ = some (.slice A l c) := (K2.bel.cell (by show w.heap.size < _; omega)).trans q3
    have hbw := hbW.out.trans (K2.bel.mono (by omega))
    by_cases hkl : k < l ∧ k < 30
    · obtain ⟨ga, oa, d, a, f, m, x, vB, xs, rfl, hga, hat, hrg, ⟨AB, cB, rfl, _, _, _⟩, _⟩ := hacts.out k hkl.1
      obtain ⟨c0, c1, c2, c3, c4, c5⟩ := hat
      have e0 := (hbw.cell (p := ⟨ga, oa + k * 6, none⟩) hga).trans c0
      have e1 := (hbw.cell (p := ⟨ga, oa + k * 6 + 1, none⟩) hga).trans c1
      have e2 := (hbw.cell (p := ⟨ga, oa + k * 6 + 2, none⟩) hga).trans c2
      have e3 := (hbw.cell (p := ⟨ga, oa + k * 6 + 3, none⟩) hga).trans c3
      have e4 := (hbw.cell (p := ⟨ga, oa + k * 6 + 4, none⟩) hga).trans c4
      have e5 := (hbw.cell (p := ⟨ga, oa + k * 6 + 5, none⟩) hga).trans c5
      clear c0 c1 c2 c3 c4 c5
      obtain ⟨r0, r1, r2, r3, r4⟩ := hrg
      have t0 : (0 : Int) ≤ (k : Int) := by omega
      have t1 : (k : Int) < (l : Int) := by omega
      have t2 : (k : Int) < 30 := by omega
      replace hz0 := Lib.hid hz0
      replace K2 := Lib.hid K2
      replace hbw := Lib.hid hbw
      go_wp2_with fail
      refine (within_any _ _ _ r3 (by omega)).mono ?_
      rintro e7 w7 ⟨⟨qn, rfl, hqn⟩, rfl⟩
      rcases (show qn = 0 ∨ qn = 1 ∨ qn = 2 ∨ qn = 3 by omega) with rfl | rfl | rfl | rfl
      · as_aux_lemma =>
        go_wp2_with fail
        refine (within_any _ _ _ r1 (by omega)).mono ?_
        rintro e8 w8 ⟨⟨ka, rfl, hka⟩, rfl⟩
        obtain ⟨WL, hWL⟩ : ∃ WL, WL = (wr.alloc (.cells #[.int .i64 d, .int .i64 a, .int .i64 f, .int .i64 m, .int .u64 (x : Int), .slice AB xs.length cB] 40)).alloc (.cells #[.int .i64 1, .int .i64 2, .int .i64 4, .int .i64 8] 3) := ⟨_, rfl⟩
        rw [← hWL]
        have hzl : WL.heap.size = wr.heap.size + 2 := by rw [hWL]; simp
        have qx : WL.cell? ⟨wr.heap.size, 4, none⟩ = some (.int .u64 (x : Int)) := by rw [hWL]; simp
        have K3 := K2.out.new (Nat.le_refl _) (show Below wr.heap.size wr WL by rw [hWL]; exact ((Below.refl _ _).alloc (Nat.le_refl _) _).alloc (by simp) _)
        clear hWL e0 e1 e2 e3 e4 e5
        obtain ⟨x1, hx1⟩ : ∃ x1, x1 = (bs.drop ka).take 10 := ⟨_, rfl⟩
        obtain ⟨ds, hds⟩ : ∃ ds, ds = M.put 1 bs (ka + 1) x := ⟨_, rfl⟩
        obtain ⟨x2, hx2⟩ : ∃ x2, x2 = (ds.drop ka).take 10 := ⟨_, rfl⟩
        obtain ⟨y, hy⟩ : ∃ y : Nat, y = (x % 256) := ⟨_, rfl⟩
        have P := Lib.hid (PF.mk' 1 (by omega) K3.len (by omega) r4 hx1 hds hx2 (show y = x % 256 ^ 1 by omega))
        replace K3 := Lib.hid K3
        clear hx1 hds hx2
        go_wp2_with fail
        refine (Read_ok 62 _ _ g v6 bs x1 1 ka 10 _ _ (by omega) (by omega) K3.out.mem (by have := K3.out.len; omega) P.out.hx1).mono ?_
        rintro e9 w9 ⟨u9', rfl, o9, b9⟩
        have K4 := Lib.hid (K3.out.new (Nat.le_refl _) b9)
        have h9 : ∀ q, u9'.ownBlock = some q → v6.ownBlock ≠ some q := fun q hq e => by have t1 := (o9.lt q hq).1; have t2 := (K3.out.mem.row.lt q e).2; omega
        have qx9 := (b9.cell (p := ⟨wr.heap.size, 4, none⟩) (by show wr.heap.size < _; omega)).trans qx
        have z9 := b9.size
        clear b9 qx
        replace o9 := Lib.hid o9
        replace h9 := Lib.hid h9
        go_wp2_with fail
        refine (Store_any 62 _ _ g v6 bs ds 1 _ _ _ x _ 0 K4.out.mem (by omega) (by omega) rfl r4 (by rw [show (1 + (ka : Int) - 1) = ka by omega]; exact P.out.hst)).mono ?_
        rintro e10 w10 ⟨rfl, m10, b10⟩
        have K5 := Lib.hid (K4.out.step (Nat.le_refl _) m10 P.out.ld b10)
        have o10 := Lib.hid (own_but o9.out b10 (fun q hq e => h9.out q hq e))
        have qx10 : w10.cell? ⟨wr.heap.size, 4, none⟩ = some (.int .u64 (x : Int)) := (World.cell?_of_block (w := w9) (b10.block wr.heap.size (by omega) (fun e => by have t1 := (K2.out.mem.row.lt _ e).2; omega))).trans qx9
        have z10 := b10.size
        clear m10 b10 qx9
        go_wp2_with fail
        refine (Load_any 62 _ _ g v6 ds 1 _ _ _ y 0 K5.out.mem (by omega) (by omega) (by rw [show (1 + (ka : Int)) = ka + 1 by omega]; exact P.out.hld)).mono ?_
        rintro e11 w11 ⟨rfl, rfl⟩
        go_wp2_with fail
        refine (Read_ok 62 _ _ g v6 ds x2 1 ka 10 _ _ (by omega) (by omega) K5.out.mem (by have := K5.out.len; omega) P.out.hx2).mono ?_
        rintro e12 w12 ⟨u12', rfl, o12, b12⟩
        have K6 := Lib.hid (K5.out.new (Nat.le_refl _) b12)
        have o13 := own_later o10.out b12
        have qx12 := (b12.cell (p := ⟨wr.heap.size, 4, none⟩) (by show wr.heap.size < _; omega)).trans qx10
        obtain ⟨A9, c9, rfl, p9, t9⟩ := own_form o13
        obtain ⟨A12, c12, rfl, p12, t12⟩ := own_form o12
        have hb1 : ∀ j, j < 10 → ∃ r, A9 = some ⟨r, 0, none⟩ ∧ w12.cell? ⟨r, j, none⟩ = some (.int .u8 ((x1.getD j 0 : Nat) : Int)) := own_byte o13 P.out.l1
        have hb2 : ∀ j, j < 10 → ∃ r, A12 = some ⟨r, 0, none⟩ ∧ w12.cell? ⟨r, j, none⟩ = some (.int .u8 ((x2.getD j 0 : Nat) : Int)) := own_byte o12 P.out.l2
        rw [P.out.l1] at p9 ⊢
        rw [P.out.l2] at p12 ⊢
        replace hb1 := Lib.hid hb1
        replace hb2 := Lib.hid hb2
        clear o9 o10 o12 o13 b12 h9 qx10
        have hsh := shift8
        have hand : bits .and .u64 (x : Int) 255 = ((x % 256 : Nat) : Int) := M.and_low 8 x (by omega) r4
        go_wp2_with (go_at_call 8; refine (num_any _ _).mono ?_; rintro e wn ⟨rfl, rfl⟩)
        go_quiet ((go_at_call 8; exact Calls.quiet_of_same (num_any _ _)))
        go_wp2_with (go_at_call 8; refine (num_any _ _).mono ?_; rintro e wn ⟨rfl, rfl⟩)
        replace r4 := Lib.hid r4
        clear hka r0 r1 r2 r3 hy
        go_loopw [16] (fun i w' => ∃ j : Nat, j ≤ 10 ∧ i = .int .i64 j ∧ w' = w12.drewN nq) (fun i _ => 10 - (intOf i).toNat)
        case atStart => exact ⟨0, by omega, rfl, rfl⟩
        case round => as_aux_lemma =>
          obtain ⟨j, hj, rfl, rfl⟩ := hrel
          by_cases hj10 : j < 10
          · obtain ⟨ra, rfl, qa⟩ := hb1.out j hj10
            obtain ⟨rb, rfl, qb⟩ := hb2.out j hj10
            have s0 : (0 : Int) ≤ (j : Int) := by omega
            have s1 : (j : Int) < 10 := by omega
            by_cases hin : 1 ≤ j ∧ j ≤ 1
            · have hins := P.out.ins j hin.1 hin.2
              obtain ⟨i, rfl⟩ : ∃ i, j = i + 1 := ⟨j - 1, by omega⟩
              rw [show i + 1 - 1 = i by omega] at hins
              rw [hins] at qb
              rw [shr_cast x i] at qb
              clear hins
              go_wp2_with fail
              case roundEnd => exact ⟨⟨i + 2, by omega, by go_num, trivial⟩, by simp [intOf]; omega⟩
            · have hsame := P.out.out j hj10 hin
              have hdd : (decide ((1 : Int) ≤ (j : Int)) && decide ((j : Int) ≤ 1)) = false := by simp; omega
              rw [hsame] at qb
              obtain ⟨bt, hbt⟩ : ∃ bt : Nat, bt = x1.getD j 0 := ⟨_, rfl⟩
              rw [← hbt] at qa qb
              replace hsame := Lib.hid hsame
              go_wp2_with fail
              all_goals exact ⟨⟨j + 1, by omega, by go_num, trivial⟩, by simp [intOf]; omega⟩
          · obtain rfl : j = 10 := by omega
            clear hb1 hb2
            have K7 := Lib.hid (K6.out.drewN nq)
            have qx13 : (w12.drewN nq).cell? ⟨wr.heap.size, 4, none⟩ = some (.int .u64 (x : Int)) := qx12
            obtain ⟨w13, hw13⟩ : ∃ w', w' = w12.drewN nq := ⟨_, rfl⟩
            rw [← hw13] at K7 qx13 ⊢
            clear hw13 qx12 K6
            have hs13 := World.block_lt_of_cell? w13 _ qx13
            have hrow : ∀ q, v6.ownBlock = some q → q < wr.heap.size := fun q hq => (K2.out.mem.row.lt q hq).2
            replace hrow := Lib.hid hrow
            go_wp2_with fail
            refine (Store_any 62 _ _ g v6 ds ds 1 _ _ _ x _ 21 K7.out.mem (by omega) (by omega) rfl r4.out P.out.far).mono ?_
            rintro e14 w14 ⟨rfl, m14, b14⟩
            have K8 := Lib.hid (K7.out.step (Nat.le_refl _) m14 P.out.ld b14)
            have qx14 : w14.cell? ⟨wr.heap.size, 4, none⟩ = some (.int .u64 (x : Int)) := (World.cell?_of_block (w := w13) (b14.block wr.heap.size hs13 (fun e => by have := hrow.out _ e; omega))).trans qx13
            clear m14 b14 qx13
            go_wp2_with (go_at_call 8; refine (num_any _ _).mono ?_; rintro e wn ⟨rfl, rfl⟩)
            refine (Store_any 62 _ _ g v6 ds ds 1 _ _ _ x _ 21 K8.out.mem (by omega) (by omega) rfl r4.out P.out.far2).mono ?_
            rintro e15 w15 ⟨rfl, m15, b15⟩
            have K9 := Lib.hid (K8.out.step (Nat.le_refl _) m15 P.out.ld b15)
            clear m15 b15
            go_wp2_with (go_at_call 8; refine (num_any _ _).mono ?_; rintro e wn ⟨rfl, rfl⟩)
            have K10 := Lib.hid (K9.out.new (Nat.le_refl _) ((Below.refl _ _).alloc (Nat.le_refl _) (.cells #[.int .u8 1, .int .u8 2] 5)))
            refine (Write_no 62 _ _ g v6 ds [1, 2] 1 _ _ K10.out.mem (by omega) (two_BS _) (by rw [K10.out.len]; simp)).mono ?_
            rintro e16 w16 ⟨rfl, m16, b16⟩
            have K11 := Lib.hid (K10.out.step (Nat.le_refl _) m16 P.out.ld b16)
            clear m16 b16
            go_wp2_with (go_at_call 8; refine (num_any _ _).mono ?_; rintro e wn ⟨rfl, rfl⟩)
            exact ⟨⟨k + 1, ds, by omega, by go_num, K11.out, fun h => by omega⟩, by simp [intOf]; omega⟩
      · as_aux_lemma =>
        go_wp2_with fail
        refine (within_any _ _ _ r1 (by omega)).mono ?_
        rintro e8 w8 ⟨⟨ka, rfl, hka⟩, rfl⟩
        obtain ⟨WL, hWL⟩ : ∃ WL, WL = (wr.alloc (.cells #[.int .i64 d, .int .i64 a, .int .i64 f, .int .i64 m, .int .u64 (x : Int), .slice AB xs.length cB] 40)).alloc (.cells #[.int .i64 1, .int .i64 2, .int .i64 4, .int .i64 8] 3) := ⟨_, rfl⟩
        rw [← hWL]
        have hzl : WL.heap.size = wr.heap.size + 2 := by rw [hWL]; simp
        have qx : WL.cell? ⟨wr.heap.size, 4, none⟩ = some (.int .u64 (x : Int)) := by rw [hWL]; simp
        have K3 := K2.out.new (Nat.le_refl _) (show Below wr.heap.size wr WL by rw [hWL]; exact ((Below.refl _ _).alloc (Nat.le_refl _) _).alloc (by simp) _)
        clear hWL e0 e1 e2 e3 e4 e5
        obtain ⟨x1, hx1⟩ : ∃ x1, x1 = (bs.drop ka).take 10 := ⟨_, rfl⟩
        obtain ⟨ds, hds⟩ : ∃ ds, ds = M.put 2 bs (ka + 1) x := ⟨_, rfl⟩
        obtain ⟨x2, hx2⟩ : ∃ x2, x2 = (ds.drop ka).take 10 := ⟨_, rfl⟩
        obtain ⟨y, hy⟩ : ∃ y : Nat, y = (x % 65536) := ⟨_, rfl⟩
        have P := Lib.hid (PF.mk' 2 (by omega) K3.len (by omega) r4 hx1 hds hx2 (show y = x % 256 ^ 2 by omega))
        replace K3 := Lib.hid K3
        clear hx1 hds hx2
        go_wp2_with fail
        refine (Read_ok 62 _ _ g v6 bs x1 1 ka 10 _ _ (by omega) (by omega) K3.out.mem (by have := K3.out.len; omega) P.out.hx1).mono ?_
        rintro e9 w9 ⟨u9', rfl, o9, b9⟩
        have K4 := Lib.hid (K3.out.new (Nat.le_refl _) b9)
        have h9 : ∀ q, u9'.ownBlock = some q → v6.ownBlock ≠ some q := fun q hq e => by have t1 := (o9.lt q hq).1; have t2 := (K3.out.mem.row.lt q e).2; omega
        have qx9 := (b9.cell (p := ⟨wr.heap.size, 4, none⟩) (by show wr.heap.size < _; omega)).trans qx
        have z9 := b9.size
        clear b9 qx
        replace o9 := Lib.hid o9
        replace h9 := Lib.hid h9
        go_wp2_with fail
        refine (Store_any 62 _ _ g v6 bs ds 1 _ _ _ x _ 0 K4.out.mem (by omega) (by omega) rfl r4 (by rw [show (1 + (ka : Int) - 1) = ka by omega]; exact P.out.hst)).mono ?_
        rintro e10 w10 ⟨rfl, m10, b10⟩
        have K5 := Lib.hid (K4.out.step (Nat.le_refl _) m10 P.out.ld b10)
        have o10 := Lib.hid (own_but o9.out b10 (fun q hq e => h9.out q hq e))
        have qx10 : w10.cell? ⟨wr.heap.size, 4, none⟩ = some (.int .u64 (x : Int)) := (World.cell?_of_block (w := w9) (b10.block wr.heap.size (by omega) (fun e => by have t1 := (K2.out.mem.row.lt _ e).2; omega))).trans qx9
        have z10 := b10.size
        clear m10 b10 qx9
        go_wp2_with fail
        refine (Load_any 62 _ _ g v6 ds 1 _ _ _ y 0 K5.out.mem (by omega) (by omega) (by rw [show (1 + (ka : Int)) = ka + 1 by omega]; exact P.out.hld)).mono ?_
        rintro e11 w11 ⟨rfl, rfl⟩
        go_wp2_with fail
        refine (Read_ok 62 _ _ g v6 ds x2 1 ka 10 _ _ (by omega) (by omega) K5.out.mem (by have := K5.out.len; omega) P.out.hx2).mono ?_
        rintro e12 w12 ⟨u12', rfl, o12, b12⟩
        have K6 := Lib.hid (K5.out.new (Nat.le_refl _) b12)
        have o13 := own_later o10.out b12
        have qx12 := (b12.cell (p := ⟨wr.heap.size, 4, none⟩) (by show wr.heap.size < _; omega)).trans qx10
        obtain ⟨A9, c9, rfl, p9, t9⟩ := own_form o13
        obtain ⟨A12, c12, rfl, p12, t12⟩ := own_form o12
        have hb1 : ∀ j, j < 10 → ∃ r, A9 = some ⟨r, 0, none⟩ ∧ w12.cell? ⟨r, j, none⟩ = some (.int .u8 ((x1.getD j 0 : Nat) : Int)) := own_byte o13 P.out.l1
        have hb2 : ∀ j, j < 10 → ∃ r, A12 = some ⟨r, 0, none⟩ ∧ w12.cell? ⟨r, j, none⟩ = some (.int .u8 ((x2.getD j 0 : Nat) : Int)) := own_byte o12 P.out.l2
        rw [P.out.l1] at p9 ⊢
        rw [P.out.l2] at p12 ⊢
        replace hb1 := Lib.hid hb1
        replace hb2 := Lib.hid hb2
        clear o9 o10 o12 o13 b12 h9 qx10
        have hsh := shift16
        have hand : bits .and .u64 (x : Int) 65535 = ((x % 65536 : Nat) : Int) := M.and_low 16 x (by omega) r4
        go_wp2_with (go_at_call 8; refine (num_any _ _).mono ?_; rintro e wn ⟨rfl, rfl⟩)
        go_quiet ((go_at_call 8; exact Calls.quiet_of_same (num_any _ _)))
        go_wp2_with (go_at_call 8; refine (num_any _ _).mono ?_; rintro e wn ⟨rfl, rfl⟩)
        replace r4 := Lib.hid r4
        clear hka r0 r1 r2 r3 hy
        go_loopw [16] (fun i w' => ∃ j : Nat, j ≤ 10 ∧ i = .int .i64 j ∧ w' = w12.drewN nq) (fun i _ => 10 - (intOf i).toNat)
        case atStart => exact ⟨0, by omega, rfl, rfl⟩
        case round => as_aux_lemma =>
          obtain ⟨j, hj, rfl, rfl⟩ := hrel
          by_cases hj10 : j < 10
          · obtain ⟨ra, rfl, qa⟩ := hb1.out j hj10
            obtain ⟨rb, rfl, qb⟩ := hb2.out j hj10
            have s0 : (0 : Int) ≤ (j : Int) := by omega
            have s1 : (j : Int) < 10 := by omega
            by_cases hin : 1 ≤ j ∧ j ≤ 2
            · have hins := P.out.ins j hin.1 hin.2
              obtain ⟨i, rfl⟩ : ∃ i, j = i + 1 := ⟨j - 1, by omega⟩
              rw [show i + 1 - 1 = i by omega] at hins
              rw [hins] at qb
              rw [shr_cast x i] at qb
              clear hins
              go_wp2_with fail
              case roundEnd => exact ⟨⟨i + 2, by omega, by go_num, trivial⟩, by simp [intOf]; omega⟩
            · have hsame := P.out.out j hj10 hin
              have hdd : (decide ((1 : Int) ≤ (j : Int)) && decide ((j : Int) ≤ 2)) = false := by simp; omega
              rw [hsame] at qb
              obtain ⟨bt, hbt⟩ : ∃ bt : Nat, bt = x1.getD j 0 := ⟨_, rfl⟩
              rw [← hbt] at qa qb
              replace hsame := Lib.hid hsame
              go_wp2_with fail
              all_goals exact ⟨⟨j + 1, by omega, by go_num, trivial⟩, by simp [intOf]; omega⟩
          · obtain rfl : j = 10 := by omega
            clear hb1 hb2
            have K7 := Lib.hid (K6.out.drewN nq)
            have qx13 : (w12.drewN nq).cell? ⟨wr.heap.size, 4, none⟩ = some (.int .u64 (x : Int)) := qx12
            obtain ⟨w13, hw13⟩ : ∃ w', w' = w12.drewN nq := ⟨_, rfl⟩
            rw [← hw13] at K7 qx13 ⊢
            clear hw13 qx12 K6
            have hs13 := World.block_lt_of_cell? w13 _ qx13
            have hrow : ∀ q, v6.ownBlock = some q → q < wr.heap.size := fun q hq => (K2.out.mem.row.lt q hq).2
            replace hrow := Lib.hid hrow
            go_wp2_with fail
            refine (Store_any 62 _ _ g v6 ds ds 1 _ _ _ x _ 21 K7.out.mem (by omega) (by omega) rfl r4.out P.out.far).mono ?_
            rintro e14 w14 ⟨rfl, m14, b14⟩
            have K8 := Lib.hid (K7.out.step (Nat.le_refl _) m14 P.out.ld b14)
            have qx14 : w14.cell? ⟨wr.heap.size, 4, none⟩ = some (.int .u64 (x : Int)) := (World.cell?_of_block (w := w13) (b14.block wr.heap.size hs13 (fun e => by have := hrow.out _ e; omega))).trans qx13
            clear m14 b14 qx13
            go_wp2_with (go_at_call 8; refine (num_any _ _).mono ?_; rintro e wn ⟨rfl, rfl⟩)
            refine (Store_any 62 _ _ g v6 ds ds 1 _ _ _ x _ 21 K8.out.mem (by omega) (by omega) rfl r4.out P.out.far2).mono ?_
            rintro e15 w15 ⟨rfl, m15, b15⟩
            have K9 := Lib.hid (K8.out.step (Nat.le_refl _) m15 P.out.ld b15)
            clear m15 b15
            go_wp2_with (go_at_call 8; refine (num_any _ _).mono ?_; rintro e wn ⟨rfl, rfl⟩)
            have K10 := Lib.hid (K9.out.new (Nat.le_refl _) ((Below.refl _ _).alloc (Nat.le_refl _) (.cells #[.int .u8 1, .int .u8 2] 5)))
            refine (Write_no 62 _ _ g v6 ds [1, 2] 1 _ _ K10.out.mem (by omega) (two_BS _) (by rw [K10.out.len]; simp)).mono ?_
            rintro e16 w16 ⟨rfl, m16, b16⟩
            have K11 := Lib.hid (K10.out.step (Nat.le_refl _) m16 P.out.ld b16)
            clear m16 b16
            go_wp2_with (go_at_call 8; refine (num_any _ _).mono ?_; rintro e wn ⟨rfl, rfl⟩)
            exact ⟨⟨k + 1, ds, by omega, by go_num, K11.out, fun h => by omega⟩, by simp [intOf]; omega⟩
      · as_aux_lemma =>
        go_wp2_with fail
        refine (within_any _ _ _ r1 (by omega)).mono ?_
        rintro e8 w8 ⟨⟨ka, rfl, hka⟩, rfl⟩
        obtain ⟨WL, hWL⟩ : ∃ WL, WL = (wr.alloc (.cells #[.int .i64 d, .int .i64 a, .int .i64 f, .int .i64 m, .int .u64 (x : Int), .slice AB xs.length cB] 40)).alloc (.cells #[.int .i64 1, .int .i64 2, .int .i64 4, .int .i64 8] 3) := ⟨_, rfl⟩
        rw [← hWL]
        have hzl : WL.heap.size = wr.heap.size + 2 := by rw [hWL]; simp
        have qx : WL.cell? ⟨wr.heap.size, 4, none⟩ = some (.int .u64 (x : Int)) := by rw [hWL]; simp
        have K3 := K2.out.new (Nat.le_refl _) (show Below wr.heap.size wr WL by rw [hWL]; exact ((Below.refl _ _).alloc (Nat.le_refl _) _).alloc (by simp) _)
        clear hWL e0 e1 e2 e3 e4 e5
        obtain ⟨x1, hx1⟩ : ∃ x1, x1 = (bs.drop ka).take 10 := ⟨_, rfl⟩
        obtain ⟨ds, hds⟩ : ∃ ds, ds = M.put 4 bs (ka + 1) x := ⟨_, rfl⟩
        obtain ⟨x2, hx2⟩ : ∃ x2, x2 = (ds.drop ka).take 10 := ⟨_, rfl⟩
        obtain ⟨y, hy⟩ : ∃ y : Nat, y = (x % 4294967296) := ⟨_, rfl⟩
        have P := Lib.hid (PF.mk' 4 (by omega) K3.len (by omega) r4 hx1 hds hx2 (show y = x % 256 ^ 4 by omega))
        replace K3 := Lib.hid K3
        clear hx1 hds hx2
        go_wp2_with fail
        refine (Read_ok 62 _ _ g v6 bs x1 1 ka 10 _ _ (by omega) (by omega) K3.out.mem (by have := K3.out.len; omega) P.out.hx1).mono ?_
        rintro e9 w9 ⟨u9', rfl, o9, b9⟩
        have K4 := Lib.hid (K3.out.new (Nat.le_refl _) b9)
        have h9 : ∀ q, u9'.ownBlock = some q → v6.ownBlock ≠ some q := fun q hq e => by have t1 := (o9.lt q hq).1; have t2 := (K3.out.mem.row.lt q e).2; omega
        have qx9 := (b9.cell (p := ⟨wr.heap.size, 4, none⟩) (by show wr.heap.size < _; omega)).trans qx
        have z9 := b9.size
        clear b9 qx
        replace o9 := Lib.hid o9
        replace h9 := Lib.hid h9
        go_wp2_with fail
        refine (Store_any 62 _ _ g v6 bs ds 1 _ _ _ x _ 0 K4.out.mem (by omega) (by omega) rfl r4 (by rw [show (1 + (ka : Int) - 1) = ka by omega]; exact P.out.hst)).mono ?_
        rintro e10 w10 ⟨rfl, m10, b10⟩
        have K5 := Lib.hid (K4.out.step (Nat.le_refl _) m10 P.out.ld b10)
        have o10 := Lib.hid (own_but o9.out b10 (fun q hq e => h9.out q hq e))
        have qx10 : w10.cell? ⟨wr.heap.size, 4, none⟩ = some (.int .u64 (x : Int)) := (World.cell?_of_block (w := w9) (b10.block wr.heap.size (by omega) (fun e => by have t1 := (K2.out.mem.row.lt _ e).2; omega))).trans qx9
        have z10 := b10.size
        clear m10 b10 qx9
        go_wp2_with fail
        refine (Load_any 62 _ _ g v6 ds 1 _ _ _ y 0 K5.out.mem (by omega) (by omega) (by rw [show (1 + (ka : Int)) = ka + 1 by omega]; exact P.out.hld)).mono ?_
        rintro e11 w11 ⟨rfl, rfl⟩
        go_wp2_with fail
        refine (Read_ok 62 _ _ g v6 ds x2 1 ka 10 _ _ (by omega) (by omega) K5.out.mem (by have := K5.out.len; omega) P.out.hx2).mono ?_
        rintro e12 w12 ⟨u12', rfl, o12, b12⟩
        have K6 := Lib.hid (K5.out.new (Nat.le_refl _) b12)
        have o13 := own_later o10.out b12
        have qx12 := (b12.cell (p := ⟨wr.heap.size, 4, none⟩) (by show wr.heap.size < _; omega)).trans qx10
        obtain ⟨A9, c9, rfl, p9, t9⟩ := own_form o13
        obtain ⟨A12, c12, rfl, p12, t12⟩ := own_form o12
        have hb1 : ∀ j, j < 10 → ∃ r, A9 = some ⟨r, 0, none⟩ ∧ w12.cell? ⟨r, j, none⟩ = some (.int .u8 ((x1.getD j 0 : Nat) : Int)) := own_byte o13 P.out.l1
        have hb2 : ∀ j, j < 10 → ∃ r, A12 = some ⟨r, 0, none⟩ ∧ w12.cell? ⟨r, j, none⟩ = some (.int .u8 ((x2.getD j 0 : Nat) : Int)) := own_byte o12 P.out.l2
        rw [P.out.l1] at p9 ⊢
        rw [P.out.l2] at p12 ⊢
        replace hb1 := Lib.hid hb1
        replace hb2 := Lib.hid hb2
        clear o9 o10 o12 o13 b12 h9 qx10
        have hsh := shift32
        have hand : bits .and .u64 (x : Int) 4294967295 = ((x % 4294967296 : Nat) : Int) := M.and_low 32 x (by omega) r4
        go_wp2_with (go_at_call 8; refine (num_any _ _).mono ?_; rintro e wn ⟨rfl, rfl⟩)
        go_quiet ((go_at_call 8; exact Calls.quiet_of_same (num_any _ _)))
        go_wp2_with (go_at_call 8; refine (num_any _ _).mono ?_; rintro e wn ⟨rfl, rfl⟩)
        replace r4 := Lib.hid r4
        clear hka r0 r1 r2 r3 hy
        go_loopw [16] (fun i w' => ∃ j : Nat, j ≤ 10 ∧ i = .int .i64 j ∧ w' = w12.drewN nq) (fun i _ => 10 - (intOf i).toNat)
        case atStart => exact ⟨0, by omega, rfl, rfl⟩
        case round => as_aux_lemma =>
          obtain ⟨j, hj, rfl, rfl⟩ := hrel
          by_cases hj10 : j < 10
          · obtain ⟨ra, rfl, qa⟩ := hb1.out j hj10
            obtain ⟨rb, rfl, qb⟩ := hb2.out j hj10
            have s0 : (0 : Int) ≤ (j : Int) := by omega
            have s1 : (j : Int) < 10 := by omega
            by_cases hin : 1 ≤ j ∧ j ≤ 4
            · have hins := P.out.ins j hin.1 hin.2
              obtain ⟨i, rfl⟩ : ∃ i, j = i + 1 := ⟨j - 1, by omega⟩
              rw [show i + 1 - 1 = i by omega] at hins
              rw [hins] at qb
              rw [shr_cast x i] at qb
              clear hins
              go_wp2_with fail
              case roundEnd => exact ⟨⟨i + 2, by omega, by go_num, trivial⟩, by simp [intOf]; omega⟩
            · have hsame := P.out.out j hj10 hin
              have hdd : (decide ((1 : Int) ≤ (j : Int)) && decide ((j : Int) ≤ 4)) = false := by simp; omega
              rw [hsame] at qb
              obtain ⟨bt, hbt⟩ : ∃ bt : Nat, bt = x1.getD j 0 := ⟨_, rfl⟩
              rw [← hbt] at qa qb
              replace hsame := Lib.hid hsame
              go_wp2_with fail
              all_goals exact ⟨⟨j + 1, by omega, by go_num, trivial⟩, by simp [intOf]; omega⟩
          · obtain rfl : j = 10 := by omega
            clear hb1 hb2
            have K7 := Lib.hid (K6.out.drewN nq)
            have qx13 : (w12.drewN nq).cell? ⟨wr.heap.size, 4, none⟩ = some (.int .u64 (x : Int)) := qx12
            obtain ⟨w13, hw13⟩ : ∃ w', w' = w12.drewN nq := ⟨_, rfl⟩
            rw [← hw13] at K7 qx13 ⊢
            clear hw13 qx12 K6
            have hs13 := World.block_lt_of_cell? w13 _ qx13
            have hrow : ∀ q, v6.ownBlock = some q → q < wr.heap.size := fun q hq => (K2.out.mem.row.lt q hq).2
            replace hrow := Lib.hid hrow
            go_wp2_with fail
            refine (Store_any 62 _ _ g v6 ds ds 1 _ _ _ x _ 21 K7.out.mem (by omega) (by omega) rfl r4.out P.out.far).mono ?_
            rintro e14 w14 ⟨rfl, m14, b14⟩
            have K8 := Lib.hid (K7.out.step (Nat.le_refl _) m14 P.out.ld b14)
            have qx14 : w14.cell? ⟨wr.heap.size, 4, none⟩ = some (.int .u64 (x : Int)) := (World.cell?_of_block (w := w13) (b14.block wr.heap.size hs13 (fun e => by have := hrow.out _ e; omega))).trans qx13
            clear m14 b14 qx13
            go_wp2_with (go_at_call 8; refine (num_any _ _).mono ?_; rintro e wn ⟨rfl, rfl⟩)
            refine (Store_any 62 _ _ g v6 ds ds 1 _ _ _ x _ 21 K8.out.mem (by omega) (by omega) rfl r4.out P.out.far2).mono ?_
            rintro e15 w15 ⟨rfl, m15, b15⟩
            have K9 := Lib.hid (K8.out.step (Nat.le_refl _) m15 P.out.ld b15)
            clear m15 b15
            go_wp2_with (go_at_call 8; refine (num_any _ _).mono ?_; rintro e wn ⟨rfl, rfl⟩)
            have K10 := Lib.hid (K9.out.new (Nat.le_refl _) ((Below.refl _ _).alloc (Nat.le_refl _) (.cells #[.int .u8 1, .int .u8 2] 5)))
            refine (Write_no 62 _ _ g v6 ds [1, 2] 1 _ _ K10.out.mem (by omega) (two_BS _) (by rw [K10.out.len]; simp)).mono ?_
            rintro e16 w16 ⟨rfl, m16, b16⟩
            have K11 := Lib.hid (K10.out.step (Nat.le_refl _) m16 P.out.ld b16)
            clear m16 b16
            go_wp2_with (go_at_call 8; refine (num_any _ _).mono ?_; rintro e wn ⟨rfl, rfl⟩)
            exact ⟨⟨k + 1, ds, by omega, by go_num, K11.out, fun h => by omega⟩, by simp [intOf]; omega⟩
      · as_aux_lemma =>
        go_wp2_with fail
        refine (within_any _ _ _ r1 (by omega)).mono ?_
        rintro e8 w8 ⟨⟨ka, rfl, hka⟩, rfl⟩
        obtain ⟨WL, hWL⟩ : ∃ WL, WL = (wr.alloc (.cells #[.int .i64 d, .int .i64 a, .int .i64 f, .int .i64 m, .int .u64 (x : Int), .slice AB xs.length cB] 40)).alloc (.cells #[.int .i64 1, .int .i64 2, .int .i64 4, .int .i64 8] 3) := ⟨_, rfl⟩
        rw [← hWL]
        have hzl : WL.heap.size = wr.heap.size + 2 := by rw [hWL]; simp
        have qx : WL.cell? ⟨wr.heap.size, 4, none⟩ = some (.int .u64 (x : Int)) := by rw [hWL]; simp
        have K3 := K2.out.new (Nat.le_refl _) (show Below wr.heap.size wr WL by rw [hWL]; exact ((Below.refl _ _).alloc (Nat.le_refl _) _).alloc (by simp) _)
        clear hWL e0 e1 e2 e3 e4 e5
        obtain ⟨x1, hx1⟩ : ∃ x1, x1 = (bs.drop ka).take 10 := ⟨_, rfl⟩
        obtain ⟨ds, hds⟩ : ∃ ds, ds = M.put 8 bs (ka + 1) x := ⟨_, rfl⟩
        obtain ⟨x2, hx2⟩ : ∃ x2, x2 = (ds.drop ka).take 10 := ⟨_, rfl⟩
        obtain ⟨y, hy⟩ : ∃ y : Nat, y = x := ⟨_, rfl⟩
        have P := Lib.hid (PF.mk' 8 (by omega) K3.len (by omega) r4 hx1 hds hx2 (show y = x % 256 ^ 8 by omega))
        replace K3 := Lib.hid K3
        clear hx1 hds hx2
        go_wp2_with fail
        refine (Read_ok 62 _ _ g v6 bs x1 1 ka 10 _ _ (by omega) (by omega) K3.out.mem (by have := K3.out.len; omega) P.out.hx1).mono ?_
        rintro e9 w9 ⟨u9', rfl, o9, b9⟩
        have K4 := Lib.hid (K3.out.new (Nat.le_refl _) b9)
        have h9 : ∀ q, u9'.ownBlock = some q → v6.ownBlock ≠ some q := fun q hq e => by have t1 := (o9.lt q hq).1; have t2 := (K3.out.mem.row.lt q e).2; omega
        have qx9 := (b9.cell (p := ⟨wr.heap.size, 4, none⟩) (by show wr.heap.size < _; omega)).trans qx
        have z9 := b9.size
        clear b9 qx
        replace o9 := Lib.hid o9
        replace h9 := Lib.hid h9
        go_wp2_with fail
        refine (Store_any 62 _ _ g v6 bs ds 1 _ _ _ x _ 0 K4.out.mem (by omega) (by omega) rfl r4 (by rw [show (1 + (ka : Int) - 1) = ka by omega]; exact P.out.hst)).mono ?_
        rintro e10 w10 ⟨rfl, m10, b10⟩
        have K5 := Lib.hid (K4.out.step (Nat.le_refl _) m10 P.out.ld b10)
        have o10 := Lib.hid (own_but o9.out b10 (fun q hq e => h9.out q hq e))
        have qx10 : w10.cell? ⟨wr.heap.size, 4, none⟩ = some (.int .u64 (x : Int)) := (World.cell?_of_block (w := w9) (b10.block wr.heap.size (by omega) (fun e => by have t1 := (K2.out.mem.row.lt _ e).2; omega))).trans qx9
        have z10 := b10.size
        clear m10 b10 qx9
        go_wp2_with fail
        refine (Load_any 62 _ _ g v6 ds 1 _ _ _ y 0 K5.out.mem (by omega) (by omega) (by rw [show (1 + (ka : Int)) = ka + 1 by omega]; exact P.out.hld)).mono ?_
        rintro e11 w11 ⟨rfl, rfl⟩
        go_wp2_with fail
        refine (Read_ok 62 _ _ g v6 ds x2 1 ka 10 _ _ (by omega) (by omega) K5.out.mem (by have := K5.out.len; omega) P.out.hx2).mono ?_
        rintro e12 w12 ⟨u12', rfl, o12, b12⟩
        have K6 := Lib.hid (K5.out.new (Nat.le_refl _) b12)
        have o13 := own_later o10.out b12
        have qx12 := (b12.cell (p := ⟨wr.heap.size, 4, none⟩) (by show wr.heap.size < _; omega)).trans qx10
        obtain ⟨A9, c9, rfl, p9, t9⟩ := own_form o13
        obtain ⟨A12, c12, rfl, p12, t12⟩ := own_form o12
        have hb1 : ∀ j, j < 10 → ∃ r, A9 = some ⟨r, 0, none⟩ ∧ w12.cell? ⟨r, j, none⟩ = some (.int .u8 ((x1.getD j 0 : Nat) : Int)) := own_byte o13 P.out.l1
        have hb2 : ∀ j, j < 10 → ∃ r, A12 = some ⟨r, 0, none⟩ ∧ w12.cell? ⟨r, j, none⟩ = some (.int .u8 ((x2.getD j 0 : Nat) : Int)) := own_byte o12 P.out.l2
        rw [P.out.l1] at p9 ⊢
        rw [P.out.l2] at p12 ⊢
        replace hb1 := Lib.hid hb1
        replace hb2 := Lib.hid hb2
        clear o9 o10 o12 o13 b12 h9 qx10
        go_wp2_with (go_at_call 8; refine (num_any _ _).mono ?_; rintro e wn ⟨rfl, rfl⟩)
        go_quiet ((go_at_call 8; exact Calls.quiet_of_same (num_any _ _)))
        go_wp2_with (go_at_call 8; refine (num_any _ _).mono ?_; rintro e wn ⟨rfl, rfl⟩)
        replace r4 := Lib.hid r4
        clear hka r0 r1 r2 r3 hy
        go_loopw [16] (fun i w' => ∃ j : Nat, j ≤ 10 ∧ i = .int .i64 j ∧ w' = w12.drewN nq) (fun i _ => 10 - (intOf i).toNat)
        case atStart => exact ⟨0, by omega, rfl, rfl⟩
        case round => as_aux_lemma =>
          obtain ⟨j, hj, rfl, rfl⟩ := hrel
          by_cases hj10 : j < 10
          · obtain ⟨ra, rfl, qa⟩ := hb1.out j hj10
            obtain ⟨rb, rfl, qb⟩ := hb2.out j hj10
            have s0 : (0 : Int) ≤ (j : Int) := by omega
            have s1 : (j : Int) < 10 := by omega
            by_cases hin : 1 ≤ j ∧ j ≤ 8
            · have hins := P.out.ins j hin.1 hin.2
              obtain ⟨i, rfl⟩ : ∃ i, j = i + 1 := ⟨j - 1, by omega⟩
              rw [show i + 1 - 1 = i by omega] at hins
              rw [hins] at qb
              rw [shr_cast x i] at qb
              clear hins
              go_wp2_with fail
              case roundEnd => exact ⟨⟨i + 2, by omega, by go_num, trivial⟩, by simp [intOf]; omega⟩
            · have hsame := P.out.out j hj10 hin
              have hdd : (decide ((1 : Int) ≤ (j : Int)) && decide ((j : Int) ≤ 8)) = false := by simp; omega
              rw [hsame] at qb
              obtain ⟨bt, hbt⟩ : ∃ bt : Nat, bt = x1.getD j 0 := ⟨_, rfl⟩
              rw [← hbt] at qa qb
              replace hsame := Lib.hid hsame
              go_wp2_with fail
              all_goals exact ⟨⟨j + 1, by omega, by go_num, trivial⟩, by simp [intOf]; omega⟩
          · obtain rfl : j = 10 := by omega
            clear hb1 hb2
            have K7 := Lib.hid (K6.out.drewN nq)
            have qx13 : (w12.drewN nq).cell? ⟨wr.heap.size, 4, none⟩ = some (.int .u64 (x : Int)) := qx12
            obtain ⟨w13, hw13⟩ : ∃ w', w' = w12.drewN nq := ⟨_, rfl⟩
            rw [← hw13] at K7 qx13 ⊢
            clear hw13 qx12 K6
            have hs13 := World.block_lt_of_cell? w13 _ qx13
            have hrow : ∀ q, v6.ownBlock = some q → q < wr.heap.size := fun q hq => (K2.out.mem.row.lt q hq).2
            replace hrow := Lib.hid hrow
            go_wp2_with fail
            refine (Store_any 62 _ _ g v6 ds ds 1 _ _ _ x _ 21 K7.out.mem (by omega) (by omega) rfl r4.out P.out.far).mono ?_
            rintro e14 w14 ⟨rfl, m14, b14⟩
            have K8 := Lib.hid (K7.out.step (Nat.le_refl _) m14 P.out.ld b14)
            have qx14 : w14.cell? ⟨wr.heap.size, 4, none⟩ = some (.int .u64 (x : Int)) := (World.cell?_of_block (w := w13) (b14.block wr.heap.size hs13 (fun e => by have := hrow.out _ e; omega))).trans qx13
            clear m14 b14 qx13
            go_wp2_with (go_at_call 8; refine (num_any _ _).mono ?_; rintro e wn ⟨rfl, rfl⟩)
            refine (Store_any 62 _ _ g v6 ds ds 1 _ _ _ x _ 21 K8.out.mem (by omega) (by omega) rfl r4.out P.out.far2).mono ?_
            rintro e15 w15 ⟨rfl, m15, b15⟩
            have K9 := Lib.hid (K8.out.step (Nat.le_refl _) m15 P.out.ld b15)
            clear m15 b15
            go_wp2_with (go_at_call 8; refine (num_any _ _).mono ?_; rintro e wn ⟨rfl, rfl⟩)
            have K10 := Lib.hid (K9.out.new (Nat.le_refl _) ((Below.refl _ _).alloc (Nat.le_refl _) (.cells #[.int .u8 1, .int .u8 2] 5)))
            refine (Write_no 62 _ _ g v6 ds [1, 2] 1 _ _ K10.out.mem (by omega) (two_BS _) (by rw [K10.out.len]; simp)).mono ?_
            rintro e16 w16 ⟨rfl, m16, b16⟩
            have K11 := Lib.hid (K10.out.step (Nat.le_refl _) m16 P.out.ld b16)
            clear m16 b16
            go_wp2_with (go_at_call 8; refine (num_any _ _).mono ?_; rintro e wn ⟨rfl, rfl⟩)
            exact ⟨⟨k + 1, ds, by omega, by go_num, K11.out, fun h => by omega⟩, by simp [intOf]; omega⟩
    · obtain ⟨y, hy⟩ : ∃ y, y = M.le bs 1 65535 := ⟨_, rfl⟩
      have hld : (y, (0 : Int)) = M.ld bs 65535 0 1 := by rw [hy]; exact M.ld_ok (a := 65535) (o := 0) (n := 1) (M.form_of (by omega) (by omega) (by omega)) (by have := K2.len; omega)
      rw [← hy] at hz0
      clear hy
      replace hld := Lib.hid hld
      replace K2 := Lib.hid K2
      replace hbw := Lib.hid hbw
      have hor : ¬ (k < l) ∨ (k < l ∧ ¬ k < 30) := by omega
      have hyl : (l = 0 ∧ y = 0) ∨ (¬ (l = 0) ∧ 0 < l) := by
        by_cases e : l = 0
        · exact .inl ⟨e, hz0 (by omega)⟩
        · exact .inr ⟨e, by omega⟩
      clear hz0 hacts
      rcases hyl with ⟨rfl, rfl⟩ | ⟨hl0, hl1⟩
      · as_aux_lemma =>
          obtain rfl : k = 0 := by omega
          go_wp2_with fail
          refine (Load_any 62 _ _ g v6 bs 1 _ _ _ 0 0 K2.out.mem (by omega) (by omega) hld.out).mono ?_
          rintro e7 w7 ⟨rfl, rfl⟩
          go_wp2_with (first | (go_at_call 8; refine (num_any _ _).mono ?_; rintro e wn ⟨rfl, rfl⟩) | (go_at_call 9; refine (wakes_any _).mono ?_; rintro e8 w8 ⟨rfl, b8⟩))
          go_ret
          exact ⟨rfl, hbw.out.trans (b8.mono hbw.out.size)⟩
      · have hl2 : (0 : Int) < (l : Int) := by omega
        clear hl0
        rcases hor with hor | hor
        all_goals as_aux_lemma =>
          go_wp2_with fail
          refine (Load_any 62 _ _ g v6 bs 1 _ _ _ y 0 K2.out.mem (by omega) (by omega) hld.out).mono ?_
          rintro e7 w7 ⟨rfl, rfl⟩
          go_wp2_with (first | (go_at_call 8; refine (num_any _ _).mono ?_; rintro e wn ⟨rfl, rfl⟩) | (go_at_call 9; refine (wakes_any _).mono ?_; rintro e8 w8 ⟨rfl, b8⟩))
          all_goals go_ret
          all_goals exact ⟨rfl, hbw.out.trans (b8.mono hbw.out.size)⟩
end Go.Proofs.Ytcdfmldbpmgoiaa
