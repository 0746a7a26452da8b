/-
  The law DiskSafe, walked: it answers true; condition: the acts lie in memory as they were handed in.
-/
import Derived.Test.YtghogkanhcihbaaDOff
import Derived.Test.YtghogkanhcihbaaMix2
import Derived.Laws.Rows
import Derived.Laws.Tables
namespace Go.Proofs.Ytghogkanhcihbaa
open Go.RowKit
theorem nvals_length (xs : List Int) : (nvals xs).length = xs.length := by simp [nvals]
theorem nvals_get (xs : List Int) (i : Nat) (h : i < xs.length) : (nvals xs)[i]? = some (.int .i64 (xs.getD i 0)) := by
  unfold nvals
  rw [List.getElem?_map, List.getElem?_eq_getElem h, List.getD_eq_getElem?_getD, List.getElem?_eq_getElem h]
  rfl
/-- An array of six numbers, in a block of its own. -/
def ArrAt (w : World) (g : Nat) (xs : List Int) : Prop := w.heap[g]? = some (.cells (nvals xs).toArray 54 (0, 0)) ∧ xs.length = 6
theorem ArrAt.but {w w' : World} {X : Nat → Prop} {g : Nat} {xs : List Int} (h : ArrAt w g xs) (hb : But X w w') (hX : ¬ X g) : ArrAt w' g xs := ⟨obj_but h.1 hb hX, h.2⟩
theorem ArrAt.later {w w' : World} {g : Nat} {xs : List Int} (h : ArrAt w g xs) (hb : Below w.heap.size w w') : ArrAt w' g xs := h.but (X := fun _ => False) (.ofBelow hb) (fun h => h)
theorem ArrAt.cell {w : World} {g : Nat} {xs : List Int} (h : ArrAt w g xs) (i : Nat) (hi : i < 6) : w.cell? ⟨g, i, none⟩ = some (.int .i64 (xs.getD i 0)) := by
  rw [cell_of_row w g i _ _ (0, 0) h.1, ← nvals_get xs i (by rw [h.2]; exact hi)]
  simp
theorem ArrAt.f {w : World} {g : Nat} {xs : List Int} (h : ArrAt w g xs) (o : Nat) : w.frozen? ⟨g, o, none⟩ = false := frozen_of_row w g o _ _ h.1
theorem ArrAt.lt {w : World} {g : Nat} {xs : List Int} (h : ArrAt w g xs) : g < w.heap.size := (Array.getElem?_eq_some_iff.1 h.1).1
theorem ArrAt.set {w : World} {g : Nat} {xs : List Int} (h : ArrAt w g xs) (i : Nat) (z : Int) (hi : i < 6) : ArrAt (w.setCell ⟨g, i, none⟩ (.int .i64 z)) g (xs.set i z) ∧ But (· = g) w (w.setCell ⟨g, i, none⟩ (.int .i64 z)) := by
  refine ⟨⟨?_, by rw [List.length_set]; exact h.2⟩, But.setCell w g i _⟩
  rw [heap_setCell_same w g i _ _ _ h.1]
  unfold nvals
  rw [List.map_set]
  simp
theorem ArrAt.copy {w : World} {g : Nat} {xs ys : List Int} (h : ArrAt w g xs) (hy : ys.length = 6) : ArrAt (w.setRow g (nvals ys).toArray) g ys ∧ But (· = g) w (w.setRow g (nvals ys).toArray) :=
  ⟨⟨setRow_heap w g _ _ _ _ h.1, hy⟩, ⟨rfl, rfl, rfl, by simp, fun k _ hk => setRow_other w g k _ hk⟩⟩
theorem arr_size : (Try.prog.info? 54).map (·.size) = some 6 := by kernel_rfl
theorem arr_one (xs : List Int) : (nvals xs).toArray.all (·.oneCell') = true := by
  rw [Array.all_eq_true_iff_forall_mem]
  intro v hv
  obtain ⟨z, _, rfl⟩ := List.mem_map.1 (show v ∈ List.map (fun b : Int => Value.int .i64 b) xs by simpa [nvals] using hv)
  rfl
theorem DAt.no_arr {w : World} {B g r q n cS cE : Nat} {S E : List Nat} {k last : Int} {a : Nat} {xs : List Int} (h : DAt w B g r q n cS cE S E k last) (ha : ArrAt w a xs) : ¬ DX g r q a := by
  intro e
  rcases e with rfl | rfl | rfl
  · have h1 := h.obj
    rw [ha.1] at h1
    injection h1 with h1
    injection h1 with _ h1
    exact absurd h1 (by decide)
  · obtain ⟨cur, h1, _⟩ := h.rS
    rw [ha.1] at h1
    injection h1 with h1
    injection h1 with _ h1
    exact absurd h1 (by decide)
  · obtain ⟨cur, h1, _⟩ := h.rE
    rw [ha.1] at h1
    injection h1 with h1
    injection h1 with _ h1
    exact absurd h1 (by decide)
/-- What the law keeps: the disk, and the two arrays. -/
structure SK (W w' : World) (g r q cS cE gs gn : Nat) (sf sn : List Int) (S E : List Nat) (k : Int) : Prop where
  d : DAt w' W.heap.size g r q 6 cS cE S E k 9223372036854775807
  s : ArrAt w' gs sf
  e : ArrAt w' gn sn
  ne : gs ≠ gn ∧ W.heap.size ≤ gs ∧ W.heap.size ≤ gn
  bel : Below W.heap.size W w'
def Fills (S : List Nat) (sf : List Int) : Prop := ∀ t, t < 6 → M.sec S t = M.fill (sf.getD t 0)
section
variable {W w w' : World} {g r q cS cE gs gn : Nat} {sf sn : List Int} {S E S' E' : List Nat} {k k' : Int}
theorem SK.later (h : SK W w g r q cS cE gs gn sf sn S E k) (hb : Below w.heap.size w w') : SK W w' g r q cS cE gs gn sf sn S E k :=
  ⟨h.d.later hb, h.s.later hb, h.e.later hb, h.ne, h.bel.trans (hb.mono h.bel.size)⟩
theorem SK.stroke (h : SK W w g r q cS cE gs gn sf sn S E k) (hd : DAt w' W.heap.size g r q 6 cS cE S' E' k' 9223372036854775807) (hb : But (DX g r q) w w') : SK W w' g r q cS cE gs gn sf sn S' E' k' :=
  ⟨hd, h.s.but hb (h.d.no_arr h.s), h.e.but hb (h.d.no_arr h.e), h.ne, h.d.since h.bel (Nat.le_refl _) hb⟩
theorem SK.seen (h : SK W w g r q cS cE gs gn sf sn S E k) (i : Nat) (z : Int) (hi : i < 6) : SK W (w.setCell ⟨gn, i, none⟩ (.int .i64 z)) g r q cS cE gs gn sf (sn.set i z) S E k := by
  obtain ⟨h1, h2⟩ := h.e.set i z hi
  exact ⟨h.d.but h2 (fun k hk e => h.d.no_arr h.e (e ▸ hk)), h.s.but h2 h.ne.1, h1, h.ne, h.bel.trans (h2.below (fun k e => e ▸ h.ne.2.2) h.bel.size)⟩
theorem SK.safe (h : SK W w g r q cS cE gs gn sf sn S E k) (i : Nat) (z : Int) (hi : i < 6) : SK W (w.setCell ⟨gs, i, none⟩ (.int .i64 z)) g r q cS cE gs gn (sf.set i z) sn S E k := by
  obtain ⟨h1, h2⟩ := h.s.set i z hi
  exact ⟨h.d.but h2 (fun k hk e => h.d.no_arr h.s (e ▸ hk)), h1, h.e.but h2 (Ne.symm h.ne.1), h.ne, h.bel.trans (h2.below (fun k e => e ▸ h.ne.2.1) h.bel.size)⟩
theorem SK.copy (h : SK W w g r q cS cE gs gn sf sn S E k) : SK W (w.setRow gs (nvals sn).toArray) g r q cS cE gs gn sn sn S E k := by
  obtain ⟨h1, h2⟩ := h.s.copy h.e.2
  exact ⟨h.d.but h2 (fun k hk e => h.d.no_arr h.s (e ▸ hk)), h1, h.e.but h2 (Ne.symm h.ne.1), h.ne, h.bel.trans (h2.below (fun k e => e ▸ h.ne.2.1) h.bel.size)⟩
end
theorem Fills.write {E : List Nat} {sn : List Int} (h : Fills E sn) (hl : E.length = 6 * 64) (hn : sn.length = 6) (i : Nat) (b : Int) (hi : i < 6) : Fills (M.lay E (i * 64) (M.pat b)) (sn.set i (b % 256)) := by
  intro t ht
  by_cases e : t = i
  · subst e
    rw [M.sec_lay_same (M.pat_length b) (by omega), List.getD_eq_getElem?_getD, List.getElem?_set_self (by omega)]
    show _ = M.fill (b % 256)
    unfold M.fill
    rw [if_neg (by omega), M.pat_mod]
  · rw [M.sec_lay_other (M.pat_length b) (by omega) e, h t ht, List.getD_eq_getElem?_getD, List.getD_eq_getElem?_getD, List.getElem?_set_ne (Ne.symm e)]
theorem Fills.crash {S E : List Nat} {sf sn : List Int} (h1 : Fills S sf) (h2 : Fills E sn) (l1 : S.length = 6 * 64) (l2 : E.length = 6 * 64) (ps : List Int) (t : Nat) (ht : t < 6) :
    M.sec (M.crash S E 6 0 ps) t = M.fill (sf.getD t 0) ∨ M.sec (M.crash S E 6 0 ps) t = M.fill (sn.getD t 0) := by
  have := M.crash_sec (S := S) (E := E) (n := 6) (i := 0) (ps := ps) t (by omega) (by omega) ht
  rw [Nat.zero_add, h1 t ht, h2 t ht] at this
  exact this
theorem Fills.none (sf : List Int) (h : ∀ t, t < 6 → sf.getD t 0 = -1) : Fills (List.replicate 384 0) sf := by
  intro t ht
  rw [h t ht]
  unfold M.fill M.sec
  rw [if_pos (by omega), List.drop_replicate, List.take_replicate]
  congr 1
  omega

theorem within_is (i n : Int) (w : World) (hi : Rg i) (hn : 0 < n ∧ n ≤ 1000000) : Calls Try.prog 13 #[.int .i64 i, .int .i64 n] w fun e w' => (∃ r : Nat, e = .returned (.int .i64 (r : Int)) ∧ (r : Int) < n) ∧ w = w' := (within_any i n w hi hn).mono fun _ _ ⟨a, b⟩ => ⟨a, b.symm⟩
theorem num_is (e : Int) (w : World) : Calls Try.prog 10 #[.int .i64 e] w fun r w' => r = .returned (.int .i64 e) ∧ w = w' := (num_any e w).mono fun _ _ ⟨a, b⟩ => ⟨a, b.symm⟩
set_option maxRecDepth 100000 in
set_option maxHeartbeats 4000000 in
theorem safeWalk (cs : Array Value) (w : World) (hp : IsPlay w (.agg cs)) : Calls Try.prog 4 #[.agg cs] w fun e w' => e = .returned (.bool true) ∧ Below w.heap.size w w' := by
  obtain ⟨size, A, l, c, ts, A2, l2, c2, hv, _, _, ⟨hlc, hcm⟩, hacts0⟩ := hp
  injection hv with hv
  subst hv
  unfold maxLen at hcm
  have hmk := make_run 384 384 384 384 rfl rfl (by omega) (by omega)
  go_enter Try.func4, Try.ntmps4
  go_wp2_with fail
  have hbW0 : Below w.heap.size w (w.alloc (.cells #[.int .i64 size, .slice A l c, .slice A2 l2 c2] 25)) := (Below.refl _ _).alloc (Nat.le_refl _) _
  have hz0 : (w.alloc (.cells #[.int .i64 size, .slice A l c, .slice A2 l2 c2] 25)).heap.size = w.heap.size + 1 := by simp
  have q20 : (w.alloc (.cells #[.int .i64 size, .slice A l c, .slice A2 l2 c2] 25)).cell? ⟨w.heap.size, 2, none⟩ = some (.slice A2 l2 c2) := by simp
  obtain ⟨W1, hW1⟩ : ∃ W1, W1 = w.alloc (.cells #[.int .i64 size, .slice A l c, .slice A2 l2 c2] 25) := ⟨_, rfl⟩
  rw [← hW1] at hbW0 hz0 q20 ⊢
  clear hW1
  have hZ := zrow_at W1 384 (by omega)
  have hb2 : Below W1.heap.size W1 (W1.alloc (.cells (zrow 384) 5)) := (Below.refl _ _).alloc (Nat.le_refl _) _
  have hz2 : (W1.alloc (.cells (zrow 384) 5)).heap.size = w.heap.size + 2 := by simp [hz0]
  obtain ⟨W2, hW2⟩ : ∃ W2, W2 = W1.alloc (.cells (zrow 384) 5) := ⟨_, rfl⟩
  rw [← hW2] at hZ hb2 hz2 ⊢
  clear hW2
  obtain ⟨im, him⟩ : ∃ im, im = List.replicate 384 0 := ⟨_, rfl⟩
  have hil : im.length = 6 * 64 := by rw [him, List.length_replicate]
  rw [← him, hz0] at hZ
  have hB := Lib.hid (hZ.all (n := 384) (by rw [hil]))
  have p2 : W2.cell? ⟨w.heap.size, 2, none⟩ = some (.slice A2 l2 c2) := (hb2.cell (p := ⟨w.heap.size, 2, none⟩) (by show w.heap.size < _; omega)).trans q20
  have hbw := hbW0.trans (hb2.mono (by omega))
  have hacts := Lib.hid (hacts0.later hbw)
  replace hbw := Lib.hid hbw
  replace p2 := Lib.hid p2
  replace him := Lib.hid him
  replace hil := Lib.hid hil
  clear hZ hb2 q20 hbW0 hz0 hmk hacts0
  refine (New_any _ _ _ im [] 6 (by omega) hil.out hB.out (nil_NS _ _)).mono ?_
  rintro e1 w1 h1
  obtain ⟨g, r, q, cS, cE, rfl, d1, b1⟩ := new_rows h1 (by simp)
  rw [M.least_none] at d1
  clear h1 hB
  replace d1 := Lib.hid d1
  replace b1 := Lib.hid b1
  go_wp2_with (go_at_call 10; refine (num_is _ _).mono ?_; rintro e wn ⟨rfl, rfl⟩)
  have K0 : SK W2 ((w1.alloc (.cells #[.int .i64 0, .int .i64 0, .int .i64 0, .int .i64 0, .int .i64 0, .int .i64 0] 54)).alloc (.cells #[.int .i64 0, .int .i64 0, .int .i64 0, .int .i64 0, .int .i64 0, .int .i64 0] 54)) g r q cS cE w1.heap.size (w1.heap.size + 1) [0, 0, 0, 0, 0, 0] [0, 0, 0, 0, 0, 0] im im 0 := by
    have hb : Below w1.heap.size w1 ((w1.alloc (.cells #[.int .i64 0, .int .i64 0, .int .i64 0, .int .i64 0, .int .i64 0, .int .i64 0] 54)).alloc (.cells #[.int .i64 0, .int .i64 0, .int .i64 0, .int .i64 0, .int .i64 0, .int .i64 0] 54)) := ((Below.refl _ _).alloc (Nat.le_refl _) _).alloc (by simp) _
    have hs := b1.out.size
    refine ⟨d1.out.later hb, ⟨?_, rfl⟩, ⟨?_, rfl⟩, ⟨by omega, hs, by omega⟩, b1.out.trans (hb.mono hs)⟩
    · rw [Below.heap_alloc _ _ _ (by simp), heap_alloc_new]; rfl
    · have e : w1.heap.size + 1 = (w1.alloc (.cells #[.int .i64 0, .int .i64 0, .int .i64 0, .int .i64 0, .int .i64 0, .int .i64 0] 54)).heap.size := by simp
      rw [e, heap_alloc_new]; rfl
  obtain ⟨W3, hW3⟩ : ∃ W3, W3 = (w1.alloc (.cells #[.int .i64 0, .int .i64 0, .int .i64 0, .int .i64 0, .int .i64 0, .int .i64 0] 54)).alloc (.cells #[.int .i64 0, .int .i64 0, .int .i64 0, .int .i64 0, .int .i64 0, .int .i64 0] 54) := ⟨_, rfl⟩
  rw [← hW3] at K0 ⊢
  clear hW3
  obtain ⟨gs, hgs⟩ : ∃ gs, gs = w1.heap.size := ⟨_, rfl⟩
  obtain ⟨gn, hgn⟩ : ∃ gn, gn = w1.heap.size + 1 := ⟨_, rfl⟩
  rw [← hgn, ← hgs] at K0 ⊢
  clear hgs hgn d1 b1
  replace K0 := Lib.hid K0
  go_loopw [7] (fun i w' => ∃ (j : Nat) (sf sn : List Int), j ≤ 6 ∧ i = .int .i64 j ∧ (∀ t, t < j → sf.getD t 0 = -1 ∧ sn.getD t 0 = -1) ∧ SK W2 w' g r q cS cE gs gn sf sn im im 0) (fun i _ => 6 - (intOf i).toNat)
  case atStart => exact ⟨0, _, _, by omega, rfl, fun t h => by omega, K0.out⟩
  case round =>
    clear K0
    obtain ⟨j, sf, sn, hj, rfl, hall, K⟩ := hrel
    by_cases hlt : j < 6
    · as_aux_lemma =>
      have t0 : (0 : Int) ≤ (j : Int) := by omega
      have t1 : (j : Int) < 6 := by omega
      have a1 := K.s.cell j hlt
      have a2 := K.s.f j
      have K1 := K.safe j (-1) hlt
      have a3 := K1.e.cell j hlt
      have a4 := K1.e.f j
      have K2 := Lib.hid (K1.seen j (-1) hlt)
      have hnext : ∀ t, t < j + 1 → (sf.set j (-1)).getD t 0 = -1 ∧ (sn.set j (-1)).getD t 0 = -1 := fun t ht => by
        have l1 := K.s.2
        have l2 := K.e.2
        by_cases e : t = j
        · subst e
          rw [List.getD_eq_getElem?_getD, List.getD_eq_getElem?_getD, List.getElem?_set_self (by omega), List.getElem?_set_self (by omega)]
          exact ⟨rfl, rfl⟩
        · rw [List.getD_eq_getElem?_getD, List.getD_eq_getElem?_getD, List.getElem?_set_ne (Ne.symm e), List.getElem?_set_ne (Ne.symm e), ← List.getD_eq_getElem?_getD, ← List.getD_eq_getElem?_getD]
          exact hall t (by omega)
      obtain ⟨x1, hx1⟩ : ∃ x, x = sf.getD j 0 := ⟨_, rfl⟩
      obtain ⟨x2, hx2⟩ : ∃ x, x = sn.getD j 0 := ⟨_, rfl⟩
      rw [← hx1] at a1
      rw [← hx2] at a3
      clear hx1 hx2 hall K K1
      replace hnext := Lib.hid hnext
      go_wp2_with fail
      exact ⟨⟨j + 1, _, _, by omega, by go_num, hnext.out, K2.out⟩, by simp [intOf]; omega⟩
    · have hj6 : (6 : Int) ≤ (j : Int) := by omega
      have f1 : Fills im sf := by rw [him.out]; exact Fills.none sf fun t h => (hall t (by omega)).1
      have f2 : Fills im sn := by rw [him.out]; exact Fills.none sn fun t h => (hall t (by omega)).2
      clear hall him
      replace K := Lib.hid K
      replace f1 := Lib.hid f1
      replace f2 := Lib.hid f2
      go_wp2_with fail
      go_loopw [8] (fun i w' => ∃ (j : Nat) (sf sn : List Int) (S E : List Nat) (k : Int), (j ≤ l2 ∧ j ≤ 40) ∧ (0 ≤ k ∧ k ≤ j) ∧ i = .int .i64 j ∧ Fills S sf ∧ Fills E sn ∧ SK W2 w' g r q cS cE gs gn sf sn S E k) (fun i _ => 40 - (intOf i).toNat)
      case atStart => exact ⟨0, sf, sn, im, im, 0, by omega, by omega, rfl, f1.out, f2.out, K.out⟩
      case round =>
        clear K f1 f2
        obtain ⟨j, sf, sn, S, E, k, hj, hk, rfl, f1, f2, K⟩ := hrel
        have p3 : wr.cell? ⟨w.heap.size, 2, none⟩ = some (.slice A2 l2 c2) := (K.bel.cell (p := ⟨w.heap.size, 2, none⟩) (by show w.heap.size < _; omega)).trans p2.out
        have hwr : w.heap.size + 2 ≤ wr.heap.size := by have := K.bel.size; omega
        by_cases hlt2 : j < l2 ∧ j < 40
        · obtain ⟨ga, oa, d, ai, b, vP, ps, rfl, hga, hat, ⟨rd, ri, rb⟩, hps⟩ := hacts.out j hlt2.1
          obtain ⟨c0, c1, c2', c3⟩ := hat
          have e0 := (K.bel.cell (p := ⟨ga, oa + j * 4, none⟩) hga).trans c0
          have e1 := (K.bel.cell (p := ⟨ga, oa + j * 4 + 1, none⟩) hga).trans c1
          have e2 := (K.bel.cell (p := ⟨ga, oa + j * 4 + 2, none⟩) hga).trans c2'
          have e3 := (K.bel.cell (p := ⟨ga, oa + j * 4 + 3, none⟩) hga).trans c3
          have hN := hps.below K.bel (Nat.le_refl _)
          have hN2 := hN.below (C := wr.heap.size) (Below.refl _ _) K.bel.size
          obtain ⟨AP, cP, rfl, _, _, _⟩ := id hN
          obtain ⟨m, hm⟩ : ∃ m, m = ps.length := ⟨_, rfl⟩
          rw [← hm] at e3 hN2
          clear c0 c1 c2' c3 hps hN hm
          have t0 : (0 : Int) ≤ (j : Int) := by omega
          have t1 : (j : Int) < (l2 : Int) := by omega
          have t2 : (j : Int) < 40 := by omega
          replace K := Lib.hid K
          replace f1 := Lib.hid f1
          replace f2 := Lib.hid f2
          replace hN2 := Lib.hid hN2
          go_wp2_with fail
          have K1 := K.out.later (w' := wr.alloc (.cells #[.int .i64 d, .int .i64 ai, .int .i64 b, .slice AP m cP] 40)) ((Below.refl _ _).alloc (Nat.le_refl _) _)
          have hN1 := hN2.out.later (w' := wr.alloc (.cells #[.int .i64 d, .int .i64 ai, .int .i64 b, .slice AP m cP] 40)) ((Below.refl _ _).alloc (Nat.le_refl _) _)
          have x0 : (wr.alloc (.cells #[.int .i64 d, .int .i64 ai, .int .i64 b, .slice AP m cP] 40)).cell? ⟨wr.heap.size, 0, none⟩ = some (.int .i64 d) := by simp
          have x1 : (wr.alloc (.cells #[.int .i64 d, .int .i64 ai, .int .i64 b, .slice AP m cP] 40)).cell? ⟨wr.heap.size, 1, none⟩ = some (.int .i64 ai) := by simp
          have x2 : (wr.alloc (.cells #[.int .i64 d, .int .i64 ai, .int .i64 b, .slice AP m cP] 40)).cell? ⟨wr.heap.size, 2, none⟩ = some (.int .i64 b) := by simp
          have x3 : (wr.alloc (.cells #[.int .i64 d, .int .i64 ai, .int .i64 b, .slice AP m cP] 40)).cell? ⟨wr.heap.size, 3, none⟩ = some (.slice AP m cP) := by simp
          have hzL : (wr.alloc (.cells #[.int .i64 d, .int .i64 ai, .int .i64 b, .slice AP m cP] 40)).heap.size = wr.heap.size + 1 := by simp
          obtain ⟨WL, hWL⟩ : ∃ WL, WL = wr.alloc (.cells #[.int .i64 d, .int .i64 ai, .int .i64 b, .slice AP m cP] 40) := ⟨_, rfl⟩
          rw [← hWL] at K1 hN1 x0 x1 x2 x3 hzL ⊢
          obtain ⟨gx, hgx⟩ : ∃ gx, gx = wr.heap.size := ⟨_, rfl⟩
          have hWgx : W2.heap.size ≤ gx := by rw [hgx]; exact K.out.bel.size
          have hgD := Lib.hid (show ∀ z, DX g r q z → z < gx by rw [hgx]; exact K.out.d.lt)
          rw [← hgx] at x0 x1 x2 x3 hzL ⊢
          have hzL2 : gx < WL.heap.size := by omega
          clear hzL
          clear hWL e0 e1 e2 e3 hN2 K hgx p3 hwr
          replace K1 := Lib.hid K1
          replace hN1 := Lib.hid hN1
          refine (within_is _ _ _ ri (by omega)).mono ?_
          rintro e7 w7 ⟨⟨kk, rfl, hkk⟩, rfl⟩
          go_wp2_with fail
          refine (within_is _ _ _ rd (by omega)).mono ?_
          rintro e8 w8 ⟨⟨qn, rfl, hqn⟩, rfl⟩
          rcases (show qn = 4 ∨ (qn = 5 ∨ qn = 6) ∨ qn < 4 by omega) with rfl | h56 | h4
          · as_aux_lemma =>
            go_wp2_with fail
            refine (Flush_any _ E (k + 1) 0 K1.out.d (by omega) (by rw [if_neg (by omega)]) rfl (by rw [if_neg (by omega)])).mono ?_
            rintro e9 w9 ⟨rfl, d9, x9⟩
            have K9 := K1.out.stroke d9 x9
            have K10 := Lib.hid K9.copy
            have hs6 : (Try.prog.info? 54).map (·.size) = some (nvals sn).toArray.size := by rw [arr_size]; simp [nvals, K9.e.2]
            have hs7 : (nvals sf).toArray.size = (nvals sn).toArray.size := by simp [nvals, K9.e.2, K9.s.2]
            have o1 := Lib.hid K9.e.1
            have o2 := Lib.hid K9.s.1
            replace hs6 := Lib.hid hs6
            replace hs7 := Lib.hid hs7
            clear d9 x9 K9 x0 x1 x2 x3
            go_wp2_with (first
              | (go_at_call 10; refine (num_is _ _).mono ?_; rintro e wn ⟨rfl, rfl⟩)
              | (refine wpList_load_row (by rfl) 54 _ (by rfl) gn (by rfl) 54 (nvals sn).toArray (0, 0) _ o1.out Try.underlying54 rfl hs6.out ?_)
              | (refine wpList_store_row (by rfl) 54 _ _ (by rfl) gs (nvals sn).toArray (by rfl) (by rfl) 54 _ o2.out hs6.out hs7.out (arr_one sn) ?_))
            exact ⟨⟨j + 1, sn, sn, E, E, k + 1, by omega, by omega, by go_num, f2.out, f2.out, K10.out⟩, by simp [intOf]; omega⟩
          · obtain ⟨X, hXe⟩ : ∃ X, X = M.crash S E 6 0 ps := ⟨_, rfl⟩
            have hXl : X.length = 384 := by rw [hXe]; exact M.crash_length (by rw [K1.out.d.lS]; omega) (by rw [K1.out.d.lE]; omega)
            have hXlt : ∀ b ∈ X, b < 256 := by rw [hXe]; exact M.crash_lt K1.out.d.rS.small K1.out.d.rE.small
            have hX : ∀ t, t < 6 → M.sec X t = M.fill (sf.getD t 0) ∨ M.sec X t = M.fill (sn.getD t 0) := by rw [hXe]; exact fun t ht => f1.out.crash f2.out K1.out.d.lS K1.out.d.lE ps t ht
            have hC : Calls Try.prog 19 #[Mp g, .slice AP m cP] WL (CrashPost X WL) := by rw [hXe]; exact Crash_any _ _ ps K1.out.d hN1.out
            replace hXl := Lib.hid hXl
            replace hXlt := Lib.hid hXlt
            replace hX := Lib.hid hX
            replace hC := Lib.hid hC
            clear hXe
            rcases h56 with rfl | rfl
            all_goals
            go_wp2_with fail
            refine hC.out.mono ?_
            rintro e9 w9 h9
            obtain ⟨rb, cb, rfl, r9, _, b9⟩ := crash_row (bs := X) h9 (by rw [hXl.out]; omega) hXlt.out
            rw [hXl.out]
            have K9 := Lib.hid (K1.out.later b9)
            obtain ⟨cb1, cb2⟩ := r9.le
            rw [hXl.out] at cb1
            unfold maxLen at cb2
            replace r9 := Lib.hid r9
            clear h9 b9 x0 x1 x2 x3
            go_wp2_with fail
            go_loopw [12] (fun i w' => ∃ t : Nat, t ≤ 6 ∧ i = .int .i64 t ∧ SK W2 w' g r q cS cE gs gn sf sn S E k ∧ RowAt w' rb cb X) (fun i _ => 6 - (intOf i).toNat)
            case atStart => exact ⟨0, by omega, rfl, K9.out, r9.out⟩
            case round =>
              clear K9 r9
              obtain ⟨t, ht, rfl, K10, r10⟩ := hrel
              by_cases ht6 : t < 6
              · have t0 : (0 : Int) ≤ (t : Int) := by omega
                have t1 : (t : Int) < 6 := by omega
                have y1 := K10.s.cell t ht6
                have y2 := K10.e.cell t ht6
                have l1 := K10.s.lt
                have l2' := K10.e.lt
                have hp := r10.part (t * 64) 64 (cb - t * 64) (by rw [hXl.out]; omega) (by unfold maxLen; omega)
                have hor := hX.out t ht6
                obtain ⟨sx, hsx⟩ : ∃ x, x = sf.getD t 0 := ⟨_, rfl⟩
                obtain ⟨sy, hsy⟩ : ∃ x, x = sn.getD t 0 := ⟨_, rfl⟩
                obtain ⟨Y, hY⟩ : ∃ Y, Y = M.sec X t := ⟨_, rfl⟩
                rw [show List.take 64 (List.drop (t * 64) X) = Y from hY.symm] at hp
                rw [← hsx, ← hsy, ← hY] at hor
                rw [← hsx] at y1
                rw [← hsy] at y2
                clear hsx hsy hY
                have hle : (t + 1) * 64 - t * 64 = 64 := by omega
                replace K10 := Lib.hid K10
                replace r10 := Lib.hid r10
                replace hp := Lib.hid hp
                go_wp2_with fail
                refine wp_region_mix2 [(true, 4), (false, 3), (true, 4), (false, 4), (true, 6), (false, 2), (true, 4), (false, 4)] (by kernel_rfl) (by kernel_rfl) ?_
                refine mix_t ?_
                simp only [List.take_succ_cons, List.take_zero, List.drop_succ_cons, List.drop_zero]
                repeat still_step
                refine wpStill_nil ?_
                refine mix_f ?_
                simp only [List.take_succ_cons, List.take_zero, List.drop_succ_cons, List.drop_zero]
                go_wp2_with fail
                by_cases hA : Y = M.fill sx
                · replace hA := Lib.hid hA
                  by_cases hxy : sx = sy
                  · subst hxy
                    clear hor
                    as_aux_lemma =>
                    refine (is_any _ _ Y sx true (hp.out.later ((Below.refl _ _).drew)) (by simpa using hA.out)).mono ?_
                    rintro e21 w21 ⟨rfl, z1⟩
                    replace z1 : Below wr.heap.size wr w21 := ((Below.refl _ _).drew).trans z1
                    have y3 := (z1.cell (p := ⟨gs, t, none⟩) (by exact l1)).trans y1
                    have y4 := (z1.cell (p := ⟨gn, t, none⟩) (by exact l2')).trans y2
                    have hp2 := Lib.hid (hp.out.later z1)
                    replace z1 := Lib.hid z1
                    go_wp2_with fail
                    refine mix_t ?_
                    simp only [List.take_succ_cons, List.take_zero, List.drop_succ_cons, List.drop_zero]
                    repeat still_step
                    refine wpStill_nil ?_
                    refine mix_f ?_
                    simp only [List.take_succ_cons, List.take_zero, List.drop_succ_cons, List.drop_zero]
                    go_wp2_with fail
                    refine mix_t ?_
                    simp only [List.take_succ_cons, List.take_zero, List.drop_succ_cons, List.drop_zero]
                    repeat still_step
                    refine wpStill_nil ?_
                    refine mix_f ?_
                    simp only [List.take_succ_cons, List.take_zero, List.drop_succ_cons, List.drop_zero]
                    go_wp2_with fail
                    refine mix_t ?_
                    simp only [List.take_succ_cons, List.take_zero, List.drop_succ_cons, List.drop_zero]
                    repeat still_step
                    refine wpStill_nil ?_
                    refine mix_f ?_
                    simp only [List.take_succ_cons, List.take_zero, List.drop_succ_cons, List.drop_zero]
                    go_wp2_with fail
                    refine (is_any _ _ Y sx true (hp2.out) (by simpa using hA.out)).mono ?_
                    rintro e22 w22 ⟨rfl, z2⟩
                    have z3 := Lib.hid (z1.out.trans (z2.mono z1.out.size))
                    clear z2
                    go_wp2_with fail
                    refine mix_e ?_
                    have K11 := Lib.hid (K10.out.later z3.out)
                    have r11 := Lib.hid (r10.out.later z3.out)
                    go_wp2_with fail
                    exact ⟨⟨t + 1, by omega, by go_num, K11.out, r11.out⟩, by simp [intOf]; omega⟩
                  · clear hor
                    have hne : (sx == sy) = false := by simpa using hxy
                    replace hxy := Lib.hid hxy
                    as_aux_lemma =>
                    refine (is_any _ _ Y sx true (hp.out.later ((Below.refl _ _).drew)) (by simpa using hA.out)).mono ?_
                    rintro e21 w21 ⟨rfl, z1⟩
                    replace z1 : Below wr.heap.size wr w21 := ((Below.refl _ _).drew).trans z1
                    have y3 := (z1.cell (p := ⟨gs, t, none⟩) (by exact l1)).trans y1
                    have y4 := (z1.cell (p := ⟨gn, t, none⟩) (by exact l2')).trans y2
                    have hp2 := Lib.hid (hp.out.later z1)
                    replace z1 := Lib.hid z1
                    go_wp2_with fail
                    refine mix_t ?_
                    simp only [List.take_succ_cons, List.take_zero, List.drop_succ_cons, List.drop_zero]
                    repeat still_step
                    refine wpStill_nil ?_
                    refine mix_f ?_
                    simp only [List.take_succ_cons, List.take_zero, List.drop_succ_cons, List.drop_zero]
                    go_wp2_with fail
                    refine mix_t ?_
                    simp only [List.take_succ_cons, List.take_zero, List.drop_succ_cons, List.drop_zero]
                    repeat still_step
                    refine wpStill_nil ?_
                    refine mix_f ?_
                    simp only [List.take_succ_cons, List.take_zero, List.drop_succ_cons, List.drop_zero]
                    go_wp2_with fail
                    refine mix_t ?_
                    simp only [List.take_succ_cons, List.take_zero, List.drop_succ_cons, List.drop_zero]
                    repeat still_step
                    refine wpStill_nil ?_
                    refine mix_f ?_
                    simp only [List.take_succ_cons, List.take_zero, List.drop_succ_cons, List.drop_zero]
                    go_wp2_with fail
                    refine mix_e ?_
                    have K11 := Lib.hid (K10.out.later z1.out)
                    have r11 := Lib.hid (r10.out.later z1.out)
                    go_wp2_with fail
                    exact ⟨⟨t + 1, by omega, by go_num, K11.out, r11.out⟩, by simp [intOf]; omega⟩
                · have hB : Y = M.fill sy := by rcases hor with h | h; exact absurd h hA; exact h
                  have hne : (sx == sy) = false := by
                    have : sx ≠ sy := fun e => hA (by rw [e]; exact hB)
                    simpa using this
                  clear hor
                  replace hA := Lib.hid hA
                  replace hB := Lib.hid hB
                  as_aux_lemma =>
                    refine (is_any _ _ Y sx false (hp.out.later ((Below.refl _ _).drew)) (by simpa using hA.out)).mono ?_
                    rintro e21 w21 ⟨rfl, z1⟩
                    replace z1 : Below wr.heap.size wr w21 := ((Below.refl _ _).drew).trans z1
                    have y3 := (z1.cell (p := ⟨gs, t, none⟩) (by exact l1)).trans y1
                    have y4 := (z1.cell (p := ⟨gn, t, none⟩) (by exact l2')).trans y2
                    have hp2 := Lib.hid (hp.out.later z1)
                    replace z1 := Lib.hid z1
                    go_wp2_with fail
                    refine mix_t ?_
                    simp only [List.take_succ_cons, List.take_zero, List.drop_succ_cons, List.drop_zero]
                    repeat still_step
                    refine wpStill_nil ?_
                    refine mix_f ?_
                    simp only [List.take_succ_cons, List.take_zero, List.drop_succ_cons, List.drop_zero]
                    go_wp2_with fail
                    refine (is_any _ _ Y sy true (hp2.out) (by simpa using hB.out)).mono ?_
                    rintro e22 w22 ⟨rfl, z2⟩
                    have z3 := Lib.hid (z1.out.trans (z2.mono z1.out.size))
                    have y5 := (z3.out.cell (p := ⟨gs, t, none⟩) (by exact l1)).trans y1
                    have y6 := (z3.out.cell (p := ⟨gn, t, none⟩) (by exact l2')).trans y2
                    clear z2
                    go_wp2_with fail
                    refine mix_t ?_
                    simp only [List.take_succ_cons, List.take_zero, List.drop_succ_cons, List.drop_zero]
                    repeat still_step
                    refine wpStill_nil ?_
                    refine mix_f ?_
                    simp only [List.take_succ_cons, List.take_zero, List.drop_succ_cons, List.drop_zero]
                    go_wp2_with fail
                    refine mix_t ?_
                    simp only [List.take_succ_cons, List.take_zero, List.drop_succ_cons, List.drop_zero]
                    repeat still_step
                    refine wpStill_nil ?_
                    refine mix_f ?_
                    simp only [List.take_succ_cons, List.take_zero, List.drop_succ_cons, List.drop_zero]
                    go_wp2_with fail
                    refine mix_e ?_
                    have K11 := Lib.hid (K10.out.later z3.out)
                    have r11 := Lib.hid (r10.out.later z3.out)
                    go_wp2_with fail
                    exact ⟨⟨t + 1, by omega, by go_num, K11.out, r11.out⟩, by simp [intOf]; omega⟩
              · have ht6' : (6 : Int) ≤ (t : Int) := by omega
                replace K10 := Lib.hid K10
                clear r10
                go_wp2_with fail
                exact ⟨⟨j + 1, sf, sn, S, E, k, by omega, by omega, by go_num, f1.out, f2.out, K10.out⟩, by simp [intOf]; omega⟩
          · as_aux_lemma =>
            have hq4 : ((qn : Int) == 4) = false := by simp; omega
            have hq5 : ((qn : Int) == 5) = false := by simp; omega
            have hq6 : ((qn : Int) == 6) = false := by simp; omega
            have hk6 : kk < 6 := by omega
            clear hkk h4
            go_wp2_with fail
            refine (sector_any b _).mono ?_
            rintro e9 w9 ⟨rfl, r9, b9⟩
            have K9 := K1.out.later b9
            have s9 := Lib.hid (r9.all (n := 64) (M.pat_length b).symm)
            have x2' : w9.cell? ⟨gx, 2, none⟩ = some (.int .i64 b) := (b9.cell (p := ⟨gx, 2, none⟩) (by show gx < _; omega)).trans x2
            have hz9 : gx < w9.heap.size := by have := b9.size; omega
            have f2' := Lib.hid (f2.out.write K1.out.d.lE K1.out.e.2 kk b hk6)
            have hgxn : ¬ DX g r q gx := fun e => Nat.lt_irrefl _ (hgD.out gx e)
            replace hgxn := Lib.hid hgxn
            have kk0 : (0 : Int) ≤ (kk : Int) := by omega
            have kk1 : (kk : Int) < 6 := by omega
            replace K9 := Lib.hid K9
            clear r9 b9 x0 x1 x2 x3
            go_wp2_with fail
            refine (Write_any _ (kk : Int) kk _ (M.pat b) (M.lay E (kk * 64) (M.pat b)) (k + 1) 0 K9.out.d s9.out rfl hk6 (M.pat_length b) (by omega) (by rw [if_neg (by omega)]) rfl (by rw [if_neg (by omega)])).mono ?_
            rintro e10 w10 ⟨rfl, d10, x10⟩
            have K10 := K9.out.stroke d10 x10
            have x2'' : w10.cell? ⟨gx, 2, none⟩ = some (.int .i64 b) := (World.cell?_of_block (x10.block gx hz9 hgxn.out)).trans x2'
            have a1 := K10.e.cell kk hk6
            have a2 := K10.e.f kk
            have K11 := Lib.hid (K10.seen kk (b % 256) hk6)
            obtain ⟨z1, hz1⟩ : ∃ x, x = sn.getD kk 0 := ⟨_, rfl⟩
            rw [← hz1] at a1
            clear hz1 d10 x10 K10 x2'
            go_wp2_with (go_at_call 10; refine (num_is _ _).mono ?_; rintro e wn ⟨rfl, rfl⟩)
            exact ⟨⟨j + 1, sf, sn.set kk (b % 256), S, M.lay E (kk * 64) (M.pat b), k + 1, by omega, by omega, by go_num, f1.out, f2'.out, K11.out⟩, by simp [intOf]; omega⟩
        · have hor : ¬ (j < l2) ∨ (j < l2 ∧ ¬ j < 40) := by omega
          replace K := Lib.hid K
          clear f1 f2
          rcases hor with ho | ⟨ho, ho2⟩
          all_goals as_aux_lemma =>
            go_wp2_with fail
            refine (wakes_any _).mono ?_
            rintro e9 w9 ⟨rfl, b9⟩
            have K9 := Lib.hid (K.out.later b9)
            clear b9
            go_wp2_with fail
            go_ret
            exact ⟨rfl, hbw.out.trans (K9.out.bel.mono (by omega))⟩
end Go.Proofs.Ytghogkanhcihbaa
