/-
  The law MemGrows, walked: it answers true; no condition.
-/
import Derived.Test.YtmejgbbdehndaabGBounds
namespace Go.Proofs.Ytmejgbbdehndaab
open Go.RowKit
theorem Grow_yes (T : Nat) (w : World) (B g : Nat) (v : Value) (bs cs : List Nat) (most n : Int) (s : Nat) (h : MAt T w B g v bs most) (hB : B ≤ w.heap.size) (hm : -1 ≤ most ∧ most ≤ 16) (hl : bs.length ≤ 1048576) (hn : Rg n) (hs : s = bs.length / 65536) (hy : 0 ≤ n ∧ n ≤ most - (s : Int)) (k : Nat) (hk : k = n.toNat * 65536) (hcs : cs = bs ++ List.replicate k 0) :
    Calls Try.prog 8 #[Mp g, .int .i64 n] w fun e w' => e = .returned (.int .i64 (s : Int)) ∧ ∃ v', MAt T w' B g v' cs most ∧ But (Ft g v) w w' ∧ (v'.ownBlock = v.ownBlock ∨ v'.ownBlock = some w.heap.size) := by
  have hgr : M.gr bs most n = true := by unfold M.gr; rw [← hs]; simpa using hy
  refine (Grow_any T w B g v bs most n h hB hm hl hn).mono ?_
  rintro e w' (⟨h1, _⟩ | ⟨_, h2, h3⟩)
  · rw [hgr] at h1; cases h1
  · rw [← hs] at h2
    rw [← hk, ← hcs] at h3
    exact ⟨h2, h3⟩
theorem Grow_no (T : Nat) (w : World) (B g : Nat) (v : Value) (bs : List Nat) (most n : Int) (h : MAt T w B g v bs most) (hB : B ≤ w.heap.size) (hm : -1 ≤ most ∧ most ≤ 16) (hl : bs.length ≤ 1048576) (hn : Rg n) (hy : ¬ (0 ≤ n ∧ n ≤ most - ((bs.length / 65536 : Nat) : Int))) :
    Calls Try.prog 8 #[Mp g, .int .i64 n] w fun e w' => e = .returned (.int .i64 (-1)) ∧ w' = w := by
  have hgr : M.gr bs most n = false := by unfold M.gr; simpa using hy
  refine (Grow_any T w B g v bs most n h hB hm hl hn).mono ?_
  rintro e w' (⟨_, h2⟩ | ⟨h1, _⟩)
  · exact h2
  · rw [hgr] at h1; cases h1
namespace M
theorem le_zero {bs : List Nat} : ∀ (n a : Nat), (∀ j, a ≤ j → j < a + n → bs.getD j 0 = 0) → le bs n a = 0
  | 0, _, _ => rfl
  | n + 1, a, h => by
    show bs.getD a 0 + 256 * le bs n (a + 1) = 0
    rw [h a (by omega) (by omega), le_zero n (a + 1) (fun j h1 h2 => h j (by omega) (by omega))]
theorem app_old (bs xs : List Nat) (j : Nat) (h : j < bs.length) : (bs ++ xs).getD j 0 = bs.getD j 0 := by
  rw [List.getD_eq_getElem?_getD, List.getElem?_append_left h, List.getD_eq_getElem?_getD]
theorem app_new (bs : List Nat) (n j : Nat) (h : bs.length ≤ j) : (bs ++ List.replicate n 0).getD j 0 = 0 := by
  rw [List.getD_eq_getElem?_getD, List.getElem?_append_right h, List.getElem?_replicate]
  split <;> rfl
/-- k pages, each with its number in it. -/
def pages (k : Nat) (bs : List Nat) : Prop := bs.length = k * 65536 ∧ ∀ p, p < k → le bs 4 (p * 65536 + 5) = p + 1
theorem pages_new {k N : Nat} {bs : List Nat} (h : pages k bs) (a n : Nat) (ha : k * 65536 ≤ a) : le (bs ++ List.replicate N 0) n a = 0 :=
  le_zero n a fun j h1 _ => app_new bs N j (by have := h.1; omega)
theorem pages_step {k : Nat} {bs xs cs : List Nat} (h : pages k bs) (hk : k < 4) (hx : xs.length = 65536) (hcs : cs = put 4 (bs ++ xs) (k * 65536 + 5) (k + 1)) : pages (k + 1) cs := by
  have hl : (bs ++ xs).length = (k + 1) * 65536 := by rw [List.length_append, hx, h.1]; omega
  refine ⟨by rw [hcs, put_length, hl], fun p hp => ?_⟩
  rw [hcs]
  by_cases e : p = k
  · rw [e, le_put 4 _ _ _ (by omega)]
    exact Nat.mod_eq_of_lt (by omega)
  · rw [← h.2 p (by omega)]
    refine le_congr 4 _ fun j h1 h2 => ?_
    rw [put_get, if_neg (by omega), app_old bs _ j (by have := h.1; omega)]
end M
theorem pages_ld {k j : Nat} {bs : List Nat} (h : M.pages k bs) (hk : k ≤ 4) (hj : j < k) : (j + 1, (0 : Int)) = M.ld bs ((j : Int) * 65536 + 5) 0 4 := by
  rw [← M.ld_ok (M.form_of (by omega) (by omega) (by omega)) (by have := h.1; omega), ← h.2 j hj]
  congr 2
/-- What a round of the law knows. -/
structure GF (k N : Nat) (bs cs ds : List Nat) : Prop where
  hld : (0, (0 : Int)) = M.ld cs ((k : Int) * 65536) 65528 8
  hst : (ds, (0 : Int)) = M.st cs ((k : Int) * 65536) 5 4 (k + 1)
  hpd : M.pages (k + 1) ds
  hcl : cs.length = (k + 1) * 65536
  hcs : cs = bs ++ List.replicate N 0
  hlen : bs.length = k * 65536
  hgy : k = bs.length / 65536
theorem MAt.sinceF {T : Nat} {w w1 w2 : World} {B g : Nat} {v : Value} {bs : List Nat} {most : Int} (h : MAt T w1 B g v bs most) (hb : Below B w w1) (hB : B ≤ w.heap.size) (hx : But (Ft g v) w1 w2) : Below B w w2 :=
  hb.trans (hx.below h.ft (Nat.le_trans hB hb.size))
set_option maxRecDepth 100000 in
set_option maxHeartbeats 4000000 in
theorem growsWalk (mn mx limit : Int) (A : Option Addr) (l c : Nat) (w : World) : Calls Try.prog 3 #[.agg #[.int .i64 mn, .int .i64 mx, .int .i64 limit, .slice A l c]] w fun e w' => e = .returned (.bool true) ∧ Below w.heap.size w w' := by
  obtain ⟨N, hN⟩ : ∃ N : Nat, N = 65536 := ⟨_, rfl⟩
  replace hN := Lib.hid hN
  go_enter Try.func3, Try.ntmps3
  go_wp2_with fail
  obtain ⟨W0, hW0⟩ : ∃ W0, W0 = w.alloc (.cells #[.int .i64 mn, .int .i64 mx, .int .i64 limit, .slice A l c] 26) := ⟨_, rfl⟩
  rw [← hW0]
  have hz : W0.heap.size = w.heap.size + 1 := by rw [hW0]; simp
  have q3 : W0.cell? ⟨w.heap.size, 3, none⟩ = some (.slice A l c) := by rw [hW0]; simp
  have hbW : Below w.heap.size w W0 := by rw [hW0]; exact (Below.refl _ _).alloc (Nat.le_refl _) _
  clear hW0
  replace hbW := Lib.hid hbW
  refine (New_ok 0 3 4 3 _ (by decide) (by decide) (by decide)).mono ?_
  rintro e1 w1 ⟨g, v, rfl, m1, b1⟩
  replace m1 := Lib.hid m1
  replace b1 := Lib.hid b1
  go_wp2_with (first | (go_at_call 6; refine (num_any _ _).mono ?_; rintro e wn ⟨rfl, rfl⟩) | (go_at_call 7; refine (size_any 46 _ _ g v _ 3 0 m1.out (by decide)).mono ?_; rintro e wn ⟨rfl, rfl⟩))
  go_loopw [5] (fun i w' => ∃ (k : Nat) (bs : List Nat) (v : Value), k ≤ 3 ∧ i = .int .i64 k ∧ M.pages k bs ∧ MAt 46 w' W0.heap.size g v bs 3 ∧ Below W0.heap.size W0 w') (fun i _ => 4 - (intOf i).toNat)
  case atStart => exact ⟨0, [], v, by omega, rfl, ⟨rfl, fun p hp => by omega⟩, m1.out, b1.out⟩
  case round =>
    clear m1 b1
    obtain ⟨k, bs, v, hk, rfl, hp, m1, b1⟩ := hrel
    have hlen := hp.1
    by_cases hk3 : k < 3
    · obtain ⟨cs, hcs⟩ : ∃ cs, cs = bs ++ List.replicate N 0 := ⟨_, rfl⟩
      obtain ⟨ds, hds⟩ : ∃ ds, ds = M.put 4 cs (k * 65536 + 5) (k + 1) := ⟨_, rfl⟩
      have hcl : cs.length = (k + 1) * 65536 := by rw [hcs, List.length_append, List.length_replicate, hlen, hN.out]; omega
      have hld : (0, (0 : Int)) = M.ld cs ((k : Int) * 65536) 65528 8 := by
        rw [← M.ld_ok (M.form_of (by omega) (by omega) (by omega)) (by omega), hcs]
        congr 1
        exact (M.pages_new hp _ _ (by omega)).symm
      have hst : (ds, (0 : Int)) = M.st cs ((k : Int) * 65536) 5 4 (k + 1) := by
        rw [← M.st_ok (M.form_of (by omega) (by omega) (by omega)) (by omega), hds]
        congr 2
      have hpd := M.pages_step hp (by omega) (xs := List.replicate N 0) (by rw [List.length_replicate]; exact hN.out) (hds.trans (by rw [hcs]))
      have hgy : k = bs.length / 65536 := by rw [hlen]; omega
      have G : GF k N bs cs ds := ⟨hld, hst, hpd, hcl, hcs, hlen, hgy⟩
      clear hld hst hpd hcl hcs hlen hgy
      replace m1 := Lib.hid m1
      replace b1 := Lib.hid b1
      clear hds hp
      go_wp2_with fail
      refine (Grow_yes 46 _ _ g v bs cs 3 1 k m1.out b1.out.size (by omega) (by have := G.hlen; omega) (by omega) G.hgy (by omega) N (by rw [hN.out]; rfl) G.hcs).mono ?_
      rintro e2 w2 ⟨rfl, v2, m2, x2, _⟩
      have b2 := Lib.hid (m1.out.sinceF b1.out (Nat.le_refl _) x2)
      replace m2 := Lib.hid m2
      clear x2
      go_wp2_with fail
      refine (Load_any 46 _ _ g v2 cs 3 _ _ _ 0 0 m2.out (by omega) (by omega) G.hld).mono ?_
      rintro e3 w3 ⟨rfl, rfl⟩
      have hne : ((k : Int) == 3) = false := by simp; omega
      go_wp2_with (first | (go_at_call 6; refine (num_any _ _).mono ?_; rintro e wn ⟨rfl, rfl⟩) | (go_at_call 7; refine (size_any 46 _ _ g v2 cs 3 (k + 1) m2.out (by have := G.hcl; omega)).mono ?_; rintro e wn ⟨rfl, rfl⟩))
      refine (Store_any 46 _ _ g v2 cs ds 3 _ _ _ (k + 1) _ 0 m2.out (by omega) (by omega) (by omega) (by omega) G.hst).mono ?_
      rintro e4 w4 ⟨rfl, m4, x4⟩
      have b4 := Lib.hid (m2.out.since b2.out (Nat.le_refl _) x4)
      replace m4 := Lib.hid m4
      clear x4
      go_wp2_with (go_at_call 6; refine (num_any _ _).mono ?_; rintro e wn ⟨rfl, rfl⟩)
      exact ⟨⟨k + 1, ds, v2, by omega, by go_num, G.hpd, m4.out, b4.out⟩, by simp [intOf]; omega⟩
    · obtain rfl : k = 3 := by omega
      have P3 := Lib.hid hp
      have hlen2 : bs.length = 196608 := hlen
      replace hlen2 := Lib.hid hlen2
      clear hp hlen hk3
      replace m1 := Lib.hid m1
      replace b1 := Lib.hid b1
      go_wp2_with fail
      refine (Grow_no 46 _ _ g v bs 3 1 m1.out b1.out.size (by omega) (by have := hlen2.out; omega) (by omega) (by have := hlen2.out; omega)).mono ?_
      rintro e2 w2 ⟨rfl, rfl⟩
      go_wp2_with (first | (go_at_call 6; refine (num_any _ _).mono ?_; rintro e wn ⟨rfl, rfl⟩) | (go_at_call 7; refine (size_any 46 _ _ g v bs 3 3 m1.out (by have := hlen2.out; omega)).mono ?_; rintro e wn ⟨rfl, rfl⟩))
      go_loopw [9] (fun i w' => ∃ j : Nat, j ≤ 3 ∧ i = .int .i64 j ∧ MAt 46 w' W0.heap.size g v bs 3 ∧ Below W0.heap.size W0 w') (fun i _ => 3 - (intOf i).toNat)
      case atStart => exact ⟨0, by omega, rfl, m1.out, b1.out⟩
      case round =>
        clear m1 b1
        obtain ⟨j, hj, rfl, m1, b1⟩ := hrel
        replace m1 := Lib.hid m1
        replace b1 := Lib.hid b1
        by_cases hj3 : j < 3
        · go_wp2_with fail
          refine (Load_any 46 _ _ g v bs 3 _ _ _ (j + 1) 0 m1.out (by omega) (by omega) (pages_ld P3.out (by omega) hj3)).mono ?_
          rintro e3 w3 ⟨rfl, rfl⟩
          go_wp2_with (go_at_call 6; refine (num_any _ _).mono ?_; rintro e wn ⟨rfl, rfl⟩)
          exact ⟨⟨j + 1, by omega, by go_num, m1.out, b1.out⟩, by simp [intOf]; omega⟩
        · obtain rfl : j = 3 := by omega
          go_wp2_with fail
          refine (New_bad 2 1 4 _ (by omega)).mono ?_
          rintro e3 w3 ⟨rfl, b3⟩
          have m3 := Lib.hid (m1.out.later b3)
          have d3 := Lib.hid (b1.out.trans (b3.mono b1.out.size))
          clear b3
          go_wp2_with fail
          refine (New_nospc 2 (-1) 1 _ (by omega) (by omega)).mono ?_
          rintro e4 w4 ⟨rfl, b4⟩
          have m4 := Lib.hid (m3.out.later b4)
          have d4 := Lib.hid (d3.out.trans (b4.mono d3.out.size))
          clear b4
          go_wp2_with fail
          refine (Grow_no 46 _ _ g v bs 3 _ m4.out d4.out.size (by omega) (by have := hlen2.out; omega) (by omega) (by have := hlen2.out; omega)).mono ?_
          rintro e5 w5 ⟨rfl, rfl⟩
          go_wp2_with fail
          refine (Grow_no 46 _ _ g v bs 3 _ m4.out d4.out.size (by omega) (by have := hlen2.out; omega) (by omega) (by have := hlen2.out; omega)).mono ?_
          rintro e5 w5 ⟨rfl, rfl⟩
          go_wp2_with fail
          refine (Grow_yes 46 _ _ g v bs bs 3 _ 3 m4.out d4.out.size (by omega) (by have := hlen2.out; omega) (by omega) (by have := hlen2.out; omega) (by omega) 0 (by omega) (by rw [List.replicate_zero, List.append_nil])).mono ?_
          rintro e6 w6 ⟨rfl, v6, m6, x6, _⟩
          have d6 := Lib.hid (m4.out.sinceF d4.out (Nat.le_refl _) x6)
          have q3' : w6.cell? ⟨w.heap.size, 3, none⟩ = some (.slice A l c) := (d6.out.cell (by show w.heap.size < _; omega)).trans q3
          clear m6 x6
          go_wp2_with (go_at_call 6; refine (num_any _ _).mono ?_; rintro e wn ⟨rfl, rfl⟩)
          refine (wakes_any _).mono ?_
          rintro e7 w7 ⟨rfl, b7⟩
          have d7 := Lib.hid (hbW.out.trans ((d6.out.trans (b7.mono d6.out.size)).mono (by omega)))
          go_wp2_with fail
          go_ret
          exact ⟨rfl, d7.out⟩
end Go.Proofs.Ytmejgbbdehndaab
