/-
  What the page's helper functions answer: bytes, numbers and instructions held against each other, what instructions weigh; condition: the lists lie in memory that was there at the call.
-/
import Derived.Test.YtmejgbbdehndaaaGreatCMem
import Derived.Test.YtmejgbbdehndaaaGreatPuts
import Derived.StillTailTactics
namespace Go.Proofs.YtmejgbbdehndaaaGreat
open Go.RowKit
theorem getD_vals (bs : List Nat) (i : Nat) (h : i < bs.length) : (vals bs)[i]? = some (.int .u8 ((bs.getD i 0 : Nat) : Int)) := by
  unfold vals
  rw [List.getElem?_map, List.getElem?_eq_getElem h, List.getD_eq_getElem?_getD, List.getElem?_eq_getElem h]
  rfl
/-- New memory that holds bytes reads as these bytes. -/
theorem own_BS {w : World} {base : Nat} {v : Value} {bs : List Nat} (h : w.ownsRow base 5 1 v bs.length (vals bs)) (hlt : ∀ b ∈ bs, b < 256) : BS w w.heap.size v bs := by
  rcases h.2 with ⟨rfl, h0⟩ | ⟨g, cap, cur, rfl, _, _, h1, h2, _⟩
  · exact ⟨none, 0, by rw [h0], by omega, by unfold maxLen; omega, fun i hi => by omega⟩
  · refine ⟨_, _, rfl, h1, h2, fun i hi => ⟨⟨g, 0, none⟩, rfl, (h.lt g rfl).2, ?_, ?_⟩⟩
    · exact hlt _ (by show bs.getD i 0 ∈ bs; rw [List.getD_eq_getElem?_getD, List.getElem?_eq_getElem hi]; exact List.getElem_mem hi)
    · exact h.cells (g := g) rfl i _ (getD_vals bs i hi)
/-- New memory stays as it is behind what leaves all blocks alone. -/
theorem own_later {w w' : World} {b e s n : Nat} {v : Value} {xs : List Value} (h : w.ownsRow b e s v n xs) (hb : Below w.heap.size w w') : w'.ownsRow b e s v n xs :=
  h.kept (row := none) ⟨hb.os, hb.tape, hb.output, hb.size, fun i hi _ => hb.block i hi⟩ (by cases v.ownBlock <;> simp)
theorem EqBytes_same (v1 v2 : Value) (bs : List Nat) (w : World) (h1 : BS w w.heap.size v1 bs) (h2 : BS w w.heap.size v2 bs) :
    Calls Tryz.prog 13 #[v1, v2] w fun e w' => e = .returned (.bool true) ∧ Below w.heap.size w w' := by
  obtain ⟨A, c, rfl, a1, a2, ha⟩ := h1
  obtain ⟨B, d, rfl, b1, b2, hb⟩ := h2
  obtain ⟨n, hn⟩ : ∃ n, n = bs.length := ⟨_, rfl⟩
  obtain ⟨f, hf⟩ : ∃ f : Nat → Nat, f = fun i => bs.getD i 0 := ⟨_, rfl⟩
  rw [← hn] at a1 ha hb ⊢
  rw [← hf] at ha hb
  clear hn hf b1 b2
  unfold maxLen at a2
  replace ha := Lib.hid ha
  replace hb := Lib.hid hb
  have hne : ((n : Int) != (n : Int)) = false := by simp
  go_enter Tryz.func13, Tryz.ntmps13
  go_wp2
  go_loopw [5] (fun i w' => ∃ k : Nat, k ≤ n ∧ i = .int .i64 k ∧ Below w.heap.size w w') (fun i _ => n - (intOf i).toNat)
  case atStart => exact ⟨0, by omega, rfl, Below.refl _ _⟩
  case round =>
    obtain ⟨k, hk, rfl, hbw⟩ := hrel
    by_cases hlt : k < n
    · obtain ⟨a1, rfl, _, _, q1⟩ := ha.out.later hbw k hlt
      obtain ⟨a2, rfl, _, _, q2⟩ := hb.out.later hbw k hlt
      have t0 : (0 : Int) ≤ (k : Int) := by omega
      have t1 : (k : Int) < (n : Int) := by omega
      go_wp2_with fail
      go_quiet (fail)
      go_wp2
      exact ⟨⟨k + 1, by omega, by go_num, below_drewN hbw _⟩, by simp [intOf]; omega⟩
    · go_wp2
      go_ret
      exact ⟨rfl, hbw⟩
def WPost (l : M.L) (n : Int) (w : World) (e : Ending) (w' : World) : Prop :=
  ∃ r : Int, e = .returned (.int .i64 r) ∧ 0 ≤ r ∧ r ≤ 281474976710656 ∧ (r ≤ 2000 → r = n + (l.sz : Nat)) ∧ Below w.heap.size w w'
def szT (k : Nat) (l : M.L) : Nat := (M.L.take k l).sz
theorem szT_step {l : M.L} {k : Nat} {h : M.Hd} {b e : M.L} (hn : l.nth k = some (h, b, e)) : szT (k + 1) l = szT k l + (h.labels.length + b.sz + e.sz + 1) := by
  unfold szT
  rw [M.take_nth hn, M.sz_app]
  simp [M.L.sz]
theorem Weight_any (N : Nat) : ∀ (l : M.L) (v : Value) (n deep : Int) (w : World), l.sz < N → LB w v l → 0 ≤ n → n ≤ 281474976710656 → 0 ≤ deep → deep ≤ 61 →
    Calls Tryz.prog 48 #[v, .int .i64 n, .int .i64 deep] w (WPost l n w) := by
  induction N with
  | zero => intro l v n deep w h; omega
  | succ N ih =>
    intro l v n deep w hN hl h0 h1 h2 h3
    obtain ⟨A, c, rfl, hc1, hc2, hc3⟩ := hl.form
    unfold maxLen at hc3
    replace hl := Lib.hid hl
    by_cases hd : 60 < deep
    · go_enter Tryz.func48, Tryz.ntmps48
      go_wp2_with fail
      go_ret
      exact ⟨100000, rfl, by omega, by omega, fun h => by omega, Below.refl _ _⟩
    · go_enter Tryz.func48, Tryz.ntmps48
      go_wp2_with fail
      go_loopw [1, 7] (fun m i w' => ∃ (k : Nat) (r : Int), k ≤ l.len ∧ i = .int .i64 k ∧ m = .int .i64 r ∧ 0 ≤ r ∧ r ≤ 281474976710656 ∧ (r ≤ 2000 → r = n + (szT k l : Nat)) ∧ Below w.heap.size w w') (fun _ i _ => l.len - (intOf i).toNat)
      case atStart => exact ⟨0, n, by omega, rfl, rfl, by omega, by omega, fun _ => by simp [szT, M.take_zero, M.L.sz], Below.refl _ _⟩
      case round =>
        obtain ⟨k, r, hk, rfl, rfl, r0, r1, hr, hbw⟩ := hrel
        replace hr := Lib.hid hr
        by_cases hlt : k < l.len
        · by_cases hr5 : r < 100000
          · obtain ⟨h, b, e, hn⟩ := M.nth_of hlt
            obtain ⟨g, o, vL, vB, vE, rfl, hg, hi, hR, hL, hB, hE⟩ := (hl.out.later hbw).nth' hn
            have hsz := (M.nth_some hn).2
            have hst := Lib.hid (szT_step hn)
            clear hn hR
            obtain ⟨c0, c1, c2, c3, c4, c5, c6, c7, c8⟩ := hi
            clear c0 c1 c2 c3 c4 c5
            obtain ⟨AL, cL, rfl, hL1, hL2, hL3⟩ := hL.form
            unfold maxLen at hL3
            clear hL
            replace hB := Lib.hid hB
            replace hE := Lib.hid hE
            replace hbw := Lib.hid hbw
            go_wp2_with fail
            refine (ih b vB _ _ _ (by omega) hB.out (by omega) (by omega) (by omega) (by omega)).mono ?_
            rintro e1 w1 ⟨r1', rfl, p0, p1, p2, b1⟩
            have d8 : w1.cell? ⟨g, o + k * 9 + 8, none⟩ = some vE := by rw [b1.cell (by exact hg)]; exact c8
            have hE1 := Lib.hid (hE.out.later b1)
            replace p2 := Lib.hid p2
            replace b1 := Lib.hid b1
            go_wp2_with fail
            refine (ih e vE _ _ _ (by omega) hE1.out (by omega) (by omega) (by omega) (by omega)).mono ?_
            rintro e2 w2 ⟨r2', rfl, q0, q1, q2, b2⟩
            replace q2 := Lib.hid q2
            replace b2 := Lib.hid b2
            go_wp2_with fail
            refine ⟨⟨k + 1, r2', by omega, by go_num, rfl, q0, q1, fun hq => ?_, hbw.out.trans ((b1.out.trans (b2.out.mono b1.out.size)).mono hbw.out.size)⟩, by simp [intOf]; omega⟩
            have t1 := q2.out hq
            have t2 := p2.out (by omega)
            have t3 := hr.out (by omega)
            have t4 := hst.out
            omega
          · go_wp2_with fail
            go_ret
            exact ⟨r, rfl, r0, r1, fun h => by omega, hbw⟩
        · obtain rfl : k = l.len := by omega
          have hT := Lib.hid (M.take_all l (Nat.le_refl _))
          go_wp2_with fail
          go_ret
          refine ⟨r, rfl, r0, r1, fun h => ?_, hbw⟩
          have t1 := hr.out h
          unfold szT at t1
          rw [hT.out] at t1
          exact t1
theorem EqNumbers_fn (A B : Option Addr) (n c d : Nat) (f : Nat → Int) (w : World) (hn : n ≤ 140737488355328) (h1 : Ints w w.heap.size A n f) (h2 : Ints w w.heap.size B n f) :
    Calls Tryz.prog 95 #[.slice A n c, .slice B n d] w fun e w' => e = .returned (.bool true) ∧ Below w.heap.size w w' := by
  replace h1 := Lib.hid h1
  replace h2 := Lib.hid h2
  have hne : ((n : Int) != (n : Int)) = false := by simp
  go_enter Tryz.func95, Tryz.ntmps95
  go_wp2
  go_loopw [5] (fun i w' => ∃ k : Nat, k ≤ n ∧ i = .int .i64 k ∧ Below w.heap.size w w') (fun i _ => n - (intOf i).toNat)
  case atStart => exact ⟨0, by omega, rfl, Below.refl _ _⟩
  case round =>
    obtain ⟨k, hk, rfl, hbw⟩ := hrel
    by_cases hlt : k < n
    · obtain ⟨ad1, rfl, s1, _, q1⟩ := h1.out.later hbw k hlt
      obtain ⟨ad2, rfl, s2, _, q2⟩ := h2.out.later hbw k hlt
      have t0 : (0 : Int) ≤ (k : Int) := by omega
      have t1 : (k : Int) < (n : Int) := by omega
      go_wp2_with fail
      go_quiet (fail)
      go_wp2
      exact ⟨⟨k + 1, by omega, by go_num, below_drewN hbw _⟩, by simp [intOf]; omega⟩
    · go_wp2
      go_ret
      exact ⟨rfl, hbw⟩
theorem NS.ints {w : World} {v : Value} {xs : List Int} (h : NB w v xs) : ∃ A c, v = .slice A xs.length c ∧ xs.length ≤ 140737488355328 ∧ Ints w w.heap.size A xs.length (fun i => xs.getD i 0) := by
  obtain ⟨A, c, rfl, ⟨a1, a2, a3⟩, h1⟩ := h
  exact ⟨A, c, rfl, a1, fun i hi => h1 i hi⟩
theorem EqNumbers_same (v1 v2 : Value) (xs : List Int) (w : World) (h1 : NB w v1 xs) (h2 : NB w v2 xs) :
    Calls Tryz.prog 95 #[v1, v2] w fun e w' => e = .returned (.bool true) ∧ Below w.heap.size w w' := by
  obtain ⟨A, c, rfl, a1, h1⟩ := h1.ints
  obtain ⟨B, d, rfl, _, h2⟩ := h2.ints
  exact EqNumbers_fn A B _ c d _ w a1 h1 h2
def Item9 (h : M.Hd) (vL vB vE : Value) : Value := .agg #[.int .i64 h.op, .int .i64 h.ty, .int .i64 h.ix, .int .i64 h.al, .int .i64 h.ofs, .int .i64 h.val, vL, vB, vE]
/-- Two blocks, laid one behind the other. -/
theorem two_new {w w' : World} {x y : Array Value} {t : TypeId} (hb : Below ((w.alloc (.cells x t)).alloc (.cells y t)).heap.size ((w.alloc (.cells x t)).alloc (.cells y t)) w') :
    Below w.heap.size w w' ∧ (∀ j, w'.cell? ⟨w.heap.size, j, none⟩ = x[j]?) ∧ ∀ j, w'.cell? ⟨w.heap.size + 1, j, none⟩ = y[j]? := by
  refine ⟨(((Below.refl _ _).alloc (Nat.le_refl _) _).alloc (by simp) _).trans (hb.mono (by simp; omega)), fun j => ?_, fun j => ?_⟩
  · rw [hb.cell (p := ⟨w.heap.size, j, none⟩) (by simp; omega)]
    simp
  · rw [hb.cell (p := ⟨w.heap.size + 1, j, none⟩) (by simp)]
    simp
theorem two_below (w : World) (x y : Array Value) (t : TypeId) : Below w.heap.size w ((w.alloc (.cells x t)).alloc (.cells y t)) := ((Below.refl _ _).alloc (Nat.le_refl _) _).alloc (by simp) _
set_option maxRecDepth 100000 in
theorem EqInstr_of (N : Nat) (ih : ∀ (l : M.L) (v1 v2 : Value) (w : World), l.sz < N → LB w v1 l → LB w v2 l → Calls Tryz.prog 96 #[v1, v2] w fun e w' => e = .returned (.bool true) ∧ Below w.heap.size w w')
    (h : M.Hd) (b e : M.L) (vL vB vE uL uB uE : Value) (w : World) (hb : b.sz < N) (he : e.sz < N) (h1 : NB w vL h.labels) (h2 : LB w vB b) (h3 : LB w vE e) (k1 : NB w uL h.labels) (k2 : LB w uB b) (k3 : LB w uE e) :
    Calls Tryz.prog 97 #[.agg #[.int .i64 h.op, .int .i64 h.ty, .int .i64 h.ix, .int .i64 h.al, .int .i64 h.ofs, .int .i64 h.val, vL, vB, vE], .agg #[.int .i64 h.op, .int .i64 h.ty, .int .i64 h.ix, .int .i64 h.al, .int .i64 h.ofs, .int .i64 h.val, uL, uB, uE]] w fun e w' => e = .returned (.bool true) ∧ Below w.heap.size w w' := by
  replace h1 := Lib.hid h1
  replace h2 := Lib.hid h2
  replace h3 := Lib.hid h3
  replace k1 := Lib.hid k1
  replace k2 := Lib.hid k2
  replace k3 := Lib.hid k3
  go_enter Tryz.func97, Tryz.ntmps97
  go_wp2_with fail
  refine (EqNumbers_same vL uL h.labels _ (h1.out.later (two_below _ _ _ _)) (k1.out.later (two_below _ _ _ _))).mono ?_
  rintro e1 w1 ⟨rfl, b1⟩
  obtain ⟨d1, f1, g1⟩ := two_new b1
  have c7 : w1.cell? ⟨w.heap.size, 7, none⟩ = some vB := f1 7
  have c8 : w1.cell? ⟨w.heap.size, 8, none⟩ = some vE := f1 8
  have e7 : w1.cell? ⟨w.heap.size + 1, 7, none⟩ = some uB := g1 7
  have e8 : w1.cell? ⟨w.heap.size + 1, 8, none⟩ = some uE := g1 8
  have z1 : w.heap.size + 1 < w1.heap.size := by have := b1.size; simp at this; omega
  clear f1 g1 b1
  replace d1 := Lib.hid d1
  go_wp2_with fail
  refine (ih b vB uB _ hb (h2.out.later d1.out) (k2.out.later d1.out)).mono ?_
  rintro e2 w2 ⟨rfl, b2⟩
  have c8' : w2.cell? ⟨w.heap.size, 8, none⟩ = some vE := by rw [b2.cell (by show w.heap.size < _; omega)]; exact c8
  have e8' : w2.cell? ⟨w.heap.size + 1, 8, none⟩ = some uE := by rw [b2.cell (by show w.heap.size + 1 < _; omega)]; exact e8
  have d2 := Lib.hid (d1.out.trans (b2.mono d1.out.size))
  clear b2 c7 c8 e7 e8
  go_wp2_with fail
  refine (ih e vE uE _ he (h3.out.later d2.out) (k3.out.later d2.out)).mono ?_
  rintro e3 w3 ⟨rfl, b3⟩
  have d3 := Lib.hid (d2.out.trans (b3.mono d2.out.size))
  clear b3
  go_wp2_with fail
  go_ret
  exact ⟨rfl, d3.out⟩
set_option maxRecDepth 100000 in
theorem EqInstrs_of (N : Nat) : ∀ (l : M.L) (v1 v2 : Value) (w : World), l.sz < N → LB w v1 l → LB w v2 l → Calls Tryz.prog 96 #[v1, v2] w fun e w' => e = .returned (.bool true) ∧ Below w.heap.size w w' := by
  induction N with
  | zero => intro l v1 v2 w h; omega
  | succ N ih =>
    intro l v1 v2 w hN hl1 hl2
    obtain ⟨A, c, rfl, hc1, hc2, hc3⟩ := hl1.form
    obtain ⟨B, d, rfl, hd1, hd2, hd3⟩ := hl2.form
    unfold maxLen at hc3 hd3
    replace hl1 := Lib.hid hl1
    replace hl2 := Lib.hid hl2
    have hne : ((l.len : Int) != (l.len : Int)) = false := by simp
    go_enter Tryz.func96, Tryz.ntmps96
    go_wp2_with fail
    go_loopw [5] (fun i w' => ∃ k : Nat, k ≤ l.len ∧ i = .int .i64 k ∧ Below w.heap.size w w') (fun i _ => l.len - (intOf i).toNat)
    case atStart => exact ⟨0, by omega, rfl, Below.refl _ _⟩
    case round =>
      obtain ⟨k, hk, rfl, hbw⟩ := hrel
      by_cases hlt : k < l.len
      · obtain ⟨h, b, e, hn⟩ := M.nth_of hlt
        obtain ⟨g, o, vL, vB, vE, rfl, hg, hi, _, hL, hB, hE⟩ := (hl1.out.later hbw).nth' hn
        obtain ⟨g', o', uL, uB, uE, rfl, hg', hi', _, hL', hB', hE'⟩ := (hl2.out.later hbw).nth' hn
        have hsz := (M.nth_some hn).2
        clear hn
        obtain ⟨c0, c1, c2, c3, c4, c5, c6, c7, c8⟩ := hi
        obtain ⟨e0, e1, e2, e3, e4, e5, e6, e7, e8⟩ := hi'
        replace hL := Lib.hid hL
        replace hB := Lib.hid hB
        replace hE := Lib.hid hE
        replace hL' := Lib.hid hL'
        replace hB' := Lib.hid hB'
        replace hE' := Lib.hid hE'
        have t0 : (0 : Int) ≤ (k : Int) := by omega
        have t1 : (k : Int) < (l.len : Int) := by omega
        go_wp2_with fail
        go_still_tail 8, (by kernel_rfl)
        change wpList _ _ _ _ _ wr.drew
        go_wp2_with fail
        refine (EqInstr_of N ih h b e vL vB vE uL uB uE _ (by omega) (by omega) (hL.out.later (Below.refl _ _).drew) (hB.out.later (Below.refl _ _).drew) (hE.out.later (Below.refl _ _).drew) (hL'.out.later (Below.refl _ _).drew) (hB'.out.later (Below.refl _ _).drew) (hE'.out.later (Below.refl _ _).drew)).mono ?_
        rintro e1 w1 ⟨rfl, b1⟩
        have d1 := Lib.hid (hbw.drew.trans (b1.mono hbw.drew.size))
        clear b1
        go_wp2_with fail
        exact ⟨⟨k + 1, by omega, by go_num, d1.out⟩, by simp [intOf]; omega⟩
      · go_wp2_with fail
        go_ret
        exact ⟨rfl, hbw⟩
theorem EqInstrs_same (l : M.L) (v1 v2 : Value) (w : World) (h1 : LB w v1 l) (h2 : LB w v2 l) : Calls Tryz.prog 96 #[v1, v2] w fun e w' => e = .returned (.bool true) ∧ Below w.heap.size w w' :=
  EqInstrs_of (l.sz + 1) l v1 v2 w (Nat.lt_succ_self _) h1 h2
def HeavyPost (l : M.L) (bs : List Nat) (w : World) (e : Ending) (w' : World) : Prop :=
  (e = .returned (.bool true) ∨ (e = .returned (.bool false) ∧ l.sz ≤ 2000 ∧ bs.length ≤ 4000)) ∧ Below w.heap.size w w'
end Go.Proofs.YtmejgbbdehndaaaGreat
