/-
  What the program's reader of a group of locals answers; condition: the place lies in memory that was there at the call, the locals in a row of its own.
-/
import Derived.Test.YtmejgbbdehndaaaGreatMReadF
namespace Go.Proofs.YtmejgbbdehndaaaGreat
open Go.RowKit
/-- Below b nothing but the place and the cell j of g has changed. -/
structure FrB (b P g j : Nat) (w w' : World) : Prop where
  os : w'.os = w.os
  tape : w'.tape = w.tape
  output : w'.output = w.output
  size : w.heap.size ≤ w'.heap.size
  block : ∀ k, k < b → k ≠ P → k ≠ g → w'.heap[k]? = w.heap[k]?
  row : ∀ cur t, w.heap[g]? = some (.cells cur t (0, 0)) → ∃ cur', w'.heap[g]? = some (.cells cur' t (0, 0)) ∧ cur'.size = cur.size ∧ ∀ i, (i < j ∨ j + 1 ≤ i) → cur'[i]? = cur[i]?
theorem FrB.trans {b P g j : Nat} {w w1 w2 : World} (h : FrB b P g j w w1) (k : FrB b P g j w1 w2) : FrB b P g j w w2 :=
  ⟨k.os.trans h.os, k.tape.trans h.tape, k.output.trans h.output, Nat.le_trans h.size k.size, fun i h1 h2 h3 => (k.block i h1 h2 h3).trans (h.block i h1 h2 h3), fun cur t hc => by
    obtain ⟨c1, h1, h2, h3⟩ := h.row cur t hc
    obtain ⟨c2, k1, k2, k3⟩ := k.row c1 t h1
    exact ⟨c2, k1, k2.trans h2, fun i hi => (k3 i hi).trans (h3 i hi)⟩⟩
theorem FrB.refl (b P g j : Nat) (w : World) : FrB b P g j w w := ⟨rfl, rfl, rfl, Nat.le_refl _, fun _ _ _ _ => rfl, fun cur _ h => ⟨cur, h, rfl, fun _ _ => rfl⟩⟩
theorem FrB.of_kb {b P g j : Nat} {w w' : World} (h : Kb (· = P) w w') (hb : b ≤ w.heap.size) (hg : g < w.heap.size) (hne : g ≠ P) : FrB b P g j w w' :=
  ⟨h.os, h.tape, h.output, h.size, fun k h1 h2 _ => h.block k (by omega) h2, fun cur t hc => ⟨cur, by rw [h.block g hg hne]; exact hc, rfl, fun _ _ => rfl⟩⟩
theorem FrB.fr {P g j : Nat} {w w' : World} (h : FrB w.heap.size P g j w w') : Fr P g j 1 w w' := ⟨⟨h.os, h.tape, h.output, h.size, fun k h1 h2 => h.block k h1 (fun e => h2 (.inl e)) (fun e => h2 (.inr e))⟩, h.row⟩
theorem FrB.kb {P g j : Nat} {w w' : World} (h : FrB w.heap.size P g j w w') : Kb (fun k => k = P ∨ k = g) w w' := h.fr.kb
/-- Locals have been read into a row of one's own. -/
structure Gst (B P g j t b : Nat) (q : List Nat) (acc : List Int) (v : Value) (w : World) : Prop where
  pat : PAt B w P q
  row : ∃ cur, w.heap[g]? = some (.cells cur t (0, 0)) ∧ cur[j]? = some v
  own : w.ownsRow b 3 1 v acc.length (nvals acc)
  len : acc.length ≤ 64
  rng : ∀ x ∈ acc, i64R x
  hb : b ≤ w.heap.size
  hP : P < b
  hg : g < b
  ne : g ≠ P
  hB : B ≤ g
theorem Gst.later {B P g j t b : Nat} {q r : List Nat} {acc : List Int} {v : Value} {w w' : World} (h : Gst B P g j t b q acc v w) (kb : Kb (· = P) w w') (p : PAt B w' P r) : Gst B P g j t b r acc v w' := by
  obtain ⟨cur, h1, h2⟩ := h.row
  have hb := h.hb
  have hg := h.hg
  have hP := h.hP
  have hs := kb.size
  exact ⟨p, ⟨cur, by rw [kb.block g (by omega) h.ne]; exact h1, h2⟩, ownsRow_agree h.own fun k hk => kb.block k (h.own.lt k hk).2 (by have := (h.own.lt k hk).1; omega), h.len, h.rng, by omega, hP, hg, h.ne, h.hB⟩
theorem kb_new2 {P : Nat} {w w' : World} {o o2 : Obj} (h : Kb (fun k => k = P ∨ k = w.heap.size) ((w.alloc o).alloc o2) w') : Kb (· = P) w w' :=
  ⟨h.os, h.tape, h.output, by have := h.size; simp at this; omega, fun k hk hne => by
    rw [h.block k (by simp; omega) (by omega), Below.heap_alloc _ _ _ (by simp; omega)]
    exact Below.heap_alloc _ _ _ hk⟩
/-- One local more. -/
theorem grp_put {B P g j t b gg cap : Nat} {q : List Nat} {acc : List Int} {x : Int} {v : Value} {w w5 : World} {ob : Obj} (h : Gst B P g j t b q acc v w) (hl : acc.length + 1 ≤ 64) (hx : i64R x)
    (hown : w5.ownsRow b 3 1 (.slice (some ⟨gg, 0, none⟩) (acc.length + 1) cap) (acc.length + 1) (nvals acc ++ [.int .i64 x])) (hgr : (w.alloc ob).grownBy w5 v.ownBlock) (hat : v.ownBlock = some gg ∨ gg = w.heap.size + 1) :
    Gst B P g j t b q (acc ++ [x]) (.slice (some ⟨gg, 0, none⟩) (acc.length + 1) cap) (w5.setCell ⟨g, j, none⟩ (.slice (some ⟨gg, 0, none⟩) (acc.length + 1) cap)) ∧ FrB b P g j w (w5.setCell ⟨g, j, none⟩ (.slice (some ⟨gg, 0, none⟩) (acc.length + 1) cap)) ∧
      (∀ k, b ≤ k → k < w.heap.size → v.ownBlock ≠ some k → (w5.setCell ⟨g, j, none⟩ (.slice (some ⟨gg, 0, none⟩) (acc.length + 1) cap)).heap[k]? = w.heap[k]? ∧ gg ≠ k) := by
  obtain ⟨cur, h1, h2⟩ := h.row
  have hb := h.hb
  have hg := h.hg
  have hP := h.hP
  have hB := h.hB
  have hne := h.ne
  have hs5 : w.heap.size ≤ w5.heap.size := by have := hgr.size; simp at this; omega
  have hvb := fun k hk => h.own.lt k hk
  have same5 : ∀ k, k < w.heap.size → v.ownBlock ≠ some k → w5.heap[k]? = w.heap[k]? := fun k hk hne => by
    rw [hgr.block k (by simp; omega) (fun e => hne e.symm)]
    exact Below.heap_alloc _ _ _ hk
  have vold : ∀ k, k < b → v.ownBlock ≠ some k := fun k hk e => by have := (hvb k e).1; omega
  have hgg : b ≤ gg := by
    rcases hat with h | h
    · exact (hvb gg h).1
    · omega
  have hr5 : w5.heap[g]? = some (.cells cur t (0, 0)) := by rw [same5 g (by omega) (vold g hg)]; exact h1
  have so : ∀ k, k ≠ g → (w5.setCell ⟨g, j, none⟩ (.slice (some ⟨gg, 0, none⟩) (acc.length + 1) cap)).heap[k]? = w5.heap[k]? := fun k hk => Below.heap_setCell _ _ _ _ (by show k ≠ g; exact hk)
  have hPlo := h.pat.lo
  have p5 : PAt B w5 P q := h.pat.agree fun k hk => same5 k (by rcases hk with hk | rfl <;> omega) (vold k (by rcases hk with hk | rfl <;> omega))
  refine ⟨⟨p5.set hne hB _, ⟨_, row_set hr5 _, ?_⟩, ?_, by simpa using hl, fun y hy => ?_, by simp; omega, hP, hg, hne, hB⟩, ⟨hgr.os, hgr.tape, hgr.output, by simp; omega, fun k h1 h2 h3 => by rw [so k h3]; exact same5 k (by omega) (vold k h1), fun cur2 t2 h2' => ?_⟩, fun k h1 h2 h3 => ⟨by rw [so k (by omega)]; exact same5 k h2 h3, fun e => ?_⟩⟩
  · have := (Array.getElem?_eq_some_iff.1 h2).1
    simp [Array.getElem?_setIfInBounds, this]
  · have e1 : (acc ++ [x]).length = acc.length + 1 := by simp
    have e2 : nvals (acc ++ [x]) = nvals acc ++ [.int .i64 x] := by simp [nvals]
    rw [e1, e2]
    exact ownsRow_agree hown fun k hk => so k (by
      have hk : gg = k := by simpa [Value.ownBlock] using hk
      omega)
  · rcases List.mem_append.1 hy with hy | hy
    · exact h.rng y hy
    · have : y = x := by simpa using hy
      subst this
      exact hx
  · rw [h1] at h2'
    cases h2'
    exact ⟨_, row_set hr5 _, by simp, fun i hi => by rw [Array.getElem?_setIfInBounds, if_neg (by omega)]⟩
  · subst e
    rcases hat with h | h
    · exact h3 h
    · omega
def GPost (B P g j t b : Nat) (bs : List Nat) (acc : List Int) (w : World) (e : Ending) (w' : World) : Prop :=
  (∃ acc' r v', M.grp acc bs = some (acc', r) ∧ e = .returned (.bool true) ∧ Gst B P g j t b r acc' v' w' ∧ FrB b P g j w w') ∨ (M.grp acc bs = none ∧ e = .returned (.bool false) ∧ FrB b P g j w w')
theorem two_new1 (w : World) (o o2 : Obj) : ((w.alloc o).alloc o2).heap[w.heap.size]? = some o := by
  rw [Below.heap_alloc _ _ _ (by simp)]
  exact heap_alloc_new w o
theorem two_new2 (w : World) (o o2 : Obj) : ((w.alloc o).alloc o2).heap[w.heap.size + 1]? = some o2 := by
  have := heap_alloc_new (w.alloc o) o2
  simpa using this
theorem val_rng {bs r : List Nat} {y : Int} (h : M.cVal.rd bs = some (y, r)) : y = 127 ∨ y = 126 := by
  cases bs with
  | nil => cases h
  | cons b s =>
    simp [M.cVal, M.cByteI, M.isVal] at h
    omega
/-- What the loop over a group keeps up. -/
def GRel (B P g j t b n : Nat) (r : List Nat) (acc : List Int) (y : Int) (w : World) (i : Value) (w' : World) : Prop :=
  ∃ (k : Nat) (v : Value), k ≤ n ∧ i = .int .i64 (k : Nat) ∧ Gst B P g j t b r (acc ++ List.replicate k y) v w' ∧ FrB b P g j w w' ∧ w'.cell? ⟨w.heap.size + 1, 0, none⟩ = some (.int .i64 y) ∧ v.ownBlock ≠ some (w.heap.size + 1) ∧ w.heap.size + 1 < w'.heap.size
set_option maxRecDepth 100000 in
set_option maxHeartbeats 8000000 in
theorem mgroup_any (B P g j t b : Nat) (bs : List Nat) (acc : List Int) (v : Value) (w : World) (h : Gst B P g j t b bs acc v w) :
    Calls Tryz.prog 211 #[.pointer (some ⟨P, 0, none⟩), .pointer (some ⟨g, j, none⟩)] w (GPost B P g j t b bs acc w) := by
  obtain ⟨i0, hi0, hz0, hz1, hz2⟩ := info_parts int_info
  have hv := Lib.hid (show M.grp acc bs = (M.num bs).bind fun c => (M.cVal.rd c.2).bind fun v => if c.1 ≤ 64 - (acc.length : Int) then some (acc ++ List.replicate c.1.toNat v.1, v.2) else none from rfl)
  have hPl := h.pat.lt
  have hPlo := h.pat.lo
  have hb := h.hb
  have hg := h.hg
  have hP := h.hP
  have hne := h.ne
  have hB := h.hB
  have hal := h.len
  have pa := Lib.hid ((h.pat.alloc (.cells #[.int .i64 0] 3)).alloc (.cells #[.int .i64 0] 3))
  replace h := Lib.hid h
  have cN := Lib.hid (fun (W : World) (s : Same ((w.alloc (.cells #[.int .i64 0] 3)).alloc (.cells #[.int .i64 0] 3)) W) => (mnum_ok (.int .i64 0)).at s pa.out (two_new1 w _ _) (one_row _) (by omega) (by omega))
  go_enter Tryz.func211, Tryz.ntmps211
  go_wp2_with fail
  refine wp_region_mix [(false, 9), (true, 6), (false, 2)] (by kernel_rfl) (by kernel_rfl) ?_
  simp only [mixWp, List.take_succ_cons, List.take_zero, List.drop_succ_cons, List.drop_zero]
  go_wp2_with fail
  refine Calls.mono (cN.out _ (same_drew _)) ?_
  intro e1 w1 hp
  rcases hp.yes with ⟨x1, r1, q1, rfl, hy⟩ | ⟨q1, rfl, kb1⟩
  · rw [q1] at hv
    simp only [Option.bind_some] at hv
    have hy0 := (M.num_short q1).1
    unfold M.inR at hy0
    obtain ⟨y0, y1⟩ := hy0
    obtain ⟨n, rfl⟩ := Int.eq_ofNat_of_zero_le y0
    have k1 := kb_new2 hy.2.2.2.kb
    have hs1 : w.heap.size + 1 < w1.heap.size := by have := hy.2.2.2.kb.size; simp at this; omega
    obtain ⟨cs1, ⟨rfl, _⟩, hc1⟩ := hy.2.2.1
    have cc : w1.cell? ⟨w.heap.size, 0, none⟩ = some (.int .i64 n) := hc1 0 _ rfl
    have hr1 : w1.heap[w.heap.size + 1]? = some (.cells #[.int .i64 0] 3 (0, 0)) := by rw [hy.2.2.2.kb.block _ (by simp) (by omega)]; exact two_new2 w _ _
    have p1 := hy.2.1
    replace k1 := Lib.hid k1
    replace hr1 := Lib.hid hr1
    replace p1 := Lib.hid p1
    have cM := Lib.hid (fun (W : World) (s : Same w1 W) => (mval_ok (.int .i64 0)).at s p1.out hr1.out (one_row _) (by omega) (by omega))
    clear hp hy hc1 y0 y1
    go_wp2_with fail
    refine Calls.mono (cM.out _ ⟨rfl, rfl, rfl, rfl⟩) ?_
    intro e2 w2 hp
    rcases hp.yes with ⟨y, r2, q2, rfl, hy⟩ | ⟨q2, rfl, kb2⟩
    · rw [q2] at hv
      simp only [Option.bind_some, Int.toNat_natCast] at hv
      have hyr := val_rng q2
      have kk := hy.2.2.2.kb
      have k2 : Kb (· = P) w w2 := ⟨kk.os.trans k1.out.os, kk.tape.trans k1.out.tape, kk.output.trans k1.out.output, by have := kk.size; omega, fun k hk hn => by rw [kk.block k (by omega) (by omega)]; exact k1.out.block k hk hn⟩
      have hs2 : w.heap.size + 1 < w2.heap.size := by have := kk.size; omega
      have cc2 : w2.cell? ⟨w.heap.size, 0, none⟩ = some (.int .i64 n) := (World.cell?_of_block (w := w1) (kk.block w.heap.size (by omega) (by omega))).trans cc
      obtain ⟨cs2, ⟨rfl, _⟩, hc2⟩ := hy.2.2.1
      have ck : w2.cell? ⟨w.heap.size + 1, 0, none⟩ = some (.int .i64 y) := hc2 0 _ rfl
      have g2 := h.out.later k2 hy.2.1
      obtain ⟨cur2, hr2, hc2'⟩ := g2.row
      have cg : w2.cell? ⟨g, j, none⟩ = some v := (cell_row hr2 j).trans hc2'
      have fb0 := Lib.hid (FrB.of_kb (j := j) k2 hb (by omega) hne)
      obtain ⟨Av, cv, hvs⟩ : ∃ A c, v = .slice A acc.length c := by
        rcases g2.own.2 with ⟨rfl, h0⟩ | ⟨g', cap, cu, rfl, _⟩
        · exact ⟨none, 0, by rw [h0]⟩
        · exact ⟨_, _, rfl⟩
      subst hvs
      have vnk : ∀ k, (Value.slice Av acc.length cv).ownBlock = some k → k < w.heap.size := fun k hk => (h.out.own.lt k hk).2
      replace vnk := Lib.hid vnk
      replace g2 := Lib.hid g2
      replace k2 := Lib.hid k2
      clear hp hy hc2 kk cc hr2 hc2'
      have tw : IntKind.i64.wrap (64 - (acc.length : Int)) = 64 - (acc.length : Int) := by rw [IntKind.wrap_i64]; omega
      by_cases hl : (n : Int) ≤ 64 - (acc.length : Int)
      · rw [if_pos hl] at hv
        have t1 : decide (64 - (acc.length : Int) < (n : Int)) = false := by simp; omega
        go_wp2_with fail
        repeat still_step
        refine wpStill_nil ?_
        go_wp2_with fail
        go_loopw [25] (fun i w' => GRel B P g j t b n r2 acc y w i w') (fun i _ => n - (intOf i).toNat)
        case atStart => exact ⟨0, _, by omega, rfl, by simpa using g2.out, fb0.out, ck, fun e => by have := vnk.out _ e; omega, hs2⟩
        case round =>
          obtain ⟨k, v', hk, rfl, gs, fb, ck', vn, hsw⟩ := hrel
          have hlenr : (acc ++ List.replicate k y).length = acc.length + k := by simp
          obtain ⟨accK, hacK⟩ : ∃ a, a = acc ++ List.replicate k y := ⟨_, rfl⟩
          rw [← hacK] at gs hlenr
          obtain ⟨cur3, hr3, hc3⟩ := gs.row
          have cg3 : wr.cell? ⟨g, j, none⟩ = some v' := (cell_row hr3 j).trans hc3
          have fg3 := frozen_row hr3 j
          have hbr := gs.hb
          have own3 := Lib.hid gs.own
          have vne := Lib.hid (show ∀ k, v'.ownBlock = some k → k ≠ g from fun k hk => by have := (gs.own.lt k hk).1; omega)
          replace gs := Lib.hid gs
          replace fb := Lib.hid fb
          replace vn := Lib.hid vn
          replace hacK := Lib.hid hacK
          clear ck cg
          by_cases hlt : k < n
          · have hgs : g < wr.heap.size := by omega
            have hl64 : accK.length + 1 ≤ 64 := by omega
            have hlw : accK.length + 1 ≤ 140737488355328 := by omega
            replace hlenr := Lib.hid hlenr
            have fin := Lib.hid (fun gg cap w5 ob hown hgr hat => grp_put (gg := gg) (cap := cap) (w5 := w5) (ob := ob) (x := y) gs.out hl64 (by rcases hyr with rfl | rfl <;> exact ⟨by decide, by decide⟩) hown hgr hat)
            go_wp2_with fail
            go_region_law (refine step_append_lies _ (by rfl) _ _ _ (by rfl) b 3 i0 _ 1 8 Tryz.underlying52 hi0 hz0 hz1 hz2 rfl (by omega) v' accK.length (nvals accK) (by rfl) (by first | exact own3.out.alloc _ | exact ownsRow_agree (own3.out.alloc (.cells #[.int .i64 y] 3)) (fun _ _ => rfl)) ⟨wr.heap.size, 0, none⟩ 1 1 [.int .i64 y] (by rfl) (by rfl) (World.news_of_block (cs := #[.int .i64 y]) (t := 3) (fr := (0, 0)) (heap_alloc_new wr _)) (by simp [Value.oneCell']) (by omega) (by unfold maxLen; omega) (by omega) (by simp; omega) (wr.heap.size + 1) (by simp) ?_; intro gg cap w5 hown5 hgrow5 hat5 hlt5; have hb5 : w5.heap[g]? = wr.heap[g]? := (hgrow5.block g (by simp; omega) (fun e => (vne.out g e.symm) rfl)).trans (Below.heap_alloc wr (.cells #[.int .i64 y] 3) g hgs); have c65 : w5.cell? ⟨g, j, none⟩ = some v' := (World.cell?_of_block (w := wr) hb5).trans cg3; have f65 : w5.frozen? ⟨g, j, none⟩ = false := (World.frozen?_of_block (w := wr) hb5).trans fg3; clear hb5)
            all_goals go_wp2_with fail
            all_goals (
              obtain ⟨F1, F2, F3⟩ := fin.out gg cap w5 (.cells #[.int .i64 y] 3) hown5 (grown_drew hgrow5) hat5
              obtain ⟨F4, F5⟩ := F3 (w.heap.size + 1) (by omega) hsw vn.out
              refine ⟨⟨k + 1, .slice (some ⟨gg, 0, none⟩) (accK.length + 1) cap, by omega, by go_num, ?_, fb.out.trans F2, (World.cell?_of_block (w := wr) F4).trans ck', fun e => F5 (by simpa [Value.ownBlock] using e), by have := F2.size; omega⟩, by simp [intOf]; omega⟩
              have e9 : acc ++ List.replicate (k + 1) y = accK ++ [y] := by rw [hacK.out, List.replicate_succ', List.append_assoc]
              rw [e9]
              exact F1)
          · have hkn : k = n := by omega
            have tlt : decide ((k : Int) < (n : Int)) = false := by simp; omega
            replace hkn := Lib.hid hkn
            go_wp2_with fail
            go_ret
            exact .inl ⟨accK, r2, v', by rw [hv.out, hacK.out, hkn.out], rfl, gs.out, fb.out⟩
      · rw [if_neg hl] at hv
        have t1 : decide (64 - (acc.length : Int) < (n : Int)) = true := by simp; omega
        go_wp2_with fail
        repeat still_step
        refine wpStill_nil ?_
        go_wp2_with fail
        go_ret
        exact .inr ⟨hv.out, rfl, fb0.out⟩
    · rw [q2] at hv
      have k2 : Kb (· = P) w w2 := ⟨kb2.os.trans k1.out.os, kb2.tape.trans k1.out.tape, kb2.output.trans k1.out.output, by have := kb2.size; omega, fun k hk hn => by rw [kb2.block k (by omega) (by omega)]; exact k1.out.block k hk hn⟩
      have fb0 := Lib.hid (FrB.of_kb (j := j) k2 hb (by omega) hne)
      clear hp kb2 k2
      go_wp2_with fail
      repeat still_step
      refine wpStill_nil ?_
      go_wp2_with fail
      go_ret
      exact .inr ⟨hv.out, rfl, fb0.out⟩
  · rw [q1] at hv
    have fb0 := Lib.hid (FrB.of_kb (j := j) (kb_new2 kb1) hb (by omega) hne)
    clear hp kb1
    go_wp2_with fail
    repeat still_step
    refine wpStill_nil ?_
    go_wp2_with fail
    go_ret
    exact .inr ⟨hv.out, rfl, fb0.out⟩
end Go.Proofs.YtmejgbbdehndaaaGreat
