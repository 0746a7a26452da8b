/-
  Numbers and instructions copied into new memory; condition: they lie in memory that was there at the call, and weigh no more than a hundred thousand.
-/
import Derived.Test.YtjapcalndolamaaSpoilW
namespace Go.Proofs.Ytjapcalndolamaa
open Go.RowKit
theorem nvals_append (a b : List Int) : nvals (a ++ b) = nvals a ++ nvals b := by simp [nvals]
theorem take_succI (bs : List Int) (k : Nat) (h : k < bs.length) : bs.take (k + 1) = bs.take k ++ [bs.getD k 0] := by
  rw [List.take_add_one, List.getElem?_eq_getElem h, List.getD_eq_getElem?_getD, List.getElem?_eq_getElem h]
  rfl
theorem CopyNumbers_any (v : Value) (xs : List Int) (w : World) (hn : xs.length ≤ 100000) (h : NB w v xs) :
    Calls Try.prog 56 #[v] w fun e w' => ∃ u, e = .returned u ∧ OwnN w' (Since w.heap.size w') u xs ∧ Below w.heap.size w w' := by
  obtain ⟨i0, hi0, hz0, hz1, hz2⟩ := info_parts int_info
  obtain ⟨A, c, rfl, ⟨a1, a2, a3⟩, ha⟩ := h
  obtain ⟨n, hN⟩ : ∃ n, n = xs.length := ⟨_, rfl⟩
  have hrng := Lib.hid (show ∀ x ∈ xs, -9223372036854775808 ≤ x ∧ x ≤ 9223372036854775807 from fun x hx => by
    obtain ⟨i, hi, rfl⟩ := List.getElem_of_mem hx
    obtain ⟨_, _, _, h9, _⟩ := ha i hi
    rwa [List.getD_eq_getElem?_getD, List.getElem?_eq_getElem hi] at h9)
  rw [← hN] at a1 a2 ha hn ⊢
  replace hN := Lib.hid hN
  unfold maxLen at a3
  replace ha := Lib.hid ha
  go_enter Try.func56, Try.ntmps56
  go_wp2
  go_loopw [3, 4] (fun b i w' => ∃ k : Nat, k ≤ n ∧ i = .int .i64 k ∧ w'.ownsRow w.heap.size 3 1 b k (nvals (xs.take k)) ∧ Below w.heap.size w w') (fun _ i _ => n - (intOf i).toNat)
  case atStart => exact ⟨0, by omega, rfl, World.ownsRow_nil _ _ _ _, Below.refl _ _⟩
  case round =>
    obtain ⟨k, hk, rfl, hown, hb⟩ := hrel
    replace hown := Lib.hid hown
    by_cases hlt : k < n
    · obtain ⟨ad, rfl, hS, hx, q0⟩ := ha.out k hlt
      have q1 : wr.cell? (ad.add k) = some (.int .i64 (xs.getD k 0)) := by rw [hb.cell (by rw [addr_block]; exact hS)]; exact q0
      obtain ⟨x, hxe⟩ : ∃ x, x = xs.getD k 0 := ⟨_, rfl⟩
      rw [← hxe] at q1
      replace hxe := Lib.hid hxe
      clear q0 hx
      have t0 : (0 : Int) ≤ (k : Int) := by omega
      have t1 : (k : Int) < (n : Int) := by omega
      go_wp2_with (first
        | (at_builtin; refine wpList_append_own _ rfl _ _ 46 rfl w.heap.size 3 i0 (.int .i64 0) 1 8 Try.underlying46 hi0 hz0 hz1 hz2 rfl (by decide) u3 k (nvals (xs.take k)) rfl (hown.out.alloc _) ⟨_, 0, none⟩ 1 1 [_] rfl rfl (cell_one_new _ _ _) (fun x hx => by simp at hx; subst hx; rfl) (by unfold maxLen; omega) (by omega) (by have := hb.size; simp; omega) ?_; intro v' w3 hown' hgrow3 hnil3))
      refine ⟨⟨k + 1, by omega, by go_num, ?_, ?_⟩, by simp [intOf]; omega⟩
      · rw [take_succI xs k (by rw [← hN.out]; exact hlt), nvals_append]
        rw [hxe.out] at hown'
        exact hown'
      · exact (hb.alloc hb.size _).grown hgrow3 (by have := hb.size; simp; omega) (fun q hq => (hown.out.lt q hq).1)
    · obtain rfl : k = n := by omega
      go_wp2
      go_ret
      have := hown.out
      rw [hN.out, List.take_length] at this
      exact ⟨_, rfl, ⟨ownsRow_base this (fun _ _ => Nat.zero_le _), fun g hg => this.lt g hg, by rw [← hN.out]; exact hn, hrng.out⟩, hb⟩
def CopyOk (N : Nat) : Prop := ∀ (l : M.L) (v : Value) (w : World), l.sz < N → LB w v l → l.sz ≤ 100000 → Calls Try.prog 20 #[v] w fun e w' => ∃ u, e = .returned u ∧ OwnL w' (Since w.heap.size w') u l ∧ Below w.heap.size w w'
def CopyPost (h : M.Hd) (b e : M.L) (w : World) (en : Ending) (w' : World) : Prop := ∃ vL vB vE, en = .returned (Item9 h vL vB vE) ∧ OwnN w' (Since w.heap.size w') vL h.labels ∧ OwnL w' (Since w.heap.size w') vB b ∧ OwnL w' (Since w.heap.size w') vE e ∧ Below w.heap.size w w'
theorem three_start (w : World) (h : M.Hd) (vL vB vE : Value) (Z : Array Value) (hZ : Z.size = 9) :
    Rows2 (((w.alloc (.cells (item9 h vL vB vE).toArray 48)).alloc (.cells Z 48)).alloc (.cells (item9 h vL vB vE).toArray 48)) (w.heap.size + 1) h vL vB vE ∧
      (((w.alloc (.cells (item9 h vL vB vE).toArray 48)).alloc (.cells Z 48)).alloc (.cells (item9 h vL vB vE).toArray 48)).heap[w.heap.size]? = some (.cells (item9 h vL vB vE).toArray 48 (0, 0)) ∧
      Below w.heap.size w (((w.alloc (.cells (item9 h vL vB vE).toArray 48)).alloc (.cells Z 48)).alloc (.cells (item9 h vL vB vE).toArray 48)) ∧
      (((w.alloc (.cells (item9 h vL vB vE).toArray 48)).alloc (.cells Z 48)).alloc (.cells (item9 h vL vB vE).toArray 48)).heap.size = w.heap.size + 3 := by
  have e1 := allocs_at [.cells (item9 h vL vB vE).toArray 48, .cells Z 48, .cells (item9 h vL vB vE).toArray 48] w 0 _ rfl
  have e2 := allocs_at [.cells (item9 h vL vB vE).toArray 48, .cells Z 48, .cells (item9 h vL vB vE).toArray 48] w 1 _ rfl
  have e3 := allocs_at [.cells (item9 h vL vB vE).toArray 48, .cells Z 48, .cells (item9 h vL vB vE).toArray 48] w 2 _ rfl
  exact ⟨⟨⟨Z, e2, hZ⟩, e3⟩, e1, allocs_below [.cells (item9 h vL vB vE).toArray 48, .cells Z 48, .cells (item9 h vL vB vE).toArray 48] w, by simp⟩
set_option maxRecDepth 100000 in
set_option maxHeartbeats 4000000 in
theorem CopyInstr_of (N : Nat) (ih : CopyOk N) (h : M.Hd) (b e : M.L) (vL vB vE : Value) (w : World) (hL : NB w vL h.labels) (hB : LB w vB b) (hE : LB w vE e) (hb : b.sz < N ∧ b.sz ≤ 100000) (he : e.sz < N ∧ e.sz ≤ 100000) (hl : h.labels.length ≤ 100000) :
    Calls Try.prog 32 #[Item9 h vL vB vE] w (CopyPost h b e w) := by
  obtain ⟨AL, cL, rfl, _⟩ := NS.form hL
  obtain ⟨AB, cB, rfl, _⟩ := LS.form hB
  obtain ⟨AE, cE, rfl, _⟩ := LS.form hE
  replace hL := Lib.hid hL
  replace hB := Lib.hid hB
  replace hE := Lib.hid hE
  replace ih := Lib.hid ih
  unfold Item9
  go_enter Try.func32, Try.ntmps32
  go_wp2_with fail
  obtain ⟨rw0, rx0, b0, sz0⟩ := three_start w h (.slice AL h.labels.length cL) (.slice AB b.len cB) (.slice AE e.len cE) zero9 rfl
  generalize hwa : ((w.alloc (.cells (item9 h (.slice AL h.labels.length cL) (.slice AB b.len cB) (.slice AE e.len cE)).toArray 48)).alloc (.cells zero9 48)).alloc (.cells (item9 h (.slice AL h.labels.length cL) (.slice AB b.len cB) (.slice AE e.len cE)).toArray 48) = wa at rw0 rx0 b0 sz0
  rw [show ((w.alloc (.cells #[.int .i64 h.op, .int .i64 h.ty, .int .i64 h.ix, .int .i64 h.al, .int .i64 h.ofs, .int .i64 h.val, .slice AL h.labels.length cL, .slice AB b.len cB, .slice AE e.len cE] 48)).alloc (.cells #[.int .i64 0, .int .i64 0, .int .i64 0, .int .i64 0, .int .i64 0, .int .i64 0, .slice none 0 0, .slice none 0 0, .slice none 0 0] 48)).alloc (.cells #[.int .i64 h.op, .int .i64 h.ty, .int .i64 h.ix, .int .i64 h.al, .int .i64 h.ofs, .int .i64 h.val, .slice AL h.labels.length cL, .slice AB b.len cB, .slice AE e.len cE] 48) = wa from hwa]
  clear hwa
  refine (CopyNumbers_any _ h.labels wa hl (NS.later hL.out b0)).mono ?_
  rintro e1 w1 ⟨u1, rfl, o1, k1⟩
  obtain ⟨A1, n1, c1, rfl⟩ := o1.sl
  have s1 : w.heap.size + 3 ≤ w1.heap.size := by have := k1.size; omega
  have rr1 := rw0.agree (k1.block _ (by omega)) (k1.block _ (by omega))
  have rx1 : w1.heap[w.heap.size]? = some (.cells (item9 h (.slice AL h.labels.length cL) (.slice AB b.len cB) (.slice AE e.len cE)).toArray 48 (0, 0)) := by rw [k1.block _ (by omega)]; exact rx0
  have y1 := rr1.item.c6
  have f1 := rr1.frozen 6
  simp only [Nat.zero_add] at y1
  have d1 : Below w.heap.size w w1 := b0.trans (k1.mono (by omega))
  have rw1 : Rows2 (w1.setCell ⟨w.heap.size + 1 + 1, 6, none⟩ (.slice A1 n1 c1)) (w.heap.size + 1) h (.slice A1 n1 c1) (.slice AB b.len cB) (.slice AE e.len cE) := rr1.set (j := 6) (u := .slice A1 n1 c1) rfl
  have b1 : Below w.heap.size w (w1.setCell ⟨w.heap.size + 1 + 1, 6, none⟩ (.slice A1 n1 c1)) := d1.setCell (by show w.heap.size ≤ w.heap.size + 1 + 1; omega) _
  have cx1 : w1.cell? ⟨w.heap.size, 7, none⟩ = some (.slice AB b.len cB) := by rw [cell_of_row w1 _ 7 _ _ (0, 0) rx1]; rfl
  have X1 : (w1.setCell ⟨w.heap.size + 1 + 1, 6, none⟩ (.slice A1 n1 c1)).heap[w.heap.size]? = some (.cells (item9 h (.slice AL h.labels.length cL) (.slice AB b.len cB) (.slice AE e.len cE)).toArray 48 (0, 0)) := by rw [heap_setCell_other _ _ _ _ (by show w.heap.size ≠ w.heap.size + 1 + 1; omega)]; exact rx1
  have O1 : OwnN (w1.setCell ⟨w.heap.size + 1 + 1, 6, none⟩ (.slice A1 n1 c1)) (fun k => w.heap.size + 3 ≤ k ∧ k < w1.heap.size) (.slice A1 n1 c1) h.labels := o1.agree (fun k hk => heap_setCell_other _ _ _ _ (by have := hk.1; show k ≠ w.heap.size + 1 + 1; omega)) (fun k hk => ⟨by have := hk.1; omega, hk.2⟩)
  replace rw1 := Lib.hid rw1
  replace X1 := Lib.hid X1
  replace O1 := Lib.hid O1
  replace b1 := Lib.hid b1
  clear k1 o1 rr1 rx1 d1 rw0 rx0
  go_wp2_with fail
  refine (ih.out b _ _ hb.1 (LS.later hB.out b1.out) hb.2).mono ?_
  rintro e2 w2 ⟨u2, rfl, o2, k2⟩
  obtain ⟨A2, n2, c2, rfl⟩ := o2.sl
  have s2 : w.heap.size + 3 ≤ w2.heap.size := by have := k2.size; simp at this; omega
  have rr2 := rw1.out.agree (k2.block _ (by simp; omega)) (k2.block _ (by simp; omega))
  have rx2 : w2.heap[w.heap.size]? = some (.cells (item9 h (.slice AL h.labels.length cL) (.slice AB b.len cB) (.slice AE e.len cE)).toArray 48 (0, 0)) := by rw [k2.block _ (by simp; omega)]; exact X1.out
  have y2 := rr2.item.c7
  have f2 := rr2.frozen 7
  simp only [Nat.zero_add] at y2
  have d2 : Below w.heap.size w w2 := b1.out.trans (k2.mono (by simp; omega))
  have rw2 : Rows2 (w2.setCell ⟨w.heap.size + 1 + 1, 7, none⟩ (.slice A2 n2 c2)) (w.heap.size + 1) h (.slice A1 n1 c1) (.slice A2 n2 c2) (.slice AE e.len cE) := rr2.set (j := 7) (u := .slice A2 n2 c2) rfl
  have b2 : Below w.heap.size w (w2.setCell ⟨w.heap.size + 1 + 1, 7, none⟩ (.slice A2 n2 c2)) := d2.setCell (by show w.heap.size ≤ w.heap.size + 1 + 1; omega) _
  have cx2 : w2.cell? ⟨w.heap.size, 8, none⟩ = some (.slice AE e.len cE) := by rw [cell_of_row w2 _ 8 _ _ (0, 0) rx2]; rfl
  have s12 : w1.heap.size ≤ w2.heap.size := by have := k2.size; simpa using this
  have sm2 : ∀ k, w.heap.size + 3 ≤ k → (w2.setCell ⟨w.heap.size + 1 + 1, 7, none⟩ (.slice A2 n2 c2)).heap[k]? = w2.heap[k]? := fun k hk => heap_setCell_other _ _ _ _ (by show k ≠ w.heap.size + 1 + 1; omega)
  have O12 : OwnN (w2.setCell ⟨w.heap.size + 1 + 1, 7, none⟩ (.slice A2 n2 c2)) (fun k => w.heap.size + 3 ≤ k ∧ k < w2.heap.size) (.slice A1 n1 c1) h.labels := O1.out.agree (fun k hk => (sm2 k hk.1).trans (k2.block k (by simpa using hk.2))) (fun k hk => ⟨hk.1, by have := hk.2; omega⟩)
  have O2 : OwnL (w2.setCell ⟨w.heap.size + 1 + 1, 7, none⟩ (.slice A2 n2 c2)) (fun k => w.heap.size + 3 ≤ k ∧ k < w2.heap.size) (.slice A2 n2 c2) b := o2.agree (fun k hk => sm2 k (by have := hk.1; simp at this; omega)) (fun k hk => ⟨by have := hk.1; simp at this; omega, hk.2⟩)
  replace rw2 := Lib.hid rw2
  replace O12 := Lib.hid O12
  replace O2 := Lib.hid O2
  replace b2 := Lib.hid b2
  have X2 : (w2.setCell ⟨w.heap.size + 1 + 1, 7, none⟩ (.slice A2 n2 c2)).heap[w.heap.size]? = some (.cells (item9 h (.slice AL h.labels.length cL) (.slice AB b.len cB) (.slice AE e.len cE)).toArray 48 (0, 0)) := by rw [heap_setCell_other _ _ _ _ (by show w.heap.size ≠ w.heap.size + 1 + 1; omega)]; exact rx2
  replace X2 := Lib.hid X2
  clear k2 o2 rr2 rx2 d2 sm2 cx1 y1 f1
  go_wp2_with fail
  refine (ih.out e _ _ he.1 (LS.later hE.out b2.out) he.2).mono ?_
  rintro e3 w3 ⟨u3, rfl, o3, k3⟩
  obtain ⟨A3, n3, c3, rfl⟩ := o3.sl
  have s3 : w.heap.size + 3 ≤ w3.heap.size := by have := k3.size; simp at this; omega
  have rr3 := rw2.out.agree (k3.block _ (by simp; omega)) (k3.block _ (by simp; omega))
  have rx3 : w3.heap[w.heap.size]? = some (.cells (item9 h (.slice AL h.labels.length cL) (.slice AB b.len cB) (.slice AE e.len cE)).toArray 48 (0, 0)) := by rw [k3.block _ (by simp; omega)]; exact X2.out
  have y3 := rr3.item.c8
  have f3 := rr3.frozen 8
  simp only [Nat.zero_add] at y3
  have d3 : Below w.heap.size w w3 := b2.out.trans (k3.mono (by simp; omega))
  have rw3 : Rows2 (w3.setCell ⟨w.heap.size + 1 + 1, 8, none⟩ (.slice A3 n3 c3)) (w.heap.size + 1) h (.slice A1 n1 c1) (.slice A2 n2 c2) (.slice A3 n3 c3) := rr3.set (j := 8) (u := .slice A3 n3 c3) rfl
  have b3 : Below w.heap.size w (w3.setCell ⟨w.heap.size + 1 + 1, 8, none⟩ (.slice A3 n3 c3)) := d3.setCell (by show w.heap.size ≤ w.heap.size + 1 + 1; omega) _
  have s23 : w2.heap.size ≤ w3.heap.size := by have := k3.size; simpa using this
  have sm3 : ∀ k, w.heap.size + 3 ≤ k → ((w3.setCell ⟨w.heap.size + 1 + 1, 8, none⟩ (.slice A3 n3 c3)).setRow (w.heap.size + 1) (item9 h (.slice A1 n1 c1) (.slice A2 n2 c2) (.slice A3 n3 c3)).toArray).heap[k]? = w3.heap[k]? := fun k hk => by
    rw [setRow_other _ _ _ _ (by omega), heap_setCell_other _ _ _ _ (by show k ≠ w.heap.size + 1 + 1; omega)]
  have fin : ∀ wf : World, wf = (w3.setCell ⟨w.heap.size + 1 + 1, 8, none⟩ (.slice A3 n3 c3)).setRow (w.heap.size + 1) (item9 h (.slice A1 n1 c1) (.slice A2 n2 c2) (.slice A3 n3 c3)).toArray → CopyPost h b e w (.returned (.agg (item9 h (.slice A1 n1 c1) (.slice A2 n2 c2) (.slice A3 n3 c3)).toArray)) wf := by
    intro wf hwf
    subst hwf
    refine ⟨_, _, _, rfl, O12.out.agree (fun k hk => (sm3 k hk.1).trans (k3.block k (by simpa using hk.2))) (fun k hk => ⟨by have := hk.1; omega, by have := hk.2; simp; omega⟩), O2.out.agree (fun k hk => (sm3 k hk.1).trans (k3.block k (by simpa using hk.2))) (fun k hk => ⟨by have := hk.1; omega, by have := hk.2; simp; omega⟩), o3.agree (fun k hk => sm3 k (by have := hk.1; simp at this; omega)) (fun k hk => ⟨by have := hk.1; simp at this; omega, by have := hk.2; simpa using this⟩), ?_⟩
    have b9 := b3
    exact ⟨b9.os, b9.tape, b9.output, by simpa using b9.size, fun k hk => by rw [setRow_other _ _ _ _ (by omega)]; exact b9.block k hk⟩
  replace fin := Lib.hid fin
  replace rw3 := Lib.hid rw3
  replace b3 := Lib.hid b3
  clear k3 o3 rr3 rx3 d3 sm3
  go_wp2_with (first
    | (refine wpList_load_row (by rfl) 48 _ (by rfl) (w.heap.size + 1 + 1) (by rfl) 48 _ (0, 0) _ rw3.out.x Try.underlying48 rfl instr_size ?_)
    | (refine wpList_store_row (by rfl) 48 _ _ (by rfl) (w.heap.size + 1) (item9 h (.slice A1 n1 c1) (.slice A2 n2 c2) (.slice A3 n3 c3)).toArray (by rfl) (by rfl) 48 _ rw3.out.r.choose_spec.1 instr_size (by rw [rw3.out.r.choose_spec.2]; rfl) (all_one ⟨_, _, _, rfl⟩ ⟨_, _, _, rfl⟩ ⟨_, _, _, rfl⟩) ?_))
  refine bodyPost_ret (results_cell_row rfl _ _ (w.heap.size + 1) 48 _ (0, 0) _ rfl (setRow_heap _ _ _ _ _ _ rw3.out.r.choose_spec.1) Try.underlying48 rfl instr_size) rfl ?_
  exact fin.out _ rfl
set_option maxRecDepth 100000 in
set_option maxHeartbeats 4000000 in
theorem CopyInstrs_of (N : Nat) (ih : CopyOk N) : CopyOk (N + 1) := by
  intro l v w hN hls hsz
  obtain ⟨i0, hi0, hz0, hz1, hz2⟩ := info_parts instr_info
  obtain ⟨A, c, rfl, hf1, hf2, hf3⟩ := LS.form hls
  unfold maxLen at hf3
  have hln := M.sz_len l
  replace hls := Lib.hid hls
  replace ih := Lib.hid ih
  obtain ⟨n, hn⟩ : ∃ n, n = l.len := ⟨_, rfl⟩
  rw [← hn] at hf1 hf2 hls hln ⊢
  replace hn := Lib.hid hn
  go_enter Try.func20, Try.ntmps20
  go_wp2_with fail
  go_loopw [3, 4] (fun b i w' => ∃ (k : Nat) (xs : List Value), k ≤ n ∧ i = .int .i64 k ∧ w'.ownsRow w.heap.size 48 9 b k xs ∧ Items w' (fun q => (w.heap.size ≤ q ∧ q < w'.heap.size) ∧ b.ownBlock ≠ some q) (M.L.take k l) xs ∧ (M.L.take k l).len = k ∧ Below w.heap.size w w') (fun _ i _ => n - (intOf i).toNat)
  case atStart => exact ⟨0, [], by omega, rfl, World.ownsRow_nil _ _ _ _, by rw [M.take_zero]; rfl, by rw [M.take_zero]; rfl, Below.refl _ _⟩
  case round =>
    obtain ⟨k, xs, hk, rfl, own, its, hlk, hb⟩ := hrel
    have hsw : w.heap.size ≤ wr.heap.size := hb.size
    by_cases hlt : k < n
    · obtain ⟨h, b, e, hnth⟩ := M.nth_of (l := l) (k := k) (by rw [← hn.out]; exact hlt)
      obtain ⟨g, o, vL, vB, vE, rfl, hg, hi, hR, hL, hB, hE⟩ := hls.out.nth' hnth
      have hsz1 := (M.nth_some hnth).2
      have htk := Lib.hid (M.take_nth hnth)
      have hi1 := hi.agree (hb.block g hg)
      obtain ⟨AL, cL, eL, _⟩ := NS.form hL
      obtain ⟨AB, cB, eB, _⟩ := LS.form hB
      obtain ⟨AE, cE, eE, _⟩ := LS.form hE
      have HL := Lib.hid (NS.later hL hb)
      have HB := Lib.hid (LS.later hB hb)
      have HE := Lib.hid (LS.later hE hb)
      obtain ⟨y0, y1, y2, y3, y4, y5, y6, y7, y8⟩ := hi1
      have t0 : (0 : Int) ≤ (k : Int) := by omega
      have t1 : (k : Int) < (n : Int) := by omega
      have ht1 : (M.L.take (k + 1) l).len = k + 1 := by rw [htk.out, M.app_len, hlk]; rfl
      replace own := Lib.hid own
      replace its := Lib.hid its
      replace hb := Lib.hid hb
      replace hR := Lib.hid hR
      replace eL := Lib.hid eL
      replace eB := Lib.hid eB
      replace eE := Lib.hid eE
      replace hlk := Lib.hid hlk
      replace ht1 := Lib.hid ht1
      clear hi hL hB hE hnth
      go_wp2_with fail
      refine (CopyInstr_of N ih.out h b e vL vB vE _ HL.out HB.out HE.out ⟨by omega, by omega⟩ ⟨by omega, by omega⟩ (by omega)).mono ?_
      rintro e2 w4 ⟨uL, uB, uE, rfl, oL, oB, oE, b4⟩
      obtain ⟨A1, n1, c1, rfl⟩ := oL.sl
      obtain ⟨A2, n2, c2, rfl⟩ := oB.sl
      obtain ⟨A3, n3, c3, rfl⟩ := oE.sl
      have own4 := Lib.hid (show w4.ownsRow w.heap.size 48 9 u3 k xs from ownsRow_agree own.out (fun q hq => b4.block q (own.out.lt q hq).2))
      have hw4 : w.heap.size ≤ w4.heap.size := Nat.le_trans hsw b4.size
      have put := Lib.hid (fun (w5 : World) (g5 cap : Nat) hgr hat => plist_put (P := g) (w := w) (wr := wr) (w4 := w4) (w5 := w5) (u := u3) (acc := M.L.take k l) (xs := xs) (h := h) (b := b) (e := e) (vL := .slice A1 n1 c1) (vB := .slice A2 n2 c2) (vE := .slice A3 n3 c3) (g := g5) (cap := cap) (ob := .cells (item9 h (.slice A1 n1 c1) (.slice A2 n2 c2) (.slice A3 n3 c3)).toArray 48) hg hsw (.of_below b4) (by rw [hlk.out]; exact own.out) its.out hR.out oL oB oE hgr hat)
      have bel := Lib.hid (show ∀ (w5 : World) (ob : Obj), (w4.alloc ob).grownBy w5 u3.ownBlock → Below w.heap.size w w5 from fun w5 ob hgr => (hb.out.trans (b4.mono hsw)).alloc hw4 ob |>.grown hgr (by simp; omega) (fun q hq => (own.out.lt q hq).1))
      clear oL oB oE b4 y0 y1 y2 y3 y4 y5 y6 y7 y8
      unfold Item9
      go_wp2_with (first
          | (at_builtin; refine wpList_append_lies _ rfl _ _ 23 rfl w.heap.size 48 i0 (.agg zero9) 9 120 Try.underlying23 hi0 hz0 hz1 hz2 rfl (by decide) u3 k xs rfl (own4.out.alloc _) ⟨w4.heap.size, 0, none⟩ 1 1 (item9 h (.slice A1 n1 c1) (.slice A2 n2 c2) (.slice A3 n3 c3)) rfl rfl (World.news_of_block (cs := (item9 h (.slice A1 n1 c1) (.slice A2 n2 c2) (.slice A3 n3 c3)).toArray) (t := 48) (fr := (0, 0)) (heap_alloc_new w4 _)) (item_one ⟨_, _, _, rfl⟩ ⟨_, _, _, rfl⟩ ⟨_, _, _, rfl⟩) (by omega) (by unfold maxLen; omega) (by omega) (by simp; omega) (w4.heap.size + 1) (by simp) ?_; intro g5 cap w5 hown5 hgr5 hat5 hlt5))
      refine ⟨⟨k + 1, _, by omega, by go_num, hown5, ?_, ht1.out, bel.out w5 _ hgr5⟩, by simp [intOf]; omega⟩
      have hp := put.out w5 g5 cap hgr5 hat5
      rw [hlk.out] at hp
      rw [htk.out]
      exact hp
    · have hkn : k = n := by omega
      have tlt : decide ((k : Int) < (n : Int)) = false := by simp; omega
      have hta := Lib.hid (show M.L.take k l = l from M.take_all l (by rw [← hn.out]; omega))
      rw [hta.out] at its hlk
      replace own := Lib.hid own
      replace its := Lib.hid its
      replace hb := Lib.hid hb
      replace hlk := Lib.hid hlk
      replace hkn := Lib.hid hkn
      go_wp2_with fail
      go_ret
      exact ⟨_, rfl, ⟨xs, by rw [hlk.out]; exact ownsRow_base own.out (fun _ _ => Nat.zero_le _), fun q hq => own.out.lt q hq, by rw [hlk.out]; omega, its.out.agree (fun _ _ => rfl) (fun q hq => hq.1)⟩, hb.out⟩
theorem CopyInstrs_any : ∀ N, CopyOk N := by
  intro N
  induction N with
  | zero => intro l v w h; omega
  | succ N ih => exact CopyInstrs_of N ih
end Go.Proofs.Ytjapcalndolamaa
