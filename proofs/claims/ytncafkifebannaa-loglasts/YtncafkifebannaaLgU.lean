/-
  Copies of records in new memory: what the log tells of its records; condition: the log's block and its records lie in memory.
-/
import Derived.Test.YtncafkifebannaaLgT
namespace Go.Proofs.Ytncafkifebannaa
open Go.RowKit
theorem RowAt.own {w : World} {b r c : Nat} {bs : List Nat} (h : RowAt w r c bs) (hb : b ≤ r) : w.ownsRow b 5 1 (.slice (some ⟨r, 0, none⟩) bs.length c) bs.length (vals bs) := by
  obtain ⟨cur, h1, h2, h3, h4, h5, _⟩ := h
  exact ⟨by rw [vals_length]; omega, .inr ⟨r, c, cur, rfl, hb, h1, h3, h4, by omega, by rw [Nat.mul_one]; exact h5⟩⟩
theorem ownsRow_base {w : World} {b c e s n : Nat} {v : Value} {xs : List Value} (h : w.ownsRow b e s v n xs) (hc : ∀ g, v.ownBlock = some g → c ≤ g) : w.ownsRow c e s v n xs := by
  refine ⟨h.1, ?_⟩
  rcases h.2 with hn | ⟨g, cap, cur, rfl, hb, rest⟩
  · exact .inl hn
  · exact .inr ⟨g, cap, cur, rfl, hc g rfl, rest⟩
theorem clone_own (w : World) (v : Value) (bs : List Nat) (h : BS w w.heap.size v bs) (hn : bs.length ≤ 1048576) : Calls Try.prog 43 #[v] w (Gives bs w) := by
  by_cases h0 : 0 < bs.length
  · refine (Clone_any w v bs h h0 hn).mono ?_
    rintro e w' ⟨r, c, rfl, hr, hge, hb⟩
    exact ⟨_, rfl, hr.own hge, hb⟩
  · have hb0 : bs = [] := List.eq_nil_of_length_eq_zero (by omega)
    subst hb0
    obtain ⟨A, c, rfl, a1, a2, _⟩ := h
    have q22 : ∀ (w : World) (a : Option Addr) (n c n' c' : Nat), (binOp .eql 37 (.slice a n c) (.slice none n' c')).run Try.prog w = .ok (.bool a.isNone) w := fun w a n c n' c' => Lib.run_eql_slice_nil w _ _ a n c n' c' Try.underlying37
    cases A with
    | none =>
      have hf : Gives [] w (.returned (.slice none 0 0)) w := ⟨_, rfl, World.ownsRow_nil _ _ _ _, Below.refl _ _⟩
      replace hf := Lib.hid hf
      show Calls Try.prog 43 #[.slice none 0 c] w _
      go_enter Try.func43, Try.ntmps43
      go_wp2_with fail
      go_ret
      exact hf.out
    | some ad =>
      have hf : Gives [] w (.returned (.slice (some ⟨w.heap.size, 0, none⟩) 0 0)) (w.alloc (.cells #[] 5)) := ⟨_, rfl, ⟨rfl, .inr ⟨w.heap.size, 0, #[], rfl, Nat.le_refl _, heap_alloc_new w _, Nat.le_refl _, by unfold maxLen; omega, rfl, rfl⟩⟩, (Below.refl _ _).alloc (Nat.le_refl _) _⟩
      replace hf := Lib.hid hf
      show Calls Try.prog 43 #[.slice (some ad) 0 c] w _
      go_enter Try.func43, Try.ntmps43
      go_wp2_with fail
      go_ret
      exact hf.out
theorem set_ownT {w : World} {e b r n c : Nat} {xs : List Value} (h : w.ownsRow b e 1 (.slice (some ⟨r, 0, none⟩) n c) n xs) (i : Nat) (u : Value) (hi : i < n) : ∃ ys : List Value, (w.setCell ⟨r, i, none⟩ u).ownsRow b e 1 (.slice (some ⟨r, 0, none⟩) n c) n ys ∧ ys[i]? = some u ∧ ∀ j, j ≠ i → ys[j]? = xs[j]? := by
  obtain ⟨r', cur, e1, h1, h2, h3, h4, h5, h6⟩ := own_at h (by omega)
  cases e1
  refine ⟨(cur.setIfInBounds i u).toList.take (n * 1), ⟨by simp; omega, .inr ⟨r, c, cur.setIfInBounds i u, rfl, h1, heap_setCell_same w r i cur _ _ h2, h4, h5, by simpa using h3, rfl⟩⟩, ?_, fun j hj => ?_⟩
  · have h7 : i < cur.size := by omega
    rw [List.getElem?_take_of_lt (by omega)]
    simp [h7]
  · rw [h6, Array.toList_setIfInBounds, List.take_set, List.getElem?_set_ne (Ne.symm hj)]
/-- No two of the slices lie in one block. -/
def Apart (us : List Value) : Prop := ∀ (i j : Nat) (u u' : Value) (b : Nat), i < j → us[i]? = some u → us[j]? = some u' → u.ownBlock = some b → u'.ownBlock ≠ some b
/-- A row of rows of bytes, all of its own, in blocks from b on. -/
structure Rows (w : World) (b : Nat) (v : Value) (rs : List (List Nat)) (us : List Value) : Prop where
  own : w.ownsRow b 37 1 v rs.length us
  row : ∀ (i : Nat) (x : List Nat), rs[i]? = some x → ∃ u, us[i]? = some u ∧ w.ownsRow b 5 1 u x.length (vals x)
  apart : Apart us
/-- Records in new memory. -/
def GivesL (rs : List (List Nat)) (w : World) (e : Ending) (w' : World) : Prop := ∃ v us, e = .returned v ∧ Rows w' w.heap.size v rs us ∧ Below w.heap.size w w'
theorem own_bsp {w : World} {b : Nat} {u : Value} {x : List Nat} (h : w.ownsRow b 5 1 u x.length (vals x)) (hx : ∀ y ∈ x, y < 256) : BSP w (fun k => b ≤ k ∧ k < w.heap.size) u x := by
  obtain ⟨A, c, rfl, h1, h2⟩ := own_form h
  refine ⟨A, c, rfl, ⟨h1, h2⟩, fun i hi => ?_⟩
  obtain ⟨g, cur, rfl, q1, q2, _⟩ := own_at h (by omega)
  refine ⟨_, rfl, ⟨q1, (Array.getElem?_eq_some_iff.1 q2).1⟩, ?_, h.cells (g := g) rfl i _ (getD_vals x i hi)⟩
  rw [List.getD_eq_getElem?_getD, List.getElem?_eq_getElem hi]
  exact hx _ (List.getElem_mem hi)
theorem Rows.recs {w : World} {b : Nat} {v : Value} {rs : List (List Nat)} {us : List Value} (h : Rows w b v rs us) (ok : ∀ r ∈ rs, ∀ y ∈ r, y < 256) : Recs w (fun k => b ≤ k ∧ k < w.heap.size) v rs := by
  obtain ⟨A, c, rfl, h1, h2⟩ := own_form h.own
  refine ⟨A, c, rfl, ⟨h1, h2⟩, fun i x hx => ?_⟩
  obtain ⟨u, hu, ho⟩ := h.row i x hx
  have hi := (List.getElem?_eq_some_iff.1 hx).1
  obtain ⟨g, cur, rfl, q1, q2, _⟩ := own_at h.own (by omega)
  exact ⟨_, u, rfl, ⟨q1, (Array.getElem?_eq_some_iff.1 q2).1⟩, h.own.cells (g := g) rfl i u hu, own_bsp ho (ok x (List.mem_of_getElem? hx))⟩
set_option maxRecDepth 100000 in
set_option maxHeartbeats 2000000 in
theorem records_of (w : World) (G : Nat) (P : Nat → Prop) (v : Value) (rs : List (List Nat)) (c2 : w.cell? ⟨G, 2, none⟩ = some v) (h : Recs w P v rs) (hP : ∀ b, P b → b < w.heap.size) (hlen : ∀ r ∈ rs, r.length ≤ 1048576) (hN0 : rs.length ≤ 1000000) :
    Calls Try.prog 23 #[Mp G] w (GivesL rs w) := by
  obtain ⟨i0, hi0, hz0, hz1, hz2⟩ := info_parts row_info
  obtain ⟨A, c, rfl, h1, h2⟩ := h
  obtain ⟨N, hN⟩ : ∃ N, N = rs.length := ⟨_, rfl⟩
  rw [← hN] at c2 h1 hN0
  unfold maxLen at h1
  have hGl : G < w.heap.size := World.block_lt_of_cell? w _ c2
  have hmk := run_make (P := Try.prog) w 31 37 i0 (.slice none 0 0) Try.underlying31 hi0 hz0 .i64 .i64 N N (by omega) (by omega) (by rw [hz2]; omega) (by omega)
  rw [hz1, Int.toNat_natCast, Nat.mul_one] at hmk
  obtain ⟨W0, hW0⟩ : ∃ W0, W0 = w.alloc (.cells (madeCells (Value.slice none 0 0).cells N) 37) := ⟨_, rfl⟩
  rw [← hW0] at hmk
  obtain ⟨g, hg⟩ : ∃ g, g = w.heap.size := ⟨_, rfl⟩
  rw [← hg] at hmk
  have b0 : Below w.heap.size w W0 := by rw [hW0]; exact (Below.refl _ _).alloc (Nat.le_refl _) _
  have hmade : (madeCells (Value.slice none 0 0).cells N).toList = List.replicate N (.slice none 0 0) := toList_madeCells_one _ _
  have hrow0 : W0.ownsRow w.heap.size 37 1 (.slice (some ⟨g, 0, none⟩) N N) N (List.replicate N (.slice none 0 0)) := by
    refine ⟨by simp, .inr ⟨g, N, madeCells (Value.slice none 0 0).cells N, rfl, by omega, by rw [hW0, hg]; exact heap_alloc_new w _, Nat.le_refl _, by unfold maxLen; omega, by rw [size_madeCells]; omega, ?_⟩⟩
    rw [hmade, Nat.mul_one, List.take_of_length_le (by simp)]
  have c20 : W0.cell? ⟨G, 2, none⟩ = some (.slice A N c) := (b0.cell (p := ⟨G, 2, none⟩) hGl).trans c2
  have hG0 : G < W0.heap.size := Nat.lt_of_lt_of_le hGl b0.size
  have hgs : w.heap.size ≤ g := by omega
  have hg0 : g < W0.heap.size := by rw [hW0, hg]; simp
  have h20 := Lib.hid (show ∀ (i : Nat) (x : List Nat), rs[i]? = some x → ∃ ad u, A = some ad ∧ ad.block < w.heap.size ∧ W0.cell? (ad.add i) = some u ∧ BSP W0 (fun b => b < w.heap.size) u x from fun i x hx => by
    obtain ⟨ad, u, q1, q2, q3, q4⟩ := h2 i x hx
    exact ⟨ad, u, q1, hP _ q2, (b0.cell (by rw [addr_block]; exact hP _ q2)).trans q3, q4.to (fun b hb => b0.block b (hP b hb)) hP⟩)
  replace hlen := Lib.hid hlen
  replace hN := Lib.hid hN
  replace hg := Lib.hid hg
  replace hW0 := Lib.hid hW0
  replace hrow0 := Lib.hid hrow0
  replace b0 := Lib.hid b0
  clear h2 hP hmade
  go_enter Try.func23, Try.ntmps23
  go_wp2_with fail
  go_loopw [4, 5, 17] (fun _ _ i w' => ∃ (k : Nat) (us : List Value), k ≤ N ∧ i = .int .i64 k ∧ w'.ownsRow w.heap.size 37 1 (.slice (some ⟨g, 0, none⟩) N N) N us ∧ (∀ j, k ≤ j → j < N → us[j]? = some (.slice none 0 0)) ∧
      (∀ (j : Nat) (x : List Nat), j < k → rs[j]? = some x → ∃ u, us[j]? = some u ∧ w'.ownsRow w.heap.size 5 1 u x.length (vals x) ∧ ∀ b, u.ownBlock = some b → g < b) ∧ Apart us ∧ But (· = g) W0 w') (fun _ _ i _ => N - (intOf i).toNat)
  case atStart => exact ⟨0, List.replicate N (.slice none 0 0), by omega, rfl, hrow0.out, fun j _ hj => by rw [List.getElem?_replicate, if_pos hj], fun j x hj => by omega, (fun i j u u' b _ hu _ hb => by
    rw [List.getElem?_replicate] at hu
    split at hu
    · injection hu with hu
      subst hu
      simp [Value.ownBlock] at hb
    · cases hu), But.refl _ _⟩
  case round =>
    obtain ⟨k, us, hk, rfl, hown, hrest, hdone, hap, hb⟩ := hrel
    by_cases hlt : k < N
    · have hx := List.getElem?_eq_getElem (show k < rs.length by rw [← hN.out]; exact hlt)
      obtain ⟨x, hxx⟩ : ∃ x, x = rs[k]'(by rw [← hN.out]; exact hlt) := ⟨_, rfl⟩
      rw [← hxx] at hx
      clear hxx
      obtain ⟨ad, u, rfl, q2, q3, q4⟩ := h20.out k x hx
      have hsz := hb.size
      have hs0 := b0.out.size
      have q3' : wr.cell? (ad.add k) = some u := (World.cell?_of_block (by rw [addr_block]; exact hb.block _ (by omega) (by omega))).trans q3
      have q4' := (q4.to (w' := wr) (Q := fun b => b < w.heap.size) (fun b hb' => hb.block b (by omega) (by omega)) (fun _ h => h)).bs (fun b hb' => by omega)
      have hxl := hlen.out x (List.mem_of_getElem? hx)
      have hcl := Lib.hid (clone_own wr u x q4' hxl)
      have t0 : (0 : Int) ≤ (k : Int) := by omega
      have t1 : (k : Int) < (N : Int) := by omega
      replace hown := Lib.hid hown
      replace hrest := Lib.hid hrest
      replace hdone := Lib.hid hdone
      replace hap := Lib.hid hap
      have hbh := Lib.hid hb
      obtain ⟨Au, cu, rfl, _⟩ := q4
      clear q4' hb
      go_wp2_with fail
      refine hcl.out.mono ?_
      rintro e1 w1 ⟨u1, rfl, o1, b1⟩
      obtain ⟨A1, d1, e11, _, _⟩ := own_form o1
      have hg1 : g < wr.heap.size := by omega
      have hown1 := own_later hown.out b1
      obtain ⟨g', cur, e9, p1, p2, p3, p4⟩ := own_at hown1 (by omega)
      injection e9 with e9
      injection e9 with e9
      subst e9
      have hgw1 : g < w1.heap.size := (Array.getElem?_eq_some_iff.1 p2).1
      have hkc : k < cur.size := by omega
      have c1k : w1.cell? ⟨g, k, none⟩ = some (cur[k]'hkc) := by rw [cell_of_row w1 g k _ _ (0, 0) p2, Array.getElem?_eq_getElem hkc]
      have f1k : w1.frozen? ⟨g, k, none⟩ = false := frozen_of_row w1 g k _ _ p2
      have hset := Lib.hid (set_ownT hown1 k u1 hlt)
      have o1g : ∀ b, u1.ownBlock = some b → g < b ∧ wr.heap.size ≤ b := fun b hb' => by have := (o1.lt b hb').1; omega
      have hd1 := Lib.hid (show ∀ (j : Nat) (x : List Nat), j < k + 1 → rs[j]? = some x → ∃ u, (j = k → u = u1) ∧ (j < k → us[j]? = some u) ∧ (w1.setCell ⟨g, k, none⟩ u1).ownsRow w.heap.size 5 1 u x.length (vals x) ∧ ∀ b, u.ownBlock = some b → g < b from fun j y hj hy => by
        by_cases hjk : j = k
        · subst hjk
          rw [hx] at hy
          injection hy with hy
          subst hy
          exact ⟨u1, fun _ => rfl, fun h9 => by omega, ownsRow_base (ownsRow_agree o1 (fun b hb' => Below.heap_setCell _ _ _ _ (show b ≠ g from by have := o1g b hb'; omega))) (fun b hb' => by have := o1g b hb'; omega), fun b hb' => (o1g b hb').1⟩
        · obtain ⟨u0, z1, z2, z3⟩ := hdone.out j y (by omega) hy
          exact ⟨u0, fun h9 => absurd h9 hjk, fun _ => z1, ownsRow_agree (own_later z2 b1) (fun b hb' => Below.heap_setCell _ _ _ _ (show b ≠ g from by have := z3 b hb'; omega)), z3⟩)
      have hlt0 := Lib.hid (show ∀ (j : Nat) (u0 : Value) (b : Nat), j < k → us[j]? = some u0 → u0.ownBlock = some b → b < wr.heap.size from fun j u0 b hj hu0 hb' => by
        have hjl : j < rs.length := by have := hN.out; omega
        obtain ⟨u2, z1, z2, _⟩ := hdone.out j _ hj (List.getElem?_eq_getElem hjl)
        rw [hu0] at z1
        injection z1 with z1
        subst z1
        exact (z2.lt b hb').2)
      have hbw := Lib.hid (hbh.out.trans2 ((But.ofBelow (X := (· = g)) b1).trans (But.setCell w1 g k u1)) (fun _ _ h => h))
      replace o1g := Lib.hid o1g
      clear hown1 p2 p3 p4 o1 b1 hcl
      subst e11
      go_wp2_with fail
      obtain ⟨ys, y1, y2, y3⟩ := hset.out
      refine ⟨⟨k + 1, ys, by omega, by go_num, y1, fun j hj1 hj2 => (y3 j (by omega)).trans (hrest.out j (by omega) hj2), fun j x hj hx => ?_, ?_, hbw.out⟩, by simp [intOf]; omega⟩
      · obtain ⟨u0, z1, z2, z3, z4⟩ := hd1.out j x hj hx
        refine ⟨u0, ?_, z3, z4⟩
        by_cases hjk : j = k
        · rw [z1 hjk, hjk]; exact y2
        · rw [y3 j hjk]; exact z2 (by omega)
      · intro i j v1 v2 b hij hv1 hv2 hb1 hb2
        by_cases hjk : j = k
        · subst hjk
          rw [y2] at hv2
          injection hv2 with hv2
          subst hv2
          rw [y3 i (by omega)] at hv1
          have := hlt0.out i v1 b hij hv1 hb1
          have := (o1g.out b hb2).2
          omega
        · rw [y3 j hjk] at hv2
          by_cases hik : i = k
          · subst hik
            have hjN : j < N := by
              have := (List.getElem?_eq_some_iff.1 hv2).1
              have := hown.out.1
              omega
            rw [hrest.out j (by omega) hjN] at hv2
            injection hv2 with hv2
            subst hv2
            simp [Value.ownBlock] at hb2
          · rw [y3 i hik] at hv1
            exact hap.out i j v1 v2 b hij hv1 hv2 hb1 hb2
    · obtain rfl : k = N := by omega
      have hfin := Lib.hid (show GivesL rs w (.returned (.slice (some ⟨g, 0, none⟩) k k)) wr from ⟨_, us, rfl, ⟨by rw [← hN.out]; exact hown, fun i x hx => by
        obtain ⟨u, z1, z2, _⟩ := hdone i x (by have := (List.getElem?_eq_some_iff.1 hx).1; have := hN.out; omega) hx
        exact ⟨u, z1, z2⟩, hap⟩, b0.out.trans (hb.below (fun b e => by omega) b0.out.size)⟩)
      clear hown hrest hdone hap hb
      go_wp2_with fail
      go_ret
      exact hfin.out
end Go.Proofs.Ytncafkifebannaa
