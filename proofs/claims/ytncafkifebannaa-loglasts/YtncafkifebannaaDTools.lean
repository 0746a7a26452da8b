/-
  What the statements' and the page's small helpers answer, and the library's Clone and Equal; condition: the lists lie in memory that was there at the call.
-/
import Derived.Test.YtncafkifebannaaDMem
import Derived.Laws.BytesArg
import Derived.Lib.SliceRun
import Derived.StillTailTactics
namespace Go.Proofs.Ytncafkifebannaa
open Go.RowKit
theorem eq_step {us bs : List Nat} (h : us.length = bs.length) : us = bs ↔ ∀ i, i < us.length → us.getD i 0 = bs.getD i 0 := by
  constructor
  · intro e i _; rw [e]
  · intro e
    refine List.ext_getElem h fun i h1 h2 => ?_
    have := e i h1
    rwa [List.getD_eq_getElem?_getD, List.getElem?_eq_getElem h1, List.getD_eq_getElem?_getD, List.getElem?_eq_getElem h2] at this
theorem within_any (i n : Int) (w : World) (hi : Rg i) (hn : 0 < n ∧ n ≤ 1000000) : Calls Try.prog 7 #[.int .i64 i, .int .i64 n] w fun e w' => (∃ r : Nat, e = .returned (.int .i64 (r : Int)) ∧ (r : Int) < n) ∧ w' = w := by
  go_enter Try.func7, Try.ntmps7
  go_wp2_with fail
  go_ret
  have hX : 0 ≤ IntKind.u64.wrap i := by rw [IntKind.wrap_u64]; omega
  obtain ⟨X, hXX⟩ : ∃ X, X = IntKind.u64.wrap i := ⟨_, rfl⟩
  rw [← hXX] at hX ⊢
  have h1 := Int.emod_nonneg X (show n ≠ 0 by omega)
  have h2 := Int.emod_lt_of_pos X (show 0 < n by omega)
  rw [Int.tmod_eq_emod_of_nonneg hX]
  refine ⟨⟨(X % n).toNat, ret_int ?_, by omega⟩, rfl⟩
  unfold wrap64
  omega
theorem EqBytes_any (v1 v2 : Value) (us bs : List Nat) (r : Bool) (w : World) (h1 : BS w w.heap.size v1 us) (h2 : BS w w.heap.size v2 bs) (hr : r = decide (us = bs)) :
    Calls Try.prog 46 #[v1, v2] w fun e w' => e = .returned (.bool r) ∧ Below w.heap.size w w' := by
  obtain ⟨A, c, rfl, a1, a2, ha⟩ := h1
  obtain ⟨B, d, rfl, b1, b2, hb⟩ := h2
  by_cases hne : us.length = bs.length
  · have key := eq_step (us := us) (bs := bs) hne
    obtain ⟨n, hn⟩ : ∃ n, n = us.length := ⟨_, rfl⟩
    rw [← hne] at b1 hb ⊢
    rw [← hn] at a1 b1 ha hb key ⊢
    obtain ⟨f, hf⟩ : ∃ f : Nat → Nat, f = fun i => us.getD i 0 := ⟨_, rfl⟩
    obtain ⟨f2, hf2⟩ : ∃ f : Nat → Nat, f = fun i => bs.getD i 0 := ⟨_, rfl⟩
    have key2 : (∀ i, i < n → f i = f2 i) → r = true := fun h => by rw [hr, decide_eq_true_eq]; exact key.2 fun i hi => by have := h i hi; rw [hf, hf2] at this; exact this
    have key3 : ∀ i, i < n → f i ≠ f2 i → r = false := fun i hi h => by
      rw [hr, decide_eq_false_iff_not]
      intro e
      exact h (by rw [hf, hf2]; show us.getD i 0 = bs.getD i 0; rw [e])
    rw [← hf] at ha
    rw [← hf2] at hb
    clear hn hf hf2 b2 hne key hr
    unfold maxLen at a2
    replace ha := Lib.hid ha
    replace hb := Lib.hid hb
    replace key2 := Lib.hid key2
    replace key3 := Lib.hid key3
    have hne : ((n : Int) != (n : Int)) = false := by simp
    go_enter Try.func46, Try.ntmps46
    go_wp2
    go_loopw [5] (fun i w' => ∃ k : Nat, (k ≤ n ∧ ∀ i, i < k → f i = f2 i) ∧ i = .int .i64 k ∧ Below w.heap.size w w') (fun i _ => n - (intOf i).toNat)
    case atStart => exact ⟨0, ⟨by omega, fun i hi => by omega⟩, rfl, Below.refl _ _⟩
    case round =>
      obtain ⟨k, ⟨hk, hall⟩, rfl, hbw⟩ := hrel
      replace hall := Lib.hid hall
      by_cases hlt : k < n
      · obtain ⟨a1, rfl, _, hx1, q1⟩ := ha.out.later hbw k hlt
        obtain ⟨a2, rfl, _, hx2, q2⟩ := hb.out.later hbw k hlt
        have t0 : (0 : Int) ≤ (k : Int) := by omega
        have t1 : (k : Int) < (n : Int) := by omega
        have K3 := Lib.hid (key3.out k hlt)
        have st : f k = f2 k → ∀ i, i < k + 1 → f i = f2 i := fun e i hi => by
          by_cases h : i = k
          · rw [h]; exact e
          · exact hall.out i (by omega)
        replace st := Lib.hid st
        obtain ⟨x, hx⟩ : ∃ x, x = f k := ⟨_, rfl⟩
        obtain ⟨y, hy⟩ : ∃ y, y = f2 k := ⟨_, rfl⟩
        rw [← hx] at hx1 q1 K3 st
        rw [← hy] at hx2 q2 K3 st
        clear hx hy
        by_cases hxy : x = y
        · subst hxy
          go_wp2_with fail
          go_quiet (fail)
          go_wp2
          exact ⟨⟨k + 1, ⟨by omega, st.out (by simp)⟩, by go_num, below_drewN hbw _⟩, by simp [intOf]; omega⟩
        · have hd : ((x : Int) != (y : Int)) = true := by simp; omega
          have hrf := Lib.hid (K3.out hxy)
          go_wp2_with fail
          go_quiet (fail)
          go_wp2
          go_ret
          exact ⟨ret_bool hrf.out.symm, below_drewN hbw _⟩
      · obtain rfl : k = n := by omega
        have hrt := Lib.hid (key2.out hall.out)
        go_wp2
        go_ret
        exact ⟨ret_bool hrt.out.symm, hbw⟩
  · obtain rfl : r = false := by rw [hr, decide_eq_false_iff_not]; intro e; exact hne (by rw [e])
    clear ha hb hr
    obtain ⟨n, hn⟩ : ∃ n, n = us.length := ⟨_, rfl⟩
    obtain ⟨m, hm⟩ : ∃ m, m = bs.length := ⟨_, rfl⟩
    rw [← hn, ← hm] at hne
    rw [← hn, ← hm]
    clear hn hm
    have hd : ((n : Int) != (m : Int)) = true := by simp; omega
    go_enter Try.func46, Try.ntmps46
    go_wp2
    go_ret
    exact ⟨rfl, Below.refl _ _⟩
def Gives (bs : List Nat) (w : World) (e : Ending) (w' : World) : Prop := ∃ v, e = .returned v ∧ w'.ownsRow w.heap.size 5 1 v bs.length (vals bs) ∧ Below w.heap.size w w'
theorem take_succ' (bs : List Nat) (k : Nat) (h : k < bs.length) : bs.take (k + 1) = bs.take k ++ [bs.getD k 0] := by
  rw [List.take_add_one, List.getElem?_eq_getElem h, List.getD_eq_getElem?_getD, List.getElem?_eq_getElem h]
  rfl
theorem CopyBytes_any (v : Value) (bs : List Nat) (w : World) (hn : bs.length ≤ 1000000) (h : BS w w.heap.size v bs) :
    Calls Try.prog 20 #[v] w (Gives bs w) := by
  obtain ⟨i0, hi0, hz0, hz1, hz2⟩ := info_parts u8_info
  obtain ⟨A, c, rfl, a1, a2, ha⟩ := h
  obtain ⟨n, hN⟩ : ∃ n, n = bs.length := ⟨_, rfl⟩
  obtain ⟨f, hf⟩ : ∃ f : Nat → Nat, f = fun i => bs.getD i 0 := ⟨_, rfl⟩
  rw [← hN] at a1 ha hn ⊢
  rw [← hf] at ha
  replace hf := Lib.hid hf
  replace hN := Lib.hid hN
  unfold maxLen at a2
  replace ha := Lib.hid ha
  go_enter Try.func20, Try.ntmps20
  go_wp2
  go_loopw [3, 4] (fun b i w' => ∃ k : Nat, k ≤ n ∧ i = .int .i64 k ∧ w'.ownsRow w.heap.size 5 1 b k (vals (bs.take k)) ∧ Below w.heap.size w w') (fun _ i _ => n - (intOf i).toNat)
  case atStart => exact ⟨0, by omega, rfl, World.ownsRow_nil _ _ _ _, Below.refl _ _⟩
  case round =>
    obtain ⟨k, hk, rfl, hown, hb⟩ := hrel
    replace hown := Lib.hid hown
    by_cases hlt : k < n
    · obtain ⟨a1, rfl, _, hx, q1⟩ := ha.out.later hb k hlt
      have t0 : (0 : Int) ≤ (k : Int) := by omega
      have t1 : (k : Int) < (n : Int) := by omega
      go_wp2_with (first
        | (at_builtin; refine wpList_append_own _ rfl _ _ 37 rfl w.heap.size 5 i0 (.int .u8 0) 1 1 Try.underlying37 hi0 hz0 hz1 hz2 rfl (by decide) u3 k (vals (bs.take k)) rfl (hown.out.alloc _) ⟨_, 0, none⟩ 1 1 [_] rfl rfl (cell_one_new _ _ _) (fun x hx => by simp at hx; subst hx; rfl) (by unfold maxLen; omega) (by omega) (by have := hb.size; simp; omega) ?_; intro v' w3 hown' hgrow3 hnil3))
      refine ⟨⟨k + 1, by omega, by go_num, ?_, ?_⟩, by simp [intOf]; omega⟩
      · rw [take_succ' bs k (by rw [← hN.out]; exact hlt), vals_append]
        rw [hf.out] at hown'
        exact hown'
      · exact (hb.alloc hb.size _).grown hgrow3 (by have := hb.size; simp; omega) (fun q hq => (hown.out.lt q hq).1)
    · obtain rfl : k = n := by omega
      go_wp2
      go_ret
      refine ⟨_, rfl, ?_, hb⟩
      have := hown.out
      rw [hN.out, List.take_length] at this
      exact this
theorem set_own {w : World} {b r n c : Nat} {xs : List Value} (h : w.ownsRow b 5 1 (.slice (some ⟨r, 0, none⟩) n c) n xs) (i : Nat) (u : Value) (hi : i < n) : ∃ ys : List Value, (w.setCell ⟨r, i, none⟩ u).ownsRow b 5 1 (.slice (some ⟨r, 0, none⟩) n c) n ys ∧ ∀ j, j ≠ i → ys[j]? = xs[j]? := by
  obtain ⟨r', cur, e, h1, h2, h3, h4, h5, h6⟩ := own_at h (by omega)
  cases e
  refine ⟨(cur.setIfInBounds i u).toList.take (n * 1), ⟨by simp; omega, .inr ⟨r, c, cur.setIfInBounds i u, rfl, h1, heap_setCell_same w r i cur _ _ h2, h4, h5, by simpa using h3, rfl⟩⟩, fun j hj => ?_⟩
  rw [h6, Array.toList_setIfInBounds, List.take_set, List.getElem?_set_ne (Ne.symm hj)]
set_option maxRecDepth 100000 in
theorem Bytes_any (b : Nat) (u : Value) (zs : List Nat) (w : World) (h : w.ownsRow b 5 1 u zs.length (vals zs)) (hb : b ≤ w.heap.size) (hn : zs.length ≤ 1000000) :
    Calls Try.prog 22 #[u] w fun e w' => e = .returned (.tuple #[]) ∧ But (fun k => u.ownBlock = some k) w w' := by
  obtain ⟨i0, hi0, hz0, hz1, hz2⟩ := info_parts u8_info
  obtain ⟨A, c, rfl, h1, h2⟩ := own_form h
  have hv := Lib.hid (fun j (hj : j < zs.length) => getD_vals zs j hj)
  obtain ⟨n, hN⟩ : ∃ n, n = zs.length := ⟨_, rfl⟩
  rw [← hN] at h h1 hn hv ⊢
  clear hN
  replace h := Lib.hid h
  go_enter Try.func22, Try.ntmps22
  go_wp2_with fail
  go_loopw [2] (fun i w' => ∃ (k : Nat) (ys : List Value), k ≤ n ∧ i = .int .i64 k ∧ w'.ownsRow b 5 1 (.slice A n c) n ys ∧ (∀ j, k ≤ j → j < n → ys[j]? = some (.int .u8 ((zs.getD j 0 : Nat) : Int))) ∧ But (fun q => Value.ownBlock (.slice A n c) = some q) w w') (fun i _ => n - (intOf i).toNat)
  case atStart => exact ⟨0, vals zs, by omega, rfl, h.out, fun j _ hj => hv.out j hj, But.refl _ _⟩
  case round =>
    obtain ⟨k, ys, hk, rfl, own, hys, bt⟩ := hrel
    by_cases hkn : k < n
    · obtain ⟨r, cur, rfl, o1, o2, o3, o4, o5, o6⟩ := own_at own (by omega)
      have hyk := hys k (Nat.le_refl _) hkn
      have q1 := own.cells (g := r) rfl k _ hyk
      rw [add_none, Nat.zero_add] at q1
      have q2 : wr.frozen? ⟨r, k, none⟩ = false := frozen_of_row wr r k cur _ o2
      have t0 : (0 : Int) ≤ (k : Int) := by omega
      have t1 : (k : Int) < (n : Int) := by omega
      obtain ⟨z, hz⟩ : ∃ z : Nat, z = zs.getD k 0 := ⟨_, rfl⟩
      rw [← hz] at q1
      have hset := Lib.hid (fun u => set_own own k u hkn)
      replace hys := Lib.hid hys
      replace bt := Lib.hid bt
      clear hyk own o1 o2 o3 o6 hz
      go_wp2_with fail
      obtain ⟨ys', p1, p2⟩ := hset.out (.int .u8 (bits BinOp.xor IntKind.u8 (z : Int) 85))
      exact ⟨⟨k + 1, ys', by omega, by go_num, p1, fun j hj1 hj2 => (p2 j (by omega)).trans (hys.out j (by omega) hj2), bt.out.trans ((But.setCell wr r k _).mono fun q _ e => by subst e; rfl)⟩, by simp [intOf]; omega⟩
    · obtain rfl : k = n := by omega
      replace own := Lib.hid own
      replace bt := Lib.hid bt
      clear hys
      have hbr : b ≤ wr.heap.size := Nat.le_trans hb bt.out.size
      go_wp2_with (first
        | (at_builtin; refine wpList_append_own _ rfl _ _ 37 rfl b 5 i0 (.int .u8 0) 1 1 Try.underlying37 hi0 hz0 hz1 hz2 rfl (by decide) _ k ys rfl (own.out.alloc _) ⟨_, 0, none⟩ 1 1 [_] rfl rfl (cell_one_new _ _ _) (fun x hx => by simp at hx; subst hx; rfl) (by unfold maxLen; omega) (by omega) (by simp; omega) ?_; intro v' w3 hown' hgrow3 hnil3))
      go_end0
      exact ⟨rfl, bt.out.trans ((But.alloc _ wr _).trans (But.grown hgrow3))⟩
end Go.Proofs.Ytncafkifebannaa
