/-
  Bytes that are written over, and what a script weighs; condition: the bytes were made by the call.
-/
import Derived.Test.YtcdfmldbpmgoiaaGPage2
import Derived.Test.YtcdfmldbpmgoiaaGOpen2
namespace Go.Proofs.Ytcdfmldbpmgoiaa
open Go.RowKit
theorem set_own {w : World} {b r n c : Nat} {xs : List Value} (h : w.ownsRow b 5 1 (.slice (some ⟨r, 0, none⟩) n c) n xs) (i : Nat) (u : Value) (hi : i < n) : ∃ ys : List Value, (w.setCell ⟨r, i, none⟩ u).ownsRow b 5 1 (.slice (some ⟨r, 0, none⟩) n c) n ys ∧ ∀ j, j ≠ i → ys[j]? = xs[j]? := by
  obtain ⟨r', cur, e, h1, h2, h3, h4, h5, h6⟩ := own_at h (by omega)
  cases e
  refine ⟨(cur.setIfInBounds i u).toList.take (n * 1), ⟨by simp; omega, .inr ⟨r, c, cur.setIfInBounds i u, rfl, h1, heap_setCell_same w r i cur _ _ h2, h4, h5, by simpa using h3, rfl⟩⟩, fun j hj => ?_⟩
  rw [h6, Array.toList_setIfInBounds, List.take_set, List.getElem?_set_ne (Ne.symm hj)]
set_option maxRecDepth 100000 in
theorem Bytes_any (b : Nat) (u : Value) (zs : List Nat) (w : World) (h : w.ownsRow b 5 1 u zs.length (vals zs)) (hb : b ≤ w.heap.size) (hn : zs.length ≤ 1000000) :
    Calls Try.prog 17 #[u] w fun e w' => e = .returned (.tuple #[]) ∧ But (fun k => u.ownBlock = some k) w w' := by
  obtain ⟨i0, hi0, hz0, hz1, hz2⟩ := info_parts u8_info
  obtain ⟨A, c, rfl, h1, h2⟩ := own_form h
  have hv := Lib.hid (fun j (hj : j < zs.length) => getD_vals zs j hj)
  obtain ⟨n, hN⟩ : ∃ n, n = zs.length := ⟨_, rfl⟩
  rw [← hN] at h h1 hn hv ⊢
  clear hN
  replace h := Lib.hid h
  go_enter Try.func17, Try.ntmps17
  go_wp2_with fail
  go_loopw [2] (fun i w' => ∃ (k : Nat) (ys : List Value), k ≤ n ∧ i = .int .i64 k ∧ w'.ownsRow b 5 1 (.slice A n c) n ys ∧ (∀ j, k ≤ j → j < n → ys[j]? = some (.int .u8 ((zs.getD j 0 : Nat) : Int))) ∧ But (fun q => Value.ownBlock (.slice A n c) = some q) w w') (fun i _ => n - (intOf i).toNat)
  case atStart => exact ⟨0, vals zs, by omega, rfl, h.out, fun j _ hj => hv.out j hj, But.refl _ _⟩
  case round =>
    obtain ⟨k, ys, hk, rfl, own, hys, bt⟩ := hrel
    by_cases hkn : k < n
    · obtain ⟨r, cur, rfl, o1, o2, o3, o4, o5, o6⟩ := own_at own (by omega)
      have hyk := hys k (Nat.le_refl _) hkn
      have q1 := own.cells (g := r) rfl k _ hyk
      rw [add_none, Nat.zero_add] at q1
      have q2 : wr.frozen? ⟨r, k, none⟩ = false := frozen_of_row wr r k cur _ o2
      have t0 : (0 : Int) ≤ (k : Int) := by omega
      have t1 : (k : Int) < (n : Int) := by omega
      obtain ⟨z, hz⟩ : ∃ z : Nat, z = zs.getD k 0 := ⟨_, rfl⟩
      rw [← hz] at q1
      have hset := Lib.hid (fun u => set_own own k u hkn)
      replace hys := Lib.hid hys
      replace bt := Lib.hid bt
      clear hyk own o1 o2 o3 o6 hz
      go_wp2_with fail
      obtain ⟨ys', p1, p2⟩ := hset.out (.int .u8 (bits BinOp.xor IntKind.u8 (z : Int) 85))
      exact ⟨⟨k + 1, ys', by omega, by go_num, p1, fun j hj1 hj2 => (p2 j (by omega)).trans (hys.out j (by omega) hj2), bt.out.trans ((But.setCell wr r k _).mono fun q _ e => by subst e; rfl)⟩, by simp [intOf]; omega⟩
    · obtain rfl : k = n := by omega
      replace own := Lib.hid own
      replace bt := Lib.hid bt
      clear hys
      have hbr : b ≤ wr.heap.size := Nat.le_trans hb bt.out.size
      go_wp2_with (first
        | (at_builtin; refine wpList_append_own _ rfl _ _ 38 rfl b 5 i0 (.int .u8 0) 1 1 Try.underlying38 hi0 hz0 hz1 hz2 rfl (by decide) _ k ys rfl (own.out.alloc _) ⟨_, 0, none⟩ 1 1 [_] rfl rfl (cell_one_new _ _ _) (fun x hx => by simp at hx; subst hx; rfl) (by unfold maxLen; omega) (by omega) (by simp; omega) ?_; intro v' w3 hown' hgrow3 hnil3))
      go_end0
      exact ⟨rfl, bt.out.trans ((But.alloc _ wr _).trans (But.grown hgrow3))⟩
/-- The first k acts' bytes are no more than m. -/
def Light (w : World) (A : Option Addr) (k m : Nat) : Prop := ∀ i, i < k → ∀ (g o : Nat) (AB : Option Addr) (len cB : Nat), A = some ⟨g, o, none⟩ → w.cell? ⟨g, o + i * 6 + 5, none⟩ = some (.slice AB len cB) → len ≤ m
theorem Light.step {w : World} {g o k m len cB : Nat} {AB : Option Addr} (h : Light w (some ⟨g, o, none⟩) k m) (hc : w.cell? ⟨g, o + k * 6 + 5, none⟩ = some (.slice AB len cB)) : Light w (some ⟨g, o, none⟩) (k + 1) (m + len) := by
  intro i hi g' o' AB' len' cB' e hc'
  by_cases hik : i = k
  · subst hik
    injection e with e
    injection e with e1 e2
    subst e1
    subst e2
    rw [hc] at hc'
    injection hc' with hc'
    injection hc' with _ hc'
    omega
  · have := h i (by omega) g' o' AB' len' cB' e hc'
    omega
def HPost (mn limit : Int) (A : Option Addr) (l : Nat) (w : World) (e : Ending) (w' : World) : Prop :=
  (e = .returned (.bool true) ∨ (e = .returned (.bool false) ∧ Light w A (min l 30) 5000 ∧ ¬ (2 < mn ∧ mn ≤ 16) ∧ limit ≤ 4)) ∧ Below w.heap.size w w'
theorem Light.mono {w : World} {A : Option Addr} {k m m' : Nat} (h : Light w A k m) (hm : m ≤ m') : Light w A k m' := fun i hi g o AB len cB e hc => Nat.le_trans (h i hi g o AB len cB e hc) hm
set_option maxRecDepth 100000 in
set_option maxHeartbeats 1000000 in
theorem heavy_any (mn mx limit : Int) (A : Option Addr) (l c : Nat) (w : World) (hlc : l ≤ c) (hcm : c ≤ 9223372036854775807) (hacts : Acts w A l) :
    Calls Try.prog 5 #[.agg #[.int .i64 mn, .int .i64 mx, .int .i64 limit, .slice A l c]] w (HPost mn limit A l w) := by
  replace hacts := Lib.hid hacts
  go_enter Try.func5, Try.ntmps5
  go_wp2_with fail
  obtain ⟨W0, hW0⟩ : ∃ W0, W0 = w.alloc (.cells #[.int .i64 mn, .int .i64 mx, .int .i64 limit, .slice A l c] 26) := ⟨_, rfl⟩
  rw [← hW0]
  have hz : W0.heap.size = w.heap.size + 1 := by rw [hW0]; simp
  have q0 : W0.cell? ⟨w.heap.size, 0, none⟩ = some (.int .i64 mn) := by rw [hW0]; simp
  have q2 : W0.cell? ⟨w.heap.size, 2, none⟩ = some (.int .i64 limit) := by rw [hW0]; simp
  have q3 : W0.cell? ⟨w.heap.size, 3, none⟩ = some (.slice A l c) := by rw [hW0]; simp
  have hbW : Below w.heap.size w W0 := by rw [hW0]; exact (Below.refl _ _).alloc (Nat.le_refl _) _
  clear hW0
  replace hbW := Lib.hid hbW
  go_loopw [3, 4] (fun n i w' => ∃ (k s : Nat), (k ≤ l ∧ k ≤ 30) ∧ n = .int .i64 s ∧ i = .int .i64 k ∧ s ≤ k * 140737488355328 ∧ Light w A k s ∧ Below W0.heap.size W0 w') (fun _ i _ => 30 - (intOf i).toNat)
  case atStart => exact ⟨0, 0, by omega, rfl, rfl, by omega, fun i hi => by omega, Below.refl _ _⟩
  case round =>
    obtain ⟨k, s, hk, rfl, rfl, hs, hL, hb⟩ := hrel
    have p0 := (hb.cell (p := ⟨w.heap.size, 0, none⟩) (by show w.heap.size < _; omega)).trans q0
    have p2 := (hb.cell (p := ⟨w.heap.size, 2, none⟩) (by show w.heap.size < _; omega)).trans q2
    have p3 := (hb.cell (p := ⟨w.heap.size, 3, none⟩) (by show w.heap.size < _; omega)).trans q3
    have hbw := hbW.out.trans (hb.mono (by omega))
    by_cases hkl : k < l ∧ k < 30
    · obtain ⟨ga, oa, d, a, f, m, x, vB, xs, rfl, hga, hat, hrg, ⟨AB, cB, rfl, _, _, _⟩, hxl⟩ := hacts.out k hkl.1
      have e5 := (hbw.cell (p := ⟨ga, oa + k * 6 + 5, none⟩) hga).trans hat.c5
      have hL2 := Lib.hid (hL.step hat.c5)
      clear hat hrg hL
      have t0 : (0 : Int) ≤ (k : Int) := by omega
      have t1 : (k : Int) < (l : Int) := by omega
      have t2 : (k : Int) < 30 := by omega
      obtain ⟨len, hlen⟩ : ∃ len, len = xs.length := ⟨_, rfl⟩
      rw [← hlen] at e5 hxl hL2
      clear hlen
      replace hb := Lib.hid hb
      replace hbw := Lib.hid hbw
      go_wp2_with fail
      exact ⟨⟨k + 1, s + len, by omega, by go_num, by go_num, by omega, hL2.out, hb.out⟩, by simp [intOf]; omega⟩
    · have hmin : k = min l 30 := by omega
      replace hL := Lib.hid hL
      replace hmin := Lib.hid hmin
      replace hbw := Lib.hid hbw
      replace hb := Lib.hid hb
      have hor : ¬ (k < l) ∨ (k < l ∧ ¬ k < 30) := by omega
      have hcase : 5000 < (s : Int) ∨ ((s : Int) ≤ 5000 ∧ (2 < mn ∧ mn ≤ 16)) ∨ ((s : Int) ≤ 5000 ∧ (mn ≤ 2 ∨ (2 < mn ∧ 16 < mn)) ∧ 4 < limit) ∨ ((s : Int) ≤ 5000 ∧ (mn ≤ 2 ∨ (2 < mn ∧ 16 < mn)) ∧ limit ≤ 4) := by omega
      have hfin : (s : Int) ≤ 5000 → ¬ (2 < mn ∧ mn ≤ 16) → limit ≤ 4 → ∀ b : Bool, b = false → HPost mn limit A l w (.returned (.bool b)) wr := fun u1 u2 u3 b hb => ⟨.inr ⟨by rw [hb], by rw [← hmin.out]; exact hL.out.mono (by omega), u2, u3⟩, hbw.out⟩
      have htru : HPost mn limit A l w (.returned (.bool true)) wr := ⟨.inl rfl, hbw.out⟩
      replace hfin := Lib.hid hfin
      replace htru := Lib.hid htru
      rcases hor with hor | hor
      all_goals
        rcases hcase with h1 | ⟨h1, h2, h3⟩ | ⟨h1, h2 | ⟨h2, h3⟩, h4⟩ | ⟨h1, h2 | ⟨h2, h3⟩, h4⟩
        all_goals
          go_wp2_with fail
          all_goals go_ret
          all_goals first | exact htru.out | exact hfin.out h1 (by omega) h4 _ (by simp; omega)
end Go.Proofs.Ytcdfmldbpmgoiaa
