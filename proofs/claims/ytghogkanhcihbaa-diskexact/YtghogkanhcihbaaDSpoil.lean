/-
  Bytes that are written over, wherever the slice begins in its row; condition: the row was made by the call.
-/
import Derived.Test.YtghogkanhcihbaaDPage8
import Derived.ArgAppend
import Derived.Lib.AppendZeros
namespace Go.Proofs.Ytghogkanhcihbaa
open Go.RowKit
/-- A row of c cells. -/
def Raw (w : World) (r c : Nat) (ys : List Value) : Prop := w.heap[r]? = some (.cells ys.toArray 5 (0, 0)) ∧ ys.length = c
theorem Raw.cell {w : World} {r c : Nat} {ys : List Value} (h : Raw w r c ys) (i : Nat) : w.cell? ⟨r, i, none⟩ = ys[i]? := by
  rw [cell_of_row w r i _ _ (0, 0) h.1]; simp
theorem Raw.f {w : World} {r c : Nat} {ys : List Value} (h : Raw w r c ys) (i : Nat) : w.frozen? ⟨r, i, none⟩ = false := frozen_of_row w r i _ _ h.1
theorem Raw.set {w : World} {r c : Nat} {ys : List Value} (h : Raw w r c ys) (i : Nat) (u : Value) : Raw (w.setCell ⟨r, i, none⟩ u) r c (ys.set i u) ∧ But (· = r) w (w.setCell ⟨r, i, none⟩ u) := by
  refine ⟨⟨?_, by rw [List.length_set]; exact h.2⟩, But.setCell w r i u⟩
  rw [heap_setCell_same w r i _ _ _ h.1]
  simp
set_option maxRecDepth 100000 in
set_option maxHeartbeats 1000000 in
theorem spoil_any (w : World) (r c o n d : Nat) (bs : List Nat) (h : RowAt w r c bs) (hn : o + n ≤ bs.length) (hd : n ≤ d ∧ o + d ≤ c) (hsm : bs.length ≤ 1000000) :
    Calls Try.prog 8 #[.slice (some ⟨r, o, none⟩) n d] w fun e w' => e = .returned (.tuple #[]) ∧ But (· = r) w w' := by
  obtain ⟨i0, hi0, hz0, hz1, hz2⟩ := info_parts u8_info
  have hle := h.le
  have h0 : ∃ ys, Raw w r c ys ∧ ∀ j, 0 ≤ j → j < n → ys[o + j]? = some (.int .u8 ((bs.getD (o + j) 0 : Nat) : Int)) := by
    have hc := fun j (hj : j < n) => h.cell (o + j) (by omega)
    obtain ⟨cur, q1, q2, _⟩ := h
    refine ⟨cur.toList, ⟨by simpa using q1, by simpa using q2⟩, fun j _ hj => ?_⟩
    rw [← hc j hj, cell_of_row w r (o + j) cur _ (0, 0) q1]
    simp
  obtain ⟨f, hf⟩ : ∃ f : Nat → Nat, f = fun j => bs.getD (o + j) 0 := ⟨_, rfl⟩
  obtain ⟨ys0, hR, hy⟩ := h0
  have hy0 : ∀ j, 0 ≤ j → j < n → ys0[o + j]? = some (.int .u8 ((f j : Nat) : Int)) := by rw [hf]; exact hy
  have hdm : d ≤ 9223372036854775807 := by unfold maxLen at hle; omega
  have hnm : n ≤ 1000000 := by omega
  clear hf hy h hn hsm hle
  replace hR := Lib.hid hR
  replace hy0 := Lib.hid hy0
  go_enter Try.func8, Try.ntmps8
  go_wp2_with fail
  go_loopw [2] (fun i w' => ∃ (k : Nat) (ys : List Value), k ≤ n ∧ i = .int .i64 k ∧ Raw w' r c ys ∧ (∀ j, k ≤ j → j < n → ys[o + j]? = some (.int .u8 ((f j : Nat) : Int))) ∧ But (· = r) w w') (fun i _ => n - (intOf i).toNat)
  case atStart => exact ⟨0, ys0, by omega, rfl, hR.out, hy0.out, But.refl _ _⟩
  case round =>
    clear hR hy0
    obtain ⟨k, ys, hk, rfl, hR, hy, bt⟩ := hrel
    by_cases hkn : k < n
    · have q1 : wr.cell? ⟨r, o + k, none⟩ = some (.int .u8 ((f k : Nat) : Int)) := by rw [hR.cell]; exact hy k (Nat.le_refl _) hkn
      have q2 := hR.f (o + k)
      have t0 : (0 : Int) ≤ (k : Int) := by omega
      have t1 : (k : Int) < (n : Int) := by omega
      have hset := Lib.hid (fun u => hR.set (o + k) u)
      obtain ⟨z, hz⟩ : ∃ z : Nat, z = f k := ⟨_, rfl⟩
      rw [← hz] at q1
      replace hy := Lib.hid hy
      replace bt := Lib.hid bt
      clear hR hz
      go_wp2_with fail
      obtain ⟨p1, p2⟩ := hset.out (.int .u8 (bits BinOp.xor IntKind.u8 (z : Int) 85))
      exact ⟨⟨k + 1, _, by omega, by go_num, p1, fun j hj1 hj2 => by rw [List.getElem?_set_ne (by omega)]; exact hy.out j (by omega) hj2, bt.out.trans p2⟩, by simp [intOf]; omega⟩
    · obtain rfl : k = n := by omega
      have hcell := hR.cell
      have hff := hR.f
      have hlen := hR.2
      have hrl : r < wr.heap.size := (Array.getElem?_eq_some_iff.1 hR.1).1
      have hrun : ∃ v' w', (Builtin.append_ #[26, 26] 26 #[.slice (some ⟨r, o, none⟩) k d, .slice (some ⟨wr.heap.size, 0, none⟩) 1 1]).run Try.prog (wr.alloc (.cells #[.int .u8 5] 5)) = .ok v' w' ∧ But (· = r) wr w' := by
        have hc1 : ∀ j, (wr.alloc (.cells #[.int .u8 5] 5)).cell? ⟨r, j, none⟩ = wr.cell? ⟨r, j, none⟩ := fun j => World.cell?_of_block (Below.heap_alloc _ _ _ hrl)
        by_cases hr : k + 1 ≤ d
        · refine ⟨_, _, run_append_room_cells (P := Try.prog) (wr.alloc (.cells #[.int .u8 5] 5)) 26 26 5 i0 Try.underlying26 hi0 r o k d ⟨wr.heap.size, 0, none⟩ 1 1 [.int .u8 5] (by rw [hz1]; rfl) (cell_one_new _ _ _) (fun x hx => by simp at hx; subst hx; rfl) hr (fun j hj => ?_) (fun j hj => ?_), ?_⟩
          · rw [hc1, hcell, hz1]
            simp at hj
            subst hj
            rw [List.getElem?_eq_getElem (by omega)]
            rfl
          · exact frozen_of_row _ r _ _ _ ((Below.heap_alloc wr _ _ hrl).trans hR.1)
          · have b1 := But.alloc (· = r) wr (.cells #[.int .u8 5] 5)
            exact b1.trans (But.setCell _ r _ _)
        · obtain ⟨v', w', q1, _, q2⟩ := run_append_arg_grows (P := Try.prog) (wr.alloc (.cells #[.int .u8 5] 5)) 26 26 5 i0 (.int .u8 0) 1 1 Try.underlying26 hi0 hz0 hz1 hz2 rfl (by decide) ⟨r, o, none⟩ k d ((ys.drop o).take k) (by rw [List.length_take, List.length_drop]; omega) (fun j u hj => by
            have hj2 : j < k := by
              have := (List.getElem?_eq_some_iff.1 hj).1
              simp at this
              omega
            rw [List.getElem?_take_of_lt hj2, List.getElem?_drop] at hj
            rw [add_none, hc1, hcell]
            exact hj) ⟨wr.heap.size, 0, none⟩ 1 1 [.int .u8 5] rfl (cell_one_new _ _ _) (by omega) (by unfold maxLen; omega) (by omega)
          exact ⟨v', w', q1, (But.alloc (· = r) wr _).trans ((But.grown q2).mono fun _ _ e => by cases e)⟩
      obtain ⟨v2, w2, hr2, bf⟩ := hrun
      have hfin := Lib.hid (bt.trans bf)
      clear hcell hff hlen bt hy hR bf
      go_wp2_with (first
        | (at_builtin; refine Lib.wpList_append_run _ rfl _ _ _ _ rfl _ _ rfl rfl _ w2 hr2 ?_))
      go_end0
      exact ⟨rfl, hfin.out⟩
end Go.Proofs.Ytghogkanhcihbaa
