/-
  What the page's helper functions answer (bytes held against bytes, copied bytes), and that the small waking example is answered as it should be; condition: the bytes lie in memory that was there at the call.
-/
import Derived.Test.YtflchcdafcoenaaPuts
namespace Go.Proofs.Ytflchcdafcoenaa
open Go.RowKit
theorem getD_vals (bs : List Nat) (i : Nat) (h : i < bs.length) : (vals bs)[i]? = some (.int .u8 ((bs.getD i 0 : Nat) : Int)) := by
  unfold vals
  rw [List.getElem?_map, List.getElem?_eq_getElem h, List.getD_eq_getElem?_getD, List.getElem?_eq_getElem h]
  rfl
/-- New memory that holds bytes reads as these bytes. -/
theorem own_bytes {w : World} {base : Nat} {v : Value} {bs : List Nat} (h : w.ownsRow base 5 1 v bs.length (vals bs)) (hlt : ∀ b ∈ bs, b < 256) :
    ∃ A c, v = .slice A bs.length c ∧ Bytes w w.heap.size A bs.length (fun i => bs.getD i 0) := by
  rcases h.2 with ⟨rfl, h0⟩ | ⟨g, cap, cur, rfl, _⟩
  · exact ⟨none, 0, by rw [h0], fun i hi => by omega⟩
  · refine ⟨_, _, rfl, fun i hi => ⟨⟨g, 0, none⟩, rfl, (h.lt g rfl).2, ?_, ?_⟩⟩
    · exact hlt _ (by show bs.getD i 0 ∈ bs; rw [List.getD_eq_getElem?_getD, List.getElem?_eq_getElem hi]; exact List.getElem_mem hi)
    · exact h.cells (g := g) rfl i _ (getD_vals bs i hi)
theorem EqBytes_same (A B : Option Addr) (n c d : Nat) (f : Nat → Nat) (w : World) (hn : n ≤ maxLen) (ha : Bytes w w.heap.size A n f) (hb : Bytes w w.heap.size B n f) :
    Calls Try.prog 15 #[.slice A n c, .slice B n d] w fun e w' => e = .returned (.bool true) ∧ Below w.heap.size w w' := by
  unfold maxLen at hn
  have ha := Lib.hid ha
  have hb := Lib.hid hb
  have hne : ((n : Int) != (n : Int)) = false := by simp
  go_enter Try.func15, Try.ntmps15
  go_wp2
  go_loopw [5] (fun i w' => ∃ k : Nat, k ≤ n ∧ i = .int .i64 k ∧ Below w.heap.size w w') (fun i _ => n - (intOf i).toNat)
  case atStart => exact ⟨0, by omega, rfl, Below.refl _ _⟩
  case round =>
    obtain ⟨k, hk, rfl, hbw⟩ := hrel
    by_cases hlt : k < n
    · obtain ⟨a1, rfl, _, _, q1⟩ := ha.out.later hbw k hlt
      obtain ⟨a2, rfl, _, _, q2⟩ := hb.out.later hbw k hlt
      have t0 : (0 : Int) ≤ (k : Int) := by omega
      have t1 : (k : Int) < (n : Int) := by omega
      go_wp2_with fail
      go_quiet (fail)
      go_wp2
      exact ⟨⟨k + 1, by omega, by go_num, below_drewN hbw _⟩, by simp [intOf]; omega⟩
    · go_wp2
      go_ret
      exact ⟨rfl, hbw⟩
theorem EqBytes_owned {b1 b2 : Nat} {v1 v2 : Value} {bs : List Nat} {w : World} (h1 : w.ownsRow b1 5 1 v1 bs.length (vals bs)) (h2 : w.ownsRow b2 5 1 v2 bs.length (vals bs)) (hlt : ∀ b ∈ bs, b < 256) (hn : bs.length ≤ maxLen) :
    Calls Try.prog 15 #[v1, v2] w fun e w' => e = .returned (.bool true) ∧ Below w.heap.size w w' := by
  obtain ⟨A, c, rfl, hA⟩ := own_bytes h1 hlt
  obtain ⟨B, d, rfl, hB⟩ := own_bytes h2 hlt
  exact EqBytes_same A B bs.length c d _ w hn hA hB
/-- New memory stays as it is behind what leaves all blocks alone. -/
theorem own_later {w w' : World} {b e s n : Nat} {v : Value} {xs : List Value} (h : w.ownsRow b e s v n xs) (hb : Below w.heap.size w w') : w'.ownsRow b e s v n xs :=
  h.kept (row := none) ⟨hb.os, hb.tape, hb.output, hb.size, fun i hi _ => hb.block i hi⟩ (by cases v.ownBlock <;> simp)
theorem wakes_any (w : World) : Calls Try.prog 12 #[] w fun e w' => e = .returned (.bool true) ∧ Below w.heap.size w w' := by
  have hB : Bytes (w.alloc (.cells #[.int .u8 229, .int .u8 142, .int .u8 38] 5)) (w.alloc (.cells #[.int .u8 229, .int .u8 142, .int .u8 38] 5)).heap.size (some ⟨w.heap.size, 0, none⟩) 3 (fun i => [229, 142, 38].getD i 0) := by
    intro i hi
    refine ⟨_, rfl, by simp, ?_, ?_⟩
    · match i, hi with
      | 0, _ => decide
      | 1, _ => decide
      | 2, _ => decide
    · match i, hi with
      | 0, _ => simp [Addr.add]
      | 1, _ => simp [Addr.add]
      | 2, _ => simp [Addr.add]
  have hB := Lib.hid hB
  go_enter Try.func12, Try.ntmps12
  go_wp2_with fail
  refine (Uint_yes _ 3 3 (fun i => [229, 142, 38].getD i 0) 32 3 _ hB.out (by unfold maxLen; omega) (by omega) (by omega) ⟨by decide, by decide, by decide⟩).mono ?_
  rintro e w1 ⟨rfl, hw1⟩
  have hbw : Below w.heap.size w w1 := ((Below.refl _ _).alloc (Nat.le_refl _) _).trans (hw1.mono (by simp))
  rw [show M.low (fun i => [229, 142, 38].getD i 0) 3 = 624485 by decide]
  clear hw1
  go_wp2_with fail
  refine (num_any _ _).mono ?_
  rintro e w2 ⟨rfl, rfl⟩
  go_wp2
  go_ret
  exact ⟨rfl, hbw⟩
end Go.Proofs.Ytflchcdafcoenaa
