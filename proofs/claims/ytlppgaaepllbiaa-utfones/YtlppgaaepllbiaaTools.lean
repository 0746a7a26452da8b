/-
  What the page's helper functions answer: lists held against lists, copied bytes, a list spoilt; condition: the lists lie in memory that was there at the call.
-/
import Derived.Test.YtlppgaaepllbiaaWalk
import Derived.Deep.Onto
namespace Go.Proofs.Ytlppgaaepllbiaa
open Go.RowKit
/-- The value is a slice of these numbers, in memory below B. -/
def IS (w : World) (B : Nat) (v : Value) (xs : List Int) : Prop :=
  ∃ A c, v = .slice A xs.length c ∧ xs.length ≤ c ∧ c ≤ maxLen ∧ Ints w B A xs.length (fun i => xs.getD i 0)
theorem IS.below {w w' : World} {B C : Nat} {v : Value} {xs : List Int} (h : IS w B v xs) (hb : Below B w w') (hC : B ≤ C) : IS w' C v xs := by
  obtain ⟨A, c, e, h1, h2, h3⟩ := h
  exact ⟨A, c, e, h1, h2, h3.below hb hC⟩
theorem IS.later {w w' : World} {v : Value} {xs : List Int} (h : IS w w.heap.size v xs) (hb : Below w.heap.size w w') : IS w' w'.heap.size v xs := h.below hb hb.size
def ints (ps : List Nat) : List Int := ps.map fun p : Nat => (p : Int)
theorem ints_length (ps : List Nat) : (ints ps).length = ps.length := by simp [ints]
theorem getD_vals (bs : List Nat) (i : Nat) (h : i < bs.length) : (vals bs)[i]? = some (.int .u8 ((bs.getD i 0 : Nat) : Int)) := by
  unfold vals
  rw [List.getElem?_map, List.getElem?_eq_getElem h, List.getD_eq_getElem?_getD, List.getElem?_eq_getElem h]
  rfl
theorem getD_pvals (ps : List Nat) (i : Nat) (h : i < ps.length) : (pvals ps)[i]? = some (.int .i32 ((ints ps).getD i 0)) := by
  unfold pvals ints
  rw [List.getElem?_map, List.getElem?_eq_getElem h, List.getD_eq_getElem?_getD, List.getElem?_map, List.getElem?_eq_getElem h]
  rfl
/-- New memory that holds bytes reads as these bytes. -/
theorem own_BS {w : World} {base : Nat} {v : Value} {bs : List Nat} (h : w.ownsRow base 5 1 v bs.length (vals bs)) (hlt : ∀ b ∈ bs, b < 256) : BS w w.heap.size v bs := by
  rcases h.2 with ⟨rfl, h0⟩ | ⟨g, cap, cur, rfl, _, _, h1, h2, _⟩
  · exact ⟨none, 0, by rw [h0], by omega, by unfold maxLen; omega, fun i hi => by omega⟩
  · refine ⟨_, _, rfl, h1, h2, fun i hi => ⟨⟨g, 0, none⟩, rfl, (h.lt g rfl).2, ?_, ?_⟩⟩
    · exact hlt _ (by show bs.getD i 0 ∈ bs; rw [List.getD_eq_getElem?_getD, List.getElem?_eq_getElem hi]; exact List.getElem_mem hi)
    · exact h.cells (g := g) rfl i _ (getD_vals bs i hi)
theorem own_IS {w : World} {base : Nat} {v : Value} {ps : List Nat} (h : w.ownsRow base 21 1 v ps.length (pvals ps)) (hp : ∀ p ∈ ps, M.IsP p) : IS w w.heap.size v (ints ps) := by
  rcases h.2 with ⟨rfl, h0⟩ | ⟨g, cap, cur, rfl, _, _, h1, h2, _⟩
  · exact ⟨none, 0, by rw [ints_length, h0], by rw [ints_length]; omega, by unfold maxLen; omega, fun i hi => by rw [ints_length] at hi; omega⟩
  · refine ⟨some ⟨g, 0, none⟩, cap, by rw [ints_length], by rw [ints_length]; exact h1, h2, fun i hi => ⟨⟨g, 0, none⟩, rfl, (h.lt g rfl).2, ?_, ?_⟩⟩
    · rw [ints_length] at hi
      have e : (ints ps).getD i 0 = ((ps[i] : Nat) : Int) := by simp [ints, List.getD_eq_getElem?_getD, hi]
      have := (hp ps[i] (List.getElem_mem hi)).1
      show -2147483648 ≤ (ints ps).getD i 0 ∧ (ints ps).getD i 0 ≤ 2147483647
      rw [e]
      omega
    · rw [ints_length] at hi
      exact h.cells (g := g) rfl i _ (getD_pvals ps i hi)
/-- New memory stays as it is behind what leaves all blocks alone. -/
theorem own_later {w w' : World} {b e s n : Nat} {v : Value} {xs : List Value} (h : w.ownsRow b e s v n xs) (hb : Below w.heap.size w w') : w'.ownsRow b e s v n xs :=
  h.kept (row := none) ⟨hb.os, hb.tape, hb.output, hb.size, fun i hi _ => hb.block i hi⟩ (by cases v.ownBlock <;> simp)
theorem EqBytes_same (v1 v2 : Value) (bs : List Nat) (w : World) (h1 : BS w w.heap.size v1 bs) (h2 : BS w w.heap.size v2 bs) :
    Calls Try.prog 14 #[v1, v2] w fun e w' => e = .returned (.bool true) ∧ Below w.heap.size w w' := by
  obtain ⟨A, c, rfl, a1, a2, ha⟩ := h1
  obtain ⟨B, d, rfl, b1, b2, hb⟩ := h2
  obtain ⟨n, hn⟩ : ∃ n, n = bs.length := ⟨_, rfl⟩
  obtain ⟨f, hf⟩ : ∃ f : Nat → Nat, f = fun i => bs.getD i 0 := ⟨_, rfl⟩
  rw [← hn] at a1 ha hb ⊢
  rw [← hf] at ha hb
  clear hn hf b1 b2
  unfold maxLen at a2
  replace ha := Lib.hid ha
  replace hb := Lib.hid hb
  have hne : ((n : Int) != (n : Int)) = false := by simp
  go_enter Try.func14, Try.ntmps14
  go_wp2
  go_loopw [5] (fun i w' => ∃ k : Nat, k ≤ n ∧ i = .int .i64 k ∧ Below w.heap.size w w') (fun i _ => n - (intOf i).toNat)
  case atStart => exact ⟨0, by omega, rfl, Below.refl _ _⟩
  case round =>
    obtain ⟨k, hk, rfl, hbw⟩ := hrel
    by_cases hlt : k < n
    · obtain ⟨a1, rfl, _, _, q1⟩ := ha.out.later hbw k hlt
      obtain ⟨a2, rfl, _, _, q2⟩ := hb.out.later hbw k hlt
      have t0 : (0 : Int) ≤ (k : Int) := by omega
      have t1 : (k : Int) < (n : Int) := by omega
      go_wp2_with fail
      go_quiet (fail)
      go_wp2
      exact ⟨⟨k + 1, by omega, by go_num, below_drewN hbw _⟩, by simp [intOf]; omega⟩
    · go_wp2
      go_ret
      exact ⟨rfl, hbw⟩
theorem EqPoints_same (v1 v2 : Value) (xs : List Int) (w : World) (h1 : IS w w.heap.size v1 xs) (h2 : IS w w.heap.size v2 xs) :
    Calls Try.prog 13 #[v1, v2] w fun e w' => e = .returned (.bool true) ∧ Below w.heap.size w w' := by
  obtain ⟨A, c, rfl, a1, a2, ha⟩ := h1
  obtain ⟨B, d, rfl, b1, b2, hb⟩ := h2
  obtain ⟨n, hn⟩ : ∃ n, n = xs.length := ⟨_, rfl⟩
  obtain ⟨f, hf⟩ : ∃ f : Nat → Int, f = fun i => xs.getD i 0 := ⟨_, rfl⟩
  rw [← hn] at a1 ha hb ⊢
  rw [← hf] at ha hb
  clear hn hf b1 b2
  unfold maxLen at a2
  replace ha := Lib.hid ha
  replace hb := Lib.hid hb
  have hne : ((n : Int) != (n : Int)) = false := by simp
  go_enter Try.func13, Try.ntmps13
  go_wp2
  go_loopw [5] (fun i w' => ∃ k : Nat, k ≤ n ∧ i = .int .i64 k ∧ Below w.heap.size w w') (fun i _ => n - (intOf i).toNat)
  case atStart => exact ⟨0, by omega, rfl, Below.refl _ _⟩
  case round =>
    obtain ⟨k, hk, rfl, hbw⟩ := hrel
    by_cases hlt : k < n
    · obtain ⟨a1, rfl, _, _, q1⟩ := ha.out.later hbw k hlt
      obtain ⟨a2, rfl, _, _, q2⟩ := hb.out.later hbw k hlt
      have t0 : (0 : Int) ≤ (k : Int) := by omega
      have t1 : (k : Int) < (n : Int) := by omega
      have t2 : (f k != f k) = false := by simp
      go_wp2_with fail
      go_quiet (fail)
      go_wp2
      exact ⟨⟨k + 1, by omega, by go_num, below_drewN hbw _⟩, by simp [intOf]; omega⟩
    · go_wp2
      go_ret
      exact ⟨rfl, hbw⟩
/-- The call hands back new memory that holds the bytes bs. -/
def Gives (bs : List Nat) (w : World) (e : Ending) (w' : World) : Prop := ∃ v, e = .returned v ∧ w'.ownsRow w.heap.size 5 1 v bs.length (vals bs) ∧ Below w.heap.size w w'
theorem vals_append (a b : List Nat) : vals (a ++ b) = vals a ++ vals b := by simp [vals]
theorem vals_length (a : List Nat) : (vals a).length = a.length := by simp [vals]
theorem pvals_append (a b : List Nat) : pvals (a ++ b) = pvals a ++ pvals b := by simp [pvals]
theorem pvals_length (a : List Nat) : (pvals a).length = a.length := by simp [pvals]
theorem take_succ' (bs : List Nat) (k : Nat) (h : k < bs.length) : bs.take (k + 1) = bs.take k ++ [bs.getD k 0] := by
  rw [List.take_succ_eq_append_getElem h, List.getD_eq_getElem?_getD, List.getElem?_eq_getElem h]; rfl
set_option maxRecDepth 100000 in
theorem CopyBytes_any (v : Value) (bs : List Nat) (w : World) (hn : bs.length ≤ 100000) (h : BS w w.heap.size v bs) :
    Calls Try.prog 8 #[v] w (Gives bs w) := by
  obtain ⟨i0, hi0, hz0, hz1, hz2⟩ := info_parts u8_info
  obtain ⟨A, c, rfl, a1, a2, ha⟩ := h
  obtain ⟨n, hN⟩ : ∃ n, n = bs.length := ⟨_, rfl⟩
  obtain ⟨f, hf⟩ : ∃ f : Nat → Nat, f = fun i => bs.getD i 0 := ⟨_, rfl⟩
  rw [← hN] at a1 ha hn ⊢
  rw [← hf] at ha
  replace hf := Lib.hid hf
  replace hN := Lib.hid hN
  unfold maxLen at a2
  replace ha := Lib.hid ha
  go_enter Try.func8, Try.ntmps8
  go_wp2
  go_loopw [3, 4] (fun b i w' => ∃ k : Nat, k ≤ n ∧ i = .int .i64 k ∧ w'.ownsRow w.heap.size 5 1 b k (vals (bs.take k)) ∧ Below w.heap.size w w') (fun _ i _ => n - (intOf i).toNat)
  case atStart => exact ⟨0, by omega, rfl, World.ownsRow_nil _ _ _ _, Below.refl _ _⟩
  case round =>
    obtain ⟨k, hk, rfl, hown, hb⟩ := hrel
    replace hown := Lib.hid hown
    by_cases hlt : k < n
    · obtain ⟨a1, rfl, _, hx, q1⟩ := ha.out.later hb k hlt
      have t0 : (0 : Int) ≤ (k : Int) := by omega
      have t1 : (k : Int) < (n : Int) := by omega
      go_wp2_with (first
        | (at_builtin; refine wpList_append_own _ rfl _ _ 24 rfl w.heap.size 5 i0 (.int .u8 0) 1 1 Try.underlying24 hi0 hz0 hz1 hz2 rfl (by decide) u3 k (vals (bs.take k)) rfl (hown.out.alloc _) ⟨_, 0, none⟩ 1 1 [_] rfl rfl (cell_one_new _ _ _) (fun x hx => by simp at hx; subst hx; rfl) (by unfold maxLen; omega) (by omega) (by have := hb.size; simp; omega) ?_; intro v' w3 hown' hgrow3 hnil3))
      refine ⟨⟨k + 1, by omega, by go_num, ?_, ?_⟩, by simp [intOf]; omega⟩
      · rw [take_succ' bs k (by rw [← hN.out]; exact hlt), vals_append]
        rw [hf.out] at hown'
        exact hown'
      · exact (hb.alloc hb.size _).grown hgrow3 (by have := hb.size; simp; omega) (fun q hq => (hown.out.lt q hq).1)
    · obtain rfl : k = n := by omega
      go_wp2
      go_ret
      refine ⟨_, rfl, ?_, hb⟩
      have := hown.out
      rw [hN.out, List.take_length] at this
      exact this
end Go.Proofs.Ytlppgaaepllbiaa
