/-
  How the page's disk lies, and what its small functions answer: troubles copied, what may be, a stroke; condition: the page's disk was made by the call.
-/
import Derived.Test.YtghogkanhcihbaaDOff
namespace Go.Proofs.Ytghogkanhcihbaa
open Go.RowKit
theorem nvals_length (xs : List Int) : (nvals xs).length = xs.length := by simp [nvals]
theorem nvals_get (xs : List Int) (i : Nat) (h : i < xs.length) : (nvals xs)[i]? = some (.int .i64 (xs.getD i 0)) := by
  unfold nvals
  rw [List.getElem?_map, List.getElem?_eq_getElem h, List.getD_eq_getElem?_getD, List.getElem?_eq_getElem h]
  rfl
theorem within_is (i n : Int) (w : World) (hi : Rg i) (hn : 0 < n ∧ n ≤ 1000000) : Calls Try.prog 13 #[.int .i64 i, .int .i64 n] w fun e w' => (∃ r : Nat, e = .returned (.int .i64 (r : Int)) ∧ (r : Int) < n) ∧ w = w' := (within_any i n w hi hn).mono fun _ _ ⟨a, b⟩ => ⟨a, b.symm⟩
theorem num_is (e : Int) (w : World) : Calls Try.prog 10 #[.int .i64 e] w fun r w' => r = .returned (.int .i64 e) ∧ w = w' := (num_any e w).mono fun _ _ ⟨a, b⟩ => ⟨a, b.symm⟩
theorem sl_info : (Try.prog.info? 26).map (fun i => (i.zero, i.size, i.bytes)) = some (some (.slice none 0 0), 1, 24) := by kernel_rfl
theorem tr_info : (Try.prog.info? 57).map (fun i => (i.zero, i.size, i.bytes)) = some (some (.agg #[.int .i64 0]), 1, 8) := by kernel_rfl
theorem done_any (b : Bool) (w : World) : Calls Try.prog 34 #[.bool b] w fun e w' => e = .returned (.int .i64 (if b then 103 else 0)) ∧ w' = w := by
  cases b
  all_goals
    go_enter Try.func34, Try.ntmps34
    go_wp2
    go_ret
    exact ⟨rfl, rfl⟩
theorem take_succN (ts : List Int) (k : Nat) (h : k < ts.length) : ts.take (k + 1) = ts.take k ++ [ts.getD k 0] := by
  rw [List.take_add_one, List.getElem?_eq_getElem h, List.getD_eq_getElem?_getD, List.getElem?_eq_getElem h]
  rfl
theorem nvals_append (a b : List Int) : nvals (a ++ b) = nvals a ++ nvals b := by simp [nvals]
def TrPost (ts : List Int) (w : World) (e : Ending) (w' : World) : Prop := ∃ v, e = .returned v ∧ w'.ownsRow w.heap.size 57 1 v ts.length (nvals ts) ∧ Below w.heap.size w w'
theorem NS.at {w : World} {B : Nat} {T : Option Addr} {m d : Nat} {ts : List Int} (h : NS w B (.slice T m d) ts) : m = ts.length ∧ ∀ j, j < ts.length → ∃ b o, T = some ⟨b, o, none⟩ ∧ b < B ∧ Rg (ts.getD j 0) ∧ w.cell? ⟨b, o + j, none⟩ = some (.int .i64 (ts.getD j 0)) := by
  obtain ⟨A, c, e, h1, h2, h3⟩ := h
  cases e
  refine ⟨rfl, fun j hj => ?_⟩
  obtain ⟨⟨b, o, s⟩, rfl, hbl, hrg, hc0⟩ := h3 j hj
  have hs : s = none := by
    obtain ⟨ad, e, _, _, hz⟩ := h3 0 (by omega)
    injection e with e
    subst e
    have := World.cell?_spot hz
    simpa [Addr.add] using this
  subst hs
  rw [add_none] at hc0
  exact ⟨b, o, rfl, hbl, hrg, hc0⟩
set_option maxRecDepth 100000 in
theorem CopyTroubles_any (v : Value) (ts : List Int) (w : World) (hn : ts.length ≤ 1000000) (h : NS w w.heap.size v ts) :
    Calls Try.prog 31 #[v] w (TrPost ts w) := by
  obtain ⟨i0, hi0, hz0, hz1, hz2⟩ := info_parts tr_info
  obtain ⟨A, c, rfl, a1, a2, _⟩ := id h
  have hat := Lib.hid h.at.2
  have hst := Lib.hid (fun j hj => take_succN ts j hj)
  obtain ⟨n, hN⟩ : ∃ n, n = ts.length := ⟨_, rfl⟩
  rw [← hN] at a1 hat hst hn ⊢
  replace hN := Lib.hid hN
  clear h
  unfold maxLen at a2
  go_enter Try.func31, Try.ntmps31
  go_wp2
  go_loopw [3, 4] (fun b i w' => ∃ k : Nat, k ≤ n ∧ i = .int .i64 k ∧ w'.ownsRow w.heap.size 57 1 b k (nvals (ts.take k)) ∧ Below w.heap.size w w') (fun _ i _ => n - (intOf i).toNat)
  case atStart => exact ⟨0, by omega, rfl, World.ownsRow_nil _ _ _ _, Below.refl _ _⟩
  case round =>
    obtain ⟨k, hk, rfl, hown, hb⟩ := hrel
    replace hown := Lib.hid hown
    by_cases hlt : k < n
    · obtain ⟨bb, oo, rfl, hbl, hrg, hc0⟩ := hat.out k hlt
      have hc := (hb.cell (p := ⟨bb, oo + k, none⟩) hbl).trans hc0
      have hs := hst.out k hlt
      obtain ⟨t, ht⟩ : ∃ t, t = ts.getD k 0 := ⟨_, rfl⟩
      rw [← ht] at hc hs
      clear ht hc0 hrg
      replace hs := Lib.hid hs
      have t0 : (0 : Int) ≤ (k : Int) := by omega
      have t1 : (k : Int) < (n : Int) := by omega
      go_wp2_with (first
        | (at_builtin; refine wpList_append_own _ rfl _ _ 22 rfl w.heap.size 57 i0 (.agg #[.int .i64 0]) 1 8 Try.underlying22 hi0 hz0 hz1 hz2 rfl (by decide) u3 k (nvals (ts.take k)) rfl (hown.out.alloc _) ⟨_, 0, none⟩ 1 1 [_] rfl rfl (cell_one_new _ _ _) (fun x hx => by simp at hx; subst hx; rfl) (by unfold maxLen; omega) (by omega) (by have := hb.size; simp; omega) ?_; intro v' w3 hown' hgrow3 hnil3))
      refine ⟨⟨k + 1, by omega, by go_num, ?_, ?_⟩, by simp [intOf]; omega⟩
      · rw [hs.out, nvals_append]
        exact hown'
      · exact (hb.alloc hb.size _).grown hgrow3 (by have := hb.size; simp; omega) (fun q hq => (hown.out.lt q hq).1)
    · obtain rfl : k = n := by omega
      go_wp2
      go_ret
      refine ⟨_, rfl, ?_, hb⟩
      have := hown.out
      rw [hN.out, List.take_length] at this
      rw [← hN.out] at this
      rw [← hN.out]
      exact this
end Go.Proofs.Ytghogkanhcihbaa
