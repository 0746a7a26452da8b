/-
  A list spoilt by the page, and the small waking example; condition: the list is new memory of the caller's own.
-/
import Derived.Test.YtlppgaaepllbiaaUse
import Derived.Test.YtlppgaaepllbiaaTools
namespace Go.Proofs.Ytlppgaaepllbiaa
open Go.RowKit
def SRel (base n : Nat) (v : Value) (w : World) (i : Value) (w' : World) : Prop :=
  ∃ (k : Nat) (xs : List Value), k ≤ n ∧ i = .int .i64 k ∧ w'.ownsRow base 21 1 v n xs ∧ Below base w w'
set_option maxRecDepth 100000 in
theorem spoil_any (v : Value) (n base : Nat) (xs : List Value) (w : World) (ho : w.ownsRow base 21 1 v n xs) (hn : n ≤ 100000) (hb : base ≤ w.heap.size) :
    Calls Try.prog 15 #[v] w fun e w' => e = .returned (.tuple #[]) ∧ Below base w w' := by
  obtain ⟨i0, hi0, hz0, hz1, hz2⟩ := info_parts i32_info
  obtain ⟨A, cap, rfl, hA⟩ : ∃ A cap, v = .slice A n cap ∧ (0 < n → ∃ g, A = some ⟨g, 0, none⟩) := by
    rcases ho.2 with ⟨rfl, rfl⟩ | ⟨g, cap, cur, rfl, _⟩
    · exact ⟨none, 0, rfl, fun h => by omega⟩
    · exact ⟨_, cap, rfl, fun _ => ⟨g, rfl⟩⟩
  replace ho := Lib.hid ho
  replace hA := Lib.hid hA
  go_enter Try.func15, Try.ntmps15
  go_wp2
  go_loopw [2] (fun i w' => SRel base n (.slice A n cap) w i w') (fun i _ => n - (intOf i).toNat)
  case atStart => exact ⟨0, xs, by omega, rfl, ho.out, Below.refl _ _⟩
  case round =>
    obtain ⟨k, ys, hk, rfl, hown, hbel⟩ := hrel
    by_cases hlt : k < n
    · obtain ⟨g, rfl⟩ := hA.out (by omega)
      have hg : base ≤ g := (hown.lt g rfl).1
      have t0 : (0 : Int) ≤ (k : Int) := by omega
      have t1 : (k : Int) < (n : Int) := by omega
      have z1 := hown.frozenAt k
      have c1 := hown.cellAt k (by omega)
      have hst := Lib.hid (hown.stored k (.int .i32 (-99))).1
      have hys : ys.length = n * 1 := hown.1
      have c2 : ∃ u, wr.cell? ⟨g, k, none⟩ = some u := ⟨ys[k], by rw [c1, List.getElem?_eq_getElem (by omega)]⟩
      obtain ⟨u, c2⟩ := c2
      clear c1
      replace hown := Lib.hid hown
      go_wp2
      exact ⟨⟨k + 1, _, by omega, by go_num, hst.out, hbel.setCell hg _⟩, by simp [intOf]; omega⟩
    · obtain rfl : k = n := by omega
      replace hown := Lib.hid hown
      go_wp2_with (first
            | (at_builtin; refine wpList_append_own _ rfl _ _ 25 rfl base 21 i0 (.int .i32 0) 1 4 Try.underlying25 hi0 hz0 hz1 hz2 rfl (by decide) _ k ys rfl (hown.out.alloc _) ⟨_, 0, none⟩ 1 1 [_] rfl rfl (cell_one_new _ _ _) (fun x hx => by simp at hx; subst hx; rfl) (by unfold maxLen; omega) (by omega) (by have := hbel.size; simp; omega) ?_; intro v' w3 hown' hgrow3 hnil3))
      go_end0
      exact ⟨rfl, (hbel.alloc (by have := hbel.size; omega) _).grown hgrow3 (by have := hbel.size; simp; omega) (fun q hq => (hown.out.lt q hq).1)⟩
theorem euro : M.Text [226, 130, 172] [8364] := ⟨by intro p hp; simp at hp; subst hp; decide, by decide⟩
set_option maxRecDepth 100000 in
theorem wakes_any (w : World) : Calls Try.prog 16 #[] w fun e w' => e = .returned (.bool true) ∧ Below w.heap.size w w' := by
  have hB : BS (w.alloc (.cells #[.int .u8 226, .int .u8 130, .int .u8 172] 5)) (w.alloc (.cells #[.int .u8 226, .int .u8 130, .int .u8 172] 5)).heap.size (.slice (some ⟨w.heap.size, 0, none⟩) 3 3) [226, 130, 172] :=
    own_BS (base := w.heap.size) (World.ownsRow_lit w #[.int .u8 226, .int .u8 130, .int .u8 172] 3 (Nat.le_refl _) (by unfold maxLen; omega) rfl) (by decide)
  replace hB := Lib.hid hB
  go_enter Try.func16, Try.ntmps16
  go_wp2_with fail
  refine (Points_yes _ [226, 130, 172] [8364] _ hB.out (by decide) euro).mono ?_
  rintro e w1 ⟨vl, rfl, ho, hb⟩
  replace ho := Lib.hid ho
  have hbw : Below w.heap.size w w1 := ((Below.refl _ _).alloc (Nat.le_refl _) _).trans (hb.mono (by simp))
  clear hb
  go_wp2_with fail
  refine (num_any _ _).mono ?_
  rintro e w2 ⟨rfl, rfl⟩
  go_wp2_with fail
  refine (EqPoints_same _ _ [8364] _ (own_IS (ps := [8364]) (own_later ho.out ((Below.refl _ _).alloc (Nat.le_refl _) _)) (fun p hp => by simp at hp; subst hp; decide)) (own_IS (base := w1.heap.size) (ps := [8364]) (World.ownsRow_lit w1 #[.int .i32 8364] 1 (Nat.le_refl _) (by unfold maxLen; omega) rfl) (fun p hp => by simp at hp; subst hp; decide))).mono ?_
  rintro e w2 ⟨rfl, hb⟩
  replace hb := Lib.hid hb
  go_wp2
  go_ret
  exact ⟨rfl, (hbw.alloc hbw.size _).trans (hb.out.mono (by have := hbw.size; simp; omega))⟩
end Go.Proofs.Ytlppgaaepllbiaa
