/-
  Plain facts: sectors of two masks are a mask; a half with fewer records is a mask of it; no program is named.
-/
import Derived.Test.YtncafkifebannaaLgP
namespace Go.Proofs.Ytncafkifebannaa.M
open Go
theorem sec_getD (bs : List Nat) (i j : Nat) (h : j < 64) : (sec bs i).getD j 0 = bs.getD (i * 64 + j) 0 := by
  rw [List.getD_eq_getElem?_getD, sec_get, if_pos h, List.getD_eq_getElem?_getD]
/-- Each sector of the one or the other. -/
theorem Mk.mix {I A B N : List Nat} (hl : I.length = N.length) (hA : Mk A N) (hB : Mk B N) (h : ∀ s, sec I s = sec A s ∨ sec I s = sec B s) : Mk I N := by
  refine ⟨hl, fun k => ?_⟩
  have key : ∀ X : List Nat, Mk X N → sec I (k / 8) = sec X (k / 8) → (∀ i, 8 * k ≤ i → i < 8 * k + 8 → I.getD i 0 = N.getD i 0) ∨ (∀ i, 8 * k ≤ i → i < 8 * k + 8 → I.getD i 0 = 0) := by
    intro X hX he
    have e : ∀ i, 8 * k ≤ i → i < 8 * k + 8 → I.getD i 0 = X.getD i 0 := fun i q1 q2 => by
      have e1 := sec_getD I (k / 8) (i - k / 8 * 64) (by omega)
      have e2 := sec_getD X (k / 8) (i - k / 8 * 64) (by omega)
      rw [show k / 8 * 64 + (i - k / 8 * 64) = i by omega] at e1 e2
      rw [← e1, ← e2, he]
    rcases hX.2 k with h1 | h1
    · exact .inl fun i q1 q2 => (e i q1 q2).trans (h1 i q1 q2)
    · exact .inr fun i q1 q2 => (e i q1 q2).trans (h1 i q1 q2)
  rcases h (k / 8) with h1 | h1
  · exact key A hA h1
  · exact key B hB h1
/-- Bytes with noughts from a whole eight on. -/
theorem Mk.front {N : List Nat} (m : Nat) (h : 8 * m ≤ N.length) : Mk (N.take (8 * m) ++ List.replicate (N.length - 8 * m) 0) N := by
  refine ⟨by rw [List.length_append, List.length_take, List.length_replicate]; omega, fun k => ?_⟩
  by_cases hk : k < m
  · refine .inl fun i q1 q2 => ?_
    rw [List.getD_eq_getElem?_getD, List.getElem?_append_left (by rw [List.length_take]; omega), List.getElem?_take_of_lt (by omega), List.getD_eq_getElem?_getD]
  · refine .inr fun i q1 q2 => ?_
    rw [List.getD_eq_getElem?_getD, List.getElem?_append_right (by rw [List.length_take]; omega), List.getElem?_replicate]
    split <;> rfl
theorem ents_8 : ∀ rs : List (List Nat), ∃ m, (ents rs).length = 8 * m
  | [] => ⟨0, rfl⟩
  | r :: t => by
    obtain ⟨m, hm⟩ := ents_8 t
    obtain ⟨p, hp, _⟩ := elen_8 r.length
    exact ⟨p + m, by simp only [ents, List.length_append, ent_length, hm, hp]; omega⟩
/-- A half's bytes, another way. -/
def half' (rs : List (List Nat)) (C : Nat) : List Nat := ents rs ++ List.replicate (C - (ents rs).length) 0
theorem half'_length {rs : List (List Nat)} {C : Nat} (h : (ents rs).length ≤ C) : (half' rs C).length = C := by
  unfold half'
  rw [List.length_append, List.length_replicate]
  omega
/-- A half with the first records alone is a mask of the half. -/
theorem half_front (rs : List (List Nat)) (C j : Nat) (h : (ents rs).length ≤ C) : Mk (half' (rs.take j) C) (half' rs C) := by
  obtain ⟨m, hm⟩ := ents_8 (rs.take j)
  have happ : ents rs = ents (rs.take j) ++ ents (rs.drop j) := by rw [← ents_append, List.take_append_drop]
  have hle : (ents (rs.take j)).length ≤ (ents rs).length := by rw [happ, List.length_append]; omega
  have hf := Mk.front (N := half' rs C) m (by rw [half'_length h]; omega)
  have e1 : (half' rs C).take (8 * m) = ents (rs.take j) := by
    unfold half'
    rw [← hm, happ, List.append_assoc, List.take_left' rfl]
  rw [e1, half'_length h, ← hm] at hf
  exact hf
end Go.Proofs.Ytncafkifebannaa.M
