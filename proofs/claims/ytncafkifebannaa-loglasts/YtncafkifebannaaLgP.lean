/-
  Plain facts: the records that are found in a mask of a half are a beginning of its own, no shorter than what is whole; no program is named.
-/
import Derived.Test.YtncafkifebannaaLgN
namespace Go.Proofs.Ytncafkifebannaa.M
open Go
theorem elen_8 (n : Nat) : ∃ m, elen n = 8 * m ∧ 0 < m := ⟨1 + (n + 7) / 8, by unfold elen pad; omega, by omega⟩
theorem recs_noughts {I : List Nat} (h : ∀ i, I.getD i 0 = 0) : ∀ n, recs n I = []
  | 0 => rfl
  | n + 1 => by
    show (match first I with | none => [] | some r => r :: recs n (I.drop (elen r.length))) = []
    rw [first_noughts (fun i _ => h i)]
theorem recs_mask : ∀ (rs : List (List Nat)) (N' I : List Nat) (n : Nat), (∀ r ∈ rs, (∀ b ∈ r, b < 256) ∧ r.length ≤ 1048576) → (∀ i, N'.getD i 0 = 0) → Mk I (ents rs ++ N') → rs.length < n →
    ∃ j, j ≤ rs.length ∧ recs n I = rs.take j ∧ I.take (ents (rs.take j)).length = ents (rs.take j) ∧ ∀ i, i ≤ rs.length → I.take (ents (rs.take i)).length = ents (rs.take i) → i ≤ j
  | [], N', I, n, _, hN, h, hn => by
    refine ⟨0, Nat.le_refl _, ?_, rfl, fun i hi _ => hi⟩
    rw [recs_noughts (fun i => by
      rcases h.byte i with e | e
      · rw [e]; exact hN i
      · exact e)]
    rfl
  | r :: t, N', I, 0, _, _, _, hn => by omega
  | r :: t, N', I, n + 1, hr, hN, h, hn => by
    have hr0 := hr r (List.mem_cons_self ..)
    have e : ents (r :: t) ++ N' = ent r ++ (ents t ++ N') := by simp only [ents, List.append_assoc]
    rw [e] at h
    obtain ⟨m, hm, hm0⟩ := elen_8 r.length
    have hel := ent_length r
    rcases first_mask hr0.1 hr0.2 h with ⟨h1, h2⟩ | ⟨h1, h2⟩
    · have hd : Mk (I.drop (elen r.length)) (ents t ++ N') := by
        have := h.drop m
        rw [← hm] at this
        have e2 : (ent r ++ (ents t ++ N')).drop (elen r.length) = ents t ++ N' := by rw [← hel]; exact List.drop_left' rfl
        rwa [e2] at this
      obtain ⟨j, q1, q2, q3, q4⟩ := recs_mask t N' (I.drop (elen r.length)) n (fun x hx => hr x (List.mem_cons_of_mem _ hx)) hN hd (by simp at hn; omega)
      have split : ∀ i, I.take (ents ((r :: t).take (i + 1))).length = ents ((r :: t).take (i + 1)) ↔ (I.drop (elen r.length)).take (ents (t.take i)).length = ents (t.take i) := fun i => by
        simp only [List.take_succ_cons, ents, List.length_append, hel]
        rw [List.take_add, h2]
        exact ⟨fun e3 => List.append_cancel_left e3, fun e3 => by rw [e3]⟩
      refine ⟨j + 1, by simp; omega, ?_, (split j).2 q3, fun i hi he => ?_⟩
      · show (match first I with | none => [] | some r => r :: recs n (I.drop (elen r.length))) = _
        rw [h1]
        simp only [List.take_succ_cons, q2]
      · cases i with
        | zero => omega
        | succ i => have := q4 i (by simp at hi; omega) ((split i).1 he); omega
    · refine ⟨0, by omega, ?_, rfl, fun i hi he => ?_⟩
      · show (match first I with | none => [] | some r => r :: recs n (I.drop (elen r.length))) = _
        rw [h1]
        rfl
      · cases i with
        | zero => omega
        | succ i =>
          exfalso
          apply h2
          simp only [List.take_succ_cons, ents, List.length_append, hel] at he
          have := congrArg (List.take (elen r.length)) he
          rw [List.take_take, Nat.min_eq_left (by omega), ← hel, List.take_left' rfl, hel] at this
          exact this
end Go.Proofs.Ytncafkifebannaa.M
