/-
  Plain facts on masks: bytes of which some eights are lost (noughts); what records are found in them; no program is named.
-/
import Derived.Test.YtncafkifebannaaLgMath
namespace Go.Proofs.Ytncafkifebannaa.M
open Go
/-- Some eights of the bytes N, noughts in the place of the others. -/
def Mk (I N : List Nat) : Prop := I.length = N.length ∧ ∀ k, (∀ i, 8 * k ≤ i → i < 8 * k + 8 → I.getD i 0 = N.getD i 0) ∨ (∀ i, 8 * k ≤ i → i < 8 * k + 8 → I.getD i 0 = 0)
theorem Mk.refl (N : List Nat) : Mk N N := ⟨rfl, fun _ => .inl fun _ _ _ => rfl⟩
theorem Mk.byte {I N : List Nat} (h : Mk I N) (i : Nat) : I.getD i 0 = N.getD i 0 ∨ I.getD i 0 = 0 := by
  rcases h.2 (i / 8) with h1 | h1
  · exact .inl (h1 i (by omega) (by omega))
  · exact .inr (h1 i (by omega) (by omega))
theorem Mk.trans {I J N : List Nat} (h : Mk I J) (h2 : Mk J N) : Mk I N := ⟨h.1.trans h2.1, fun k => by
  rcases h.2 k with h3 | h3
  · rcases h2.2 k with h4 | h4
    · exact .inl fun i q1 q2 => (h3 i q1 q2).trans (h4 i q1 q2)
    · exact .inr fun i q1 q2 => (h3 i q1 q2).trans (h4 i q1 q2)
  · exact .inr h3⟩
theorem getD_drop' (bs : List Nat) (n i : Nat) : (bs.drop n).getD i 0 = bs.getD (n + i) 0 := by
  rw [List.getD_eq_getElem?_getD, List.getElem?_drop, List.getD_eq_getElem?_getD]
theorem getD_take' (bs : List Nat) (n i : Nat) (h : i < n) : (bs.take n).getD i 0 = bs.getD i 0 := by
  rw [List.getD_eq_getElem?_getD, List.getElem?_take_of_lt h, List.getD_eq_getElem?_getD]
theorem Mk.drop {I N : List Nat} (h : Mk I N) (m : Nat) : Mk (I.drop (8 * m)) (N.drop (8 * m)) := by
  refine ⟨by rw [List.length_drop, List.length_drop, h.1], fun k => ?_⟩
  rcases h.2 (m + k) with h1 | h1
  · exact .inl fun i q1 q2 => by rw [getD_drop', getD_drop']; exact h1 _ (by omega) (by omega)
  · exact .inr fun i q1 q2 => by rw [getD_drop']; exact h1 _ (by omega) (by omega)
theorem sum_mask : ∀ (a b : List Nat), a.length = b.length → (∀ i, a.getD i 0 = b.getD i 0 ∨ a.getD i 0 = 0) → a.sum ≤ b.sum ∧ (a.sum = b.sum → a = b)
  | [], [], _, _ => ⟨Nat.le_refl _, fun _ => rfl⟩
  | [], _ :: _, h, _ => by simp at h
  | _ :: _, [], h, _ => by simp at h
  | x :: s, y :: t, h, hp => by
    have ih := sum_mask s t (by simpa using h) (fun i => by have := hp (i + 1); simpa using this)
    have h0 : x = y ∨ x = 0 := by have := hp 0; simpa using this
    simp only [List.sum_cons]
    constructor
    · rcases h0 with rfl | rfl <;> omega
    · intro e
      have hxy : x = y := by rcases h0 with rfl | rfl <;> omega
      subst hxy
      rw [ih.2 (by omega)]
theorem val4_noughts {bs : List Nat} (h : ∀ i, i < 4 → bs.getD i 0 = 0) : val4 bs = 0 := by
  unfold val4
  rw [h 0 (by omega), h 1 (by omega), h 2 (by omega), h 3 (by omega)]
theorem val4_congr {a b : List Nat} (h : ∀ i, i < 4 → a.getD i 0 = b.getD i 0) : val4 a = val4 b := by
  unfold val4
  rw [h 0 (by omega), h 1 (by omega), h 2 (by omega), h 3 (by omega)]
/-- Behind noughts there is no record. -/
theorem first_noughts {I : List Nat} (h : ∀ i, i < 8 → I.getD i 0 = 0) : first I = none := by
  unfold first
  by_cases h8 : I.length < 8
  · rw [if_pos h8]
  · rw [if_neg h8, val4_noughts (fun i hi => h i (by omega)), val4_noughts (bs := I.drop 4) (fun i hi => by rw [getD_drop']; exact h _ (by omega)), if_pos (.inr (by simp [chk]))]
theorem take_ext {a b : List Nat} (n : Nat) (hl : a.length = b.length) (h : ∀ i, i < n → a.getD i 0 = b.getD i 0) : a.take n = b.take n := by
  apply List.ext_getElem?
  intro i
  by_cases hi : i < n
  · rw [List.getElem?_take_of_lt hi, List.getElem?_take_of_lt hi]
    have := h i hi
    rw [List.getD_eq_getElem?_getD, List.getD_eq_getElem?_getD] at this
    by_cases hi2 : i < a.length
    · rw [List.getElem?_eq_getElem hi2, List.getElem?_eq_getElem (show i < b.length by omega)] at this ⊢
      simpa using this
    · rw [List.getElem?_eq_none (by omega), List.getElem?_eq_none (by omega)]
  · rw [List.getElem?_eq_none (by rw [List.length_take]; omega), List.getElem?_eq_none (by rw [List.length_take]; omega)]
/-- A mask of an entry and what stands behind: the record is found whole, or none is. -/
theorem first_mask {I N' : List Nat} {r : List Nat} (hr : ∀ b ∈ r, b < 256) (hl : r.length ≤ 1048576) (h : Mk I (ent r ++ N')) : (first I = some r ∧ I.take (elen r.length) = ent r) ∨ (first I = none ∧ I.take (elen r.length) ≠ ent r) := by
  have hN := first_ent r N' hr hl
  have hel := ent_length r
  have hpd := pad_ge r.length
  have hlen : I.length = elen r.length + N'.length := by rw [h.1, List.length_append, hel]
  have he8 : 8 + r.length ≤ elen r.length := by unfold elen; omega
  have htk : (ent r ++ N').take (elen r.length) = ent r := by rw [← hel]; exact List.take_left' rfl
  have hv : val4 (ent r ++ N') = r.length := by unfold ent; rw [List.append_assoc]; exact val4_by4 _ _ (by omega)
  have hck : chk r < 4294967296 := by have := sum_le hr; unfold chk; omega
  have hd4 : (ent r ++ N').drop 4 = by4 (chk r) ++ (r ++ List.replicate (pad r.length - r.length) 0 ++ N') := by
    unfold ent
    rw [List.append_assoc, List.drop_append_of_le_length (by rw [by4_length]; omega)]
    rw [show (by4 r.length).drop 4 = [] from rfl, List.nil_append, List.append_assoc]
  have hv4 : val4 ((ent r ++ N').drop 4) = chk r := by rw [hd4]; exact val4_by4 _ _ hck
  have hd8 : ((ent r ++ N').drop 8).take r.length = r := by
    rw [show (8 : Nat) = 4 + 4 from rfl, ← List.drop_drop, hd4, List.drop_append_of_le_length (by rw [by4_length]; omega)]
    rw [show (by4 (chk r)).drop 4 = [] from rfl, List.nil_append, List.append_assoc]
    exact List.take_left' rfl
  rcases h.2 0 with h1 | h1
  · have hvI : val4 I = r.length := by rw [← hv]; exact val4_congr fun i hi => h1 i (by omega) (by omega)
    have hvI4 : val4 (I.drop 4) = chk r := by rw [← hv4]; exact val4_congr fun i hi => by rw [getD_drop', getD_drop']; exact h1 _ (by omega) (by omega)
    have hm := sum_mask ((I.drop 8).take r.length) r (by rw [List.length_take, List.length_drop]; omega) (fun i => by
      by_cases hi : i < r.length
      · rw [getD_take' _ _ _ hi, getD_drop']
        have : r.getD i 0 = (ent r ++ N').getD (8 + i) 0 := by
          conv => lhs; rw [← hd8]
          rw [getD_take' _ _ _ hi, getD_drop']
        rw [this]
        exact h.byte _
      · right
        rw [List.getD_eq_getElem?_getD, List.getElem?_eq_none (by rw [List.length_take]; omega)]; rfl)
    by_cases hs : ((I.drop 8).take r.length).sum = r.sum
    · have he := hm.2 hs
      left
      constructor
      · unfold first
        rw [if_neg (by omega), hvI, hvI4, he, if_neg (by omega)]
      · rw [← htk]
        refine take_ext _ h.1 fun i hi => ?_
        by_cases h8 : i < 8
        · exact h1 i (by omega) (by omega)
        · by_cases hir : i < 8 + r.length
          · have e1 : I.getD i 0 = r.getD (i - 8) 0 := by
              conv => rhs; rw [← he]
              rw [getD_take' _ _ _ (by omega), getD_drop', show 8 + (i - 8) = i by omega]
            have e2 : (ent r ++ N').getD i 0 = r.getD (i - 8) 0 := by
              conv => rhs; rw [← hd8]
              rw [getD_take' _ _ _ (by omega), getD_drop', show 8 + (i - 8) = i by omega]
            rw [e1, e2]
          · have e2 : (ent r ++ N').getD i 0 = 0 := by
              rw [List.getD_eq_getElem?_getD, List.getElem?_append_left (by omega)]
              unfold ent
              rw [List.getElem?_append_right (by rw [by4_length]; omega), List.getElem?_append_right (by rw [by4_length, by4_length]; omega), List.getElem?_append_right (by rw [by4_length, by4_length]; omega), List.getElem?_replicate]
              split <;> rfl
            rcases h.byte i with e3 | e3
            · exact e3
            · rw [e3, e2]
    · right
      constructor
      · unfold first
        rw [if_neg (by omega), hvI, hvI4, if_pos (.inr (by unfold chk; omega))]
      · intro e
        apply hs
        have e4 : (I.drop 8).take r.length = r := by
          have e5 : (I.drop 8).take r.length = ((I.take (elen r.length)).drop 8).take r.length := by
            rw [List.drop_take, List.take_take, Nat.min_eq_left (by omega)]
          have e6 : ((ent r ++ N').drop 8).take r.length = (((ent r ++ N').take (elen r.length)).drop 8).take r.length := by
            rw [List.drop_take, List.take_take, Nat.min_eq_left (by omega)]
          rw [e5, e, ← htk, ← e6, hd8]
        rw [e4]
  · right
    refine ⟨first_noughts fun i hi => h1 i (by omega) (by omega), fun e => ?_⟩
    have e1 : val4 I = val4 (ent r ++ N') ∧ val4 (I.drop 4) = val4 ((ent r ++ N').drop 4) := by
      have e2 : ∀ i, i < 8 → I.getD i 0 = (ent r ++ N').getD i 0 := fun i hi => by
        have e3 : (I.take (elen r.length)).getD i 0 = ((ent r ++ N').take (elen r.length)).getD i 0 := by rw [e, htk]
        rwa [getD_take' _ _ _ (by omega), getD_take' _ _ _ (by omega)] at e3
      exact ⟨val4_congr fun i hi => e2 i (by omega), val4_congr fun i hi => by rw [getD_drop', getD_drop']; exact e2 _ (by omega)⟩
    have e4 : val4 (I.drop 4) = 0 := val4_noughts fun i hi => by rw [getD_drop']; exact h1 _ (by omega) (by omega)
    rw [hv4, e4] at e1
    have := e1.2
    unfold chk at this
    omega
end Go.Proofs.Ytncafkifebannaa.M
