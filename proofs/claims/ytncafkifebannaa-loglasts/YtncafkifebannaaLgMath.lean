/-
  A log's entries in plain words: four bytes of a number, a sum, an entry, the first record of bytes; no program is named.
-/
import Derived.Test.YtncafkifebannaaDMath
namespace Go.Proofs.Ytncafkifebannaa.M
open Go
/-- A length brought up to whole eights. -/
def pad (n : Nat) : Nat := (n + 7) / 8 * 8
/-- How many bytes a record's entry has. -/
def elen (n : Nat) : Nat := 8 + pad n
theorem pad_ge (n : Nat) : n ≤ pad n ∧ pad n ≤ n + 7 ∧ pad n % 8 = 0 := by unfold pad; omega
/-- A number's four bytes, the lowest first. -/
def by4 (n : Nat) : List Nat := [n % 256, n / 256 % 256, n / 65536 % 256, n / 16777216 % 256]
theorem by4_length (n : Nat) : (by4 n).length = 4 := rfl
theorem by4_lt (n : Nat) : ∀ b ∈ by4 n, b < 256 := by
  intro b hb
  simp only [by4, List.mem_cons, List.not_mem_nil, or_false] at hb
  omega
/-- One more than all bytes together. -/
def chk (bs : List Nat) : Nat := 1 + bs.sum
theorem sum_le {bs : List Nat} (h : ∀ b ∈ bs, b < 256) : bs.sum ≤ bs.length * 255 := by
  induction bs with
  | nil => simp
  | cons b t ih =>
    have h1 := h b (List.mem_cons_self ..)
    have h2 := ih (fun c hc => h c (List.mem_cons_of_mem _ hc))
    simp only [List.sum_cons, List.length_cons]
    omega
theorem sum_take_succ (bs : List Nat) (k : Nat) (h : k < bs.length) : (bs.take (k + 1)).sum = (bs.take k).sum + bs.getD k 0 := by
  rw [List.take_add_one, List.getElem?_eq_getElem h, List.getD_eq_getElem?_getD, List.getElem?_eq_getElem h, List.sum_append]
  simp
/-- The number of the first four bytes. -/
def val4 (bs : List Nat) : Nat := bs.getD 0 0 + bs.getD 1 0 * 256 + bs.getD 2 0 * 65536 + bs.getD 3 0 * 16777216
theorem val4_by4 (n : Nat) (r : List Nat) (h : n < 4294967296) : val4 (by4 n ++ r) = n := by
  simp only [val4, by4, List.cons_append, List.nil_append, List.getD_cons_zero, List.getD_cons_succ]
  omega
theorem val4_lt {bs : List Nat} (h : ∀ b ∈ bs, b < 256) : val4 bs < 4294967296 := by
  have hg : ∀ i, bs.getD i 0 < 256 := fun i => by
    rw [List.getD_eq_getElem?_getD]
    cases e : bs[i]? with
    | none => simp
    | some x => exact h x (List.mem_of_getElem? e)
  have h0 := hg 0
  have h1 := hg 1
  have h2 := hg 2
  have h3 := hg 3
  unfold val4
  omega
/-- A record's entry. -/
def ent (r : List Nat) : List Nat := by4 r.length ++ (by4 (chk r) ++ (r ++ List.replicate (pad r.length - r.length) 0))
theorem ent_length (r : List Nat) : (ent r).length = elen r.length := by
  have := pad_ge r.length
  unfold ent elen
  simp only [List.length_append, by4_length, List.length_replicate]
  omega
theorem ent_lt {r : List Nat} (h : ∀ b ∈ r, b < 256) : ∀ b ∈ ent r, b < 256 := by
  intro b hb
  unfold ent at hb
  simp only [List.mem_append, List.mem_replicate] at hb
  rcases hb with hb | hb | hb | hb
  · exact by4_lt _ b hb
  · exact by4_lt _ b hb
  · exact h b hb
  · omega
/-- The record whose entry these bytes begin with. -/
def first (bs : List Nat) : Option (List Nat) :=
  if bs.length < 8 then none else if bs.length - 8 < val4 bs ∨ chk ((bs.drop 8).take (val4 bs)) ≠ val4 (bs.drop 4) then none else some ((bs.drop 8).take (val4 bs))
theorem first_ent (r s : List Nat) (h : ∀ b ∈ r, b < 256) (hl : r.length ≤ 1048576) : first (ent r ++ s) = some r := by
  have hp := pad_ge r.length
  have hc : chk r < 4294967296 := by have := sum_le h; unfold chk; omega
  have hv : val4 (ent r ++ s) = r.length := by unfold ent; rw [List.append_assoc]; exact val4_by4 _ _ (by omega)
  have hd4 : (ent r ++ s).drop 4 = by4 (chk r) ++ (r ++ List.replicate (pad r.length - r.length) 0 ++ s) := by
    unfold ent
    rw [List.append_assoc, List.drop_append_of_le_length (by rw [by4_length]; omega)]
    rw [show (by4 r.length).drop 4 = [] from rfl, List.nil_append, List.append_assoc]
  have hd8 : (ent r ++ s).drop 8 = r ++ (List.replicate (pad r.length - r.length) 0 ++ s) := by
    rw [show (8 : Nat) = 4 + 4 from rfl, ← List.drop_drop, hd4, List.drop_append_of_le_length (by rw [by4_length]; omega)]
    rw [show (by4 (chk r)).drop 4 = [] from rfl, List.nil_append, List.append_assoc]
  have hv4 : val4 ((ent r ++ s).drop 4) = chk r := by rw [hd4]; exact val4_by4 _ _ hc
  have ht : ((ent r ++ s).drop 8).take r.length = r := by rw [hd8]; exact List.take_left' rfl
  have hle : (ent r ++ s).length = elen r.length + s.length := by rw [List.length_append, ent_length]
  unfold first
  unfold elen at hle
  rw [if_neg (by omega), hv, hv4, ht, if_neg (by omega)]
/-- Entries, one behind the other. -/
def ents : List (List Nat) → List Nat
  | [] => []
  | r :: t => ent r ++ ents t
theorem ents_append (a b : List (List Nat)) : ents (a ++ b) = ents a ++ ents b := by
  induction a with
  | nil => rfl
  | cons r t ih => simp only [List.cons_append, ents, ih, List.append_assoc]
/-- The records with whose entries bytes begin. -/
def recs : Nat → List Nat → List (List Nat)
  | 0, _ => []
  | n + 1, bs => match first bs with
    | none => []
    | some r => r :: recs n (bs.drop (elen r.length))
theorem lay_nil (bs : List Nat) (a : Nat) (h : a ≤ bs.length) : lay bs a [] = bs := by
  apply List.ext_getElem?
  intro j
  rw [lay_get (by simpa using h), if_neg (by simp only [List.length_nil]; omega)]
theorem lay_snoc (bs : List Nat) (a : Nat) (xs : List Nat) (y : Nat) (h : a + xs.length < bs.length) : (lay bs a xs).set (a + xs.length) y = lay bs a (xs ++ [y]) := by
  apply List.ext_getElem?
  intro j
  rw [List.getElem?_set, lay_get (by omega), lay_get (by simp; omega), lay_length (by omega)]
  by_cases e : a + xs.length = j
  · subst e
    rw [if_pos rfl, if_pos h, if_pos (by simp), Nat.add_sub_cancel_left, List.getElem?_append_right (Nat.le_refl _), Nat.sub_self]
    rfl
  · rw [if_neg e]
    by_cases h1 : a ≤ j ∧ j < a + xs.length
    · rw [if_pos h1, if_pos (by simp; omega), List.getElem?_append_left (by omega)]
    · rw [if_neg h1, if_neg (by simp; omega)]
theorem by4_take (x k : Nat) (h : k < 4) : (by4 x).take (k + 1) = (by4 x).take k ++ [x / 2 ^ (8 * k) % 256] := by
  rcases (show k = 0 ∨ k = 1 ∨ k = 2 ∨ k = 3 by omega) with rfl | rfl | rfl | rfl
  · simp [by4]
  · simp [by4]
  · simp [by4]
  · simp [by4]
theorem lay_by4 (bs : List Nat) (o x k : Nat) (h : k < 4) (ho : o + 4 ≤ bs.length) : (lay bs o ((by4 x).take k)).set (o + k) (x / 2 ^ (8 * k) % 256) = lay bs o ((by4 x).take (k + 1)) := by
  have hl : ((by4 x).take k).length = k := by rw [List.length_take, by4_length]; omega
  have := lay_snoc bs o ((by4 x).take k) (x / 2 ^ (8 * k) % 256) (by omega)
  rw [hl] at this
  rw [this, by4_take x k h]
end Go.Proofs.Ytncafkifebannaa.M
