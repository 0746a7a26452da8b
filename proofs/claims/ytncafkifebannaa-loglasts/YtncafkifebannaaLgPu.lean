/-
  Rows of records: one more, the first of them; what records take of the room; condition: all lies in memory.
-/
import Derived.Test.YtncafkifebannaaLgWk
namespace Go.Proofs.Ytncafkifebannaa
open Go.RowKit
theorem rows_push {wA wB w9 : World} {b : Nat} {vA v' u1 : Value} {rs : List (List Nat)} {us : List Value} {x : List Nat} (rA : Rows wA b vA rs us) (hAB : Below wA.heap.size wA wB) (hu : wB.ownsRow wA.heap.size 5 1 u1 x.length (vals x)) (hb : b ≤ wA.heap.size)
    (hown : w9.ownsRow b 37 1 v' (rs.length + 1) (us ++ [u1])) (hg : But (fun q => vA.ownBlock = some q) wB w9) : Rows w9 b v' (rs ++ [x]) (us ++ [u1]) := by
  have hne : 37 ≠ 5 := by decide
  have hul : us.length = rs.length := by have := rA.own.1; omega
  have hownB := own_later rA.own hAB
  refine ⟨by rw [List.length_append]; exact hown, fun j y hy => ?_, fun i j u u' q hij hu1 hu2 hq hq' => ?_⟩
  · by_cases hjk : j < rs.length
    · rw [List.getElem?_append_left hjk] at hy
      obtain ⟨u, z1, z2⟩ := rA.row j y hy
      refine ⟨u, by rw [List.getElem?_append_left (by omega)]; exact z1, ownsRow_agree z2 (fun q hq => ?_)⟩
      have hq1 := (z2.lt q hq).2
      have := hAB.size
      exact (hg.block q (by omega) (own_ne z2 rA.own (Ne.symm hne) q hq)).trans (hAB.block q hq1)
    · have hjl : j = rs.length := by have := (List.getElem?_eq_some_iff.1 hy).1; simp at this; omega
      subst hjl
      rw [List.getElem?_append_right (by omega), Nat.sub_self] at hy
      have hy : x = y := by simpa using hy
      subst hy
      exact ⟨u1, by rw [List.getElem?_append_right (by omega), hul, Nat.sub_self]; rfl, ownsRow_base (ownsRow_agree hu (fun q hq => hg.block q (hu.lt q hq).2 (own_ne hu hownB (Ne.symm hne) q hq))) (fun q hq => by have := (hu.lt q hq).1; omega)⟩
  · have hjl : j < rs.length + 1 := by have := (List.getElem?_eq_some_iff.1 hu2).1; simp at this; omega
    rw [List.getElem?_append_left (by omega)] at hu1
    by_cases hjk : j = rs.length
    · subst hjk
      rw [List.getElem?_append_right (by omega), hul, Nat.sub_self] at hu2
      have hu2 : u1 = u' := by simpa using hu2
      subst hu2
      have h1 := (hu.lt q hq').1
      obtain ⟨u2, z1, z2⟩ := rA.row i _ (List.getElem?_eq_getElem hij)
      rw [hu1] at z1
      injection z1 with z1
      subst z1
      have h2 := (z2.lt q hq).2
      omega
    · rw [List.getElem?_append_left (by omega)] at hu2
      exact rA.apart i j u u' q hij hu1 hu2 hq hq'
theorem Recs.front {w : World} {P : Nat → Prop} {A : Option Addr} {n c : Nat} {rs : List (List Nat)} (h : Recs w P (.slice A n c) rs) (k : Nat) (hk : k ≤ n) : Recs w P (.slice A k c) (rs.take k) := by
  obtain ⟨A', c', e, h1, h2⟩ := h
  injection e with e1 e2 e3
  subst e1 e3
  refine ⟨_, _, by rw [List.length_take]; congr 1; omega, by rw [List.length_take]; omega, fun i x hx => h2 i x ?_⟩
  have hi : i < k := by have := (List.getElem?_eq_some_iff.1 hx).1; rw [List.length_take] at this; omega
  rwa [List.getElem?_take_of_lt hi] at hx
theorem M.room_le {rs : List (List Nat)} {m : Nat} (h : ∀ x ∈ rs, x.length ≤ m) : M.room rs ≤ rs.length * (16 + m) := by
  induction rs with
  | nil => simp [M.room]
  | cons r t ih =>
    have h1 := h r (List.mem_cons_self ..)
    have h2 := ih (fun x hx => h x (List.mem_cons_of_mem _ hx))
    have h3 : M.room (r :: t) = (16 + r.length) + M.room t := by simp [M.room]
    rw [h3, List.length_cons, Nat.add_mul]
    omega
end Go.Proofs.Ytncafkifebannaa
