/-
  Plain facts on a disk that was opened, appended to, replaced; no program is named.
-/
import Derived.Test.YtncafkifebannaaLgX
namespace Go.Proofs.Ytncafkifebannaa.M
open Go
theorem base_end {n h : Nat} (hn : 0 < n) (h2 : h < 2) : base n h + cnt n * 64 ≤ n * 64 := reg_end hn h2
/-- A disk whose half h was chosen, and holds just these records. -/
structure Holds (E : List Nat) (n h : Nat) (rs : List (List Nat)) : Prop where
  len : E.length = n * 64
  n0 : 0 < n
  h2 : h < 2
  hd : sec E 0 = hd h
  fit : (ents rs).length ≤ cnt n * 64
  reg : reg E n h = half' rs (cnt n * 64)
theorem lay_all {A xs : List Nat} (h : xs.length = A.length) : lay A 0 xs = xs := by
  unfold lay splice
  rw [List.take_zero, List.nil_append, List.drop_eq_nil_of_le (by omega), List.append_nil]
theorem Holds.opened {E : List Nat} {n h : Nat} {rs : List (List Nat)} (hl : E.length = n * 64) (hn : 0 < n) (h2 : h < 2) (hs : sec E 0 = M.hd h) (hf : (ents rs).length ≤ cnt n * 64) : Holds (lay E (base n h) (full rs (cnt n * 64))) n h rs := by
  have hfl := full_length hf
  have hb := base_end hn h2
  have hfh := full_half hf
  have e1 := reg_lay (E := E) (xs := full rs (cnt n * 64)) (n := n) (h := h) (o := 0) (by rw [hl]; exact hb) (by omega)
  have e2 := sec0_lay (E := E) (xs := full rs (cnt n * 64)) (n := n) (h := h) (o := 0) (by rw [hl, hfl]; exact hb)
  rw [Nat.add_zero] at e1 e2
  have hrl := reg_length (E := E) (n := n) (h := h) hl h2
  refine ⟨by rw [lay_length (by rw [hfl, hl]; exact hb), hl], hn, h2, ?_, hf, ?_⟩
  · exact e2.trans hs
  · exact e1.trans (by rw [lay_all (by omega), hfh])
theorem lay_half {rs : List (List Nat)} {x : List Nat} {C : Nat} (hf : (ents (rs ++ [x])).length ≤ C) : lay (half' rs C) (ents rs).length (ent x) = half' (rs ++ [x]) C := by
  have e : ents (rs ++ [x]) = ents rs ++ ent x := by rw [ents_append]; simp [ents]
  rw [e, List.length_append] at hf
  unfold half' lay splice
  rw [List.take_left' rfl, e, List.drop_append, List.drop_eq_nil_of_le (by omega), List.nil_append, Nat.add_sub_cancel_left, List.drop_replicate, List.append_assoc, List.length_append, Nat.sub_sub]
theorem Holds.append {E : List Nat} {n h : Nat} {rs : List (List Nat)} {x : List Nat} (a : Holds E n h rs) (hf : (ents (rs ++ [x])).length ≤ cnt n * 64) : Holds (lay E (base n h + (ents rs).length) (ent x)) n h (rs ++ [x]) := by
  have hb := base_end a.n0 a.h2
  have e : (ents (rs ++ [x])).length = (ents rs).length + (ent x).length := by rw [ents_append, List.length_append]; simp [ents]
  rw [e] at hf
  have e1 := reg_lay (E := E) (xs := ent x) (n := n) (h := h) (o := (ents rs).length) (by rw [a.len]; exact hb) hf
  have e2 := sec0_lay (E := E) (xs := ent x) (n := n) (h := h) (o := (ents rs).length) (by rw [a.len]; unfold base at hb; omega)
  refine ⟨by rw [lay_length (by rw [a.len]; omega), a.len], a.n0, a.h2, e2.trans a.hd, by omega, ?_⟩
  refine e1.trans ?_
  rw [a.reg, lay_half (by omega)]
theorem Holds.mix {S E I : List Nat} {n h : Nat} {N : List (List Nat)} {i : Nat} (hS : Holds S n h (N.take i)) (hE : Holds E n h N) (ok : OkR N) (hi : i ≤ N.length) (hI : I.length = n * 64) (hs : ∀ s, s < n → sec I s = sec S s ∨ sec I s = sec E s) : Good I n h N i :=
  Good.mix hI hs (Good.more i hS.len hS.n0 hS.h2 hS.hd ok hE.fit hi (Nat.le_refl _) hS.reg) (Good.more i hE.len hE.n0 hE.h2 hE.hd ok hE.fit (Nat.le_refl _) hi (by rw [List.take_length]; exact hE.reg))
theorem sec_rep (n : Nat) (hn : 0 < n) : sec (List.replicate (n * 64) 0) 0 = hd 0 := by
  unfold sec hd
  rw [Nat.zero_mul, List.drop_zero, List.take_replicate, Nat.min_eq_left (by omega)]
  rfl
theorem Holds.start (n : Nat) (hn : 0 < n) : Holds (List.replicate (n * 64) 0) n 0 [] := by
  refine ⟨by simp, hn, by omega, sec_rep n hn, by simp [ents], ?_⟩
  have hb := base_end (n := n) (h := 0) hn (by omega)
  unfold base at hb
  unfold M.reg half'
  rw [List.drop_replicate, List.take_replicate]
  simp only [ents, List.length_nil, Nat.sub_zero, List.nil_append]
  congr 1
  omega
theorem Holds.good {E : List Nat} {n h : Nat} {N : List (List Nat)} (a : Holds E n h N) (ok : OkR N) : Good E n h N N.length := Good.of_half a.len a.n0 a.h2 a.hd ok a.fit a.reg
/-- What a crash leaves is a mix of what is safe and what is seen. -/
theorem crash_mix {S E : List Nat} {n : Nat} {ps : List Int} (hS : S.length = n * 64) (hE : E.length = n * 64) : (crash S E n 0 ps).length = n * 64 ∧ ∀ s, s < n → sec (crash S E n 0 ps) s = sec S s ∨ sec (crash S E n 0 ps) s = sec E s := by
  refine ⟨crash_length (by omega) (by omega), fun s hs => ?_⟩
  have := crash_sec (S := S) (E := E) (n := n) (i := 0) (ps := ps) s (by omega) (by omega) hs
  rwa [Nat.zero_add] at this
end Go.Proofs.Ytncafkifebannaa.M
