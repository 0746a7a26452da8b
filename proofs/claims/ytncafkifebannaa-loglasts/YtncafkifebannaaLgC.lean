/-
  What the log reads of bytes: the record whose entry they begin with; condition: the bytes lie in memory.
-/
import Derived.Test.YtncafkifebannaaLgB
namespace Go.Proofs.Ytncafkifebannaa
open Go.RowKit
/-- What firstRecord answers. -/
def FstPost (bs : List Nat) (w : World) (e : Ending) (w' : World) : Prop :=
  ((∃ r u, M.first bs = some r ∧ e = .returned (.tuple #[u, .bool true]) ∧ BS w' w'.heap.size u r) ∨ (M.first bs = none ∧ e = .returned (.tuple #[.slice none 0 0, .bool false]))) ∧ Below w.heap.size w w'
theorem val4_drop (bs : List Nat) : M.val4 (bs.drop 4) = M.val4 (bs.drop 4) := rfl
set_option maxRecDepth 100000 in
theorem firstRecord_any (w : World) (ad : Addr) (n c : Nat) (bs : List Nat) (h : BS w w.heap.size (.slice (some ad) n c) bs) (hn : n = bs.length) (hm : n ≤ 1048576) :
    Calls Try.prog 51 #[.slice (some ad) n c] w (FstPost bs w) := by
  have hlt := h.lt
  have hx := h
  obtain ⟨_, _, e1, a1, a2, _⟩ := hx
  injection e1 with e2 e3 e4
  subst e2 e4
  clear e3
  rw [← hn] at a1
  unfold maxLen at a2
  by_cases h8 : n < 8
  · have hnone : M.first bs = none := by unfold M.first; rw [if_pos (by omega)]
    have h8' : (n : Int) < 8 := by omega
    replace hn := Lib.hid hn
    clear h hlt
    go_enter Try.func51, Try.ntmps51
    go_wp2_with fail
    go_ret2
    exact ⟨.inr ⟨hnone, rfl⟩, Below.refl _ _⟩
  · have hd : Below w.heap.size w w.drew := (Below.refl _ _).drew
    have c0 := Lib.hid (h.later hd)
    have c4 := Lib.hid (h.cut 4 (by omega) (by omega) |>.later hd)
    have l0 := Lib.hid (show 4 ≤ bs.length by omega)
    have l4 := Lib.hid (show 4 ≤ (bs.drop 4).length by rw [List.length_drop]; omega)
    have s1 : (4 : Int) ≤ (n : Int) := by omega
    have s2 : 4 ≤ n := by omega
    have s3 : ¬ c = 4 := by omega
    have s4 : (4 : Int) < (c : Int) := by omega
    have s5 : ¬ (n : Int) < 8 := by omega
    have s6 : (8 : Int) ≤ (n : Int) := by omega
    have hv := M.val4_lt hlt
    obtain ⟨p, hp⟩ : ∃ p, p = M.val4 bs := ⟨_, rfl⟩
    obtain ⟨q, hq⟩ : ∃ q, q = M.val4 (bs.drop 4) := ⟨_, rfl⟩
    have n0 := Lib.hid (fun m => number_any (.slice (some ad) n c) bs (w.drewN m) (h.later (below_drewN' w m)) l0.out)
    have n4 := Lib.hid (fun m => number_any (.slice (some ⟨ad.block, ad.off + 4, none⟩) (n - 4) (c - 4)) (bs.drop 4) (w.drewN m) ((h.cut 4 (by omega) (by omega)).later (below_drewN' w m)) l4.out)
    rw [← hp] at n0 hv
    rw [← hq] at n4
    replace hp := Lib.hid hp
    replace hq := Lib.hid hq
    have hh := Lib.hid h
    replace hn := Lib.hid hn
    replace hd := Lib.hid hd
    clear h hlt c4 c0
    go_enter Try.func51, Try.ntmps51
    go_wp2_with fail
    go_quiet (first | (go_at_call_of 63 (Value.slice (some ad) n c); exact Calls.quiet_of_same (n0.out _)) | (go_at_call 63; exact Calls.quiet_of_same (n4.out _)))
    obtain ⟨wd, hwd⟩ : ∃ wd, wd = w.drewN nq := ⟨_, rfl⟩
    have bd : Below w.heap.size w wd := by rw [hwd]; exact below_drewN' w nq
    rw [← hwd]
    clear hwd
    have hbd := hh.out.later bd
    have hl8 : (bs.drop 8).length = n - 8 := by rw [List.length_drop, ← hn.out]
    have key : ∀ (A : Addr) (d : Nat), BS wd wd.heap.size (.slice (some A) (n - 8) d) (bs.drop 8) → True := fun _ _ _ => trivial
    clear key
    by_cases h9 : c = 8
    · obtain rfl : n = 8 := by omega
      subst h9
      have hd0 : bs.drop 8 = [] := List.drop_eq_nil_of_le (by rw [← hn.out]; omega)
      have hnil : BS wd wd.heap.size (.slice (some ad) 0 0) [] := ⟨_, 0, rfl, by simp, by unfold maxLen; omega, fun i hi => by simp at hi⟩
      by_cases hp9 : 0 < p
      · have hnone : M.first bs = none := by
          unfold M.first
          rw [if_neg (by rw [← hn.out]; omega), if_pos (.inl (by rw [← hn.out, ← hp.out]; exact hp9))]
        have t3 : (0 : Int) < (p : Int) := by omega
        have hfin := Lib.hid (show FstPost bs w (.returned (.tuple #[.slice none 0 0, .bool false])) wd from ⟨.inr ⟨hnone, rfl⟩, bd⟩)
        clear hbd hl8 bd hnone hd0 hnil
        go_wp2_with fail
        go_ret2
        exact hfin.out
      · obtain rfl : p = 0 := by omega
        have hsum := Lib.hid (sum_any _ [] wd hnil (by simp))
        have hfin : ∀ b : Bool, b = decide (1 ≠ q) → if b then FstPost bs w (.returned (.tuple #[.slice none 0 0, .bool false])) wd else FstPost bs w (.returned (.tuple #[.slice (some ad) 0 0, .bool true])) wd := by
          intro b hb
          by_cases hzq : 1 = q
          · rw [hb, decide_eq_false (by simpa using hzq)]
            refine ⟨.inl ⟨_, _, ?_, rfl, hnil⟩, bd⟩
            unfold M.first
            rw [if_neg (by rw [← hn.out]; omega), ← hp.out, ← hq.out, hd0, if_neg (by rw [← hn.out, ← hzq]; simp [M.chk])]
            rfl
          · rw [hb, decide_eq_true hzq]
            refine ⟨.inr ⟨?_, rfl⟩, bd⟩
            unfold M.first
            rw [if_neg (by rw [← hn.out]; omega), ← hp.out, ← hq.out, hd0, if_pos (.inr (by simpa [M.chk] using hzq))]
        have e1 : ((M.chk [] : Nat) : Int) = 1 := rfl
        rw [e1] at hsum
        replace hfin := Lib.hid hfin
        clear hbd hl8 bd hnil hd0 e1
        go_wp2_with fail
        refine hsum.out.mono ?_
        rintro e2 w2 ⟨rfl, rfl⟩
        by_cases hzq : 1 = q
        · have u1 : ((1 : Int) != (q : Int)) = false := by simp; omega
          have hf := Lib.hid (hfin.out false (by simp [hzq]))
          clear hfin
          go_wp2_with fail
          go_ret2
          exact hf.out
        · have u1 : ((1 : Int) != (q : Int)) = true := by simp; omega
          have hf := Lib.hid (hfin.out true (by simp [hzq]))
          clear hfin
          go_wp2_with fail
          go_ret2
          exact hf.out
    · have t1 : (8 : Int) < (c : Int) := by omega
      have t2 : 8 < c := by omega
      have hc8 := hbd.cut 8 (by omega) (by rw [← hn.out]; omega)
      by_cases hp9 : n - 8 < p
      · have hnone : M.first bs = none := by
          unfold M.first
          rw [if_neg (by rw [← hn.out]; omega), if_pos (.inl (by rw [← hn.out, ← hp.out]; exact hp9))]
        have t3 : ((n - 8 : Nat) : Int) < (p : Int) := by omega
        have hfin := Lib.hid (show FstPost bs w (.returned (.tuple #[.slice none 0 0, .bool false])) wd from ⟨.inr ⟨hnone, rfl⟩, bd⟩)
        clear hbd hc8 hl8 bd hnone
        go_wp2_with fail
        go_ret2
        exact hfin.out
      · have t3 : ¬ ((n - 8 : Nat) : Int) < (p : Int) := by omega
        have t4 : (p : Int) ≤ ((n - 8 : Nat) : Int) := by omega
        have t5 : p ≤ c - 8 := by omega
        have hpart := hc8.front p (by rw [hl8]; omega)
        have hsum := Lib.hid (sum_any _ ((bs.drop 8).take p) wd hpart (by rw [List.length_take]; omega))
        obtain ⟨z, hz⟩ : ∃ z, z = M.chk ((bs.drop 8).take p) := ⟨_, rfl⟩
        rw [← hz] at hsum
        have hfin : ∀ b : Bool, b = decide (z ≠ q) → if b then FstPost bs w (.returned (.tuple #[.slice none 0 0, .bool false])) wd else FstPost bs w (.returned (.tuple #[.slice (some ⟨ad.block, ad.off + 8, none⟩) p (c - 8), .bool true])) wd := by
          intro b hb
          by_cases hzq : z = q
          · rw [hb, decide_eq_false (by simpa using hzq)]
            refine ⟨.inl ⟨_, _, ?_, rfl, hpart⟩, bd⟩
            unfold M.first
            rw [if_neg (by rw [← hn.out]; omega), ← hp.out, ← hq.out, ← hz, if_neg (by rw [← hn.out]; omega)]
          · rw [hb, decide_eq_true hzq]
            refine ⟨.inr ⟨?_, rfl⟩, bd⟩
            unfold M.first
            rw [if_neg (by rw [← hn.out]; omega), ← hp.out, ← hq.out, ← hz, if_pos (.inr hzq)]
        replace hfin := Lib.hid hfin
        clear hbd hc8 hl8 bd hpart hz
        go_wp2_with fail
        refine hsum.out.mono ?_
        rintro e2 w2 ⟨rfl, rfl⟩
        by_cases hzq : z = q
        · have u1 : ((z : Int) != (q : Int)) = false := by simp [hzq]
          have hf := Lib.hid (hfin.out false (by simp [hzq]))
          clear hfin
          go_wp2_with fail
          go_ret2
          exact hf.out
        · have u1 : ((z : Int) != (q : Int)) = true := by simp; omega
          have hf := Lib.hid (hfin.out true (by simp [hzq]))
          clear hfin
          go_wp2_with fail
          go_ret2
          exact hf.out
end Go.Proofs.Ytncafkifebannaa
