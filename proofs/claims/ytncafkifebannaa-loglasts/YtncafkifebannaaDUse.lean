/-
  What the disk's small functions answer: how many sectors, is it one, is the power on, a sector's bytes, strokes; condition: the disk was made by the call.
-/
import Derived.Test.YtncafkifebannaaDTools
namespace Go.Proofs.Ytncafkifebannaa
open Go.RowKit
section
variable {B g r q n cS cE : Nat} {S E : List Nat} {k last : Int}
theorem Count_any (w : World) (h : DAt w B g r q n cS cE S E k last) :
    Calls Try.prog 38 #[Mp g] w fun e w' => e = .returned (.int .i64 (n : Int)) ∧ w' = w := by
  have c1 := h.c1
  have hn := h.n0
  replace h := Lib.hid h
  go_enter Try.func38, Try.ntmps38
  go_wp2
  go_ret
  exact ⟨ret_int (by omega), rfl⟩
theorem has_any (w : World) (i : Int) (b : Bool) (h : DAt w B g r q n cS cE S E k last) (hb : b = decide (0 ≤ i ∧ i < n)) :
    Calls Try.prog 61 #[Mp g, .int .i64 i] w fun e w' => e = .returned (.bool b) ∧ w' = w := by
  have hn := h.n0
  replace h := Lib.hid h
  replace hb := Lib.hid hb
  by_cases h0 : 0 ≤ i
  · go_enter Try.func61, Try.ntmps61
    go_wp2_with fail
    refine (Count_any _ h.out).mono ?_
    rintro e1 w1 ⟨rfl, rfl⟩
    go_wp2_with fail
    go_ret
    exact ⟨ret_bool (by rw [hb.out, Bool.eq_iff_iff]; simp; omega), rfl⟩
  · go_enter Try.func61, Try.ntmps61
    go_wp2_with fail
    go_ret
    exact ⟨ret_bool (by rw [hb.out]; simp; omega), rfl⟩
theorem power_any (w : World) (c : Int) (h : DAt w B g r q n cS cE S E k last) (hc : c = if last ≤ k then 103 else 0) :
    Calls Try.prog 62 #[Mp g] w fun e w' => e = .returned (.int .i64 c) ∧ Below w.heap.size w w' := by
  have c2 := h.c2
  have c3 := h.c3
  replace h := Lib.hid h
  by_cases hk : last ≤ k
  · obtain rfl : c = 103 := by rw [hc, if_pos hk]
    clear hc
    go_enter Try.func62, Try.ntmps62
    go_wp2
    go_quiet (fail)
    go_wp2
    go_ret
    exact ⟨rfl, below_drewN' _ _⟩
  · obtain rfl : c = 0 := by rw [hc, if_neg hk]
    clear hc
    go_enter Try.func62, Try.ntmps62
    go_wp2
    go_quiet (fail)
    go_wp2
    go_ret
    exact ⟨rfl, below_drewN' _ _⟩
theorem stroke_any (w : World) (c : Int) (j : Int) (h : DAt w B g r q n cS cE S E k last) (hk : 0 ≤ k ∧ k < 1000000) (hj : j = k + 1) (hc : c = if last ≤ j then 103 else 0) :
    Calls Try.prog 53 #[Mp g] w fun e w' => e = .returned (.int .i64 c) ∧ DAt w' B g r q n cS cE S E j last ∧ But (DX g r q) w w' := by
  have c2 := h.c2
  have hf := h.f 2
  obtain ⟨ht, hb⟩ := h.tick j
  subst hj
  replace h := Lib.hid h
  replace ht := Lib.hid ht
  replace hb := Lib.hid hb
  replace hc := Lib.hid hc
  go_enter Try.func53, Try.ntmps53
  go_wp2_with fail
  refine (power_any _ c ht.out hc.out).mono ?_
  rintro e1 w1 ⟨rfl, b1⟩
  replace b1 := Lib.hid b1
  go_wp2_with fail
  go_ret
  exact ⟨rfl, ht.out.later b1.out, hb.out.trans (.ofBelow b1.out)⟩
end
theorem isOdd_any (p : Int) (b : Bool) (w : World) (hb : b = decide (p % 2 = 1)) :
    Calls Try.prog 56 #[.int .i64 p] w fun e w' => e = .returned (.bool b) ∧ w' = w := by
  have ha := and1 p
  replace hb := Lib.hid hb
  go_enter Try.func56, Try.ntmps56
  go_wp2
  go_ret
  exact ⟨ret_bool (by rw [hb.out, Bool.eq_iff_iff]; simp), rfl⟩
theorem ret_sl {A : Option Addr} {n m c : Nat} (h : n = m) : Ending.returned (.slice A n c) = Ending.returned (.slice A m c) := by rw [h]
theorem at_any (w : World) (r n c : Nat) (i : Int) (j : Nat) (hi : i = j) (hj : j < n) (hn : n ≤ 16384) (hc : n * 64 ≤ c ∧ c ≤ maxLen) :
    Calls Try.prog 39 #[.slice (some ⟨r, 0, none⟩) (n * 64) c, .int .i64 i] w fun e w' => e = .returned (.slice (some ⟨r, j * 64, none⟩) 64 (c - j * 64)) ∧ w' = w := by
  subst hi
  unfold maxLen at hc
  go_enter Try.func39, Try.ntmps39
  go_wp2
  go_ret
  exact ⟨ret_sl (by omega), rfl⟩
end Go.Proofs.Ytncafkifebannaa
