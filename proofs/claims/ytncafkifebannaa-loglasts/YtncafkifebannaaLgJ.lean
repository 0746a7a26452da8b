/-
  What the log answers of steps in order, each being given as a contract; how it chooses a half, and whether there is room; condition: all lies in memory.
-/
import Derived.Test.YtncafkifebannaaLgI
namespace Go.Proofs.Ytncafkifebannaa
open Go.RowKit
set_option maxRecDepth 100000 in
theorem inOrder_of (st : List (FuncId × Value)) (gs c : Nat) (I : Nat → World → Prop) (Fl : Int → World → Prop) (hlen : st.length ≤ 1000)
    (hcells : ∀ i w, I i w → ∀ (j : Nat) (f : FuncId) (v : Value), st[j]? = some (f, v) → w.cell? ⟨gs, j, none⟩ = some (.func (.func f) #[v] #[]))
    (hcall : ∀ (j : Nat) (f : FuncId) (v : Value), st[j]? = some (f, v) → ∀ (args : Array Value) (w : World), Sem.run Try.prog (callFunc f args) w = Result.ok (Next.enter f args) w)
    (hstep : ∀ (j : Nat) (f : FuncId) (v : Value) (w : World), st[j]? = some (f, v) → I j w → Calls Try.prog f #[v] w (fun e w' => (e = .returned (.int .i64 0) ∧ I (j + 1) w') ∨ ∃ d : Int, d ≠ 0 ∧ e = .returned (.int .i64 d) ∧ Fl d w'))
    (w : World) (h0 : I 0 w) : Calls Try.prog 27 #[.slice (some ⟨gs, 0, none⟩) st.length c] w (fun e w' => (e = .returned (.int .i64 0) ∧ I st.length w') ∨ ∃ d : Int, d ≠ 0 ∧ e = .returned (.int .i64 d) ∧ Fl d w') := by
  obtain ⟨N, hN⟩ : ∃ N, N = st.length := ⟨_, rfl⟩
  rw [← hN] at hlen ⊢
  replace hN := Lib.hid hN
  replace hcells := Lib.hid hcells
  replace hcall := Lib.hid hcall
  replace hstep := Lib.hid hstep
  replace h0 := Lib.hid h0
  go_enter Try.func27, Try.ntmps27
  go_wp2_with fail
  go_loopw [8] (fun s w' => ∃ i : Nat, i ≤ N ∧ s = .int .i64 i ∧ I i w') (fun s _ => N - (intOf s).toNat)
  case atStart => exact ⟨0, by omega, rfl, h0.out⟩
  case round =>
    obtain ⟨i, hi, rfl, hI⟩ := hrel
    by_cases hlt : i < N
    · have hx := List.getElem?_eq_getElem (show i < st.length by rw [← hN.out]; exact hlt)
      obtain ⟨⟨f, v⟩, hxx⟩ : ∃ x, x = st[i]'(by rw [← hN.out]; exact hlt) := ⟨_, rfl⟩
      rw [← hxx] at hx
      clear hxx
      have q1 := hcells.out i wr hI i f v hx
      have hc := hcall.out i f v hx
      have hs := Lib.hid (hstep.out i f v wr hx hI)
      have t0 : (0 : Int) ≤ (i : Int) := by omega
      have t1 : (i : Int) < (N : Int) := by omega
      clear hx hI
      go_wp2_with fail
      refine hs.out.mono ?_
      rintro e w2 (⟨rfl, hI2⟩ | ⟨d, hd, rfl, hF⟩)
      · replace hI2 := Lib.hid hI2
        clear hs
        go_wp2_with fail
        exact ⟨⟨i + 1, by omega, by go_num, hI2.out⟩, by simp [intOf]; omega⟩
      · have hdn : (d != 0) = true := by simpa using hd
        have hd' : Unit → d ≠ 0 := fun _ => hd
        replace hF := Lib.hid hF
        clear hs hd
        go_wp2_with fail
        go_ret
        exact .inr ⟨d, by have := hd' (); exact this, rfl, hF.out⟩
    · obtain rfl : i = N := by omega
      replace hI := Lib.hid hI
      go_wp2_with fail
      go_ret
      exact .inl ⟨rfl, hI.out⟩
section
variable {w w' : World} {B G g r q n cS cE : Nat} {S E : List Nat} {k last : Int} {h : Nat} {v2 v3 v4 : Value}
/-- Whether there is room for so much. -/
theorem mayHold_of (w : World) (t : Nat) (c : Int) (a : HAt w B G g r q n cS cE S E k last h v2 v3 v4) (ht : t ≤ 1073741824) (hc : c = if last ≤ k then 103 else if n * 64 - 1024 < 3 * t then 51 else 0) :
    Calls Try.prog 32 #[Mp G, .int .i64 (t : Int)] w fun e w' => e = .returned (.int .i64 c) ∧ Below w.heap.size w w' := by
  have hn := a.disk.n0
  by_cases hon : last ≤ k
  · rw [if_pos hon] at hc
    subst hc
    have hp := Lib.hid (power_of w 103 a (by rw [if_pos hon]))
    clear a
    go_enter Try.func32, Try.ntmps32
    go_wp2_with fail
    refine hp.out.mono ?_
    rintro e1 w1 ⟨rfl, b1⟩
    go_wp2_with fail
    go_ret
    exact ⟨rfl, b1⟩
  · rw [if_neg hon] at hc
    have hp := Lib.hid (power_of w 0 a (by rw [if_neg hon]))
    have ha := Lib.hid a
    obtain ⟨R, hR⟩ : ∃ R : Nat, R = n * 64 - 1024 := ⟨_, rfl⟩
    rw [← hR] at hc
    have u0 : (if (0 : Int) < (n : Int) * 64 - 1024 then (n : Int) * 64 - 1024 else 0) = (R : Int) := by split <;> omega
    have hR9 : R ≤ 1048576 := by omega
    have hfin : ∀ w', Below w.heap.size w w' → (3 * (t : Int) > (R : Int) → c = 51) ∧ (¬ 3 * (t : Int) > (R : Int) → c = 0) := fun _ _ => ⟨fun h9 => by rw [hc, if_pos (by omega)], fun h9 => by rw [hc, if_neg (by omega)]⟩
    replace hfin := Lib.hid hfin
    have hu : Unit → True := fun _ => trivial
    replace hR := Lib.hid hR
    clear hc a
    go_enter Try.func32, Try.ntmps32
    go_wp2_with fail
    refine hp.out.mono ?_
    rintro e1 w1 ⟨rfl, b1⟩
    have c0 := (ha.out.later b1).c0
    have hcn := Lib.hid (Count_any w1 (ha.out.later b1).disk)
    have hf := hfin.out w1 b1
    replace b1 := Lib.hid b1
    by_cases hr : (R : Int) < 3 * (t : Int)
    · obtain rfl := hf.1 hr
      clear hf hfin
      go_wp2_with fail
      refine hcn.out.mono ?_
      rintro e2 w2 ⟨rfl, rfl⟩
      go_wp2_with fail
      all_goals
        go_ret
        exact ⟨rfl, b1.out⟩
    · obtain rfl := hf.2 (by omega)
      clear hf hfin
      go_wp2_with fail
      refine hcn.out.mono ?_
      rintro e2 w2 ⟨rfl, rfl⟩
      go_wp2_with fail
      all_goals
        go_ret
        exact ⟨rfl, b1.out⟩
end
end Go.Proofs.Ytncafkifebannaa
