/-
  What a stroke does to the page's disk, what may be, and what Read answers; condition: the page's disk was made by the call.
-/
import Derived.Test.YtghogkanhcihbaaDPage3
namespace Go.Proofs.Ytghogkanhcihbaa
open Go.RowKit
theorem take_any (ts : List Int) (k : Int) (j : Nat) (h : j < ts.length) : (ts.take (j + 1)).any (· == k) = ((ts.take j).any (· == k) || (ts.getD j 0 == k)) := by
  rw [take_succN ts j h, List.any_append]
  simp
/-- What a stroke leaves of the page's disk. -/
def PStPost (w : World) (B g : Nat) (vs ve vt : Value) (ss es : List Value) (ts : List Int) (n1 n2 : Nat) (goes off : Bool) (k : Int) (e : Ending) (w' : World) : Prop :=
  e = .returned (.tuple #[.bool goes, .bool off]) ∧ PRaw w' B g vs ve vt ss es ts n1 n2 off k ∧ But (· = g) w w'
section
variable {B g : Nat} {vs ve vt : Value} {ss es : List Value} {ts : List Int} {n1 n2 : Nat} {off : Bool} {k k' : Int}
theorem pStroke_off (w : World) (h : PRaw w B g vs ve vt ss es ts n1 n2 true k) (hk : 0 ≤ k ∧ k < 1000000) (hk' : k' = k + 1) :
    Calls Try.prog 33 #[Mp g] w (PStPost w B g vs ve vt ss es ts n1 n2 false true k') := by
  subst hk'
  have c4 := h.c4
  have f4 := h.f 4
  obtain ⟨h1, b1⟩ := h.setK (k + 1)
  have c3 := h1.c3
  replace h1 := Lib.hid h1
  replace b1 := Lib.hid b1
  clear h
  go_enter Try.func33, Try.ntmps33
  go_wp2_with fail
  go_ret2
  exact ⟨rfl, h1.out, b1.out⟩
set_option maxRecDepth 100000 in
theorem pStroke_on (w : World) (off' : Bool) (h : PRaw w B g vs ve vt ss es ts n1 n2 false k) (hk : 0 ≤ k ∧ k < 1000000) (hk' : k' = k + 1) (ho : off' = ts.any (· == k')) (hts : ts.length ≤ 1000000) :
    Calls Try.prog 33 #[Mp g] w (PStPost w B g vs ve vt ss es ts n1 n2 true off' k') := by
  have c4 := h.c4
  have f4 := h.f 4
  obtain ⟨h1, b1⟩ := h.setK k'
  have c3 := h1.c3
  obtain ⟨At, ct, rfl, _, _⟩ := own_form h.rt
  have hst := Lib.hid (fun j hj => take_any ts k' j hj)
  have hall : ts.take ts.length = ts := List.take_length
  obtain ⟨m, hm⟩ : ∃ m, m = ts.length := ⟨_, rfl⟩
  rw [← hm] at hall hst hts
  have hk2 : -9223372036854775808 ≤ k' ∧ k' ≤ 9223372036854775807 := by omega
  replace hk' := Lib.hid hk'
  rw [← hm] at h1 h ⊢
  replace hall := Lib.hid hall
  replace ho := Lib.hid ho
  replace h1 := Lib.hid h1
  replace b1 := Lib.hid b1
  have hm2 := Lib.hid hm
  clear h hm
  have e4 : k + 1 = k' := hk'.out.symm
  go_enter Try.func33, Try.ntmps33
  go_wp2_with fail
  go_loopw [4] (fun i w' => ∃ (j : Nat) (o : Bool), j ≤ m ∧ i = .int .i64 j ∧ o = (ts.take j).any (· == k') ∧ PRaw w' B g vs ve (.slice At m ct) ss es ts n1 n2 o k' ∧ But (· = g) w w') (fun i _ => m - (intOf i).toNat)
  case atStart => exact ⟨0, false, by omega, rfl, by simp, h1.out, b1.out⟩
  case round =>
    clear h1 b1 c3 c4 f4 e4
    obtain ⟨j, o, hj, rfl, hoj, hP, hb⟩ := hrel
    have d2 := hP.c2
    have d3 := hP.c3
    have d4 := hP.c4
    have g3 := hP.f 3
    by_cases hlt : j < m
    · have rt : wr.ownsRow B 57 1 (.slice At m ct) m (nvals ts) := by have := hP.rt; rwa [← hm2.out] at this
      obtain ⟨gt, cur, rfl, _, _⟩ := own_at rt (by omega)
      have q1 := rt.cells (g := gt) rfl j _ (nvals_get ts j (by rw [← hm2.out]; exact hlt))
      rw [add_none, Nat.zero_add] at q1
      have hs := hst.out j hlt
      rw [← hoj] at hs
      obtain ⟨t, ht⟩ : ∃ t, t = ts.getD j 0 := ⟨_, rfl⟩
      rw [← ht] at q1 hs
      clear ht hoj rt
      have t0 : (0 : Int) ≤ (j : Int) := by omega
      have t1 : (j : Int) < (m : Int) := by omega
      have P2 := (hP.setOff true).1
      have b2 := (hP.setOff true).2
      replace P2 := Lib.hid P2
      replace b2 := Lib.hid b2
      replace hP := Lib.hid hP
      replace hb := Lib.hid hb
      by_cases htk : t = k'
      · subst htk
        replace hs := Lib.hid hs
        go_wp2_with fail
        go_quiet (fail)
        go_wp2_with fail
        refine ⟨⟨j + 1, true, by omega, by go_num, by rw [hs.out]; simp, ?_, ?_⟩, by simp [intOf]; omega⟩
        · exact ⟨P2.out.obj, P2.out.ge, P2.out.rs, P2.out.re, P2.out.rt, P2.out.ap⟩
        · have := hb.out.trans b2.out
          exact ⟨this.os, this.tape, this.output, this.size, this.block⟩
      · have hne : (t == k') = false := by simpa using htk
        replace hs := Lib.hid hs
        replace htk := Lib.hid htk
        go_wp2_with fail
        go_quiet (fail)
        go_wp2_with fail
        exact ⟨⟨j + 1, o, by omega, by go_num, by rw [hs.out]; simp [htk.out], hP.out.later (below_drewN' _ _), hb.out.trans (.ofBelow (below_drewN' _ _))⟩, by simp [intOf]; omega⟩
    · obtain rfl : j = m := by omega
      rw [hall.out, ← ho.out] at hoj
      subst hoj
      replace hP := Lib.hid hP
      replace hb := Lib.hid hb
      go_wp2_with fail
      go_quiet (fail)
      go_wp2_with fail
      go_ret2
      exact ⟨rfl, hP.out.later (below_drewN' _ _), hb.out.trans (.ofBelow (below_drewN' _ _))⟩
end
end Go.Proofs.Ytghogkanhcihbaa
