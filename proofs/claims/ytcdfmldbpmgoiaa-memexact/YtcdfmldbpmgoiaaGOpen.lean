/-
  How the laws' one argument, limits and acts, lies in memory, opened from its reading as data; condition: what is handed in weighs no more than the form's own reach.
-/
import Derived.Test.YtcdfmldbpmgoiaaRows
import Derived.Test.YtcdfmldbpmgoiaaGMem
import Derived.ProofKit
import Derived.Deep.Slices
import Derived.Deep.Fields
import Derived.Deep.Strs
import Derived.ChangeSame
import Derived.ChangeOld
import Derived.SizedLaws
namespace Go.Proofs.Ytcdfmldbpmgoiaa
open Go.ChangeShapes Go.WideShapes Go.ChangeAt Go.RowKit Go.Deep
/-- The value is a script: limits, a limit, a list. -/
def IsScript (v : Value) : Prop := ∃ (mn mx limit : Int) (A : Option Addr) (l c : Nat), v = .agg #[.int .i64 mn, .int .i64 mx, .int .i64 limit, .slice A l c] ∧ (-9223372036854775808 ≤ mn ∧ mn ≤ 9223372036854775807) ∧ (-9223372036854775808 ≤ mx ∧ mx ≤ 9223372036854775807) ∧ (-9223372036854775808 ≤ limit ∧ limit ≤ 9223372036854775807) ∧ l ≤ c ∧ c ≤ maxLen
theorem wf64 {z : Int} (h : (Lit.int .i64 z).wf = true) : -9223372036854775808 ≤ z ∧ z ≤ 9223372036854775807 := by simpa [Lit.wf, IntKind.min, IntKind.max, IntKind.signed, IntKind.bits] using h
section
variable {H : Type} {enc : TypeId × Value → H} {w : World}
set_option maxRecDepth 100000 in
theorem open_script {n : Nat} {cs : Array Value} {x : DataW H × List MemPlace} (h : DataW.trod enc Try.prog w 0 (fun _ => true) true n 26 cs.toList = some x) :
    IsScript (.agg cs) := by
  have k1 : Try.prog.cellsOf 3 = 1 := by kernel_rfl
  have k2 : Try.prog.cellsOf 23 = 2 := by kernel_rfl
  have k3 : Try.prog.cellsOf 24 = 1 := by kernel_rfl
  have k4 : Try.prog.cellsOf 26 = 4 := by kernel_rfl
  obtain ⟨xs, n1, _, hD, hcl, hxl, hf⟩ := DataW.trod_struct Try.underlying26 h
  rw [k4] at hcl
  obtain ⟨l⟩ := cs
  match l, hcl with
  | [c0, c1, c2, c3], _ =>
    match xs, hxl with
    | [y0, y1, y2], _ =>
      have f0 : DataW.trod enc Try.prog w 0 (fun _ => true) true n1 23 [c0, c1] = some y0 := by simpa [k2] using hf 0 _ rfl
      have f1 : DataW.trod enc Try.prog w 0 (fun _ => true) true n1 3 [c2] = some y1 := by simpa [k1] using hf 1 _ rfl
      have f2 : DataW.trod enc Try.prog w 0 (fun _ => true) true n1 24 [c3] = some y2 := by simpa [k3] using hf 2 _ rfl
      obtain ⟨z0, z1, n2, _, _, g0, g1⟩ := trod_struct2 Try.underlying23 f0
      have g0' : DataW.trod enc Try.prog w 0 (fun _ => true) true n2 3 [c0] = some z0 := by simpa [k1] using g0
      have g1' : DataW.trod enc Try.prog w 0 (fun _ => true) true n2 3 [c1] = some z1 := by simpa [k1] using g1
      obtain ⟨a0, e0, _, w0⟩ := DataW.trod_int Try.underlying3 g0'
      obtain ⟨a1, e1, _, w1⟩ := DataW.trod_int Try.underlying3 g1'
      obtain ⟨a2, e2, _, w2⟩ := DataW.trod_int Try.underlying3 f1
      simp at e0 e1 e2
      subst e0 e1 e2
      rcases DataW.trod_slice Try.underlying24 f2 with ⟨hcs, _⟩ | ⟨a, len, cap, elems, rest, n3, hn3, hcs, hx, _, hl, hm, hlen, hel, _, _⟩
      · simp at hcs
        subst hcs
        exact ⟨a0, a1, a2, none, 0, 0, rfl, wf64 w0, wf64 w1, wf64 w2, by omega, by unfold maxLen; omega⟩
      · simp at hcs
        subst hcs
        exact ⟨a0, a1, a2, some a, len, cap, rfl, wf64 w0, wf64 w1, wf64 w2, hl, hm⟩
end
end Go.Proofs.Ytcdfmldbpmgoiaa
