/-
  How the laws' one argument, a list of two numbers and an operation each, lies in memory, opened from its reading as data; no condition.
-/
import Derived.Test.YtpnimgecfmpipaaRows
import Derived.Test.YtpnimgecfmpipaaUse
import Derived.ProofKit
import Derived.Deep.Slices
import Derived.Deep.Fields
import Derived.ChangeSame
import Derived.ChangeOld
namespace Go.Proofs.Ytpnimgecfmpipaa
open Go.ChangeShapes Go.WideShapes Go.ChangeAt Go.RowKit Go.Deep
/-- The list that came in: n of them. -/
def Asks (w : World) (A : Option Addr) (n : Nat) : Prop := n ≤ maxLen ∧ ∀ i, i < n → ∃ (g o : Nat) (a b op : Int),
  A = some ⟨g, o, none⟩ ∧ g < w.heap.size ∧ w.cell? ⟨g, o + i * 3, none⟩ = some (.int .u64 a) ∧ w.cell? ⟨g, o + i * 3 + 1, none⟩ = some (.int .u64 b) ∧ w.cell? ⟨g, o + i * 3 + 2, none⟩ = some (.int .i64 op) ∧ U a ∧ U b ∧ -9223372036854775808 ≤ op ∧ op ≤ 9223372036854775807
section
variable {H : Type} {enc : TypeId × Value → H} {w : World}
theorem open_u64 {n : Nat} {v : Value} {y : DataW H × List MemPlace} (h : DataW.trod enc Try.prog w 0 (fun _ => true) true n 23 [v] = some y) : ∃ z : Int, v = .int .u64 z ∧ U z := by
  obtain ⟨z, hcs, _, hw⟩ := DataW.trod_int Try.underlying23 h
  simp at hcs
  exact ⟨z, hcs, by simpa [U, Lit.wf, IntKind.min, IntKind.max, IntKind.signed, IntKind.bits] using hw⟩
theorem open_i64 {n : Nat} {v : Value} {y : DataW H × List MemPlace} (h : DataW.trod enc Try.prog w 0 (fun _ => true) true n 3 [v] = some y) : ∃ z : Int, v = .int .i64 z ∧ -9223372036854775808 ≤ z ∧ z ≤ 9223372036854775807 := by
  obtain ⟨z, hcs, _, hw⟩ := DataW.trod_int Try.underlying3 h
  simp at hcs
  exact ⟨z, hcs, by simpa [Lit.wf, IntKind.min, IntKind.max, IntKind.signed, IntKind.bits] using hw⟩
theorem add_none (g o : Nat) (k : Nat) : (⟨g, o, none⟩ : Addr).add k = ⟨g, o + k, none⟩ := by unfold Addr.add; split <;> simp_all
theorem open_asks {n : Nat} {A : Option Addr} {l c : Nat} {x : DataW H × List MemPlace} (h : DataW.trod enc Try.prog w 0 (fun _ => true) true n 22 [.slice A l c] = some x) : Asks w A l := by
  rcases open_slice Try.underlying22 h with ⟨hcs, _⟩ | ⟨a, len, cap, m, k, D, Pl, hcs, _, hl, hm, hmm, _, hi⟩
  · simp at hcs
    obtain ⟨rfl, rfl, rfl⟩ := hcs
    exact ⟨by unfold maxLen; omega, fun i hi => by omega⟩
  · simp at hcs
    obtain ⟨rfl, rfl, rfl⟩ := hcs
    have hC : Try.prog.cellsOf 25 = 3 := by kernel_rfl
    refine ⟨by omega, fun i hil => ?_⟩
    obtain ⟨g, o, spot⟩ := a
    have hsp : spot = none := by
      obtain ⟨cs0, hc0, _⟩ := hi 0 (by rw [hmm]; simp; omega)
      rw [hC] at hc0
      obtain ⟨_, hcl0, hat0⟩ := World.cells?_some hc0
      have h0 := hat0 0 (by omega)
      rw [List.getElem?_eq_getElem (by omega)] at h0
      have h1 := World.cell?_spot h0
      simpa [Addr.add] using h1
    subst hsp
    obtain ⟨cs', hc, ht⟩ := hi i (by rw [hmm]; simp; omega)
    rw [hC] at hc
    obtain ⟨_, hcl, hat⟩ := World.cells?_some hc
    obtain ⟨xs, n', _, _, _, hxl, hf⟩ := DataW.trod_struct Try.underlying25 ht
    match cs', hcl with
    | [c0, c1, c2], _ =>
      match xs, hxl with
      | [y0, y1, y2], _ =>
        have k0 : Try.prog.cellsOf 23 = 1 := by kernel_rfl
        have k1 : Try.prog.cellsOf 3 = 1 := by kernel_rfl
        have f0 : DataW.trod enc Try.prog w 0 (fun _ => true) true n' 23 [c0] = some y0 := by simpa [k0] using hf 0 _ rfl
        have f1 : DataW.trod enc Try.prog w 0 (fun _ => true) true n' 23 [c1] = some y1 := by simpa [k0] using hf 1 _ rfl
        have f2 : DataW.trod enc Try.prog w 0 (fun _ => true) true n' 3 [c2] = some y2 := by simpa [k1] using hf 2 _ rfl
        obtain ⟨a, rfl, ha⟩ := open_u64 f0
        obtain ⟨b, rfl, hb⟩ := open_u64 f1
        obtain ⟨op, rfl, ho⟩ := open_i64 f2
        have d0 := hat 0 (by omega)
        have d1 := hat 1 (by omega)
        have d2 := hat 2 (by omega)
        simp only [add_none] at d0 d1 d2
        refine ⟨g, o, a, b, op, rfl, ?_, by simpa using d0, by simpa using d1, by simpa using d2, ha, hb, ho⟩
        exact World.block_lt_of_cell? w ⟨g, o + i * 3 + 1, none⟩ (by simpa using d1)
end
/-- The three cells of a new block, later. -/
theorem cells3 {w w1 : World} {x y z : Value} {t : TypeId} (h : Below (w.alloc (.cells #[x, y, z] t)).heap.size (w.alloc (.cells #[x, y, z] t)) w1) :
    w1.cell? ⟨w.heap.size, 0, none⟩ = some x ∧ w1.cell? ⟨w.heap.size, 1, none⟩ = some y ∧ w1.cell? ⟨w.heap.size, 2, none⟩ = some z := by
  have e (j : Nat) : w1.cell? ⟨w.heap.size, j, none⟩ = #[x, y, z][j]? := by
    rw [h.cell (by simp)]
    exact cell_of_row _ _ _ _ _ _ (heap_alloc_last w _)
  exact ⟨e 0, e 1, e 2⟩
theorem below_new {w w1 w2 : World} {o : Obj} (h : Below w.heap.size w w1) (h2 : Below (w1.alloc o).heap.size (w1.alloc o) w2) : Below w.heap.size w w2 :=
  (h.alloc h.size o).trans (h2.mono (by have := h.size; simp; omega))
end Go.Proofs.Ytpnimgecfmpipaa
