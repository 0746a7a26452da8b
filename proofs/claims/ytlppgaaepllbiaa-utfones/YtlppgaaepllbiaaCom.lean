/-
  Small facts that the laws' walks share: which questions are heavy, empty lists, lengths; no condition.
-/
import Derived.Test.YtlppgaaepllbiaaOpen
import Derived.Test.YtlppgaaepllbiaaWakes
import Derived.Test.YtlppgaaepllbiaaBytes
namespace Go.Proofs.Ytlppgaaepllbiaa
open Go.RowKit
theorem heavyW_yes (vB vL : Value) (bs : List Nat) (xs : List Int) (w : World) {B : Nat} (hB : BS w B vB bs) (hL : IS w B vL xs) (h : 3000 < bs.length ∨ 1000 < xs.length) :
    Calls Try.prog 7 #[.agg #[vB, vL]] w fun e w' => e = .returned (.bool true) ∧ Below w.heap.size w w' := by
  obtain ⟨A, c, rfl, _⟩ := hB
  obtain ⟨C, d, rfl, _⟩ := hL
  exact heavy_yes A C _ _ c d w h
theorem heavyW_no (vB vL : Value) (bs : List Nat) (xs : List Int) (w : World) {B : Nat} (hB : BS w B vB bs) (hL : IS w B vL xs) (h1 : bs.length ≤ 3000) (h2 : xs.length ≤ 1000) :
    Calls Try.prog 7 #[.agg #[vB, vL]] w fun e w' => e = .returned (.bool false) ∧ Below w.heap.size w w' := by
  obtain ⟨A, c, rfl, _⟩ := hB
  obtain ⟨C, d, rfl, _⟩ := hL
  exact heavy_no A C _ _ c d w h1 h2
theorem nil_ISW (w : World) : IS w w.heap.size (.slice none 0 0) [] := ⟨none, 0, rfl, by simp, by unfold maxLen; omega, fun i hi => by simp at hi⟩
theorem nil_ownW (w : World) : w.ownsRow w.heap.size 21 1 (.slice none 0 0) 0 [] := World.ownsRow_nil _ _ _ _
theorem text_lenW {bs ps : List Nat} (h : M.Text bs ps) : ps.length ≤ bs.length := by rw [h.2]; exact (M.encs_length_le ps).1
theorem nil_BS (w : World) : BS w w.heap.size (.slice none 0 0) [] := ⟨none, 0, rfl, by simp, by unfold maxLen; omega, fun i hi => by simp at hi⟩
theorem vals_one (a : List Nat) : ∀ u ∈ vals a, u.oneCell' = true := by
  intro u hu
  simp only [vals, List.mem_map] at hu
  obtain ⟨b, _, rfl⟩ := hu
  rfl
end Go.Proofs.Ytlppgaaepllbiaa
