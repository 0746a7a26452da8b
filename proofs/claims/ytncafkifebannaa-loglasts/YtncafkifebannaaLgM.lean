/-
  What the library's Clone answers of any bytes, none too; condition: the bytes lie in memory.
-/
import Derived.Test.YtncafkifebannaaLgL
import Derived.Test.YtncafkifebannaaDRead
namespace Go.Proofs.Ytncafkifebannaa
open Go.RowKit
/-- A copy in new memory. -/
def CpPost (bs : List Nat) (w : World) (e : Ending) (w' : World) : Prop := ∃ u, e = .returned u ∧ BSP w' (fun b => w.heap.size ≤ b ∧ b < w'.heap.size) u bs ∧ Below w.heap.size w w'
theorem bsp_nil (w : World) (P : Nat → Prop) (A : Option Addr) (c : Nat) (hc : c ≤ maxLen) : BSP w P (.slice A 0 c) [] := ⟨A, c, rfl, ⟨by simp, hc⟩, fun i hi => by simp at hi⟩
set_option maxRecDepth 100000 in
theorem clone_of (w : World) (v : Value) (bs : List Nat) (h : BS w w.heap.size v bs) (hn : bs.length ≤ 1048576) : Calls Try.prog 43 #[v] w (CpPost bs w) := by
  by_cases h0 : 0 < bs.length
  · refine (Clone_any w v bs h h0 hn).mono ?_
    rintro e w' ⟨r, c, rfl, hr, hge, hb⟩
    have hle := hr.le
    refine ⟨_, rfl, ⟨_, c, rfl, hle, fun i hi => ⟨_, rfl, ⟨hge, hr.lt⟩, ?_, ?_⟩⟩, hb⟩
    · rw [List.getD_eq_getElem?_getD, List.getElem?_eq_getElem hi]
      exact hr.small _ (List.getElem_mem hi)
    · rw [add_none, Nat.zero_add]
      exact hr.cell i hi
  · have hb0 : bs = [] := List.eq_nil_of_length_eq_zero (by omega)
    subst hb0
    obtain ⟨A, c, rfl, a1, a2, _⟩ := h
    have q22 : ∀ (w : World) (a : Option Addr) (n c n' c' : Nat), (binOp .eql 37 (.slice a n c) (.slice none n' c')).run Try.prog w = .ok (.bool a.isNone) w := fun w a n c n' c' => Lib.run_eql_slice_nil w _ _ a n c n' c' Try.underlying37
    cases A with
    | none =>
      have hf : CpPost [] w (.returned (.slice none 0 0)) w := ⟨_, rfl, bsp_nil _ _ _ _ (by unfold maxLen; omega), Below.refl _ _⟩
      replace hf := Lib.hid hf
      show Calls Try.prog 43 #[.slice none 0 c] w _
      go_enter Try.func43, Try.ntmps43
      go_wp2_with fail
      go_ret
      exact hf.out
    | some ad =>
      have hf : CpPost [] w (.returned (.slice (some ⟨w.heap.size, 0, none⟩) 0 0)) (w.alloc (.cells #[] 5)) := ⟨_, rfl, bsp_nil _ _ _ _ (by unfold maxLen; omega), (Below.refl _ _).alloc (Nat.le_refl _) _⟩
      replace hf := Lib.hid hf
      show Calls Try.prog 43 #[.slice (some ad) 0 c] w _
      go_enter Try.func43, Try.ntmps43
      go_wp2_with fail
      go_ret
      exact hf.out
end Go.Proofs.Ytncafkifebannaa
