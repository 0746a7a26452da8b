/-
  What stands behind reading a number into a new cell; no condition beyond the state of reading.
-/
import Derived.Test.YtjapcalndolamaaInstr
namespace Go.Proofs.Ytjapcalndolamaa
open Go.RowKit
theorem after_num {P : Nat} {ad : Addr} {c : Nat} {bs : List Nat} {d p q g o base : Nat} {s : M.Stt} {w w1 w2 : World} {vL vB vE : Value} {x : Int} {r : List Nat} (h : RS P (some ad) c bs d g o base s w p vL vB vE)
    (b1 : Below (w.alloc (.cells #[.int .i64 0] 3)).heap.size (w.alloc (.cells #[.int .i64 0] 3)) w1) (hq : q ≤ bs.length) (hr : r = bs.drop q) (hw2 : w2 = (w1.setCell ⟨w.heap.size, 0, none⟩ (.int .i64 x)).setCell ⟨P, 1, none⟩ (.int .i64 (q : Nat))) :
    Kb (· = P) w w2 ∧ Step P g o w w2 ∧ RS P (some ad) c bs d g o base { s with r := r } w2 q vL vB vE ∧ w2.cell? ⟨w.heap.size, 0, none⟩ = some (.int .i64 x) ∧ w.heap.size < w2.heap.size := by
  subst hw2
  have hPs := h.place.size
  have hPg := h.apart
  have hsz : w.heap.size < w1.heap.size := by have := b1.size; simp at this; omega
  have d1 : Below w.heap.size w w1 := ((Below.refl _ _).alloc (Nat.le_refl _) _).trans (b1.mono (by simp))
  have kb : Kb (· = P) w ((w1.setCell ⟨w.heap.size, 0, none⟩ (.int .i64 x)).setCell ⟨P, 1, none⟩ (.int .i64 (q : Nat))) :=
    ⟨d1.os, d1.tape, d1.output, by simp; omega, fun k hk hne => by
      rw [Below.heap_setCell _ _ _ _ (by exact hne), Below.heap_setCell _ _ _ _ (by show k ≠ w.heap.size; omega)]
      exact d1.block k hk⟩
  have st : Step P g o w _ := Step.of_kb (o := o) kb h.lt (by omega)
  have p1 : PlaceAt w1 P (some ad) c bs p d := h.place.agree (fun k hk => d1.block k (by omega)) d1.size
  have p2 : PlaceAt (w1.setCell ⟨w.heap.size, 0, none⟩ (.int .i64 x)) P (some ad) c bs p d := p1.agree (fun k hk => Below.heap_setCell _ _ _ _ (by show k ≠ w.heap.size; omega)) (by simp)
  have c1 : w1.cell? ⟨w.heap.size, 0, none⟩ = some (.int .i64 0) := by rw [b1.cell (p := ⟨w.heap.size, 0, none⟩) (by simp)]; simp
  refine ⟨kb, st, h.step st (p2.move q hq) hr (h.item.agree (kb.block g h.lt (by omega))) h.rng rfl rfl rfl, ?_, by simpa using hsz⟩
  rw [World.cell?_of_block (w := w1.setCell ⟨w.heap.size, 0, none⟩ (.int .i64 x)) (Below.heap_setCell _ _ _ _ (by show w.heap.size ≠ P; omega))]
  exact World.cell?_setCell_same _ _ _ c1
end Go.Proofs.Ytjapcalndolamaa
