/-
  The walk of a drawn region by segments, each segment's rest kept shut. No condition; nothing of the program is named here.
-/
import Derived.Test.YtghogkanhcihbaaMix
import Derived.Lib.Hide
import Derived.WalkKit
namespace Go.Proofs.Ytghogkanhcihbaa
open Go Go.RowKit
/-- A statement kept shut. -/
structure Shut (p : Prop) : Prop where
  out : p
theorem shut_eq (p : Prop) : Shut p = p := propext ⟨fun h => h.out, fun h => ⟨h⟩⟩
section
variable {P : Program} {ops : Array Oper} {Q : Exit → Act → World → Prop} {s : List (Bool × Nat)} {n : Nat} {l : List Oper} {a : Act} {w : World}
theorem mix_t (h : wpStill P ops w (fun a' => Shut (mixWp P ops Q s (l.drop n) a' w)) (l.take n) a) : Shut (mixWp P ops Q ((true, n) :: s) l a w) := by
  simp only [shut_eq] at h
  exact ⟨h⟩
theorem mix_f (h : wpList P ops (Exit.then (fun a' w' => Shut (mixWp P ops Q s (l.drop n) a' w')) Q) (l.take n) a w) : Shut (mixWp P ops Q ((false, n) :: s) l a w) := by
  simp only [shut_eq] at h
  exact ⟨h⟩
theorem mix_e (h : Q .normal a w) : Shut (mixWp P ops Q [] l a w) := ⟨h⟩
theorem wp_region_mix2 {id : Nat} (s : List (Bool × Nat)) (hm : P.follows .mixedOrders = true) (hB : (Region.noSelect l.toArray && mixB .any l.toArray s 0 (Array.replicate l.toArray.size false)) = true)
    (h : Shut (mixWp P l.toArray Q s l a w.drew)) : (Code.region id l.toArray true).wp P Q a w := wp_region_mix s hm hB h.out
end
end Go.Proofs.Ytghogkanhcihbaa
