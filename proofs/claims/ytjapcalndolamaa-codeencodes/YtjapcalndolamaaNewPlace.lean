/-
  The beginning of reading, and what reading no bytes at all answers; condition: the bytes lie in memory that was there at the call.
-/
import Derived.Test.YtjapcalndolamaaPlace
namespace Go.Proofs.Ytjapcalndolamaa
open Go.RowKit
set_option maxRecDepth 100000 in
set_option maxHeartbeats 4000000 in
theorem newPlace_any (A : Option Addr) (c : Nat) (bs : List Nat) (w : World) (hb : Bytes w w.heap.size A bs.length (M.bf bs)) (hc : bs.length ≤ c ∧ c ≤ maxLen) (hs : bs.length ≤ 100000) :
    Calls Try.prog 24 #[.slice A bs.length c] w fun e w' => e = .returned (.pointer (some ⟨w.heap.size, 0, none⟩)) ∧ PlaceAt w' w.heap.size A c bs 0 0 ∧ Below w.heap.size w w' := by
  replace hb := Lib.hid hb
  replace hc := Lib.hid hc
  go_enter Try.func24, Try.ntmps24
  go_wp2_with fail
  go_ret
  have hbel : ∀ o : Obj, Below w.heap.size w (w.alloc o) := fun o => (Below.refl _ _).alloc (Nat.le_refl _) o
  refine ⟨rfl, ⟨?_, ?_, ?_, ?_, ?_, ?_, ?_, ?_, ?_, ?_, ?_, ?_, ?_, ?_, ?_, Nat.zero_le _, hc.out, hs, by omega, hb.out.below (hbel _) (Nat.le_refl _), by simp⟩, hbel _⟩
  all_goals simp
set_option maxRecDepth 100000 in
theorem list_nil (P : Nat) (A : Option Addr) (c : Nat) (w : World) (h : PlaceAt w P A c [] 0 0) :
    Calls Try.prog 25 #[.pointer (some ⟨P, 0, none⟩)] w fun e w' => e = .returned (.tuple #[.slice none 0 0, .bool true]) ∧ ∃ n, w' = w.drewN n := by
  have c0 := h.c0
  have c1 := h.c1
  have hsz := h.size
  simp only [List.length_nil] at c0
  clear h
  go_enter Try.func25, Try.ntmps25
  go_wp2_with fail
  go_loopw [4] (fun v w' => v = .slice none 0 0 ∧ w' = w) (fun _ w' => 0)
  case atStart => exact ⟨rfl, rfl⟩
  case round =>
    obtain ⟨rfl, rfl⟩ := hrel
    go_wp2_with fail
    go_quiet (fail)
    go_wp2_with fail
    go_ret2
    exact ⟨rfl, nq, rfl⟩
end Go.Proofs.Ytjapcalndolamaa
