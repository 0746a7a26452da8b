/-
  From the row's condition (the library's table reads as it is laid) to the table's cells; a world that meets it. No condition of its own.
-/
import Derived.Test.YtpnimgecfmpipaaDoorRows
import Derived.Test.YtpnimgecfmpipaaDoorTabU
import Derived.ProofKit
import Derived.LaidMore
import Derived.OpenShut
import Derived.Stop.Joined
namespace Go.Proofs.YtpnimgecfmpipaaDoor
open Go.ChangeShapes Go.WideShapes Go.ChangeAt Go.RowKit
def laid1 : List (String × DataW Unit) := [("math/bits.deBruijn64tab", Rows.laid_math_bits_deBruijn64tab)]
theorem gTab : Tryd.prog.globalNamed "math/bits.deBruijn64tab" = some 0 := by kernel_rfl
theorem tTab : (Tryd.prog.globals[0]?).map (·.type) = some 62 := by kernel_rfl
theorem door_met (os : Os) (args : Array Value) : laidMetH Tryd.prog laid1 ((World.doorLaid Tryd.prog 400 os).forCall (fun _ _ => 0) ⟨#[], args, []⟩).memory :=
  laidMetH_of_parts3 (fuel := 8) (laidMet_of_run' 8 (by kernel_rfl) (by kernel_rfl)) (by kernel_rfl) (by kernel_rfl)
theorem laid_read : ∀ j : Fin 64, ∃ d : DataW Unit, d = .lit (.int .u8 (deb j.val)) ∧ (match (Rows.laid_math_bits_deBruijn64tab : DataW Unit) with | .agg l => l[j.val]? | _ => Option.none) = some d := by
  intro j
  refine ⟨_, rfl, ?_⟩
  match j with
  | ⟨j, hj⟩ =>
    have h : ∀ k, k < 64 → (match (Rows.laid_math_bits_deBruijn64tab : DataW Unit) with | .agg l => l[k]? | _ => Option.none) = some (.lit (.int .u8 (deb k))) := by
      intro k hk
      rcases k with _ | _ | _ | _ | _ | _ | _ | _ | _ | _ | _ | _ | _ | _ | _ | _ | _ | _ | _ | _ | _ | _ | _ | _ | _ | _ | _ | _ | _ | _ | _ | _ | _ | _ | _ | _ | _ | _ | _ | _ | _ | _ | _ | _ | _ | _ | _ | _ | _ | _ | _ | _ | _ | _ | _ | _ | _ | _ | _ | _ | _ | _ | _ | _ | k
      all_goals first | rfl | omega
    exact h j hj
theorem of_laid {W : World} (h : laidMetH Tryd.prog laid1 W) : Tb W := by
  rw [MakeChecks.laidMetH_plain _ _ _ (by kernel_rfl)] at h
  obtain ⟨ps, ⟨g0, t0, cs0, f0, p0, q0, hg0, ht0, hv0, hd0, _, _⟩, _, _⟩ := h
  obtain rfl := Option.some.inj (gTab.symm.trans hg0)
  obtain rfl := Option.some.inj (tTab.symm.trans ht0)
  obtain ⟨xs, m1, rfl, hx1, hlen, hn3, hel⟩ := DataW.trod_array Tryd.underlying62 hd0
  have c1 : Tryd.prog.cellsOf 5 = 1 := by kernel_rfl
  have c2 : Tryd.prog.cellsOf 62 = 64 := by kernel_rfl
  have key : ∀ j, j < 64 → W.cell? ⟨0, j, none⟩ = some (.int .u8 (deb j)) := by
    intro j hj
    have hj' := hel j hj
    rw [c1, Nat.mul_one] at hj'
    have hlt : j < xs.length := by omega
    rw [List.getElem?_eq_getElem hlt] at hj'
    obtain ⟨k, e1, e2, _⟩ := DataW.trod_int Tryd.underlying5 hj'
    obtain ⟨d, hd, hl⟩ := laid_read ⟨j, hj⟩
    have hx2 : (xs.map (·.1))[j]? = some (.lit (.int .u8 (deb j))) := by
      have hx3 : Rows.laid_math_bits_deBruijn64tab = DataW.agg (xs.map (·.1)) := by
        have := congrArg Prod.fst hx1
        exact this
      rw [hx3] at hl
      simp only at hl
      rw [hl, hd]
    rw [List.getElem?_map, List.getElem?_eq_getElem hlt, e2] at hx2
    simp at hx2
    subst hx2
    have := World.var?_cell hg0 hv0 j
    rw [this]
    have hd1 : cs0.toList.drop j = .int .u8 (deb j) :: cs0.toList.drop (j + 1) := by
      have hlt2 : j < cs0.toList.length := by rw [hlen, c2]; omega
      rw [List.drop_eq_getElem_cons hlt2] at e1 ⊢
      simp at e1
      simp [e1]
    have hlt2 : j < cs0.toList.length := by rw [hlen, c2]; omega
    rw [List.drop_eq_getElem_cons hlt2] at hd1
    have := (List.cons.inj hd1).1
    simp at this
    rw [Array.getElem?_eq_getElem (by simpa using hlt2)]
    exact congrArg some this
  exact ⟨World.block_lt_of_cell? W _ (key 0 (by decide)), key⟩
end Go.Proofs.YtpnimgecfmpipaaDoor
