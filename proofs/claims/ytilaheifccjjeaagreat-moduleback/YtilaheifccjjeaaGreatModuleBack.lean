/-
  A module that is written is read as it, also with sections that are not known; one byte behind it makes it none; what is read is written by no more bytes: the law ModuleBack returns true. Conditions: none beyond the row's own.
-/
import Derived.Test.YtilaheifccjjeaaGreatXGA
import Derived.Test.YtilaheifccjjeaaGreatXGB
import Derived.Test.YtilaheifccjjeaaGreatXGC
import Derived.Test.YtilaheifccjjeaaGreatXGD
import Derived.Test.YtilaheifccjjeaaGreatXGE
import Derived.Test.YtilaheifccjjeaaGreatXGF
import Derived.Test.YtilaheifccjjeaaGreatXGG
import Derived.Test.YtilaheifccjjeaaGreatXGH
import Derived.Test.YtilaheifccjjeaaGreatXGI
import Derived.Test.YtilaheifccjjeaaGreatXGJ
import Derived.Test.YtilaheifccjjeaaGreatXGK
import Derived.Test.YtilaheifccjjeaaGreatXRt2
import Derived.Test.YtilaheifccjjeaaGreatXGL
import Derived.Test.YtilaheifccjjeaaGreatXGM
import Derived.Test.YtilaheifccjjeaaGreatXGN
import Derived.Test.YtilaheifccjjeaaGreatXGO
import Derived.Test.YtilaheifccjjeaaGreatXGP
import Derived.Test.YtilaheifccjjeaaGreatXEq
import Derived.Test.YtilaheifccjjeaaGreatXGQ
import Derived.Test.YtilaheifccjjeaaGreatXHeads
import Derived.Test.YtilaheifccjjeaaGreatXBack
import Derived.Test.YtilaheifccjjeaaGreatRows
import Derived.WalkKit
import Derived.ProofKit
import Derived.OpenShut
import Derived.ChangeOld
import Derived.Below
import Derived.SizedLaws
namespace Go.Proofs.YtilaheifccjjeaaGreat.moduleBack
open Go.ChangeShapes Go.WideShapes Go.ChangeAt Go.RowKit
theorem own : ownKnob Tryz.prog.godebug = none := by kernel_rfl
theorem laidOut : laidOutB Tryz.prog = true := by kernel_rfl
set_option maxRecDepth 100000 in
theorem lifted (os : Os) (started : os.Started) (H : Type) (enc : TypeId × Value → H) :
    ReturnsInHanded {} Tryz.checked os 4 .any (Rows.moduleBackSpec.pre6 enc Tryz.prog Tryz.f4 Rows.moduleBackRow.domain false) (Rows.moduleBackSpec.post enc Tryz.prog Tryz.f4 false true false false) := by
  refine returnsInHanded_of_change_sized (C := Tryz.checked) own started (by kernel_rfl) Tryz.func4
    (ChangeSpec.witness6 (enc := enc) (C := Tryz.checked) false ⟨#[], #[.slice none 0 0], []⟩ 8 (by kernel_rfl) (by kernel_rfl) (by kernel_rfl) (by kernel_rfl)) ?_
  intro W base args ds gs before hval hW _ hsz _
  have hW' := hW
  obtain ⟨p, q, hA0, hV, rfl, hfz, hnd⟩ := hW
  have hA : DataW.TrodAll enc Tryz.prog W 0 (fun _ => true) true Tryz.f4.params.toList args.toList ds p := hA0
  rw [Tryz.params4] at hA
  have hval' : ∀ (j : Nat) t v, Tryz.f4.params[j]? = some t → args[j]? = some v → Value.okWide Tryz.prog W .any base t v := hval
  rw [Tryz.params4] at hval'
  have hsz' : (DataW.weightsEach Tryz.prog (Tryz.f4.params.toList ++ Rows.moduleBackSpec.plain.varTypes Tryz.prog) (ds ++ gs)).all (· ≤ reachBytes) = true := hsz
  rw [Tryz.params4] at hsz'
  obtain ⟨v0, vs0, d0, ds0, p0, q0, hargs, rfl, rfl, h0, r0⟩ := trodAll_cons hA
  obtain ⟨rfl, rfl, rfl⟩ := trodAll_nil r0
  obtain rfl : args = #[v0] := by cases args; simp_all
  obtain ⟨rfl, rfl⟩ := trodVars_none hV
  obtain ⟨a0, len0, cap0, rfl⟩ := okWide_slice Tryz.underlying22 (hval' 0 22 v0 rfl rfl)
  have k0 := h0
  have lt0 : ∀ x ∈ p0, x.block < W.heap.size := by obtain ⟨m, hm⟩ := k0; exact DataW.trod_lt m _ _ _ hm
  obtain ⟨xs, asks⟩ : ∃ xs, LstO rAskO W (· < W.heap.size) (.slice a0 len0 cap0) xs := by
    obtain ⟨fuel, hf⟩ := h0
    refine open_asks6 hf fun m hm => ?_
    exact of_decide_eq_true (List.all_eq_true.1 hsz' m (DataW.weights_mem_each (j := 0) (t := 22) (d := d0) rfl rfl m hm))
  clear hA0 hval hval' hsz hsz'
  refine (backWalk a0 len0 cap0 W xs asks).mono fun e W' ⟨he, bel⟩ => ?_
  subst he
  exact ⟨_, rfl, _, _, _, [], _, [], hW', trodAll_mk1 (shut_bool Tryz.underlying4 _), (trodAll_cons_mk (Below.trod laidOut (by kernel_rfl) (of_decide_eq_true (by kernel_rfl)) k0 bel lt0) trodAll_mk0), rfl, bel.frame _, fun h => by cases h⟩
theorem over : Rows.moduleBackRow.holds Tryz.pinned (OpenSpec.ofChange Rows.moduleBackSpec) :=
  OpenClaim.holds_of_wide 4 Tryz.f4 rfl rfl rfl rfl rfl rfl rfl ⟨rfl, rfl, rfl, rfl, rfl⟩ rfl rfl rfl rfl rfl (by kernel_rfl) Tryz.func4 (by kernel_rfl)
    (of_decide_eq_true (by kernel_rfl)) (by unfold Func.isWrapper; first | (rw [if_pos (by decide +kernel)]; kernel_rfl) | (rw [if_neg (by decide +kernel)]; exact ⟨rfl, rfl⟩))
    (fun os started H enc _ => lifted os started H enc)
end Go.Proofs.YtilaheifccjjeaaGreat.moduleBack
namespace Go.Proofs.YtilaheifccjjeaaGreat
theorem ModuleBack_holds : Rows.ModuleBackSaid := moduleBack.over
end Go.Proofs.YtilaheifccjjeaaGreat
