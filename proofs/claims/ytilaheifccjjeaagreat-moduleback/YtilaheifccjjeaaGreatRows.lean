/-
  NARROWER THAN 'FOR EVERY INPUT', by the rows' own cells (each row's printed sentence says how): ModuleEncodes: loops · ModuleBack: loops · ModuleHeads: loops.
  DERIVED. THE GIVEN ROWS OF THIS SEAT. 3 by the template 'for every input the law returns true; each argument reads behind the call as it read before'; 0 by the template 'total and deterministic' (their statements: YtilaheifccjjeaaGreatTotals.lean).
  GIVEN WITH THE SEED: the statements are not yours to turn. If you find one false, say at which input.
  Laid BY PROGRAM, IN A SANDBOX (cutbox-rows.mjs): the forced cells as the released guide's own fill.sh prints them over the translation 67f176bff73c1fb3… (all of the seat's roots in one cut). By AI agents, Wed Nov 11 2026. No macro, syntax, notation, axiom, sorry.
-/
import Derived.Test.YtilaheifccjjeaaGreatChecked
import GoSem.Claim
import GoSem.ClaimJoined
import GoSem.ClaimMapViews
import Derived.JoinedTies
import Derived.KernelRfl
namespace Go.Proofs.YtilaheifccjjeaaGreat
/- THE CELL 'sum', in the pinned program and in every row, IS THE sha256 OF THE DUMP (.gsa) THAT YtilaheifccjjeaaGreatProg.lean LOADS. Nothing in Lean hashes anything: it is a label: what it is worth is what the hold of that sum in a sandbox is worth. -/
noncomputable def Tryz.pinned : Pinned := { name := "ytilaheifccjjeaagreat", sum := "67f176bff73c1fb3c68c37404605de0600517c766dec410bf59f2ba04bb708db", checked := Tryz.checked }
namespace Rows
def none {H : Type} : Left H := { results := [], args := [] }

/-- 'gangwaylaw6.ModuleEncodes': WHATEVER THE INPUT: true; the input reads as it did. -/
def moduleEncodesSpec : ChangeSpec := { name := "moduleEncodes", fn := fun _ => fun
  | [d] => { results := [.lit (.bool true)], args := [d] }
  | _ => none }
def moduleEncodesRow : OpenClaim := { program := "ytilaheifccjjeaagreat", sum := "67f176bff73c1fb3c68c37404605de0600517c766dec410bf59f2ba04bb708db", func := "gangway/gangwaylaw6.ModuleEncodes", spec := "moduleEncodes", unfollowed := true, recurses := true, loops := true, apart := false }
def ModuleEncodesSaid : Prop := moduleEncodesRow.holds Tryz.pinned (OpenSpec.ofChange moduleEncodesSpec)

/-- ITS FALSE NEIGHBOUR: 'it returns false'. Refute it at one input. -/
def moduleEncodesWrong : ChangeSpec := { name := "moduleEncodes", fn := fun _ => fun
  | [d] => { results := [.lit (.bool false)], args := [d] }
  | _ => none }
def ModuleEncodesWrongFalsely : Prop := moduleEncodesRow.holds Tryz.pinned (OpenSpec.ofChange moduleEncodesWrong)

/-- 'gangwaylaw6.ModuleBack': WHATEVER THE INPUT: true; the input reads as it did. -/
def moduleBackSpec : ChangeSpec := { name := "moduleBack", fn := fun _ => fun
  | [d] => { results := [.lit (.bool true)], args := [d] }
  | _ => none }
def moduleBackRow : OpenClaim := { program := "ytilaheifccjjeaagreat", sum := "67f176bff73c1fb3c68c37404605de0600517c766dec410bf59f2ba04bb708db", func := "gangway/gangwaylaw6.ModuleBack", spec := "moduleBack", unfollowed := true, recurses := true, loops := true, apart := false }
def ModuleBackSaid : Prop := moduleBackRow.holds Tryz.pinned (OpenSpec.ofChange moduleBackSpec)

/-- ITS FALSE NEIGHBOUR: 'it returns false'. Refute it at one input. -/
def moduleBackWrong : ChangeSpec := { name := "moduleBack", fn := fun _ => fun
  | [d] => { results := [.lit (.bool false)], args := [d] }
  | _ => none }
def ModuleBackWrongFalsely : Prop := moduleBackRow.holds Tryz.pinned (OpenSpec.ofChange moduleBackWrong)

/-- 'gangwaylaw6.ModuleHeads': WHATEVER THE INPUT: true; the input reads as it did. -/
def moduleHeadsSpec : ChangeSpec := { name := "moduleHeads", fn := fun _ => fun
  | [d] => { results := [.lit (.bool true)], args := [d] }
  | _ => none }
def moduleHeadsRow : OpenClaim := { program := "ytilaheifccjjeaagreat", sum := "67f176bff73c1fb3c68c37404605de0600517c766dec410bf59f2ba04bb708db", func := "gangway/gangwaylaw6.ModuleHeads", spec := "moduleHeads", unfollowed := true, recurses := true, loops := true, apart := false }
def ModuleHeadsSaid : Prop := moduleHeadsRow.holds Tryz.pinned (OpenSpec.ofChange moduleHeadsSpec)

/-- ITS FALSE NEIGHBOUR: 'it returns false'. Refute it at one input. -/
def moduleHeadsWrong : ChangeSpec := { name := "moduleHeads", fn := fun _ => fun
  | [d] => { results := [.lit (.bool false)], args := [d] }
  | _ => none }
def ModuleHeadsWrongFalsely : Prop := moduleHeadsRow.holds Tryz.pinned (OpenSpec.ofChange moduleHeadsWrong)

/- THE SECOND FORM. 'bulk': how many values and letters a reading holds, each counted each time it is reached (what is shared counts as often as it is met; a slice's spare places count too). A statement '..UptoSaid' is the law's where the arguments, and the package variables that the reading takes, are together of bulk at most 1048576: NARROWER than '..Said'. Prove '..Said' where nothing that the law and all that it calls make is longer than what came in: it says more and counts as full. Else prove '..UptoSaid'. A law counts once. -/
mutual
def uptoBulk {H : Type} : DataW H → Nat
  | .lit (.string bytes) => bytes.length + 1
  | .lit _ => 1
  | .nil => 1
  | .ptr d => uptoBulk d + 1
  | .slice elems spare => uptoBulkAll elems + uptoBulkAll spare + 1
  | .agg parts => uptoBulkAll parts + 1
  | .iface _ d => uptoBulk d + 1
  | .map entries => uptoBulkEntries entries + 1
  | .held _ => 1
def uptoBulkAll {H : Type} : List (DataW H) → Nat
  | [] => 0
  | d :: r => uptoBulk d + uptoBulkAll r
def uptoBulkEntries {H : Type} : List (Lit × DataW H) → Nat
  | [] => 0
  | x :: r => uptoBulkEntry x + uptoBulkEntries r
def uptoBulkEntry {H : Type} : Lit × DataW H → Nat
  | (.string bytes, d) => bytes.length + uptoBulk d + 1
  | (_, d) => uptoBulk d + 1
 end
def uptoSmall : (H : Type) → List (DataW H) → Bool := fun _ ds => decide (uptoBulkAll ds ≤ 1048576)
def OpenSpec.upto (s : _root_.Go.ChangeSpec) : _root_.Go.OpenSpec := { _root_.Go.OpenSpec.ofChange s with cond := some uptoSmall }

/-- 'gangwaylaw6.ModuleEncodes', WHERE WHAT IT READS IS OF BULK AT MOST 1048576: true; the input reads as it did. -/
def moduleEncodesUptoRow : OpenClaim := { program := "ytilaheifccjjeaagreat", sum := "67f176bff73c1fb3c68c37404605de0600517c766dec410bf59f2ba04bb708db", func := "gangway/gangwaylaw6.ModuleEncodes", spec := "moduleEncodes", unfollowed := true, recurses := true, loops := true, apart := false, narrowed := true }
def ModuleEncodesUptoSaid : Prop := moduleEncodesUptoRow.holds Tryz.pinned (OpenSpec.upto moduleEncodesSpec)

/-- 'gangwaylaw6.ModuleBack', WHERE WHAT IT READS IS OF BULK AT MOST 1048576: true; the input reads as it did. -/
def moduleBackUptoRow : OpenClaim := { program := "ytilaheifccjjeaagreat", sum := "67f176bff73c1fb3c68c37404605de0600517c766dec410bf59f2ba04bb708db", func := "gangway/gangwaylaw6.ModuleBack", spec := "moduleBack", unfollowed := true, recurses := true, loops := true, apart := false, narrowed := true }
def ModuleBackUptoSaid : Prop := moduleBackUptoRow.holds Tryz.pinned (OpenSpec.upto moduleBackSpec)

/-- 'gangwaylaw6.ModuleHeads', WHERE WHAT IT READS IS OF BULK AT MOST 1048576: true; the input reads as it did. -/
def moduleHeadsUptoRow : OpenClaim := { program := "ytilaheifccjjeaagreat", sum := "67f176bff73c1fb3c68c37404605de0600517c766dec410bf59f2ba04bb708db", func := "gangway/gangwaylaw6.ModuleHeads", spec := "moduleHeads", unfollowed := true, recurses := true, loops := true, apart := false, narrowed := true }
def ModuleHeadsUptoSaid : Prop := moduleHeadsUptoRow.holds Tryz.pinned (OpenSpec.upto moduleHeadsSpec)

end Rows
end Go.Proofs.YtilaheifccjjeaaGreat
