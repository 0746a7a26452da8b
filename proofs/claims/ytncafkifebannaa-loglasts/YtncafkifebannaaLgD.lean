/-
  What the log answers of its halves' places, and how it writes them sector by sector; condition: the log's block and its disk lie in memory.
-/
import Derived.Test.YtncafkifebannaaLgC
namespace Go.Proofs.Ytncafkifebannaa
open Go.RowKit
/-- The log's block, its disk and its half known. -/
structure HAt (w : World) (B G g r q n cS cE : Nat) (S E : List Nat) (k last : Int) (h : Nat) (v2 v3 v4 : Value) : Prop where
  disk : DAt w B g r q n cS cE S E k last
  obj : w.heap[G]? = some (.cells #[Mp g, .int .i64 (h : Int), v2, v3, v4] 62 (0, 0))
  gB : B ≤ G
  gD : ¬ DX g r q G
  h2 : h < 2
section
variable {w w' : World} {B G g r q n cS cE : Nat} {S E : List Nat} {k last : Int} {h : Nat} {v2 v3 v4 : Value}
theorem HAt.c0 (a : HAt w B G g r q n cS cE S E k last h v2 v3 v4) : w.cell? ⟨G, 0, none⟩ = some (Mp g) := by rw [cell_of_row w G 0 _ _ (0, 0) a.obj]; rfl
theorem HAt.c1 (a : HAt w B G g r q n cS cE S E k last h v2 v3 v4) : w.cell? ⟨G, 1, none⟩ = some (.int .i64 (h : Int)) := by rw [cell_of_row w G 1 _ _ (0, 0) a.obj]; rfl
theorem HAt.but {E' S' : List Nat} {k' : Int} (a : HAt w B G g r q n cS cE S E k last h v2 v3 v4) (d : DAt w' B g r q n cS cE S' E' k' last) (hb : But (DX g r q) w w') : HAt w' B G g r q n cS cE S' E' k' last h v2 v3 v4 :=
  ⟨d, obj_but a.obj hb a.gD, a.gB, a.gD, a.h2⟩
theorem HAt.later (a : HAt w B G g r q n cS cE S E k last h v2 v3 v4) (hb : Below w.heap.size w w') : HAt w' B G g r q n cS cE S E k last h v2 v3 v4 := a.but (a.disk.later hb) (But.ofBelow hb)
/-- How many sectors a half has. -/
def M.cnt (n : Nat) : Nat := (n - 1) / 2
theorem count_any (w : World) (a : HAt w B G g r q n cS cE S E k last h v2 v3 v4) : Calls Try.prog 52 #[Mp G] w fun e w' => e = .returned (.int .i64 ((M.cnt n : Nat) : Int)) ∧ w' = w := by
  have c0 := a.c0
  have hn := a.disk.n0
  replace a := Lib.hid a
  go_enter Try.func52, Try.ntmps52
  go_wp2_with fail
  refine (Count_any w a.out.disk).mono ?_
  rintro e w1 ⟨rfl, rfl⟩
  go_wp2_with fail
  go_ret
  exact ⟨ret_int (by unfold M.cnt; omega), rfl⟩
theorem sector_of (w : World) (i : Nat) (a : HAt w B G g r q n cS cE S E k last h v2 v3 v4) (hi : i ≤ 16384) : Calls Try.prog 58 #[Mp G, .int .i64 (i : Int)] w fun e w' => e = .returned (.int .i64 ((1 + h * M.cnt n + i : Nat) : Int)) ∧ Below w.heap.size w w' := by
  have c0 := a.c0
  have c1 := a.c1
  have hn := a.disk.n0
  have h2 := a.h2
  have hc : M.cnt n ≤ 8192 := by unfold M.cnt; omega
  have hq := Lib.hid (fun m => count_any (w.drewN m) (a.later (below_drewN' w m)))
  have hm : (h : Int) * ((M.cnt n : Nat) : Int) = ((h * M.cnt n : Nat) : Int) := by push_cast; rfl
  have hm2 : h * M.cnt n ≤ 8192 := by
    rcases (show h = 0 ∨ h = 1 by omega) with rfl | rfl <;> omega
  have hw : IntKind.i64.wrap ((h : Int) * ((M.cnt n : Nat) : Int)) = ((h * M.cnt n : Nat) : Int) := by rw [hm, IntKind.wrap_i64]; omega
  obtain ⟨x, hx⟩ : ∃ x, x = h * M.cnt n := ⟨_, rfl⟩
  rw [← hx] at hw hm2 hm ⊢
  clear hx
  replace hc := Lib.hid hc
  go_enter Try.func58, Try.ntmps58
  go_wp2_with fail
  go_quiet ((go_at_call 52; exact Calls.quiet_of_same (hq.out _)))
  go_wp2_with fail
  go_ret
  exact ⟨ret_int (by omega), below_drewN' w _⟩
end
end Go.Proofs.Ytncafkifebannaa
