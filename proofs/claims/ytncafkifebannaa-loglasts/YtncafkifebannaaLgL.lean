/-
  How the log makes all safe; condition: the log's block and its disk lie in memory.
-/
import Derived.Test.YtncafkifebannaaLgK
namespace Go.Proofs.Ytncafkifebannaa
open Go.RowKit
section
variable {w w' : World} {B G g r q n cS cE : Nat} {S E : List Nat} {k last : Int} {h : Nat} {v2 v3 v4 : Value}
/-- What Sync answers. -/
def SyPost (w : World) (B G g r q n cS cE : Nat) (S E : List Nat) (k last : Int) (h : Nat) (v2 v3 v4 : Value) (e : Ending) (w' : World) : Prop :=
  ((e = .returned (.int .i64 0) ∧ ¬ last ≤ k + 1 ∧ HAt w' B G g r q n cS cE E E (k + 1) last h v2 v3 v4) ∨
    (e = .returned (.int .i64 103) ∧ ∃ k', last ≤ k' ∧ k ≤ k' ∧ k' ≤ k + 1 ∧ HAt w' B G g r q n cS cE S E k' last h v2 v3 v4)) ∧ But (DX g r q) w w'
set_option maxRecDepth 100000 in
theorem sync_of (w : World) (a : HAt w B G g r q n cS cE S E k last h v2 v3 v4) (hk : 0 ≤ k ∧ k < 1000000) : Calls Try.prog 15 #[Mp G] w (SyPost w B G g r q n cS cE S E k last h v2 v3 v4) := by
  have c0 := a.c0
  obtain ⟨st, hst⟩ : ∃ st : List (FuncId × Value), st = [(37, Mp G), (31, Mp g)] := ⟨_, rfl⟩
  obtain ⟨W0, hW0⟩ : ∃ W0, W0 = w.alloc (.cells #[.func (.func 37) #[Mp G] #[], .func (.func 31) #[Mp g] #[]] 80) := ⟨_, rfl⟩
  have b0 : Below w.heap.size w W0 := by rw [hW0]; exact (Below.refl _ _).alloc (Nat.le_refl _) _
  obtain ⟨gs, hgs⟩ : ∃ gs, gs = w.heap.size := ⟨_, rfl⟩
  have hblk : W0.heap[gs]? = some (.cells #[.func (.func 37) #[Mp G] #[], .func (.func 31) #[Mp g] #[]] 80 (0, 0)) := by rw [hW0, hgs]; exact heap_alloc_new w _
  have hgl : gs < W0.heap.size := by rw [hW0, hgs]; simp
  have hgD : ¬ DX g r q gs := fun e => by have := a.disk.lt gs e; omega
  have hfin := inOrder_of st gs 2 (fun i W => But (DX g r q) W0 W ∧ ((i = 0 ∧ HAt W B G g r q n cS cE S E k last h v2 v3 v4) ∨ (i = 1 ∧ ¬ last ≤ k ∧ HAt W B G g r q n cS cE S E k last h v2 v3 v4) ∨ (i = 2 ∧ ¬ last ≤ k + 1 ∧ HAt W B G g r q n cS cE E E (k + 1) last h v2 v3 v4)))
    (fun d W => But (DX g r q) W0 W ∧ d = 103 ∧ ∃ k', last ≤ k' ∧ k ≤ k' ∧ k' ≤ k + 1 ∧ HAt W B G g r q n cS cE S E k' last h v2 v3 v4) (by rw [hst]; simp)
    (fun i W hI j f v hj => by
      have hb := hI.1.block gs hgl hgD
      rw [cell_of_row W gs j _ _ (0, 0) (hb.trans hblk)]
      rw [hst] at hj
      match j, hj with
      | 0, hj => cases hj; rfl
      | 1, hj => cases hj; rfl)
    (fun j f v hj => by
      rw [hst] at hj
      match j, hj with
      | 0, hj => cases hj; exact Try.call37
      | 1, hj => cases hj; exact Try.call31)
    (fun j f v W hj hI => by
      rw [hst] at hj
      match j, hj with
      | 0, hj =>
        cases hj
        rcases hI.2 with ⟨_, hA⟩ | ⟨h9, _⟩ | ⟨h9, _⟩
        · refine (power_of W _ hA rfl).mono ?_
          rintro e W' ⟨rfl, b⟩
          by_cases hon : last ≤ k
          · rw [if_pos hon]
            exact .inr ⟨103, by decide, rfl, hI.1.trans (But.ofBelow b), rfl, k, hon, by omega, by omega, hA.later b⟩
          · rw [if_neg hon]
            exact .inl ⟨rfl, hI.1.trans (But.ofBelow b), .inr (.inl ⟨rfl, hon, hA.later b⟩)⟩
        · omega
        · omega
      | 1, hj =>
        cases hj
        rcases hI.2 with ⟨h9, _⟩ | ⟨_, hon, hA⟩ | ⟨h9, _⟩
        · omega
        · refine (Flush_any W _ (k + 1) _ hA.disk hk rfl rfl rfl).mono ?_
          rintro e W' ⟨rfl, d, x⟩
          by_cases h2 : last ≤ k + 1
          · rw [if_pos h2] at d ⊢
            exact .inr ⟨103, by decide, rfl, hI.1.trans x, rfl, k + 1, h2, by omega, by omega, hA.but d x⟩
          · rw [if_neg h2] at d ⊢
            exact .inl ⟨rfl, hI.1.trans x, .inr (.inr ⟨rfl, h2, hA.but d x⟩)⟩
        · omega)
    W0 ⟨But.refl _ _, .inl ⟨rfl, a.later b0⟩⟩
  have hlen : st.length = 2 := by rw [hst]; rfl
  rw [hlen] at hfin
  replace hfin := Lib.hid hfin
  replace hW0 := Lib.hid hW0
  replace hgs := Lib.hid hgs
  have hb0 := Lib.hid b0
  clear a hblk b0 hst hlen
  go_enter Try.func15, Try.ntmps15
  go_wp2_with fail
  rw [← hW0.out, ← hgs.out]
  refine hfin.out.mono ?_
  rintro e W1 (⟨rfl, hx, hI⟩ | ⟨d, _, rfl, hx, rfl, hk'⟩)
  · have hf : SyPost w B G g r q n cS cE S E k last h v2 v3 v4 (.returned (.int .i64 0)) W1 := by
      refine ⟨.inl ?_, (But.ofBelow hb0.out).trans hx⟩
      rcases hI with ⟨h9, _⟩ | ⟨h9, _⟩ | ⟨_, h8, hA⟩
      · omega
      · omega
      · exact ⟨rfl, by omega, hA⟩
    replace hf := Lib.hid hf
    clear hI hx hfin
    go_wp2_with fail
    go_ret
    exact hf.out
  · have hf : SyPost w B G g r q n cS cE S E k last h v2 v3 v4 (.returned (.int .i64 103)) W1 := ⟨.inr ⟨rfl, hk'⟩, (But.ofBelow hb0.out).trans hx⟩
    replace hf := Lib.hid hf
    clear hk' hx hfin
    go_wp2_with fail
    go_ret
    exact hf.out
end
end Go.Proofs.Ytncafkifebannaa
