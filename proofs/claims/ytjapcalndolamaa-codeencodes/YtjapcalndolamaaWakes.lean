/-
  The laws' constant call answers true and writes nothing that was there; no condition.
-/
import Derived.Test.YtjapcalndolamaaDecode
import Derived.Test.YtjapcalndolamaaOpen
namespace Go.Proofs.Ytjapcalndolamaa
open Go.RowKit
namespace M
def wakeL : L := .cons ⟨65, 0, 0, 0, 0, 1, []⟩ .nil .nil (.cons (hd0 26) .nil .nil .nil)
theorem wakeL_ok : ok 40 wakeL := by
  refine ⟨flat_of (k := 8) (by decide) ⟨rfl, by simp⟩, fun h => absurd h (by decide), fun _ => rfl, fun _ => rfl, flat_of (k := 1) (by decide) rfl, fun h => absurd h (by decide), fun _ => rfl, fun _ => rfl, trivial⟩
theorem wake_expr : expr [65, 1, 26, 11] = some (wakeL, 4) := by
  have h := expr_back [] wakeL_ok (by decide)
  have e : enc wakeL = [65, 1, 26] := by decide
  rw [e] at h
  exact h
end M
theorem lit_BS (_w w1 : World) (bs : List Nat) (cs : Array Value) (t : TypeId) (g n c : Nat) (hcs : cs = (vals bs).toArray) (hb : ∀ b ∈ bs, b < 256) (hg : w1.heap[g]? = some (.cells cs t)) (hgl : g < w1.heap.size) (hn : n = bs.length) (hc : n ≤ c) (hm : c ≤ maxLen) : BS w1 w1.heap.size (.slice (some ⟨g, 0, none⟩) n c) bs := by
  subst hn
  refine ⟨_, _, rfl, hc, hm, fun i hi => ⟨_, rfl, hgl, ?_, ?_⟩⟩
  · show bs.getD i 0 < 256
    rw [List.getD_eq_getElem?_getD, List.getElem?_eq_getElem hi]
    exact hb _ (List.getElem_mem hi)
  · rw [add_none, cell_of_row w1 g (0 + i) cs t (0, 0) hg, Nat.zero_add, hcs]
    have := getD_vals bs i hi
    simpa using this
theorem nil_NS (w : World) (S : Nat → Prop) : NS w S (.slice none 0 0) [] := ⟨none, 0, rfl, ⟨by simp, by simp, by unfold maxLen; omega⟩, fun i hi => by simp at hi⟩
theorem nil_Sl (S : Nat → Prop) (P : Nat → Nat → Prop) : Sl S P 0 (.slice none 0 0) := ⟨none, 0, rfl, ⟨by omega, by omega, by unfold maxLen; omega⟩, .inl rfl⟩
theorem nil_LS (w : World) (S : Nat → Prop) : LS w S (.slice none 0 0) .nil := nil_Sl _ _
/-- A row of cells read as an instruction. -/
theorem item_row {w : World} {g o : Nat} {cs : Array Value} {t : TypeId} {h : M.Hd} {vL vB vE : Value} (hg : w.heap[g]? = some (.cells cs t)) (hc : ∀ j, j < 9 → cs[o + j]? = (item9 h vL vB vE)[j]?) : ItemAt w g o h vL vB vE := by
  have e : ∀ j u, j < 9 → (item9 h vL vB vE)[j]? = some u → w.cell? ⟨g, o + j, none⟩ = some u := fun j u hj hu => by rw [cell_of_row w g (o + j) cs t (0, 0) hg, hc j hj]; exact hu
  exact ⟨e 0 _ (by omega) rfl, e 1 _ (by omega) rfl, e 2 _ (by omega) rfl, e 3 _ (by omega) rfl, e 4 _ (by omega) rfl, e 5 _ (by omega) rfl, e 6 _ (by omega) rfl, e 7 _ (by omega) rfl, e 8 _ (by omega) rfl⟩
theorem nine {p : Nat → Prop} (h0 : p 0) (h1 : p 1) (h2 : p 2) (h3 : p 3) (h4 : p 4) (h5 : p 5) (h6 : p 6) (h7 : p 7) (h8 : p 8) : ∀ j, j < 9 → p j := by
  intro j hj
  have : j = 0 ∨ j = 1 ∨ j = 2 ∨ j = 3 ∨ j = 4 ∨ j = 5 ∨ j = 6 ∨ j = 7 ∨ j = 8 := by omega
  rcases this with rfl | rfl | rfl | rfl | rfl | rfl | rfl | rfl | rfl <;> assumption
set_option maxRecDepth 100000 in
set_option maxHeartbeats 4000000 in
theorem wakes_any (w : World) : Calls Try.prog 17 #[] w fun e w' => e = .returned (.bool true) ∧ Below w.heap.size w w' := by
  go_enter Try.func17, Try.ntmps17
  go_wp2_with fail
  refine (Decode_yes _ [65, 1, 26, 11] M.wakeL 4 _ (lit_BS w _ _ _ 5 w.heap.size 4 4 rfl (by decide) (heap_alloc_new w _) (by simp) rfl (by omega) (by unfold maxLen; omega)) (by decide) M.wake_expr).mono ?_
  rintro e1 w1 ⟨v1, rfl, own1, b1⟩
  have b2 : Below w.heap.size w w1 := ((Below.refl _ _).alloc (Nat.le_refl _) _).trans (b1.mono (by simp))
  have l1 : LB w1 v1 M.wakeL := own1.read.agree (fun _ _ => rfl) (fun k hk => hk.2)
  replace b2 := Lib.hid b2
  replace l1 := Lib.hid l1
  obtain ⟨A, n, c, rfl⟩ := own_slice own1
  clear b1 own1
  go_wp2_with (go_at_call 13; refine (num_any _ _).mono ?_; rintro e wn ⟨rfl, rfl⟩)
  refine (EqInstrs_same M.wakeL _ _ _ (l1.out.later ((Below.refl _ _).alloc (Nat.le_refl _) _)) ⟨_, 2, rfl, ⟨by decide, by decide, by unfold maxLen; omega⟩, .inr ⟨w1.heap.size, 0, rfl, by simp, ?_⟩⟩).mono ?_
  · refine ⟨_, _, _, item_row (heap_alloc_new w1 _) (nine rfl rfl rfl rfl rfl rfl rfl rfl rfl), ?_, nil_NS _ _, nil_Sl _ _, nil_Sl _ _, _, _, _, item_row (heap_alloc_new w1 _) (nine rfl rfl rfl rfl rfl rfl rfl rfl rfl), ?_, nil_NS _ _, nil_Sl _ _, nil_Sl _ _, trivial⟩
    · constructor <;> (simp only; omega)
    · constructor <;> (simp only [M.hd0]; omega)
  rintro e2 w2 ⟨rfl, b3⟩
  have b4 := Lib.hid (b2.out.trans (((Below.refl w1.heap.size w1).alloc (Nat.le_refl _) _).trans (b3.mono (by simp)) |>.mono b2.out.size))
  clear b3
  go_wp2_with fail
  go_ret
  exact ⟨rfl, b4.out⟩
end Go.Proofs.Ytjapcalndolamaa
