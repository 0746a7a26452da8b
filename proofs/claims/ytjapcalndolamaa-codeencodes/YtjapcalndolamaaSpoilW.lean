/-
  What writing over numbers and instructions does: it ends, and nothing older is written; condition: they lie in rows from B on.
-/
import Derived.Test.YtjapcalndolamaaSpoil
namespace Go.Proofs.Ytjapcalndolamaa
open Go.RowKit
theorem own_form {w : World} {b e s k : Nat} {v : Value} {xs : List Value} (h : w.ownsRow b e s v k xs) : ∃ A c, v = .slice A k c ∧ k ≤ c ∧ c ≤ maxLen := by
  rcases h.2 with ⟨rfl, rfl⟩ | ⟨g, cap, cur, rfl, _, _, h1, h2, _⟩
  · exact ⟨none, 0, rfl, by omega, by unfold maxLen; omega⟩
  · exact ⟨_, cap, rfl, h1, h2⟩
theorem own_len {w : World} {b e s k k' c : Nat} {A : Option Addr} {xs : List Value} (h : w.ownsRow b e s (.slice A k c) k' xs) : k' = k := by
  rcases h.2 with ⟨h1, rfl⟩ | ⟨g, cap, cur, h1, _⟩
  · cases h1; rfl
  · cases h1; rfl
theorem own_at {w : World} {b e s k c : Nat} {A : Option Addr} {xs : List Value} (h : w.ownsRow b e s (.slice A k c) k xs) (hk : 0 < k) : ∃ g cur, A = some ⟨g, 0, none⟩ ∧ b ≤ g ∧ w.heap[g]? = some (.cells cur e (0, 0)) ∧ k * s ≤ cur.size ∧ xs = cur.toList.take (k * s) := by
  rcases h.2 with ⟨h1, rfl⟩ | ⟨g, cap, cur, h1, h2, h3, h4, _, h6, h7⟩
  · omega
  · cases h1
    exact ⟨g, cur, rfl, h2, h3, by rw [h6]; exact Nat.mul_le_mul_right _ h4, h7.symm⟩
theorem Spoil.alloc {B : Nat} {w : World} (o : Obj) : Spoil B w (w.alloc o) := Spoil.new ((Below.refl _ _).alloc (Nat.le_refl _) o)
theorem spoil_app_int {B : Nat} {w w' : World} {v : Value} {k : Nat} {u : Value} (h : w.grownBy w' none ∨ ∃ g cap cur, v = .slice (some ⟨g, 0, none⟩) k cap ∧ B ≤ g ∧ w.heap[g]? = some (.cells cur 3 (0, 0)) ∧ (k + 1) * 1 ≤ cur.size ∧ w' = w.setRow g (cur.toList.take (k * 1) ++ [u] ++ cur.toList.drop (k * 1 + 1)).toArray) : Spoil B w w' := by
  rcases h with h | ⟨g, cap, cur, _, hB, hg, hs, rfl⟩
  · exact Spoil.new ⟨h.os, h.tape, h.output, h.size, fun q hq => h.block q hq (by simp)⟩
  · exact Spoil.int hg hB ⟨rfl, rfl, rfl, by simp⟩ (setRow_heap w g cur _ _ _ hg) (by simp; omega) (fun q hq _ => setRow_other w g q _ hq)
theorem spoil_app_row {B : Nat} {w w' : World} {v : Value} {k : Nat} (h : w.grownBy w' none ∨ ∃ g cap cur, v = .slice (some ⟨g, 0, none⟩) k cap ∧ B ≤ g ∧ w.heap[g]? = some (.cells cur 48 (0, 0)) ∧ (k + 1) * 9 ≤ cur.size ∧ w' = w.setRow g (cur.toList.take (k * 9) ++ zero9.toList ++ cur.toList.drop (k * 9 + 9)).toArray) : Spoil B w w' := by
  rcases h with h | ⟨g, cap, cur, _, hB, hg, hs, rfl⟩
  · exact Spoil.new ⟨h.os, h.tape, h.output, h.size, fun q hq => h.block q hq (by simp)⟩
  · have hz : zero9.toList.length = 9 := rfl
    have hl : (cur.toList.take (k * 9)).length = k * 9 := by simp; omega
    refine Spoil.row k 0 hg hB ⟨rfl, rfl, rfl, by simp⟩ (setRow_heap w g cur _ _ _ hg) ?_ (fun j hj => ?_) (fun q hq => ?_) (fun q hq _ => setRow_other w g q _ hq)
    · simp [zero9]; omega
    · simp only [List.getElem?_toArray]
      rw [List.getElem?_append_left (by rw [List.length_append, hl, hz]; omega), List.getElem?_append_right (by omega), hl, Nat.add_sub_cancel_left]
      have hj9 : j = 0 ∨ j = 1 ∨ j = 2 ∨ j = 3 ∨ j = 4 ∨ j = 5 ∨ j = 6 ∨ j = 7 ∨ j = 8 := by omega
      rcases hj9 with rfl | rfl | rfl | rfl | rfl | rfl | rfl | rfl | rfl <;> rfl
    · simp only [List.getElem?_toArray]
      rcases hq with hq | hq
      · rw [List.getElem?_append_left (by rw [List.length_append, hl, hz]; omega), List.getElem?_append_left (by omega), List.getElem?_take_of_lt hq, Array.getElem?_toList]
      · rw [List.getElem?_append_right (by rw [List.length_append, hl, hz]; omega), List.length_append, hl, hz, List.getElem?_drop, Array.getElem?_toList]
        congr 1
        omega
set_option maxRecDepth 100000 in
set_option maxHeartbeats 4000000 in
theorem Numbers_any (B : Nat) (v : Value) (w : World) (h : NWF B w v) :
    Calls Try.prog 29 #[v] w fun e w' => e = .returned (.tuple #[]) ∧ Spoil B w w' := by
  obtain ⟨i0, hi0, hz0, hz1, hz2⟩ := info_parts int_info
  have h0 := Lib.hid h
  obtain ⟨k, xs, hown, hk⟩ := h
  obtain ⟨A, c, rfl, hc1, hc2⟩ := own_form hown
  unfold maxLen at hc2
  clear hown
  go_enter Try.func29, Try.ntmps29
  go_wp2_with fail
  go_loopw [2] (fun i w' => ∃ j : Nat, j ≤ k ∧ i = .int .i64 j ∧ Spoil B w w') (fun i _ => k - (intOf i).toNat)
  case atStart => exact ⟨0, by omega, rfl, Spoil.refl _ _⟩
  case round =>
    obtain ⟨j, hj, rfl, hsp⟩ := hrel
    obtain ⟨k', ys, own', _⟩ := h0.out.spoil hsp
    obtain rfl := own_len own'
    by_cases hlt : j < k'
    · obtain ⟨g, cur, rfl, hgB, hg, hsz, _⟩ := own_at own' (by omega)
      have hjs : j < cur.size := by omega
      have t0 : (0 : Int) ≤ (j : Int) := by omega
      have t1 : (j : Int) < (k' : Int) := by omega
      have cc : wr.cell? ⟨g, j, none⟩ = some cur[j] := by rw [cell_of_row wr g j cur _ (0, 0) hg]; exact Array.getElem?_eq_getElem hjs
      have ff : wr.frozen? ⟨g, j, none⟩ = false := frozen_of_row wr g j cur _ hg
      obtain ⟨u, hu⟩ : ∃ u, u = cur[j] := ⟨_, rfl⟩
      rw [← hu] at cc
      replace hu := Lib.hid hu
      have sp2 := Lib.hid (show Spoil B wr (wr.setCell ⟨g, j, none⟩ (.int .i64 (-99))) from Spoil.int hg hgB ⟨rfl, rfl, rfl, by simp⟩ (heap_setCell_same wr g j cur _ _ hg) (by simp) (fun q hq _ => heap_setCell_other wr _ q _ hq))
      replace hsp := Lib.hid hsp
      replace own' := Lib.hid own'
      replace hg := Lib.hid hg
      go_wp2_with fail
      exact ⟨⟨j + 1, by omega, by go_num, hsp.out.trans sp2.out⟩, by simp [intOf]; omega⟩
    · have tlt : decide ((j : Int) < (k' : Int)) = false := by simp; omega
      replace hsp := Lib.hid hsp
      replace own' := Lib.hid own'
      go_wp2_with (first
        | (at_builtin; refine wpList_append_sp _ rfl _ _ 46 rfl B 3 i0 (.int .i64 0) 1 8 Try.underlying46 hi0 hz0 hz1 hz2 _ k' ys rfl (own'.out.alloc _) ⟨wr.heap.size, 0, none⟩ 1 [.int .i64 5] rfl rfl (World.news_of_block (cs := #[.int .i64 5]) (t := 3) (fr := (0, 0)) (heap_alloc_new wr _)) (fun y hy => by simp at hy; subst hy; rfl) (by unfold maxLen; omega) (by omega) ?_; intro v' w3 hap))
      go_end0
      exact ⟨rfl, hsp.out.trans ((Spoil.alloc _).trans (spoil_app_int hap))⟩
def InstrsOk (n : Nat) : Prop := ∀ (B : Nat) (v : Value) (w : World), WF B w n v → Calls Try.prog 16 #[v] w fun e w' => e = .returned (.tuple #[]) ∧ Spoil B w w'
theorem set_os (w : World) (a : Addr) (u : Value) : (w.setCell a u).os = w.os := rfl
theorem set_tape (w : World) (a : Addr) (u : Value) : (w.setCell a u).tape = w.tape := rfl
theorem set_output (w : World) (a : Addr) (u : Value) : (w.setCell a u).output = w.output := rfl
theorem set9_spoil {B : Nat} {w : World} {g i : Nat} {cur : Array Value} (hg : w.heap[g]? = some (.cells cur 48 (0, 0))) (hB : B ≤ g) (hs : i * 9 + 9 ≤ cur.size) (op : Int) :
    Spoil B w (((((((((w.setCell ⟨g, i * 9, none⟩ (.int .i64 op)).setCell ⟨g, i * 9 + 1, none⟩ (.int .i64 0)).setCell ⟨g, i * 9 + 2, none⟩ (.int .i64 0)).setCell ⟨g, i * 9 + 3, none⟩ (.int .i64 0)).setCell ⟨g, i * 9 + 4, none⟩ (.int .i64 0)).setCell ⟨g, i * 9 + 5, none⟩ (.int .i64 0)).setCell ⟨g, i * 9 + 6, none⟩ (.slice none 0 0)).setCell ⟨g, i * 9 + 7, none⟩ (.slice none 0 0)).setCell ⟨g, i * 9 + 8, none⟩ (.slice none 0 0)) := by
  have h0 := heap_setCell_same w g (i * 9) cur _ (.int .i64 op) hg
  have h1 := heap_setCell_same _ g (i * 9 + 1) _ _ (.int .i64 0) h0
  have h2 := heap_setCell_same _ g (i * 9 + 2) _ _ (.int .i64 0) h1
  have h3 := heap_setCell_same _ g (i * 9 + 3) _ _ (.int .i64 0) h2
  have h4 := heap_setCell_same _ g (i * 9 + 4) _ _ (.int .i64 0) h3
  have h5 := heap_setCell_same _ g (i * 9 + 5) _ _ (.int .i64 0) h4
  have h6 := heap_setCell_same _ g (i * 9 + 6) _ _ (.slice none 0 0) h5
  have h7 := heap_setCell_same _ g (i * 9 + 7) _ _ (.slice none 0 0) h6
  have h8 := heap_setCell_same _ g (i * 9 + 8) _ _ (.slice none 0 0) h7
  refine Spoil.row i op hg hB ⟨by simp only [set_os], by simp only [set_tape], by simp only [set_output], by simp⟩ h8 (by simp) (fun j hj => ?_) (fun q hq => ?_) (fun q hq _ => ?_)
  · have hj9 : j = 0 ∨ j = 1 ∨ j = 2 ∨ j = 3 ∨ j = 4 ∨ j = 5 ∨ j = 6 ∨ j = 7 ∨ j = 8 := by omega
    rcases hj9 with rfl | rfl | rfl | rfl | rfl | rfl | rfl | rfl | rfl
    all_goals simp only [Array.getElem?_setIfInBounds, Array.size_setIfInBounds]
    all_goals simp [item9, M.hd0]
    all_goals omega
  · simp only [Array.getElem?_setIfInBounds]
    repeat rw [if_neg (by omega)]
  · repeat rw [heap_setCell_other _ _ q _ hq]
set_option maxRecDepth 100000 in
set_option maxHeartbeats 4000000 in
theorem Instrs_of (n : Nat) (ih : InstrsOk n) : InstrsOk (n + 1) := by
  intro B v w h
  obtain ⟨i0, hi0, hz0, hz1, hz2⟩ := info_parts instr_info
  have h0 := Lib.hid h
  obtain ⟨k, xs, hown, hk, _⟩ := h
  obtain ⟨A, c, rfl, hc1, hc2⟩ := own_form hown
  unfold maxLen at hc2
  clear hown
  replace ih := Lib.hid ih
  go_enter Try.func16, Try.ntmps16
  go_wp2_with fail
  go_loopw [2] (fun i w' => ∃ j : Nat, j ≤ k ∧ i = .int .i64 j ∧ Spoil B w w') (fun i _ => k - (intOf i).toNat)
  case atStart => exact ⟨0, by omega, rfl, Spoil.refl _ _⟩
  case round =>
    obtain ⟨j, hj, rfl, hsp⟩ := hrel
    obtain ⟨k', ys, own', _, hit⟩ := WF.spoil hsp (n + 1) h0.out
    obtain rfl := own_len own'
    by_cases hlt : j < k'
    · obtain ⟨g, cur, rfl, hgB, hg, hsz, hys⟩ := own_at own' (by omega)
      have hjs : j * 9 + 9 ≤ cur.size := by omega
      obtain ⟨vL, vB, vE, a6, a7, a8, nL, nB, nE⟩ := hit j hlt
      have tk : ∀ q, q < 9 → ys[j * 9 + q]? = cur[j * 9 + q]? := fun q hq => by rw [hys, List.getElem?_take_of_lt (by omega), Array.getElem?_toList]
      have cc : ∀ q, wr.cell? ⟨g, j * 9 + q, none⟩ = cur[j * 9 + q]? := fun q => cell_of_row wr g (j * 9 + q) cur _ (0, 0) hg
      have c6 : wr.cell? ⟨g, j * 9 + 6, none⟩ = some vL := by rw [cc, ← tk 6 (by omega)]; exact a6
      have t0 : (0 : Int) ≤ (j : Int) := by omega
      have t1 : (j : Int) < (k' : Int) := by omega
      replace hsp := Lib.hid hsp
      replace own' := Lib.hid own'
      replace hg := Lib.hid hg
      replace nL := Lib.hid nL
      replace tk := Lib.hid tk
      replace cc := Lib.hid cc
      replace hys := Lib.hid hys
      replace hit := Lib.hid hit
      clear a6 a7 a8 nB nE
      go_wp2_with fail
      refine (Numbers_any B vL _ nL.out).mono ?_
      rintro e1 w1 ⟨rfl, s1⟩
      have S1 := hsp.out.trans s1
      obtain ⟨k1, ys1, own1, _, hit1⟩ := WF.spoil S1 (n + 1) h0.out
      obtain rfl := own_len own1
      obtain ⟨g1, cur1, e1, _, hg1, hsz1, hys1⟩ := own_at own1 (by omega)
      cases e1
      obtain ⟨_, vB, _, _, b7, _, _, mB, _⟩ := hit1 j hlt
      have c7 : w1.cell? ⟨g, j * 9 + 7, none⟩ = some vB := by rw [cell_of_row w1 g (j * 9 + 7) cur1 _ (0, 0) hg1, ← b7, hys1, List.getElem?_take_of_lt (by omega), Array.getElem?_toList]
      replace mB := Lib.hid mB
      replace S1 := Lib.hid S1
      clear s1 own1 hit1 hg1 hys1 b7 c6
      go_wp2_with fail
      refine (ih.out B vB _ mB.out).mono ?_
      rintro e2 w2 ⟨rfl, s2⟩
      have S2 := S1.out.trans s2
      obtain ⟨k2, ys2, own2, _, hit2⟩ := WF.spoil S2 (n + 1) h0.out
      obtain rfl := own_len own2
      obtain ⟨g2, cur2, e2, _, hg2, hsz2, hys2⟩ := own_at own2 (by omega)
      cases e2
      obtain ⟨_, _, vE, _, _, b8, _, _, mE⟩ := hit2 j hlt
      have c8 : w2.cell? ⟨g, j * 9 + 8, none⟩ = some vE := by rw [cell_of_row w2 g (j * 9 + 8) cur2 _ (0, 0) hg2, ← b8, hys2, List.getElem?_take_of_lt (by omega), Array.getElem?_toList]
      replace mE := Lib.hid mE
      replace S2 := Lib.hid S2
      clear s2 own2 hit2 hg2 hys2 b8 c7
      go_wp2_with fail
      refine (ih.out B vE _ mE.out).mono ?_
      rintro e3 w3 ⟨rfl, s3⟩
      have S3 := S2.out.trans s3
      obtain ⟨k3, ys3, own3, _, _⟩ := WF.spoil S3 (n + 1) h0.out
      obtain rfl := own_len own3
      obtain ⟨g3, cur3, e3, hgB3, hg3, hsz3, _⟩ := own_at own3 (by omega)
      cases e3
      have hex : ∀ q, q < 9 → ∃ u, w3.cell? ⟨g, j * 9 + q, none⟩ = some u := fun q hq => ⟨cur3[j * 9 + q]'(by omega), by rw [cell_of_row w3 g (j * 9 + q) cur3 _ (0, 0) hg3]; exact Array.getElem?_eq_getElem (by omega)⟩
      have hff : ∀ q, w3.frozen? ⟨g, q, none⟩ = false := fun q => frozen_of_row w3 g q cur3 _ hg3
      obtain ⟨x0, y0⟩ := hex 0 (by omega)
      obtain ⟨x1, y1⟩ := hex 1 (by omega)
      obtain ⟨x2, y2⟩ := hex 2 (by omega)
      obtain ⟨x3, y3⟩ := hex 3 (by omega)
      obtain ⟨x4, y4⟩ := hex 4 (by omega)
      obtain ⟨x5, y5⟩ := hex 5 (by omega)
      obtain ⟨x6, y6⟩ := hex 6 (by omega)
      obtain ⟨x7, y7⟩ := hex 7 (by omega)
      obtain ⟨x8, y8⟩ := hex 8 (by omega)
      simp only [Nat.add_zero] at y0
      have z0 := hff (j * 9)
      have z1 := hff (j * 9 + 1)
      have z2 := hff (j * 9 + 2)
      have z3 := hff (j * 9 + 3)
      have z4 := hff (j * 9 + 4)
      have z5 := hff (j * 9 + 5)
      have z6 := hff (j * 9 + 6)
      have z7 := hff (j * 9 + 7)
      have z8 := hff (j * 9 + 8)
      have sp := Lib.hid (set9_spoil (i := j) hg3 hgB3 (by omega) (-99))
      replace S3 := Lib.hid S3
      clear s3 own3 hg3 hex hff c8
      go_wp2_with fail
      exact ⟨⟨j + 1, by omega, by go_num, S3.out.trans sp.out⟩, by simp [intOf]; omega⟩
    · have tlt : decide ((j : Int) < (k' : Int)) = false := by simp; omega
      replace hsp := Lib.hid hsp
      replace own' := Lib.hid own'
      replace hit := Lib.hid hit
      go_wp2_with (first
        | (at_builtin; refine wpList_append_sp _ rfl _ _ 23 rfl B 48 i0 (.agg zero9) 9 120 Try.underlying23 hi0 hz0 hz1 hz2 _ k' ys rfl (own'.out.alloc _) ⟨wr.heap.size, 0, none⟩ 1 zero9.toList rfl rfl (World.news_of_block (cs := zero9) (t := 48) (fr := (0, 0)) (heap_alloc_new wr _)) (by decide) (by unfold maxLen; omega) (by omega) ?_; intro v' w3 hap))
      go_end0
      exact ⟨rfl, hsp.out.trans ((Spoil.alloc _).trans (spoil_app_row hap))⟩
theorem Instrs_any : ∀ n, InstrsOk n
  | 0 => fun _ _ _ h => absurd h (by simp [WF])
  | n + 1 => Instrs_of n (Instrs_any n)
end Go.Proofs.Ytjapcalndolamaa
