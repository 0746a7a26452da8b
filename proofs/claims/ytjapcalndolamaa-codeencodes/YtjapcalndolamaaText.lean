/-
  The program's text that is written: how it lies in memory, and what its smallest writers make of it (a byte, a number, a signed number); condition: the text lies in memory that was there at the call.
-/
import Derived.Test.YtjapcalndolamaaPTable
import Derived.Test.YtjapcalndolamaaBytesWalk
namespace Go.Proofs.Ytjapcalndolamaa
open Go.RowKit
def textRow (P : Nat) (vb : Value) : Array Value := #[vb, .func (.func 58) #[.pointer (some ⟨P, 0, none⟩)] #[], .func (.func 59) #[.pointer (some ⟨P, 0, none⟩)] #[], .func (.func 60) #[.pointer (some ⟨P, 0, none⟩)] #[], .func (.func 61) #[.pointer (some ⟨P, 0, none⟩)] #[], .func (.func 62) #[.pointer (some ⟨P, 0, none⟩)] #[], .func (.func 63) #[.pointer (some ⟨P, 0, none⟩)] #[], .func (.func 64) #[.pointer (some ⟨P, 0, none⟩)] #[], .func (.func 65) #[.pointer (some ⟨P, 0, none⟩)] #[], .func (.func 66) #[.pointer (some ⟨P, 0, none⟩)] #[], .func (.func 67) #[.pointer (some ⟨P, 0, none⟩)] #[]]
/-- The text that has been written so far, in memory from B on, and its slice. -/
structure TextV (B : Nat) (w : World) (P : Nat) (out : List Nat) (vb : Value) : Prop where
  hB : B ≤ P
  row : w.heap[P]? = some (.cells (textRow P vb) 76 (0, 0))
  own : w.ownsRow B 5 1 vb out.length (vals out)
  len : out.length ≤ 1000000
  rng : ∀ b ∈ out, b < 256
def TextAt (B : Nat) (w : World) (P : Nat) (out : List Nat) : Prop := ∃ vb, TextV B w P out vb
theorem TextV.lt {B : Nat} {w : World} {P : Nat} {out : List Nat} {vb : Value} (h : TextV B w P out vb) : P < w.heap.size := (Array.getElem?_eq_some_iff.1 h.row).1
theorem TextV.ne {B : Nat} {w : World} {P : Nat} {out : List Nat} {vb : Value} (h : TextV B w P out vb) : vb.ownBlock ≠ some P := by
  intro e
  rcases h.own.2 with ⟨rfl, _⟩ | ⟨g, cap, cur, rfl, _, hg, _⟩
  · cases e
  · have e : g = P := by simpa [Value.ownBlock] using e
    subst e
    rw [h.row] at hg
    injection hg with hg
    injection hg with _ hg
    exact absurd hg (by decide)
theorem TextV.ge {B : Nat} {w : World} {P : Nat} {out : List Nat} {vb : Value} (h : TextV B w P out vb) : ∀ k, vb.ownBlock = some k → B ≤ k ∧ k < w.heap.size := fun k hk => h.own.lt k hk
theorem TextV.later {B : Nat} {w w' : World} {P : Nat} {out : List Nat} {vb : Value} (h : TextV B w P out vb) (hb : Below w.heap.size w w') : TextV B w' P out vb :=
  ⟨h.hB, by rw [hb.block P h.lt]; exact h.row, own_later h.own hb, h.len, h.rng⟩
theorem TextV.cell {B : Nat} {w : World} {P : Nat} {out : List Nat} {vb : Value} (h : TextV B w P out vb) : w.cell? ⟨P, 0, none⟩ = some vb ∧ w.frozen? ⟨P, 0, none⟩ = false :=
  ⟨by rw [cell_of_row w P 0 _ _ (0, 0) h.row]; rfl, frozen_of_row w P 0 _ _ h.row⟩
/-- Bytes have been appended to the text. -/
theorem TextV.put {B : Nat} {w w4 w5 : World} {P g cap n : Nat} {out bs : List Nat} {vb : Value} (h : TextV B w P out vb) (b4 : Below w.heap.size w w4) (hn : n = out.length + bs.length) (hown : w5.ownsRow B 5 1 (.slice (some ⟨g, 0, none⟩) n cap) n (vals out ++ vals bs)) (hgr : w4.grownBy w5 vb.ownBlock) (hat : vb.ownBlock = some g ∨ w.heap.size ≤ g) (hl : n ≤ 1000000) (hr : ∀ b ∈ bs, b < 256) :
    TextV B (w5.setCell ⟨P, 0, none⟩ (.slice (some ⟨g, 0, none⟩) n cap)) P (out ++ bs) (.slice (some ⟨g, 0, none⟩) n cap) ∧ Below B w (w5.setCell ⟨P, 0, none⟩ (.slice (some ⟨g, 0, none⟩) n cap)) ∧ w5.cell? ⟨P, 0, none⟩ = some vb ∧ w5.frozen? ⟨P, 0, none⟩ = false := by
  have hP := h.lt
  have hBP := h.hB
  have h4 := b4.size
  have h5 := hgr.size
  have e5 : w5.heap[P]? = w.heap[P]? := by
    rw [hgr.block P (by omega) (fun e => h.ne e.symm)]
    exact b4.block P hP
  have hgP : g ≠ P := by
    rcases hat with h9 | h9
    · intro e; subst e; exact h.ne h9
    · omega
  have row5 : w5.heap[P]? = some (.cells (textRow P vb) 76 (0, 0)) := by rw [e5]; exact h.row
  refine ⟨⟨hBP, ?_, ?_, by simp; omega, fun b hb => ?_⟩, ⟨hgr.os.trans b4.os, hgr.tape.trans b4.tape, hgr.output.trans b4.output, by simp; omega, fun k hk => ?_⟩, ?_, ?_⟩
  · rw [heap_setCell_same w5 P 0 _ _ _ row5]; rfl
  · have e1 : (out ++ bs).length = n := by simp [hn]
    have e2 : vals (out ++ bs) = vals out ++ vals bs := by simp [vals]
    rw [e1, e2]
    exact ownsRow_agree hown fun k hk => Below.heap_setCell _ _ _ _ (by
      have hk : g = k := by simpa [Value.ownBlock] using hk
      show k ≠ P; omega)
  · rcases List.mem_append.1 hb with hb | hb
    · exact h.rng b hb
    · exact hr b hb
  · rw [heap_setCell_other _ _ _ _ (by show k ≠ P; omega), hgr.block k (by omega) (fun e => by have := (h.ge k e.symm).1; omega)]
    exact b4.block k (by omega)
  · rw [cell_of_row w5 P 0 _ _ (0, 0) row5]; rfl
  · exact frozen_of_row w5 P 0 _ _ row5
def WPostT (B : Nat) (P : Nat) (out : List Nat) (w : World) (e : Ending) (w' : World) : Prop := e = .returned (.tuple #[]) ∧ TextAt B w' P out ∧ Below B w w'
set_option maxRecDepth 100000 in
theorem tfixed_any (B : Nat) (w : World) (P : Nat) (out : List Nat) (x : Nat) (h : TextAt B w P out) (hx : x < 256) (hl : out.length + 1 ≤ 1000000) :
    Calls Try.prog 36 #[.pointer (some ⟨P, 0, none⟩), .int .u8 (x : Nat)] w (WPostT B P (out ++ [x]) w) := by
  obtain ⟨i0, hi0, hz0, hz1, hz2⟩ := info_parts u8_info
  obtain ⟨vb, h⟩ := h
  obtain ⟨c0, f0⟩ := h.cell
  have hP := h.lt
  have hBP := h.hB
  replace h := Lib.hid h
  go_enter Try.func36, Try.ntmps36
  go_wp2_with (first
    | (at_builtin; refine wpList_append_lies _ rfl _ _ 24 rfl B 5 i0 (.int .u8 0) 1 1 Try.underlying24 hi0 hz0 hz1 hz2 rfl (by decide) vb out.length (vals out) rfl (h.out.own.alloc _) ⟨w.heap.size, 0, none⟩ 1 1 [.int .u8 (x : Nat)] rfl rfl (World.news_of_block (cs := #[.int .u8 (x : Nat)]) (t := 5) (fr := (0, 0)) (heap_alloc_new w _)) (fun y hy => by simp at hy; subst hy; rfl) (by omega) (by unfold maxLen; omega) (by omega) (by simp; omega) (w.heap.size + 1) (by simp) ?_; intro g cap w5 hown5 hgr5 hat5 hlt5; obtain ⟨q1, q2, q3, q4⟩ := h.out.put (bs := [x]) (n := out.length + 1) ((Below.refl w.heap.size w).alloc (Nat.le_refl _) _) rfl hown5 hgr5 (hat5.imp id (by omega)) hl (fun b hb => by simp at hb; omega); replace q1 := Lib.hid q1; replace q2 := Lib.hid q2; clear hown5 hgr5 hat5))
  go_end0
  exact ⟨rfl, ⟨_, q1.out⟩, q2.out⟩
theorem putU_pos (n : Nat) : 1 ≤ (M.putU 10 n).length ∧ (M.putU 10 n).length ≤ 11 := M.putU_length 10 n
theorem putS_pos (n : Int) : 1 ≤ (M.putS 10 n).length ∧ (M.putS 10 n).length ≤ 11 := M.putS_length 10 n
theorem own_some {w : World} {b e s n : Nat} {v : Value} {xs : List Value} (h : w.ownsRow b e s v n xs) (hn : 1 ≤ n) : ∃ g c, v = .slice (some ⟨g, 0, none⟩) n c ∧ b ≤ g ∧ g < w.heap.size := by
  obtain ⟨g, cap, e1, h1, h2⟩ := h.form (by omega)
  exact ⟨g, cap, e1, h1, h2⟩
theorem own_news {w : World} {b e n g c : Nat} {xs : List Value} (h : w.ownsRow b e 1 (.slice (some ⟨g, 0, none⟩) n c) n xs) : ∀ j u, xs[j]? = some u → w.cell? ((⟨g, 0, none⟩ : Addr).add j) = some u := h.cells (g := g) rfl
set_option maxRecDepth 100000 in
set_option maxHeartbeats 4000000 in
theorem tnumber_any (B : Nat) (w : World) (P : Nat) (out : List Nat) (x : Nat) (h : TextAt B w P out) (hx : x < 9223372036854775808) (hl : out.length + (M.putU 10 x).length ≤ 1000000) :
    Calls Try.prog 82 #[.pointer (some ⟨P, 0, none⟩), .int .i64 (x : Nat)] w (WPostT B P (out ++ (M.putU 10 x)) w) := by
  obtain ⟨i0, hi0, hz0, hz1, hz2⟩ := info_parts u8_info
  obtain ⟨vb, h⟩ := h
  obtain ⟨c0, f0⟩ := h.cell
  have hP := h.lt
  have hBP := h.hB
  have hge := Lib.hid h.ge
  replace h := Lib.hid h
  have tc : IntKind.u64.wrap (x : Int) = (x : Int) := by rw [IntKind.wrap_u64]; omega
  obtain ⟨bs, hbs⟩ : ∃ bs, bs = M.putU 10 x := ⟨_, rfl⟩
  have hp1 : 1 ≤ bs.length := by rw [hbs]; exact (putU_pos x).1
  have hlt := Lib.hid (show ∀ b ∈ bs, b < 256 by rw [hbs]; exact M.putU_lt 10 x)
  rw [← hbs] at hl ⊢
  replace hbs := Lib.hid hbs
  go_enter Try.func82, Try.ntmps82
  go_wp2_with fail
  go_region_law (first
    | (refine step_call1 (by rfl) 92 _ _ (by rfl) Try.call92 (.int .u64 (x : Nat)) (by rfl) ?_; refine (PutUint_any x w.drew (by omega)).mono ?_; rintro e1 v1 ⟨u1, rfl, own1, b1⟩; rw [← hbs.out] at own1; refine ⟨_, rfl, ?_⟩; obtain ⟨g1, k1, rfl, hg1, hg2⟩ := own_some own1 hp1; have b1' : Below w.heap.size w v1 := ⟨b1.os, b1.tape, b1.output, b1.size, b1.block⟩; have t1 := Lib.hid (h.out.later b1'); have c01 := (h.out.later b1').cell.1; have f01 := (h.out.later b1').cell.2; have s1 : w.heap.size ≤ v1.heap.size := b1'.size; replace own1 := Lib.hid own1; replace b1' := Lib.hid b1'; clear b1)
    | (refine step_append_lies _ (by rfl) _ _ _ (by rfl) B 5 i0 _ 1 1 Try.underlying24 hi0 hz0 hz1 hz2 rfl (by omega) vb out.length (vals out) (by rfl) t1.out.own ⟨g1, 0, none⟩ bs.length k1 (vals bs) (by rfl) (by simp [vals]) (own_news own1.out) (vals_one bs) (by omega) (by unfold maxLen; omega) (by omega) (by omega) v1.heap.size (by rfl) ?_; intro g cap w5 hown5 hgr5 hat5 hlt5; obtain ⟨q1, q2, q3, q4⟩ := h.out.put (bs := bs) (n := out.length + bs.length) b1'.out rfl hown5 hgr5 (hat5.imp id (by omega)) hl hlt.out; replace q1 := Lib.hid q1; replace q2 := Lib.hid q2; clear hown5 hgr5 hat5))
  all_goals go_wp2_with fail
  all_goals go_end0
  all_goals exact ⟨rfl, ⟨_, q1.out⟩, q2.out⟩
set_option maxRecDepth 100000 in
set_option maxHeartbeats 4000000 in
theorem tval_any (B : Nat) (w : World) (P : Nat) (out : List Nat) (hd : M.Hd) (vL vB vE : Value) (gi oi : Nat) (h : TextAt B w P out) (hi : ItemAt w gi oi hd vL vB vE) (hR : Rng hd) (hl : out.length + (M.putS 10 hd.val).length ≤ 1000000) :
    Calls Try.prog 64 #[.pointer (some ⟨P, 0, none⟩), .pointer (some ⟨gi, oi, none⟩)] w (WPostT B P (out ++ (M.putS 10 hd.val)) w) := by
  obtain ⟨i0, hi0, hz0, hz1, hz2⟩ := info_parts u8_info
  obtain ⟨vb, h⟩ := h
  obtain ⟨c0, f0⟩ := h.cell
  have hP := h.lt
  have hBP := h.hB
  have hge := Lib.hid h.ge
  replace h := Lib.hid h
  have ci := hi.c5
  have hgi := World.block_lt_of_cell? w ⟨gi, oi + 5, none⟩ ci
  have hr5 := hR.r5
  obtain ⟨x, hx⟩ : ∃ x, x = hd.val := ⟨_, rfl⟩
  rw [← hx] at ci hr5 hl ⊢
  replace hx := Lib.hid hx
  obtain ⟨bs, hbs⟩ : ∃ bs, bs = M.putS 10 x := ⟨_, rfl⟩
  have hp1 : 1 ≤ bs.length := by rw [hbs]; exact (putS_pos x).1
  have hlt := Lib.hid (show ∀ b ∈ bs, b < 256 by rw [hbs]; exact M.putS_lt 10 x)
  rw [← hbs] at hl ⊢
  replace hbs := Lib.hid hbs
  go_enter Try.func64, Try.ntmps64
  go_wp2_with fail
  go_region_law (first
    | (refine step_call1 (by rfl) 83 _ _ (by rfl) Try.call83 (.int .i64 x) (by rfl) ?_; refine (PutSint_any x w.drew (by omega)).mono ?_; rintro e1 v1 ⟨u1, rfl, own1, b1⟩; rw [← hbs.out] at own1; refine ⟨_, rfl, ?_⟩; obtain ⟨g1, k1, rfl, hg1, hg2⟩ := own_some own1 hp1; have b1' : Below w.heap.size w v1 := ⟨b1.os, b1.tape, b1.output, b1.size, b1.block⟩; have t1 := Lib.hid (h.out.later b1'); have c01 := (h.out.later b1').cell.1; have f01 := (h.out.later b1').cell.2; have s1 : w.heap.size ≤ v1.heap.size := b1'.size; replace own1 := Lib.hid own1; replace b1' := Lib.hid b1'; clear b1)
    | (refine step_append_lies _ (by rfl) _ _ _ (by rfl) B 5 i0 _ 1 1 Try.underlying24 hi0 hz0 hz1 hz2 rfl (by omega) vb out.length (vals out) (by rfl) t1.out.own ⟨g1, 0, none⟩ bs.length k1 (vals bs) (by rfl) (by simp [vals]) (own_news own1.out) (vals_one bs) (by omega) (by unfold maxLen; omega) (by omega) (by omega) v1.heap.size (by rfl) ?_; intro g cap w5 hown5 hgr5 hat5 hlt5; obtain ⟨q1, q2, q3, q4⟩ := h.out.put (bs := bs) (n := out.length + bs.length) b1'.out rfl hown5 hgr5 (hat5.imp id (by omega)) hl hlt.out; replace q1 := Lib.hid q1; replace q2 := Lib.hid q2; clear hown5 hgr5 hat5))
  all_goals go_wp2_with fail
  all_goals go_end0
  all_goals exact ⟨rfl, ⟨_, q1.out⟩, q2.out⟩
end Go.Proofs.Ytjapcalndolamaa
