/-
  What the log's calls answer where no power goes; condition: all lies in memory, the troubles are far away.
-/
import Derived.Test.YtncafkifebannaaLgY
import Derived.Test.YtncafkifebannaaLgLx
import Derived.Lib.SlBytesConst
namespace Go.Proofs.Ytncafkifebannaa
open Go.RowKit
theorem M.hd_inj {a b : Nat} (h : M.hd a = M.hd b) : a = b := by
  unfold M.hd at h
  injection h
section
variable {w w' : World} {B G g r q n cS cE : Nat} {S E I : List Nat} {k last : Int} {h j : Nat} {Z : Nat → Prop} {rs N : List (List Nat)}
/-- What opening a disk that may be one of a log's answers. -/
def OnPost (w : World) (B g r q n cS cE : Nat) (h j : Nat) (N : List (List Nat)) (k last : Int) (e : Ending) (w' : World) : Prop :=
  ∃ (j' G b0 : Nat) (v : Value) (us : List Value) (Z : Nat → Prop) (k' : Int) (E2 : List Nat), e = .returned (.tuple #[Mp G, v, .int .i64 0]) ∧ j ≤ j' ∧ j' ≤ N.length ∧ k ≤ k' ∧ k' ≤ k + ((M.cnt n * 64 : Nat) : Int) + 2 ∧
    LAt w' B Z G g r q n cS cE E2 E2 k' last h (N.take j') ∧ M.Holds E2 n h (N.take j') ∧ Rows w' b0 v (N.take j') us ∧ (∀ b, Z b → b < b0) ∧ w.heap.size ≤ b0 ∧ (∀ b, Z b → DX g r q b ∨ w.heap.size ≤ b) ∧ But (DX g r q) w w'
theorem open_on (w : World) (a : DAt w B g r q n cS cE I I k last) (hB : B ≤ w.heap.size) (hg : M.Good I n h N j) (hk : 0 ≤ k ∧ k + ((M.cnt n * 64 : Nat) : Int) < 999990) (hlast : k + ((M.cnt n * 64 : Nat) : Int) + 2 < last) : Calls Try.prog 9 #[Mp g] w (OnPost w B g r q n cS cE h j N k last) := by
  refine (open_of w a hB hk).mono ?_
  rintro e w' ⟨⟨h', G, b0, v, us, Z, k', rfl, hs, h2, hon, hk1, hk2, hL, hR, hZb, hb0, hZ⟩ | ⟨_, _, hs, _⟩ | ⟨_, E', k', h1, h2, _⟩, x⟩
  · obtain rfl : h' = h := M.hd_inj (hs.symm.trans hg.hd)
    obtain ⟨j', q1, q2, q3, _, _⟩ := hg.fnd
    rw [q3] at hL hR
    have hf : (M.ents (N.take j')).length ≤ M.cnt n * 64 := Nat.le_trans (M.ents_le N j') hg.fit
    exact ⟨j', G, b0, v, us, Z, k', _, rfl, q1, q2, hk1, hk2, hL, M.Holds.opened hg.len hg.n0 hg.h2 hs hf, hR, hZb, hb0, hZ, x⟩
  · exact absurd hg.hd (hs h hg.h2)
  · omega
/-- What Append answers where no power goes. -/
def AnPost (w : World) (B : Nat) (Z : Nat → Prop) (G g r q n cS cE : Nat) (S E : List Nat) (k last : Int) (h : Nat) (rs : List (List Nat)) (x : List Nat) (e : Ending) (w' : World) : Prop :=
  ((e = .returned (.int .i64 51) ∧ n * 64 - 1024 < 3 * M.room (rs ++ [x]) ∧ LAt w' B Z G g r q n cS cE S E k last h rs) ∨
   (∃ k' E2, e = .returned (.int .i64 0) ∧ k ≤ k' ∧ k' ≤ k + ((M.cnt n * 64 : Nat) : Int) + 1 ∧ ¬ n * 64 - 1024 < 3 * M.room (rs ++ [x]) ∧ LAt w' B (Grow Z w w') G g r q n cS cE S E2 k' last h (rs ++ [x]) ∧ M.Holds E2 n h (rs ++ [x]))) ∧ But Z w w'
theorem append_on (w : World) (u : Value) (x : List Nat) (a : LAt w B Z G g r q n cS cE S E k last h rs) (hh : M.Holds E n h rs) (hu : BSP w (fun b => b < w.heap.size ∧ ¬ Z b) u x) (hxb : ∀ y ∈ x, y < 256) (hxl : x.length ≤ 1048576) (hk : 0 ≤ k ∧ k + ((M.cnt n * 64 : Nat) : Int) < 999990) (hlast : k + ((M.cnt n * 64 : Nat) : Int) + 2 < last) :
    Calls Try.prog 21 #[Mp G, u] w (AnPost w B Z G g r q n cS cE S E k last h rs x) := by
  refine (append_of w u x a hh.fit hu hxb hxl hk).mono ?_
  rintro e w' ⟨⟨rfl, _, h1, h2⟩ | ⟨_, h1, _⟩ | ⟨k', rfl, _, _, h1, h2, h3, h4⟩ | ⟨k', j, _, _, h1, h2, _⟩, y⟩
  · exact ⟨.inl ⟨rfl, h1, h2⟩, y⟩
  · omega
  · exact ⟨.inr ⟨k', _, rfl, h1, h2, h3, h4, hh.append (M.room_fit h3)⟩, y⟩
  · omega
theorem append_ok (w : World) (u : Value) (x : List Nat) (a : LAt w B Z G g r q n cS cE S E k last h rs) (hh : M.Holds E n h rs) (hu : BSP w (fun b => b < w.heap.size ∧ ¬ Z b) u x) (hxb : ∀ y ∈ x, y < 256) (hxl : x.length ≤ 1048576) (hk : 0 ≤ k ∧ k + ((M.cnt n * 64 : Nat) : Int) < 999990) (hlast : k + ((M.cnt n * 64 : Nat) : Int) + 2 < last) (hroom : ¬ n * 64 - 1024 < 3 * M.room (rs ++ [x])) :
    Calls Try.prog 21 #[Mp G, u] w fun e w' => e = .returned (.int .i64 0) ∧ (∃ k' E2, k ≤ k' ∧ k' ≤ k + ((M.cnt n * 64 : Nat) : Int) + 1 ∧ LAt w' B (Grow Z w w') G g r q n cS cE S E2 k' last h (rs ++ [x]) ∧ M.Holds E2 n h (rs ++ [x])) ∧ But Z w w' := by
  refine (append_on w u x a hh hu hxb hxl hk hlast).mono ?_
  rintro e w' ⟨⟨_, h1, _⟩ | ⟨k', E2, rfl, h1, h2, _, h3, h4⟩, y⟩
  · exact absurd h1 hroom
  · exact ⟨rfl, ⟨k', E2, h1, h2, h3, h4⟩, y⟩
/-- What Sync answers where no power goes. -/
theorem sync_on (w : World) (a : LAt w B Z G g r q n cS cE S E k last h rs) (hk : 0 ≤ k ∧ k < 1000000) (hlast : k + 2 < last) :
    Calls Try.prog 15 #[Mp G] w fun e w' => e = .returned (.int .i64 0) ∧ LAt w' B Z G g r q n cS cE E E (k + 1) last h rs ∧ But Z w w' := by
  obtain ⟨v, a0, hh⟩ := a.v
  refine (sync_of w a0 hk).mono ?_
  rintro e w' ⟨⟨rfl, _, h1⟩ | ⟨_, k', h1, _, h2, _⟩, x⟩
  · exact ⟨rfl, ⟨⟨v, h1, hh.to (fun b hb => x.block b (a.zl b hb.1) hb.2.2) (fun _ h => h)⟩, a.zG, a.zD, fun b hb => Nat.lt_of_lt_of_le (a.zl b hb) x.size, a.ok⟩, x.mono fun b _ e => a.zD b e⟩
  · omega
theorem records_on (w : World) (a : LAt w B Z G g r q n cS cE S E k last h rs) (hf : (M.ents rs).length ≤ M.cnt n * 64) : Calls Try.prog 23 #[Mp G] w (GivesL rs w) := by
  obtain ⟨v, a0, hh⟩ := a.v
  have c2 : w.cell? ⟨G, 2, none⟩ = some v := by rw [cell_of_row w G 2 _ _ (0, 0) a0.obj]; rfl
  have hn := a0.disk.n0
  have hcn : M.cnt n ≤ 8192 := by unfold M.cnt; omega
  have := M.ents_len rs
  exact records_of w G _ v rs c2 hh.recs (fun b hb => a.zl b hb.1) (fun r hr => (a.ok r hr).2) (by omega)
/-- []byte of a constant: its row, and what is read of it. -/
theorem const_bs (w : World) (C : Array Value) (bs : List Nat) (m m1 : Nat) (hm : m = C.size ∧ m1 = C.size + 1) (hC : C.toList = vals bs) (hb : ∀ b ∈ bs, b < 256) (hl : bs.length ≤ 1000) :
    (convert 37 37 (.slice (some ⟨w.heap.size, 0, none⟩) bs.length bs.length)).run Try.prog (w.alloc (.cells C 5)) = .ok (.slice (some ⟨w.heap.size, 0, none⟩) bs.length bs.length) (w.alloc (.cells C 5 (m, m1))) ∧
    BSP (w.alloc (.cells C 5 (m, m1))) (· = w.heap.size) (.slice (some ⟨w.heap.size, 0, none⟩) bs.length bs.length) bs := by
  obtain ⟨rfl, rfl⟩ := hm
  refine ⟨Lib.run_convert_bytes_const w 37 5 C bs.length bs.length Try.underlying37 Try.underlying5, _, _, rfl, ⟨Nat.le_refl _, by unfold maxLen; omega⟩, fun i hi => ⟨_, rfl, rfl, ?_, ?_⟩⟩
  · rw [List.getD_eq_getElem?_getD, List.getElem?_eq_getElem hi]
    exact hb _ (List.getElem_mem hi)
  · rw [add_none, Nat.zero_add, cell_of_row _ w.heap.size i C 5 (C.size, C.size + 1) (by show (w.heap.push _)[w.heap.size]? = _; simp)]
    rw [← getD_vals bs i hi, ← hC]
    simp
end
end Go.Proofs.Ytncafkifebannaa
