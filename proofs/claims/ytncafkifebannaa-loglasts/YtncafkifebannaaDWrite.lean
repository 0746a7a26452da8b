/-
  What the disk's Write, Read, Flush answer, and the statements' sectors; condition: the disk was made by the call.
-/
import Derived.Test.YtncafkifebannaaDUse
namespace Go.Proofs.Ytncafkifebannaa
open Go.RowKit
theorem RowAt.set {w : World} {r c : Nat} {bs : List Nat} (h : RowAt w r c bs) (i x : Nat) (hi : i < bs.length) (hx : x < 256) : RowAt (w.setCell ⟨r, i, none⟩ (.int .u8 (x : Int))) r c (bs.set i x) := by
  obtain ⟨cur, h1, h2, h3, h4, h5, h6⟩ := h
  refine ⟨cur.setIfInBounds i (.int .u8 (x : Int)), heap_setCell_same w r i cur _ _ h1, by simpa using h2, by simpa using h3, h4, ?_, fun b hb => ?_⟩
  · rw [List.length_set, Array.toList_setIfInBounds, List.take_set, h5]
    unfold vals
    rw [List.map_set]
  · rcases List.mem_or_eq_of_mem_set hb with h1 | h1
    · exact h6 b h1
    · omega
theorem RowAt.later {w w' : World} {r c : Nat} {bs : List Nat} (h : RowAt w r c bs) (hb : Below w.heap.size w w') : RowAt w' r c bs := h.but (X := fun _ => False) (.ofBelow hb) (fun h => h)
theorem RowAt.f {w : World} {r c : Nat} {bs : List Nat} (h : RowAt w r c bs) (o : Nat) : w.frozen? ⟨r, o, none⟩ = false := by
  obtain ⟨cur, h1, _⟩ := h
  exact frozen_of_row w r o cur _ h1
theorem RowAt.all {w : World} {r c n : Nat} {bs : List Nat} (h : RowAt w r c bs) (hn : n = bs.length) : BS w w.heap.size (.slice (some ⟨r, 0, none⟩) n c) bs := by
  subst hn
  have := h.part 0 bs.length c (by omega) h.le
  rwa [List.drop_zero, List.take_of_length_le (Nat.le_refl _)] at this
/-- A row of noughts. -/
def zrow (n : Nat) : Array Value := madeCells #[.int .u8 0] n
theorem zrow_list (n : Nat) : (zrow n).toList = vals (List.replicate n 0) := by
  unfold zrow vals
  rw [toList_madeCells_one]
  simp
theorem zrow_size (n : Nat) : (zrow n).size = n := size_madeCells _ _
theorem make_run (m n : Nat) (N K : Int) (hN : N = (n : Nat)) (hK : K = (m : Nat)) (hm : m ≤ n) (hn : n ≤ 4294967296) (w : World) : (Instr.makeSlice 37 (.int .i64 K) (.int .i64 N)).run Try.prog w = .ok (.slice (some ⟨w.heap.size, 0, none⟩) m n) (w.alloc (.cells (zrow n) 5)) := by
  obtain ⟨i0, hi0, hz0, hz1, hz2⟩ := info_parts u8_info
  subst hN
  subst hK
  rw [run_make w 37 5 i0 (.int .u8 0) Try.underlying37 hi0 hz0 .i64 .i64 m n (by omega) (by omega) (by rw [hz2]; omega) (by omega), hz1, Int.toNat_natCast, Int.toNat_natCast, Nat.mul_one]
  rfl
theorem zrow_at (w : World) (n : Nat) (hn : n ≤ 4294967296) : RowAt (w.alloc (.cells (zrow n) 5)) w.heap.size n (List.replicate n 0) :=
  ⟨zrow n, heap_alloc_new w _, zrow_size n, by simp, by unfold maxLen; omega, by rw [zrow_list]; exact List.take_of_length_le (by simp [vals]), fun b hb => by rw [List.eq_of_mem_replicate hb]; decide⟩
/-- A sector in new memory. -/
def SecPost (bs : List Nat) (w : World) (e : Ending) (w' : World) : Prop := e = .returned (.slice (some ⟨w.heap.size, 0, none⟩) 64 64) ∧ RowAt w' w.heap.size 64 bs ∧ Below w.heap.size w w'
end Go.Proofs.Ytncafkifebannaa
