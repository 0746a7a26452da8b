/-
  What the disk's Write, Read, Flush answer, and the statements' sectors; condition: the disk was made by the call.
-/
import Derived.Test.YtghogkanhcihbaaDUse
namespace Go.Proofs.Ytghogkanhcihbaa
open Go.RowKit
theorem RowAt.set {w : World} {r c : Nat} {bs : List Nat} (h : RowAt w r c bs) (i x : Nat) (hi : i < bs.length) (hx : x < 256) : RowAt (w.setCell ⟨r, i, none⟩ (.int .u8 (x : Int))) r c (bs.set i x) := by
  obtain ⟨cur, h1, h2, h3, h4, h5, h6⟩ := h
  refine ⟨cur.setIfInBounds i (.int .u8 (x : Int)), heap_setCell_same w r i cur _ _ h1, by simpa using h2, by simpa using h3, h4, ?_, fun b hb => ?_⟩
  · rw [List.length_set, Array.toList_setIfInBounds, List.take_set, h5]
    unfold vals
    rw [List.map_set]
  · rcases List.mem_or_eq_of_mem_set hb with h1 | h1
    · exact h6 b h1
    · omega
theorem RowAt.later {w w' : World} {r c : Nat} {bs : List Nat} (h : RowAt w r c bs) (hb : Below w.heap.size w w') : RowAt w' r c bs := h.but (X := fun _ => False) (.ofBelow hb) (fun h => h)
theorem RowAt.f {w : World} {r c : Nat} {bs : List Nat} (h : RowAt w r c bs) (o : Nat) : w.frozen? ⟨r, o, none⟩ = false := by
  obtain ⟨cur, h1, _⟩ := h
  exact frozen_of_row w r o cur _ h1
theorem RowAt.all {w : World} {r c n : Nat} {bs : List Nat} (h : RowAt w r c bs) (hn : n = bs.length) : BS w w.heap.size (.slice (some ⟨r, 0, none⟩) n c) bs := by
  subst hn
  have := h.part 0 bs.length c (by omega) h.le
  rwa [List.drop_zero, List.take_of_length_le (Nat.le_refl _)] at this
/-- A row of noughts. -/
def zrow (n : Nat) : Array Value := madeCells #[.int .u8 0] n
theorem zrow_list (n : Nat) : (zrow n).toList = vals (List.replicate n 0) := by
  unfold zrow vals
  rw [toList_madeCells_one]
  simp
theorem zrow_size (n : Nat) : (zrow n).size = n := size_madeCells _ _
theorem make_run (m n : Nat) (N K : Int) (hN : N = (n : Nat)) (hK : K = (m : Nat)) (hm : m ≤ n) (hn : n ≤ 4294967296) (w : World) : (Instr.makeSlice 26 (.int .i64 K) (.int .i64 N)).run Try.prog w = .ok (.slice (some ⟨w.heap.size, 0, none⟩) m n) (w.alloc (.cells (zrow n) 5)) := by
  obtain ⟨i0, hi0, hz0, hz1, hz2⟩ := info_parts u8_info
  subst hN
  subst hK
  rw [run_make w 26 5 i0 (.int .u8 0) Try.underlying26 hi0 hz0 .i64 .i64 m n (by omega) (by omega) (by rw [hz2]; omega) (by omega), hz1, Int.toNat_natCast, Int.toNat_natCast, Nat.mul_one]
  rfl
theorem zrow_at (w : World) (n : Nat) (hn : n ≤ 4294967296) : RowAt (w.alloc (.cells (zrow n) 5)) w.heap.size n (List.replicate n 0) :=
  ⟨zrow n, heap_alloc_new w _, zrow_size n, by simp, by unfold maxLen; omega, by rw [zrow_list]; exact List.take_of_length_le (by simp [vals]), fun b hb => by rw [List.eq_of_mem_replicate hb]; decide⟩
/-- A sector in new memory. -/
def SecPost (bs : List Nat) (w : World) (e : Ending) (w' : World) : Prop := e = .returned (.slice (some ⟨w.heap.size, 0, none⟩) 64 64) ∧ RowAt w' w.heap.size 64 bs ∧ Below w.heap.size w w'
set_option maxRecDepth 100000 in
theorem sector_any (b : Int) (w : World) : Calls Try.prog 21 #[.int .i64 b] w (SecPost (M.pat b) w) := by
  have hmk := make_run 64 64 64 64 rfl rfl (by omega) (by omega) w
  have hz := zrow_at w 64 (by omega)
  rw [← M.half_zero b] at hz
  replace hz := Lib.hid hz
  have hb0 := Lib.hid ((Below.refl w.heap.size w).alloc (Nat.le_refl _) (.cells (zrow 64) 5))
  go_enter Try.func21, Try.ntmps21
  go_wp2_with fail
  go_loopw [4] (fun i w' => ∃ j : Nat, j ≤ 64 ∧ i = .int .i64 j ∧ RowAt w' w.heap.size 64 (M.half b j) ∧ Below w.heap.size w w') (fun i _ => 64 - (intOf i).toNat)
  case atStart => exact ⟨0, by omega, rfl, hz.out, hb0.out⟩
  case round =>
    obtain ⟨j, hj, rfl, hr, hbw⟩ := hrel
    by_cases hlt : j < 64
    · have hl := M.half_length b j hj
      have q1 := hr.cell j (by omega)
      have q2 := hr.f j
      have hs := hr.set j ((b + j) % 256).toNat (by omega) (by omega)
      rw [M.half_step b j hlt] at hs
      have e : wrap64 (b + (j : Int)) % 256 = (((b + j) % 256).toNat : Int) := by unfold wrap64; omega
      obtain ⟨x, hx⟩ : ∃ x, x = ((b + (j : Int)) % 256).toNat := ⟨_, rfl⟩
      rw [← hx] at hs e
      clear hx hl
      replace hs := Lib.hid hs
      have hbs := Lib.hid (show Below w.heap.size w (wr.setCell ⟨w.heap.size, j, none⟩ (.int .u8 (x : Int))) from hbw.trans ((But.setCell wr w.heap.size j (.int .u8 (x : Int))).below (fun k e => by omega) hbw.size))
      replace hbw := Lib.hid hbw
      replace hr := Lib.hid hr
      have t0 : (0 : Int) ≤ (j : Int) := by omega
      have t1 : (j : Int) < 64 := by omega
      go_wp2_with fail
      exact ⟨⟨j + 1, by omega, by go_num, hs.out, hbs.out⟩, by simp [intOf]; omega⟩
    · obtain rfl : j = 64 := by omega
      rw [M.half_all] at hr
      replace hr := Lib.hid hr
      replace hbw := Lib.hid hbw
      go_wp2_with fail
      go_ret
      exact ⟨rfl, hr.out, hbw.out⟩
end Go.Proofs.Ytghogkanhcihbaa
