/-
  What the small functions answer that look at an instruction's byte, a type, a number (the program's and the page's), for every number; no condition.
-/
import Derived.Test.YtmejgbbdehndaaaGreatMem
import Derived.Test.YtmejgbbdehndaaaGreatLMath
import Derived.Laws.EntriesVeiled
namespace Go.Proofs.YtmejgbbdehndaaaGreat
open Go.RowKit
theorem ret_int {k : IntKind} {a b : Int} (h : a = b) : Ending.returned (.int k a) = .returned (.int k b) := by rw [h]
theorem ret_bool {a b : Bool} (h : a = b) : Ending.returned (.bool a) = .returned (.bool b) := by rw [h]
theorem num_any (n : Int) (w : World) :
    Calls Tryz.prog 12 #[.int .i64 n] w fun e w' => e = .returned (.int .i64 n) ∧ w = w' := by
  go_enter Tryz.func12, Tryz.ntmps12
  go_wp2
  go_ret
  exact ⟨rfl, rfl⟩
theorem beqs (op : Int) (h : op ≠ 0 ∧ op ≠ 1 ∧ op ≠ 15 ∧ op ≠ 26 ∧ op ≠ 27 ∧ op ≠ 2 ∧ op ≠ 3 ∧ op ≠ 4 ∧ op ≠ 12 ∧ op ≠ 13 ∧ op ≠ 16 ∧ op ≠ 14 ∧ op ≠ 17 ∧ op ≠ 40 ∧ op ≠ 41 ∧ op ≠ 63 ∧ op ≠ 64 ∧ op ≠ 65 ∧ op ≠ 66 ∧ op ≠ 167 ∧ op ≠ 172 ∧ op ≠ 173) : (op == 0) = false ∧ (op == 1) = false ∧ (op == 15) = false ∧ (op == 26) = false ∧ (op == 27) = false ∧ (op == 2) = false ∧ (op == 3) = false ∧ (op == 4) = false ∧ (op == 12) = false ∧ (op == 13) = false ∧ (op == 16) = false ∧ (op == 14) = false ∧ (op == 17) = false ∧ (op == 40) = false ∧ (op == 41) = false ∧ (op == 63) = false ∧ (op == 64) = false ∧ (op == 65) = false ∧ (op == 66) = false ∧ (op == 167) = false ∧ (op == 172) = false ∧ (op == 173) = false := by simpa only [beq_eq_false_iff_ne] using h
theorem op_split (op : Int) : (op = 0 ∨ op = 1 ∨ op = 15 ∨ op = 26 ∨ op = 27 ∨ op = 2 ∨ op = 3 ∨ op = 4 ∨ op = 12 ∨ op = 13 ∨ op = 16 ∨ op = 14 ∨ op = 17 ∨ op = 40 ∨ op = 41 ∨ op = 63 ∨ op = 64 ∨ op = 65 ∨ op = 66 ∨ op = 167 ∨ op = 172 ∨ op = 173) ∨ ((op ≥ 32 ∧ op ≤ 36) ∨ (op ≥ 44 ∧ op ≤ 55) ∨ (op ≥ 58 ∧ op ≤ 62) ∨ (op ≥ 69 ∧ op ≤ 90) ∨ (op ≥ 103 ∧ op ≤ 138)) ∨ ((op ≠ 0 ∧ op ≠ 1 ∧ op ≠ 15 ∧ op ≠ 26 ∧ op ≠ 27 ∧ op ≠ 2 ∧ op ≠ 3 ∧ op ≠ 4 ∧ op ≠ 12 ∧ op ≠ 13 ∧ op ≠ 16 ∧ op ≠ 14 ∧ op ≠ 17 ∧ op ≠ 40 ∧ op ≠ 41 ∧ op ≠ 63 ∧ op ≠ 64 ∧ op ≠ 65 ∧ op ≠ 66 ∧ op ≠ 167 ∧ op ≠ 172 ∧ op ≠ 173) ∧ (op < 2 ∨ 4 < op) ∧ (op < 32 ∨ 36 < op) ∧ (op < 44 ∨ 55 < op) ∧ (op < 58 ∨ 62 < op) ∧ (op < 69 ∨ 90 < op) ∧ (op < 103 ∨ 138 < op)) := by omega
theorem kindR3 (op : Int) (h1 : op ≥ 32) (h2 : op ≤ 36) : M.kind op = 3 := by
  unfold M.kind
  repeat (first | rw [if_pos (by omega)] | rw [if_neg (by omega)])
theorem kindR6 (op : Int) (h : (op ≥ 44 ∧ op ≤ 55) ∨ (op ≥ 58 ∧ op ≤ 62)) : M.kind op = 6 := by
  unfold M.kind
  repeat (first | rw [if_pos (by omega)] | rw [if_neg (by omega)])
theorem kindR1 (op : Int) (h : (op ≥ 69 ∧ op ≤ 90) ∨ (op ≥ 103 ∧ op ≤ 138)) : M.kind op = 1 := by
  unfold M.kind
  repeat (first | rw [if_pos (by omega)] | rw [if_neg (by omega)])
theorem kindR0 (op : Int) (h : op ≠ 0 ∧ op ≠ 1 ∧ op ≠ 15 ∧ op ≠ 26 ∧ op ≠ 27 ∧ op ≠ 2 ∧ op ≠ 3 ∧ op ≠ 4 ∧ op ≠ 12 ∧ op ≠ 13 ∧ op ≠ 16 ∧ op ≠ 14 ∧ op ≠ 17 ∧ op ≠ 40 ∧ op ≠ 41 ∧ op ≠ 63 ∧ op ≠ 64 ∧ op ≠ 65 ∧ op ≠ 66 ∧ op ≠ 167 ∧ op ≠ 172 ∧ op ≠ 173) (h2 : (op < 2 ∨ 4 < op) ∧ (op < 32 ∨ 36 < op) ∧ (op < 44 ∨ 55 < op) ∧ (op < 58 ∨ 62 < op) ∧ (op < 69 ∨ 90 < op) ∧ (op < 103 ∨ 138 < op)) : M.kind op = 0 := by
  unfold M.kind
  repeat (first | rw [if_pos (by omega)] | rw [if_neg (by omega)])
set_option maxHeartbeats 4000000 in
theorem shape_one (op : Int) (w : World) (h : op = 0 ∨ op = 1 ∨ op = 15 ∨ op = 26 ∨ op = 27 ∨ op = 2 ∨ op = 3 ∨ op = 4 ∨ op = 12 ∨ op = 13 ∨ op = 16 ∨ op = 14 ∨ op = 17 ∨ op = 40 ∨ op = 41 ∨ op = 63 ∨ op = 64 ∨ op = 65 ∨ op = 66 ∨ op = 167 ∨ op = 172 ∨ op = 173) :
    Calls Tryz.prog 102 #[.int .i64 op] w fun e w' => e = .returned (.int .i64 (M.kind op : Nat)) ∧ w = w' := by
  rcases h with rfl | rfl | rfl | rfl | rfl | rfl | rfl | rfl | rfl | rfl | rfl | rfl | rfl | rfl | rfl | rfl | rfl | rfl | rfl | rfl | rfl | rfl
  all_goals
    go_enter Tryz.func102, Tryz.ntmps102
    go_wp2
    go_ret
    exact ⟨ret_int (by decide), rfl⟩
set_option maxHeartbeats 4000000 in
theorem shape_rng (op : Int) (w : World) (h : (op ≥ 32 ∧ op ≤ 36) ∨ (op ≥ 44 ∧ op ≤ 55) ∨ (op ≥ 58 ∧ op ≤ 62) ∨ (op ≥ 69 ∧ op ≤ 90) ∨ (op ≥ 103 ∧ op ≤ 138)) :
    Calls Tryz.prog 102 #[.int .i64 op] w fun e w' => e = .returned (.int .i64 (M.kind op : Nat)) ∧ w = w' := by
  rcases h with ⟨h1, h2⟩ | ⟨h1, h2⟩ | ⟨h1, h2⟩ | ⟨h1, h2⟩ | ⟨h1, h2⟩
  all_goals
    have hn := beqs op (by omega)
    first | (have hk := Lib.hid (kindR3 op h1 h2)) | (have hk := Lib.hid (kindR6 op (by omega))) | (have hk := Lib.hid (kindR1 op (by omega)))
    go_enter Tryz.func102, Tryz.ntmps102
    go_wp2
    go_ret
    exact ⟨ret_int (by rw [hk.out]; rfl), rfl⟩
set_option maxHeartbeats 4000000 in
theorem shape_none (op : Int) (w : World) (h : op ≠ 0 ∧ op ≠ 1 ∧ op ≠ 15 ∧ op ≠ 26 ∧ op ≠ 27 ∧ op ≠ 2 ∧ op ≠ 3 ∧ op ≠ 4 ∧ op ≠ 12 ∧ op ≠ 13 ∧ op ≠ 16 ∧ op ≠ 14 ∧ op ≠ 17 ∧ op ≠ 40 ∧ op ≠ 41 ∧ op ≠ 63 ∧ op ≠ 64 ∧ op ≠ 65 ∧ op ≠ 66 ∧ op ≠ 167 ∧ op ≠ 172 ∧ op ≠ 173) (h2 : (op < 2 ∨ 4 < op) ∧ (op < 32 ∨ 36 < op) ∧ (op < 44 ∨ 55 < op) ∧ (op < 58 ∨ 62 < op) ∧ (op < 69 ∨ 90 < op) ∧ (op < 103 ∨ 138 < op)) :
    Calls Tryz.prog 102 #[.int .i64 op] w fun e w' => e = .returned (.int .i64 (M.kind op : Nat)) ∧ w = w' := by
  have hn := beqs op h
  have hk := Lib.hid (kindR0 op h h2)
  clear h
  go_enter Tryz.func102, Tryz.ntmps102
  go_wp2
  all_goals
    go_ret
    exact ⟨ret_int (by rw [hk.out]; rfl), rfl⟩
theorem shape_any (op : Int) (w : World) :
    Calls Tryz.prog 102 #[.int .i64 op] w fun e w' => e = .returned (.int .i64 (M.kind op : Nat)) ∧ w = w' := by
  rcases op_split op with h | h | ⟨h, h2⟩
  · exact shape_one op w h
  · exact shape_rng op w h
  · exact shape_none op w h h2
end Go.Proofs.YtmejgbbdehndaaaGreat
