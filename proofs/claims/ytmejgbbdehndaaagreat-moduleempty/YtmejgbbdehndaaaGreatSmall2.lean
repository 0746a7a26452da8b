/-
  What stands behind an instruction's byte, as the program's table of bits tells it, for every number; no condition.
-/
import Derived.Test.YtmejgbbdehndaaaGreatSmall
namespace Go.Proofs.YtmejgbbdehndaaaGreat
open Go.RowKit
/-- The bits of the first k of these numbers. -/
def orF (f : Nat → Nat) : Nat → Nat
  | 0 => 0
  | k + 1 => orF f k ||| 2 ^ f k
theorem orF_lt (f : Nat → Nat) (h : ∀ i, f i < 10) (k : Nat) : orF f k < 1024 := by
  induction k with
  | zero => simp [orF]
  | succ k ih => exact Nat.or_lt_two_pow (n := 10) ih (Nat.pow_lt_pow_right (by omega) (h k))
theorem or_step (f : Nat → Nat) (h : ∀ i, f i < 10) (k : Nat) : bits .or .u64 (orF f k : Int) (IntKind.u64.wrap (2 ^ f k)) = ((orF f (k + 1) : Nat) : Int) := by
  have h1 := orF_lt f h k
  have h2 : 2 ^ f k < 1024 := Nat.pow_lt_pow_right (n := 10) (by omega) (h k)
  have e : ((2 : Int) ^ f k) = ((2 ^ f k : Nat) : Int) := by push_cast; rfl
  rw [e, IntKind.wrap_u64, Int.emod_eq_of_lt (Int.natCast_nonneg _) (by omega), u64_or_nat _ _ (by omega) (by omega)]
  rfl
theorem of_any (A : Option Addr) (n c : Nat) (f : Nat → Nat) (w : World) (h : Ints w w.heap.size A n (fun i => (f i : Int))) (hn : n ≤ maxLen) (hf : ∀ i, f i < 10) :
    Calls Tryz.prog 262 #[.slice A n c] w fun e w' => e = .returned (.int .u64 (orF f n : Nat)) ∧ w = w' := by
  unfold maxLen at hn
  replace h := Lib.hid h
  go_enter Tryz.func262, Tryz.ntmps262
  go_wp2
  go_loop [3, 5, 8] (fun s _ i => ∃ k : Nat, k ≤ n ∧ i = .int .i64 k ∧ s = .int .u64 (orF f k : Nat)) (fun _ _ i => n - (intOf i).toNat)
  case atStart => exact ⟨0, by omega, rfl, rfl⟩
  case round =>
    obtain ⟨k, hk, rfl, rfl⟩ := hrel
    by_cases hlt : k < n
    · obtain ⟨ad, rfl, _, _, q⟩ := h.out k hlt
      have hs := Lib.hid (or_step f hf k)
      have hk10 := hf k
      go_wp2
      exact ⟨⟨k + 1, by omega, by go_num, by rw [hs.out]⟩, by simp [intOf]; omega⟩
    · obtain rfl : n = k := by omega
      go_wp2
      go_ret
      exact ⟨rfl, rfl⟩
theorem lit_ints (w : World) (ps : List Nat) (t : TypeId) (cs : Array Value) (hcs : cs = (ps.map fun p : Nat => Value.int .i64 (p : Int)).toArray) (hp : ∀ p ∈ ps, p < 10) :
    Ints (w.alloc (.cells cs t)) (w.alloc (.cells cs t)).heap.size (some ⟨w.heap.size, 0, none⟩) ps.length (fun i => ((ps.getD i 0 : Nat) : Int)) := by
  intro i hi
  have e : ps.getD i 0 = ps[i] := by simp [List.getD_eq_getElem?_getD, hi]
  have h10 := hp ps[i] (List.getElem_mem hi)
  refine ⟨_, rfl, by simp, ?_, ?_⟩
  · simp only [e]; omega
  · rw [add_none, hcs]
    simp [World.cell?_alloc_new, hi]
theorem of_lit (ps : List Nat) (cs : Array Value) (v : Value) (M : Int) (w : World) (hcs : cs = (ps.map fun p : Nat => Value.int .i64 (p : Int)).toArray) (hp : ∀ p ∈ ps, p < 10) (hl : ps.length ≤ 10) (hv : v = .slice (some ⟨w.heap.size, 0, none⟩) ps.length ps.length) (hM : ((orF (fun i => ps.getD i 0) ps.length : Nat) : Int) = M) :
    Calls Tryz.prog 262 #[v] (w.alloc (.cells cs 293)) fun e w' => e = .returned (.int .u64 M) ∧ Below w.heap.size w w' := by
  subst hv
  have := of_any (some ⟨w.heap.size, 0, none⟩) ps.length ps.length (fun i => ps.getD i 0) _ (lit_ints w ps 293 cs hcs hp) (by unfold maxLen; omega) (fun i => by
    by_cases hi : i < ps.length
    · have e : ps.getD i 0 = ps[i] := by simp [List.getD_eq_getElem?_getD, hi]
      rw [e]; exact hp _ (List.getElem_mem hi)
    · have e : ps.getD i 0 = 0 := by simp [List.getD_eq_getElem?_getD, hi]
      omega)
  rw [hM] at this
  exact this.mono fun _ _ ⟨a, b⟩ => ⟨a, by rw [← b]; exact (Below.refl _ _).alloc (Nat.le_refl _) _⟩
theorem of_nil (w : World) : Calls Tryz.prog 262 #[.slice none 0 0] w fun e w' => e = .returned (.int .u64 0) ∧ Below w.heap.size w w' :=
  (of_any none 0 0 (fun _ => 0) w (fun i hi => by omega) (by unfold maxLen; omega) (fun _ => by omega)).mono fun _ _ ⟨a, b⟩ => ⟨a, by rw [← b]; exact Below.refl _ _⟩
namespace M
/-- The bits of what stands behind a byte. -/
def maskK (k : Nat) (op : Int) : Nat :=
  match k with
  | 2 => if op = 4 then 897 else 641
  | 3 => 4
  | 4 => 6
  | 5 => 36
  | 6 => 24
  | 7 => 32
  | 8 => 64
  | 9 => 64
  | _ => 0
def mask (op : Int) : Nat := maskK (kind op) op
theorem mask_of {op : Int} {k : Nat} (h : kind op = k) : mask op = maskK k op := by unfold mask; rw [h]
end M
def PartsPost (op : Int) (w : World) (e : Ending) (w' : World) : Prop := e = .returned (.tuple #[.int .u64 (M.mask op : Nat), .bool (decide (M.kind op ≠ 0))]) ∧ Below w.heap.size w w'
theorem parts_ret {op : Int} {k : Nat} {m : Int} {b : Bool} (hk : M.kind op = k) (hm : m = (M.maskK k op : Nat)) (hb : b = decide (k ≠ 0)) : Ending.returned (.tuple #[.int .u64 m, .bool b]) = .returned (.tuple #[.int .u64 (M.mask op : Nat), .bool (decide (M.kind op ≠ 0))]) := by
  rw [M.mask_of hk, hk, hm, hb]
set_option maxRecDepth 100000 in
theorem parts_0 (w : World) : Calls Tryz.prog 240 #[.int .i64 0] w (PartsPost 0 w) := by
  go_enter Tryz.func240, Tryz.ntmps240
  go_wp2_with fail
  refine (of_nil _).mono ?_
  rintro e w1 ⟨rfl, hb⟩
  replace hb := Lib.hid hb
  go_wp2
  go_ret2
  exact ⟨parts_ret (k := M.kind 0) rfl (by decide) (by decide), hb.out⟩
set_option maxRecDepth 100000 in
theorem parts_1 (w : World) : Calls Tryz.prog 240 #[.int .i64 1] w (PartsPost 1 w) := by
  go_enter Tryz.func240, Tryz.ntmps240
  go_wp2_with fail
  refine (of_nil _).mono ?_
  rintro e w1 ⟨rfl, hb⟩
  replace hb := Lib.hid hb
  go_wp2
  go_ret2
  exact ⟨parts_ret (k := M.kind 1) rfl (by decide) (by decide), hb.out⟩
set_option maxRecDepth 100000 in
theorem parts_15 (w : World) : Calls Tryz.prog 240 #[.int .i64 15] w (PartsPost 15 w) := by
  go_enter Tryz.func240, Tryz.ntmps240
  go_wp2_with fail
  refine (of_nil _).mono ?_
  rintro e w1 ⟨rfl, hb⟩
  replace hb := Lib.hid hb
  go_wp2
  go_ret2
  exact ⟨parts_ret (k := M.kind 15) rfl (by decide) (by decide), hb.out⟩
set_option maxRecDepth 100000 in
theorem parts_26 (w : World) : Calls Tryz.prog 240 #[.int .i64 26] w (PartsPost 26 w) := by
  go_enter Tryz.func240, Tryz.ntmps240
  go_wp2_with fail
  refine (of_nil _).mono ?_
  rintro e w1 ⟨rfl, hb⟩
  replace hb := Lib.hid hb
  go_wp2
  go_ret2
  exact ⟨parts_ret (k := M.kind 26) rfl (by decide) (by decide), hb.out⟩
set_option maxRecDepth 100000 in
theorem parts_27 (w : World) : Calls Tryz.prog 240 #[.int .i64 27] w (PartsPost 27 w) := by
  go_enter Tryz.func240, Tryz.ntmps240
  go_wp2_with fail
  refine (of_nil _).mono ?_
  rintro e w1 ⟨rfl, hb⟩
  replace hb := Lib.hid hb
  go_wp2
  go_ret2
  exact ⟨parts_ret (k := M.kind 27) rfl (by decide) (by decide), hb.out⟩
set_option maxRecDepth 100000 in
theorem parts_2 (w : World) : Calls Tryz.prog 240 #[.int .i64 2] w (PartsPost 2 w) := by
  go_enter Tryz.func240, Tryz.ntmps240
  go_wp2_with fail
  refine (of_lit [0, 7, 9] _ _ 641 _ rfl (by decide) (by decide) rfl (by decide)).mono ?_
  rintro e w1 ⟨rfl, hb⟩
  replace hb := Lib.hid hb
  go_wp2
  go_ret2
  exact ⟨parts_ret (k := M.kind 2) rfl (by decide) (by decide), hb.out⟩
set_option maxRecDepth 100000 in
theorem parts_3 (w : World) : Calls Tryz.prog 240 #[.int .i64 3] w (PartsPost 3 w) := by
  go_enter Tryz.func240, Tryz.ntmps240
  go_wp2_with fail
  refine (of_lit [0, 7, 9] _ _ 641 _ rfl (by decide) (by decide) rfl (by decide)).mono ?_
  rintro e w1 ⟨rfl, hb⟩
  replace hb := Lib.hid hb
  go_wp2
  go_ret2
  exact ⟨parts_ret (k := M.kind 3) rfl (by decide) (by decide), hb.out⟩
set_option maxRecDepth 100000 in
theorem parts_4 (w : World) : Calls Tryz.prog 240 #[.int .i64 4] w (PartsPost 4 w) := by
  go_enter Tryz.func240, Tryz.ntmps240
  go_wp2_with fail
  refine (of_lit [0, 7, 8, 9] _ _ 897 _ rfl (by decide) (by decide) rfl (by decide)).mono ?_
  rintro e w1 ⟨rfl, hb⟩
  replace hb := Lib.hid hb
  go_wp2
  go_ret2
  exact ⟨parts_ret (k := M.kind 4) rfl (by decide) (by decide), hb.out⟩
set_option maxRecDepth 100000 in
theorem parts_12 (w : World) : Calls Tryz.prog 240 #[.int .i64 12] w (PartsPost 12 w) := by
  go_enter Tryz.func240, Tryz.ntmps240
  go_wp2_with fail
  refine (of_lit [2] _ _ 4 _ rfl (by decide) (by decide) rfl (by decide)).mono ?_
  rintro e w1 ⟨rfl, hb⟩
  replace hb := Lib.hid hb
  go_wp2
  go_ret2
  exact ⟨parts_ret (k := M.kind 12) rfl (by decide) (by decide), hb.out⟩
set_option maxRecDepth 100000 in
theorem parts_13 (w : World) : Calls Tryz.prog 240 #[.int .i64 13] w (PartsPost 13 w) := by
  go_enter Tryz.func240, Tryz.ntmps240
  go_wp2_with fail
  refine (of_lit [2] _ _ 4 _ rfl (by decide) (by decide) rfl (by decide)).mono ?_
  rintro e w1 ⟨rfl, hb⟩
  replace hb := Lib.hid hb
  go_wp2
  go_ret2
  exact ⟨parts_ret (k := M.kind 13) rfl (by decide) (by decide), hb.out⟩
set_option maxRecDepth 100000 in
theorem parts_16 (w : World) : Calls Tryz.prog 240 #[.int .i64 16] w (PartsPost 16 w) := by
  go_enter Tryz.func240, Tryz.ntmps240
  go_wp2_with fail
  refine (of_lit [2] _ _ 4 _ rfl (by decide) (by decide) rfl (by decide)).mono ?_
  rintro e w1 ⟨rfl, hb⟩
  replace hb := Lib.hid hb
  go_wp2
  go_ret2
  exact ⟨parts_ret (k := M.kind 16) rfl (by decide) (by decide), hb.out⟩
set_option maxRecDepth 100000 in
theorem parts_14 (w : World) : Calls Tryz.prog 240 #[.int .i64 14] w (PartsPost 14 w) := by
  go_enter Tryz.func240, Tryz.ntmps240
  go_wp2_with fail
  refine (of_lit [1, 2] _ _ 6 _ rfl (by decide) (by decide) rfl (by decide)).mono ?_
  rintro e w1 ⟨rfl, hb⟩
  replace hb := Lib.hid hb
  go_wp2
  go_ret2
  exact ⟨parts_ret (k := M.kind 14) rfl (by decide) (by decide), hb.out⟩
set_option maxRecDepth 100000 in
theorem parts_17 (w : World) : Calls Tryz.prog 240 #[.int .i64 17] w (PartsPost 17 w) := by
  go_enter Tryz.func240, Tryz.ntmps240
  go_wp2_with fail
  refine (of_lit [2, 5] _ _ 36 _ rfl (by decide) (by decide) rfl (by decide)).mono ?_
  rintro e w1 ⟨rfl, hb⟩
  replace hb := Lib.hid hb
  go_wp2
  go_ret2
  exact ⟨parts_ret (k := M.kind 17) rfl (by decide) (by decide), hb.out⟩
set_option maxRecDepth 100000 in
theorem parts_40 (w : World) : Calls Tryz.prog 240 #[.int .i64 40] w (PartsPost 40 w) := by
  go_enter Tryz.func240, Tryz.ntmps240
  go_wp2_with fail
  refine (of_lit [3, 4] _ _ 24 _ rfl (by decide) (by decide) rfl (by decide)).mono ?_
  rintro e w1 ⟨rfl, hb⟩
  replace hb := Lib.hid hb
  go_wp2
  go_ret2
  exact ⟨parts_ret (k := M.kind 40) rfl (by decide) (by decide), hb.out⟩
set_option maxRecDepth 100000 in
theorem parts_41 (w : World) : Calls Tryz.prog 240 #[.int .i64 41] w (PartsPost 41 w) := by
  go_enter Tryz.func240, Tryz.ntmps240
  go_wp2_with fail
  refine (of_lit [3, 4] _ _ 24 _ rfl (by decide) (by decide) rfl (by decide)).mono ?_
  rintro e w1 ⟨rfl, hb⟩
  replace hb := Lib.hid hb
  go_wp2
  go_ret2
  exact ⟨parts_ret (k := M.kind 41) rfl (by decide) (by decide), hb.out⟩
set_option maxRecDepth 100000 in
theorem parts_63 (w : World) : Calls Tryz.prog 240 #[.int .i64 63] w (PartsPost 63 w) := by
  go_enter Tryz.func240, Tryz.ntmps240
  go_wp2_with fail
  refine (of_lit [5] _ _ 32 _ rfl (by decide) (by decide) rfl (by decide)).mono ?_
  rintro e w1 ⟨rfl, hb⟩
  replace hb := Lib.hid hb
  go_wp2
  go_ret2
  exact ⟨parts_ret (k := M.kind 63) rfl (by decide) (by decide), hb.out⟩
set_option maxRecDepth 100000 in
theorem parts_64 (w : World) : Calls Tryz.prog 240 #[.int .i64 64] w (PartsPost 64 w) := by
  go_enter Tryz.func240, Tryz.ntmps240
  go_wp2_with fail
  refine (of_lit [5] _ _ 32 _ rfl (by decide) (by decide) rfl (by decide)).mono ?_
  rintro e w1 ⟨rfl, hb⟩
  replace hb := Lib.hid hb
  go_wp2
  go_ret2
  exact ⟨parts_ret (k := M.kind 64) rfl (by decide) (by decide), hb.out⟩
set_option maxRecDepth 100000 in
theorem parts_65 (w : World) : Calls Tryz.prog 240 #[.int .i64 65] w (PartsPost 65 w) := by
  go_enter Tryz.func240, Tryz.ntmps240
  go_wp2_with fail
  refine (of_lit [6] _ _ 64 _ rfl (by decide) (by decide) rfl (by decide)).mono ?_
  rintro e w1 ⟨rfl, hb⟩
  replace hb := Lib.hid hb
  go_wp2
  go_ret2
  exact ⟨parts_ret (k := M.kind 65) rfl (by decide) (by decide), hb.out⟩
set_option maxRecDepth 100000 in
theorem parts_66 (w : World) : Calls Tryz.prog 240 #[.int .i64 66] w (PartsPost 66 w) := by
  go_enter Tryz.func240, Tryz.ntmps240
  go_wp2_with fail
  refine (of_lit [6] _ _ 64 _ rfl (by decide) (by decide) rfl (by decide)).mono ?_
  rintro e w1 ⟨rfl, hb⟩
  replace hb := Lib.hid hb
  go_wp2
  go_ret2
  exact ⟨parts_ret (k := M.kind 66) rfl (by decide) (by decide), hb.out⟩
set_option maxRecDepth 100000 in
theorem parts_167 (w : World) : Calls Tryz.prog 240 #[.int .i64 167] w (PartsPost 167 w) := by
  go_enter Tryz.func240, Tryz.ntmps240
  go_wp2_with fail
  refine (of_nil _).mono ?_
  rintro e w1 ⟨rfl, hb⟩
  replace hb := Lib.hid hb
  go_wp2
  go_ret2
  exact ⟨parts_ret (k := M.kind 167) rfl (by decide) (by decide), hb.out⟩
set_option maxRecDepth 100000 in
theorem parts_172 (w : World) : Calls Tryz.prog 240 #[.int .i64 172] w (PartsPost 172 w) := by
  go_enter Tryz.func240, Tryz.ntmps240
  go_wp2_with fail
  refine (of_nil _).mono ?_
  rintro e w1 ⟨rfl, hb⟩
  replace hb := Lib.hid hb
  go_wp2
  go_ret2
  exact ⟨parts_ret (k := M.kind 172) rfl (by decide) (by decide), hb.out⟩
set_option maxRecDepth 100000 in
theorem parts_173 (w : World) : Calls Tryz.prog 240 #[.int .i64 173] w (PartsPost 173 w) := by
  go_enter Tryz.func240, Tryz.ntmps240
  go_wp2_with fail
  refine (of_nil _).mono ?_
  rintro e w1 ⟨rfl, hb⟩
  replace hb := Lib.hid hb
  go_wp2
  go_ret2
  exact ⟨parts_ret (k := M.kind 173) rfl (by decide) (by decide), hb.out⟩
set_option maxRecDepth 100000 in
theorem parts_r32 (op : Int) (w : World) (h1 : op ≥ 32) (h2 : op ≤ 36) : Calls Tryz.prog 240 #[.int .i64 op] w (PartsPost op w) := by
  have hn := beqs op (by omega)
  have hk := Lib.hid (kindR3 op h1 h2)
  go_enter Tryz.func240, Tryz.ntmps240
  go_wp2_with fail
  refine (of_lit [2] _ _ 4 _ rfl (by decide) (by decide) rfl (by decide)).mono ?_
  rintro e w1 ⟨rfl, hb⟩
  replace hb := Lib.hid hb
  go_wp2
  go_ret2
  exact ⟨parts_ret hk.out rfl rfl, hb.out⟩
set_option maxRecDepth 100000 in
theorem parts_r44 (op : Int) (w : World) (h1 : op ≥ 44) (h2 : op ≤ 55) : Calls Tryz.prog 240 #[.int .i64 op] w (PartsPost op w) := by
  have hn := beqs op (by omega)
  have hk := Lib.hid (kindR6 op (by omega))
  go_enter Tryz.func240, Tryz.ntmps240
  go_wp2_with fail
  refine (of_lit [3, 4] _ _ 24 _ rfl (by decide) (by decide) rfl (by decide)).mono ?_
  rintro e w1 ⟨rfl, hb⟩
  replace hb := Lib.hid hb
  go_wp2
  go_ret2
  exact ⟨parts_ret hk.out rfl rfl, hb.out⟩
set_option maxRecDepth 100000 in
theorem parts_r58 (op : Int) (w : World) (h1 : op ≥ 58) (h2 : op ≤ 62) : Calls Tryz.prog 240 #[.int .i64 op] w (PartsPost op w) := by
  have hn := beqs op (by omega)
  have hk := Lib.hid (kindR6 op (by omega))
  go_enter Tryz.func240, Tryz.ntmps240
  go_wp2_with fail
  refine (of_lit [3, 4] _ _ 24 _ rfl (by decide) (by decide) rfl (by decide)).mono ?_
  rintro e w1 ⟨rfl, hb⟩
  replace hb := Lib.hid hb
  go_wp2
  go_ret2
  exact ⟨parts_ret hk.out rfl rfl, hb.out⟩
set_option maxRecDepth 100000 in
theorem parts_r69 (op : Int) (w : World) (h1 : op ≥ 69) (h2 : op ≤ 90) : Calls Tryz.prog 240 #[.int .i64 op] w (PartsPost op w) := by
  have hn := beqs op (by omega)
  have hk := Lib.hid (kindR1 op (by omega))
  go_enter Tryz.func240, Tryz.ntmps240
  go_wp2_with fail
  refine (of_nil _).mono ?_
  rintro e w1 ⟨rfl, hb⟩
  replace hb := Lib.hid hb
  go_wp2
  go_ret2
  exact ⟨parts_ret hk.out rfl rfl, hb.out⟩
set_option maxRecDepth 100000 in
theorem parts_r103 (op : Int) (w : World) (h1 : op ≥ 103) (h2 : op ≤ 138) : Calls Tryz.prog 240 #[.int .i64 op] w (PartsPost op w) := by
  have hn := beqs op (by omega)
  have hk := Lib.hid (kindR1 op (by omega))
  go_enter Tryz.func240, Tryz.ntmps240
  go_wp2_with fail
  refine (of_nil _).mono ?_
  rintro e w1 ⟨rfl, hb⟩
  replace hb := Lib.hid hb
  go_wp2
  go_ret2
  exact ⟨parts_ret hk.out rfl rfl, hb.out⟩
set_option maxRecDepth 100000 in
set_option maxHeartbeats 4000000 in
theorem parts_none (op : Int) (w : World) (h : op ≠ 0 ∧ op ≠ 1 ∧ op ≠ 15 ∧ op ≠ 26 ∧ op ≠ 27 ∧ op ≠ 2 ∧ op ≠ 3 ∧ op ≠ 4 ∧ op ≠ 12 ∧ op ≠ 13 ∧ op ≠ 16 ∧ op ≠ 14 ∧ op ≠ 17 ∧ op ≠ 40 ∧ op ≠ 41 ∧ op ≠ 63 ∧ op ≠ 64 ∧ op ≠ 65 ∧ op ≠ 66 ∧ op ≠ 167 ∧ op ≠ 172 ∧ op ≠ 173) (h2 : (op < 2 ∨ 4 < op) ∧ (op < 32 ∨ 36 < op) ∧ (op < 44 ∨ 55 < op) ∧ (op < 58 ∨ 62 < op) ∧ (op < 69 ∨ 90 < op) ∧ (op < 103 ∨ 138 < op)) : Calls Tryz.prog 240 #[.int .i64 op] w (PartsPost op w) := by
  have hn := beqs op h
  have hk := Lib.hid (kindR0 op h h2)
  clear h
  go_enter Tryz.func240, Tryz.ntmps240
  go_wp2_with fail
  all_goals
    go_ret2
    exact ⟨parts_ret hk.out rfl rfl, Below.refl _ _⟩
theorem partsOf_any (op : Int) (w : World) : Calls Tryz.prog 240 #[.int .i64 op] w (PartsPost op w) := by
  rcases op_split op with h | h | ⟨h, h2⟩
  · rcases h with rfl | rfl | rfl | rfl | rfl | rfl | rfl | rfl | rfl | rfl | rfl | rfl | rfl | rfl | rfl | rfl | rfl | rfl | rfl | rfl | rfl | rfl
    · exact parts_0 w
    · exact parts_1 w
    · exact parts_15 w
    · exact parts_26 w
    · exact parts_27 w
    · exact parts_2 w
    · exact parts_3 w
    · exact parts_4 w
    · exact parts_12 w
    · exact parts_13 w
    · exact parts_16 w
    · exact parts_14 w
    · exact parts_17 w
    · exact parts_40 w
    · exact parts_41 w
    · exact parts_63 w
    · exact parts_64 w
    · exact parts_65 w
    · exact parts_66 w
    · exact parts_167 w
    · exact parts_172 w
    · exact parts_173 w
  · rcases h with ⟨h1, h2⟩ | ⟨h1, h2⟩ | ⟨h1, h2⟩ | ⟨h1, h2⟩ | ⟨h1, h2⟩
    · exact parts_r32 op w h1 h2
    · exact parts_r44 op w h1 h2
    · exact parts_r58 op w h1 h2
    · exact parts_r69 op w h1 h2
    · exact parts_r103 op w h1 h2
  · exact parts_none op w h h2
end Go.Proofs.YtmejgbbdehndaaaGreat
