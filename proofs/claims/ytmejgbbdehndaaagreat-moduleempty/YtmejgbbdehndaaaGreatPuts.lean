/-
  The bytes that the Put functions (the program's and the page's) hand back are the shortest ones, for every number; no condition beyond the number's own range.
-/
import Derived.Test.YtmejgbbdehndaaaGreatLebU
import Derived.Maps.AppendAt
import Derived.OwnWalk
import Derived.OpenShut
namespace Go.Proofs.YtmejgbbdehndaaaGreat
open Go.RowKit
/-- The call hands back new memory that holds the bytes bs. -/
def Gives (bs : List Nat) (w : World) (e : Ending) (w' : World) : Prop := ∃ v, e = .returned v ∧ w'.ownsRow w.heap.size 5 1 v bs.length (vals bs) ∧ Below w.heap.size w w'
def PutRel (n0 : Nat) (w : World) (n b : Value) (w' : World) : Prop :=
  ∃ (j m : Nat) (pre : List Nat), n = .int .u64 (m : Nat) ∧ pre ++ M.putU (j + 1) m = M.putU 10 n0 ∧ m < 2 ^ (7 * j + 1) ∧ pre.length + j = 9 ∧ w'.ownsRow w.heap.size 5 1 b pre.length (vals pre) ∧ Below w.heap.size w w'
def PutSRel (n0 : Int) (w : World) (n b : Value) (w' : World) : Prop :=
  ∃ (j : Nat) (m : Int) (pre : List Nat), n = .int .i64 m ∧ pre ++ M.putS (j + 1) m = M.putS 10 n0 ∧ (-2 ^ (7 * j) ≤ m ∧ m < 2 ^ (7 * j)) ∧ pre.length + j = 9 ∧ w'.ownsRow w.heap.size 5 1 b pre.length (vals pre) ∧ Below w.heap.size w w'
theorem u8_info : (Tryz.prog.info? 5).map (fun i => (i.zero, i.size, i.bytes)) = some (some (.int .u8 0), 1, 1) := by kernel_rfl
set_option maxRecDepth 100000 in
theorem PutUint_any (n : Nat) (w : World) (hn : n < 18446744073709551616) : Calls Tryz.prog 123 #[.int .u64 n] w (Gives (M.putU 10 n) w) := by
  obtain ⟨i0, hi0, hz0, hz1, hz2⟩ := info_parts u8_info
  have HN := Lib.hid hn
  clear hn
  go_enter Tryz.func123, Tryz.ntmps123
  go_wp2
  go_loopw [0, 3] (fun n' b w' => PutRel n w n' b w') (fun n' _ _ => (intOf n').toNat)
  case atStart => exact ⟨9, n, [], rfl, rfl, HN.out, rfl, World.ownsRow_nil _ _ _ _, Below.refl _ _⟩
  case round =>
    obtain ⟨j, m, pre, rfl, hp, hm, hj, hown, hb⟩ := hrel
    have HP := Lib.hid hp
    have HM := Lib.hid hm
    clear hp hm
    have hm64 := M.fuel_lt m j HM.out (by omega)
    have HB := Lib.hid (M.byteU m hm64)
    have HS := Lib.hid hm64
    clear hm64
    by_cases hlt : 127 < m
    · go_wp2_with (first
        | (at_builtin; refine wpList_append_own _ rfl _ _ 33 rfl w.heap.size 5 i0 (.int .u8 0) 1 1 Tryz.underlying33 hi0 hz0 hz1 hz2 rfl (by decide) u3 pre.length (vals pre) rfl (hown.alloc _) ⟨_, 0, none⟩ 1 1 [_] rfl rfl (cell_one_new _ _ _) (fun x hx => by simp at hx; subst hx; rfl) (by unfold maxLen; omega) (by omega) (by have := hb.size; simp; omega) ?_; intro v' w3 hown' hgrow3 hnil3))
      obtain ⟨i, rfl, hi⟩ := M.fuel_pos m j HM.out (by omega)
      rw [HB.out] at hown'
      refine ⟨⟨i, m / 128, pre ++ [m % 128 + 128], by simp, ?_, hi, by simp; omega, ?_, ?_⟩, by simp [intOf]; omega⟩
      · rw [← HP.out, M.putU_more (i + 1) m (by omega)]; simp
      · simpa [vals] using hown'
      · exact (hb.alloc hb.size _).grown hgrow3 (by have := hb.size; simp; omega) (fun q hq => (hown.lt q hq).1)
    · go_wp2_with (first
        | (at_builtin; refine wpList_append_own _ rfl _ _ 33 rfl w.heap.size 5 i0 (.int .u8 0) 1 1 Tryz.underlying33 hi0 hz0 hz1 hz2 rfl (by decide) u3 pre.length (vals pre) rfl (hown.alloc _) ⟨_, 0, none⟩ 1 1 [_] rfl rfl (cell_one_new _ _ _) (fun x hx => by simp at hx; subst hx; rfl) (by unfold maxLen; omega) (by omega) (by have := hb.size; simp; omega) ?_; intro v' w3 hown' hgrow3 hnil3))
      go_ret
      have e : pre ++ [m] = M.putU 10 n := by rw [← HP.out, M.putU_last j m (by omega)]
      rw [← e]
      refine ⟨v', rfl, ?_, ?_⟩
      · simpa [vals] using hown'
      · exact (hb.alloc hb.size _).grown hgrow3 (by have := hb.size; simp; omega) (fun q hq => (hown.lt q hq).1)
set_option maxRecDepth 100000 in
theorem rPutUint_any (n : Nat) (w : World) (hn : n < 18446744073709551616) : Calls Tryz.prog 57 #[.int .u64 n] w (Gives (M.putU 10 n) w) := by
  obtain ⟨i0, hi0, hz0, hz1, hz2⟩ := info_parts u8_info
  have HN := Lib.hid hn
  clear hn
  go_enter Tryz.func57, Tryz.ntmps57
  go_wp2
  go_loopw [0, 3] (fun n' b w' => PutRel n w n' b w') (fun n' _ _ => (intOf n').toNat)
  case atStart => exact ⟨9, n, [], rfl, rfl, HN.out, rfl, World.ownsRow_nil _ _ _ _, Below.refl _ _⟩
  case round =>
    obtain ⟨j, m, pre, rfl, hp, hm, hj, hown, hb⟩ := hrel
    have HP := Lib.hid hp
    have HM := Lib.hid hm
    clear hp hm
    have hm64 := M.fuel_lt m j HM.out (by omega)
    have HB := Lib.hid (M.byteR m hm64)
    have HS := Lib.hid hm64
    clear hm64
    by_cases hlt : 128 ≤ m
    · go_wp2_with (first
        | (at_builtin; refine wpList_append_own _ rfl _ _ 33 rfl w.heap.size 5 i0 (.int .u8 0) 1 1 Tryz.underlying33 hi0 hz0 hz1 hz2 rfl (by decide) u3 pre.length (vals pre) rfl (hown.alloc _) ⟨_, 0, none⟩ 1 1 [_] rfl rfl (cell_one_new _ _ _) (fun x hx => by simp at hx; subst hx; rfl) (by unfold maxLen; omega) (by omega) (by have := hb.size; simp; omega) ?_; intro v' w3 hown' hgrow3 hnil3))
      obtain ⟨i, rfl, hi⟩ := M.fuel_pos m j HM.out (by omega)
      rw [HB.out] at hown'
      rw [M.wrapdiv m HS.out]
      refine ⟨⟨i, m / 128, pre ++ [m % 128 + 128], by simp, ?_, hi, by simp; omega, ?_, ?_⟩, by simp [intOf]; omega⟩
      · rw [← HP.out, M.putU_more (i + 1) m (by omega)]; simp
      · simpa [vals] using hown'
      · exact (hb.alloc hb.size _).grown hgrow3 (by have := hb.size; simp; omega) (fun q hq => (hown.lt q hq).1)
    · go_wp2_with (first
        | (at_builtin; refine wpList_append_own _ rfl _ _ 33 rfl w.heap.size 5 i0 (.int .u8 0) 1 1 Tryz.underlying33 hi0 hz0 hz1 hz2 rfl (by decide) u3 pre.length (vals pre) rfl (hown.alloc _) ⟨_, 0, none⟩ 1 1 [_] rfl rfl (cell_one_new _ _ _) (fun x hx => by simp at hx; subst hx; rfl) (by unfold maxLen; omega) (by omega) (by have := hb.size; simp; omega) ?_; intro v' w3 hown' hgrow3 hnil3))
      go_ret
      have e : pre ++ [m] = M.putU 10 n := by rw [← HP.out, M.putU_last j m (by omega)]
      rw [← e]
      refine ⟨v', rfl, ?_, ?_⟩
      · simpa [vals] using hown'
      · exact (hb.alloc hb.size _).grown hgrow3 (by have := hb.size; simp; omega) (fun q hq => (hown.lt q hq).1)
set_option maxRecDepth 100000 in
theorem PutSint_any (n : Int) (w : World) (hn : -9223372036854775808 ≤ n ∧ n < 9223372036854775808) : Calls Tryz.prog 246 #[.int .i64 n] w (Gives (M.putS 10 n) w) := by
  obtain ⟨i0, hi0, hz0, hz1, hz2⟩ := info_parts u8_info
  have HN := Lib.hid hn
  clear hn
  go_enter Tryz.func246, Tryz.ntmps246
  go_wp2
  go_loopw [0, 3] (fun n' b w' => PutSRel n w n' b w') (fun n' _ _ => (intOf n').natAbs)
  case atStart => exact ⟨9, n, [], rfl, rfl, HN.out, rfl, World.ownsRow_nil _ _ _ _, Below.refl _ _⟩
  case round =>
    obtain ⟨j, m, pre, rfl, hp, hm, hj, hown, hb⟩ := hrel
    have HP := Lib.hid hp
    have HM := Lib.hid hm
    clear hp hm
    have hm64 := M.fuelS_lt m j HM.out (by omega)
    have HB := Lib.hid (M.byteS m)
    have HL := Lib.hid (M.byteSl m)
    have HS := Lib.hid hm64
    clear hm64
    by_cases hlt : -64 ≤ m ∧ m < 64
    · obtain ⟨hlo, hhi⟩ := hlt
      have t1 : decide (m < -64) = false := by simpa using hlo
      have t2 : decide (64 ≤ m) = false := by simpa using hhi
      go_wp2_with (first
        | (at_builtin; refine wpList_append_own _ rfl _ _ 33 rfl w.heap.size 5 i0 (.int .u8 0) 1 1 Tryz.underlying33 hi0 hz0 hz1 hz2 rfl (by decide) u3 pre.length (vals pre) rfl (hown.alloc _) ⟨_, 0, none⟩ 1 1 [_] rfl rfl (cell_one_new _ _ _) (fun x hx => by simp at hx; subst hx; rfl) (by unfold maxLen; omega) (by omega) (by have := hb.size; simp; omega) ?_; intro v' w3 hown' hgrow3 hnil3))
      go_ret
      have e : pre ++ [(m % 128).toNat] = M.putS 10 n := by rw [← HP.out, M.putS_last j m ⟨hlo, hhi⟩]
      rw [← e]
      rw [HL.out] at hown'
      refine ⟨v', rfl, ?_, ?_⟩
      · simpa [vals] using hown'
      · exact (hb.alloc hb.size _).grown hgrow3 (by have := hb.size; simp; omega) (fun q hq => (hown.lt q hq).1)
    · by_cases hlo : m < -64
      all_goals
        have t1 : -64 ≤ m ∨ m < -64 := by omega
        clear t1
        go_wp2_with (first
          | (at_builtin; refine wpList_append_own _ rfl _ _ 33 rfl w.heap.size 5 i0 (.int .u8 0) 1 1 Tryz.underlying33 hi0 hz0 hz1 hz2 rfl (by decide) u3 pre.length (vals pre) rfl (hown.alloc _) ⟨_, 0, none⟩ 1 1 [_] rfl rfl (cell_one_new _ _ _) (fun x hx => by simp at hx; subst hx; rfl) (by unfold maxLen; omega) (by omega) (by have := hb.size; simp; omega) ?_; intro v' w3 hown' hgrow3 hnil3))
        obtain ⟨i, rfl, hi⟩ := M.fuelS_pos m j HM.out hlt
        rw [HB.out] at hown'
        refine ⟨⟨i, m / 128, pre ++ [(m % 128).toNat + 128], rfl, ?_, hi, by simp; omega, ?_, ?_⟩, by simp [intOf]; omega⟩
        · rw [← HP.out, M.putS_more (i + 1) m hlt]; simp
        · simpa [vals] using hown'
        · exact (hb.alloc hb.size _).grown hgrow3 (by have := hb.size; simp; omega) (fun q hq => (hown.lt q hq).1)
set_option maxRecDepth 100000 in
theorem rPutSint_any (n : Int) (w : World) (hn : -9223372036854775808 ≤ n ∧ n < 9223372036854775808) : Calls Tryz.prog 104 #[.int .i64 n] w (Gives (M.putS 10 n) w) := by
  obtain ⟨i0, hi0, hz0, hz1, hz2⟩ := info_parts u8_info
  have HN := Lib.hid hn
  clear hn
  go_enter Tryz.func104, Tryz.ntmps104
  go_wp2
  go_loopw [0, 3] (fun n' b w' => PutSRel n w n' b w') (fun n' _ _ => (intOf n').natAbs)
  case atStart => exact ⟨9, n, [], rfl, rfl, HN.out, rfl, World.ownsRow_nil _ _ _ _, Below.refl _ _⟩
  case round =>
    obtain ⟨j, m, pre, rfl, hp, hm, hj, hown, hb⟩ := hrel
    have HP := Lib.hid hp
    have HM := Lib.hid hm
    clear hp hm
    have hm64 := M.fuelS_lt m j HM.out (by omega)
    have HB := Lib.hid (M.byteS m)
    have HL := Lib.hid (M.byteSl m)
    have HS := Lib.hid hm64
    clear hm64
    by_cases hlt : -64 ≤ m ∧ m < 64
    · obtain ⟨hlo, hhi⟩ := hlt
      have t1 : decide (m < -64) = false := by simpa using hlo
      have t2 : decide (64 ≤ m) = false := by simpa using hhi
      go_wp2_with (first
        | (at_builtin; refine wpList_append_own _ rfl _ _ 33 rfl w.heap.size 5 i0 (.int .u8 0) 1 1 Tryz.underlying33 hi0 hz0 hz1 hz2 rfl (by decide) u3 pre.length (vals pre) rfl (hown.alloc _) ⟨_, 0, none⟩ 1 1 [_] rfl rfl (cell_one_new _ _ _) (fun x hx => by simp at hx; subst hx; rfl) (by unfold maxLen; omega) (by omega) (by have := hb.size; simp; omega) ?_; intro v' w3 hown' hgrow3 hnil3))
      go_ret
      have e : pre ++ [(m % 128).toNat] = M.putS 10 n := by rw [← HP.out, M.putS_last j m ⟨hlo, hhi⟩]
      rw [← e]
      rw [HL.out] at hown'
      refine ⟨v', rfl, ?_, ?_⟩
      · simpa [vals] using hown'
      · exact (hb.alloc hb.size _).grown hgrow3 (by have := hb.size; simp; omega) (fun q hq => (hown.lt q hq).1)
    · by_cases hlo : m < -64
      all_goals
        have t1 : -64 ≤ m ∨ m < -64 := by omega
        clear t1
        go_wp2_with (first
          | (at_builtin; refine wpList_append_own _ rfl _ _ 33 rfl w.heap.size 5 i0 (.int .u8 0) 1 1 Tryz.underlying33 hi0 hz0 hz1 hz2 rfl (by decide) u3 pre.length (vals pre) rfl (hown.alloc _) ⟨_, 0, none⟩ 1 1 [_] rfl rfl (cell_one_new _ _ _) (fun x hx => by simp at hx; subst hx; rfl) (by unfold maxLen; omega) (by omega) (by have := hb.size; simp; omega) ?_; intro v' w3 hown' hgrow3 hnil3))
        obtain ⟨i, rfl, hi⟩ := M.fuelS_pos m j HM.out hlt
        rw [HB.out] at hown'
        refine ⟨⟨i, m / 128, pre ++ [(m % 128).toNat + 128], rfl, ?_, hi, by simp; omega, ?_, ?_⟩, by simp [intOf]; omega⟩
        · rw [← HP.out, M.putS_more (i + 1) m hlt]; simp
        · simpa [vals] using hown'
        · exact (hb.alloc hb.size _).grown hgrow3 (by have := hb.size; simp; omega) (fun q hq => (hown.lt q hq).1)
end Go.Proofs.YtmejgbbdehndaaaGreat
