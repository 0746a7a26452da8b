/-
  Bytes copied, bytes put behind bytes, and a number's bytes read with whatever stands behind them; condition: sizes as the model's append asks.
-/
import Derived.Test.YtflchcdafcoenaaBackBase
import Derived.Deep.AppendLies
namespace Go.Proofs.Ytflchcdafcoenaa
open Go.RowKit
/-- The first m bytes of f. -/
def firsts (f : Nat → Nat) (m : Nat) : List Nat := (List.range m).map f
theorem firsts_length (f : Nat → Nat) (m : Nat) : (firsts f m).length = m := by simp [firsts]
theorem firsts_succ (f : Nat → Nat) (m : Nat) : firsts f (m + 1) = firsts f m ++ [f m] := by simp [firsts, List.range_succ]
theorem vals_append (a b : List Nat) : vals (a ++ b) = vals a ++ vals b := by simp [vals]
theorem vals_length (a : List Nat) : (vals a).length = a.length := by simp [vals]
theorem vals_one (a : List Nat) : ∀ u ∈ vals a, u.oneCell' = true := by
  intro u hu
  simp only [vals, List.mem_map] at hu
  obtain ⟨b, _, rfl⟩ := hu
  rfl
theorem firsts_getD (bs : List Nat) : firsts (fun i => bs.getD i 0) bs.length = bs := by
  apply List.ext_getElem
  · simp [firsts]
  · intro i h1 h2
    simp [firsts, h2]
set_option maxRecDepth 100000 in
theorem CopyBytes_any (A : Option Addr) (n c : Nat) (f : Nat → Nat) (w : World) (hn : n ≤ 1000) (ha : Bytes w w.heap.size A n f) :
    Calls Try.prog 20 #[.slice A n c] w (Gives (firsts f n) w) := by
  obtain ⟨i0, hi0, hz0, hz1, hz2⟩ := info_parts u8_info
  have ha := Lib.hid ha
  go_enter Try.func20, Try.ntmps20
  go_wp2
  go_loopw [3, 4] (fun b i w' => ∃ k : Nat, k ≤ n ∧ i = .int .i64 k ∧ w'.ownsRow w.heap.size 5 1 b k (vals (firsts f k)) ∧ Below w.heap.size w w') (fun _ i _ => n - (intOf i).toNat)
  case atStart => exact ⟨0, by omega, rfl, World.ownsRow_nil _ _ _ _, Below.refl _ _⟩
  case round =>
    obtain ⟨k, hk, rfl, hown, hb⟩ := hrel
    by_cases hlt : k < n
    · obtain ⟨a1, rfl, _, hx, q1⟩ := ha.out.later hb k hlt
      have t0 : (0 : Int) ≤ (k : Int) := by omega
      have t1 : (k : Int) < (n : Int) := by omega
      go_wp2_with (first
        | (at_builtin; refine wpList_append_own _ rfl _ _ 23 rfl w.heap.size 5 i0 (.int .u8 0) 1 1 Try.underlying23 hi0 hz0 hz1 hz2 rfl (by decide) u3 k (vals (firsts f k)) rfl (hown.alloc _) ⟨_, 0, none⟩ 1 1 [_] rfl rfl (cell_one_new _ _ _) (fun x hx => by simp at hx; subst hx; rfl) (by unfold maxLen; omega) (by omega) (by have := hb.size; simp; omega) ?_; intro v' w3 hown' hgrow3 hnil3))
      refine ⟨⟨k + 1, by omega, by go_num, ?_, ?_⟩, by simp [intOf]; omega⟩
      · rw [firsts_succ, vals_append]
        exact hown'
      · exact (hb.alloc hb.size _).grown hgrow3 (by have := hb.size; simp; omega) (fun q hq => (hown.lt q hq).1)
    · obtain rfl : k = n := by omega
      go_wp2
      go_ret
      exact ⟨_, rfl, by rw [firsts_length]; exact hown, hb⟩
theorem CopyBytes_owned {base : Nat} {v : Value} {bs : List Nat} {w : World} (h : w.ownsRow base 5 1 v bs.length (vals bs)) (hlt : ∀ b ∈ bs, b < 256) (hn : bs.length ≤ 1000) :
    Calls Try.prog 20 #[v] w (Gives bs w) := by
  obtain ⟨A, c, rfl, hA⟩ := own_bytes h hlt
  have := CopyBytes_any A bs.length c _ w hn hA
  rwa [firsts_getD] at this
theorem run_nil_source {P : Program} (w : World) (base : Nat) (t ty e : TypeId) (i : TypeInfo) (size : Nat) (ht : P.underlying t = some (.slice e)) (hi : P.info? e = some i)
    (v : Value) (n : Nat) (xs : List Value) (hown : w.ownsRow base e size v n xs) (c : Nat) : (Builtin.append_ #[t, t] ty #[v, .slice none 0 c]).run P w = .ok v w := by
  rcases hown.2 with ⟨rfl, rfl⟩ | ⟨g, cap, cur, rfl, _, _, hnc, _⟩
  · simp [Builtin.append_, run_underlying ht, sizeOf, typeInfo, hi, Builtin.lenOf, Builtin.firstCells]
  · simp [Builtin.append_, run_underlying ht, sizeOf, typeInfo, hi, Builtin.lenOf, Builtin.firstCells, hnc, storeCells]
/-- Bytes put behind bytes of one's own. -/
theorem run_cat (w : World) (base ty : Nat) (v : Value) (bs : List Nat) (hown : w.ownsRow base 5 1 v bs.length (vals bs)) (A : Option Addr) (m c : Nat) (f : Nat → Nat) (hA : Bytes w w.heap.size A m f)
    (h63 : bs.length + m ≤ 140737488355328) (hbase : base ≤ w.heap.size) :
    ∃ v' w', (Builtin.append_ #[23, 23] ty #[v, .slice A m c]).run Try.prog w = .ok v' w' ∧ w'.ownsRow base 5 1 v' (bs ++ firsts f m).length (vals (bs ++ firsts f m)) ∧ w.grownBy w' v.ownBlock := by
  obtain ⟨i0, hi0, hz0, hz1, hz2⟩ := info_parts u8_info
  have hl : (bs ++ firsts f m).length = bs.length + m := by simp [firsts_length]
  rw [hl, vals_append]
  rcases A with _ | ad
  · have hm : m = 0 := by
      rcases Nat.eq_zero_or_pos m with h0 | h0
      · exact h0
      · obtain ⟨ad, h, _⟩ := hA 0 h0
        cases h
    subst hm
    exact ⟨v, w, run_nil_source w base 23 ty 5 i0 1 Try.underlying23 hi0 v _ _ hown c, by simpa [firsts, vals] using hown, World.grownBy.refl w _⟩
  · obtain ⟨v', w', h1, h2, h3, _⟩ := run_append_own_at (P := Try.prog) w base 23 ty 5 i0 _ 1 1 Try.underlying23 hi0 hz0 hz1 hz2 rfl (by omega) v bs.length (vals bs) hown ad m c (vals (firsts f m))
      (by rw [vals_length, firsts_length]; omega) (fun j u hu => by
        have hj : j < m := by
          have := (List.getElem?_eq_some_iff.1 hu).1
          rwa [vals_length, firsts_length] at this
        obtain ⟨ad', e, _, _, hc⟩ := hA j hj
        injection e with e
        subst e
        rw [hc, ← hu, getD_vals _ _ (by rw [firsts_length]; exact hj)]
        congr 3
        simp [firsts, hj]) (vals_one _) (by unfold maxLen; omega) (by omega) hbase
    exact ⟨v', w', h1, h2, h3⟩
theorem step_cat {ops : Array Oper} {o : Oper} {a : Act} {w : World} {K : Act → World → Prop} {Q : Exit → Act → World → Prop} {E : Prop} (hgd : o.guard = none) (s x : Operand)
    (ho : o.op = .call { callee := .builtin .append, args := #[s, x], argTypes := #[23, 23] }) (base : Nat) (v : Value) (bs : List Nat) (hs : a.eval s = v) (hown : w.ownsRow base 5 1 v bs.length (vals bs))
    (A : Option Addr) (m c : Nat) (f : Nat → Nat) (hx : a.eval x = .slice A m c) (hA : Bytes w w.heap.size A m f) (h63 : bs.length + m ≤ 140737488355328) (hbase : base ≤ w.heap.size)
    (h : ∀ v' w', w'.ownsRow base 5 1 v' (bs ++ firsts f m).length (vals (bs ++ firsts f m)) → w.grownBy w' v.ownBlock → K (a.put o.dst v') w') :
    if Region.wanted o (yielded ops a.tmps) = true then Oper.wp Try.prog o a w K Q else E := by
  have hw : Region.wanted o (yielded ops a.tmps) = true := by simp [Region.wanted, hgd]
  rw [if_pos hw]
  obtain ⟨v', w', hr, h2, h3⟩ := run_cat w base o.type v bs hown A m c f hA h63 hbase
  unfold Oper.wp execOp
  simp only [ho, resolve, invoke, builtin, Sem.run_bind, Sem.run_pure, Result.andThen_ok, List.map_toArray, List.map_cons, List.map_nil, hs, hx, hr]
  exact h v' w' h2 h3
section
variable {w : World} {base : Nat} {v : Value}
theorem getD_append_left' (a b : List Nat) (i : Nat) (h : i < a.length) : (a ++ b).getD i 0 = a.getD i 0 := by
  simp [List.getD_eq_getElem?_getD, List.getElem?_append_left h]
theorem UintC_yes (n : Nat) (rest : List Nat) (ho : w.ownsRow base 5 1 v (M.putU 10 n ++ rest).length (vals (M.putU 10 n ++ rest))) (hr : ∀ b ∈ rest, b < 256) (hl : rest.length ≤ 140737488355328) (hn : n < 18446744073709551616) :
    Calls Try.prog 9 #[v, .int .i64 64] w fun e w' => e = .returned (.tuple #[.int .u64 n, .int .i64 ((M.putU 10 n).length : Nat), .int .i64 0]) ∧ Below w.heap.size w w' := by
  obtain ⟨A, c, rfl, hA⟩ := own_bytes ho (fun b hb => by
    rcases List.mem_append.1 hb with h | h
    · exact M.putU_lt 10 n b h
    · exact hr b h)
  have L := M.putU_length 10 n
  obtain ⟨h1, h2⟩ := UOk_putU n 64 (fun i => (M.putU 10 n ++ rest).getD i 0) (M.putU 10 n ++ rest).length hn (by omega) (by simpa using hn) (fun i hi => getD_append_left' _ _ _ hi) (by simp)
  have := Uint_yes A _ c _ 64 _ w hA (by simp; unfold maxLen; omega) (by omega) (by omega) h1
  rw [h2] at this
  exact this
theorem SintC_yes (n : Int) (rest : List Nat) (ho : w.ownsRow base 5 1 v (M.putS 10 n ++ rest).length (vals (M.putS 10 n ++ rest))) (hr : ∀ b ∈ rest, b < 256) (hl : rest.length ≤ 140737488355328) (hn : -9223372036854775808 ≤ n ∧ n < 9223372036854775808) :
    Calls Try.prog 13 #[v, .int .i64 64] w fun e w' => e = .returned (.tuple #[.int .i64 n, .int .i64 ((M.putS 10 n).length : Nat), .int .i64 0]) ∧ Below w.heap.size w w' := by
  obtain ⟨A, c, rfl, hA⟩ := own_bytes ho (fun b hb => by
    rcases List.mem_append.1 hb with h | h
    · exact M.putS_lt 10 n b h
    · exact hr b h)
  have L := M.putS_length 10 n
  obtain ⟨h1, h2⟩ := SOk_putS n 64 (fun i => (M.putS 10 n ++ rest).getD i 0) (M.putS 10 n ++ rest).length hn (by omega) (by simpa using hn) (fun i hi => getD_append_left' _ _ _ hi) (by simp)
  have := Sint_yes A _ c _ 64 _ w hA (by simp; unfold maxLen; omega) (by omega) (by omega) h1
  rw [h2] at this
  exact this
end
end Go.Proofs.Ytflchcdafcoenaa
