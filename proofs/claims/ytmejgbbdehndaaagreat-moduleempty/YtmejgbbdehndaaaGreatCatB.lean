/-
  Bytes put behind bytes of one's own; condition: sizes as the model's append asks.
-/
import Derived.Test.YtmejgbbdehndaaaGreatTools
namespace Go.Proofs.YtmejgbbdehndaaaGreat
open Go.RowKit
theorem vals_one (ts : List Nat) : ∀ u ∈ vals ts, u.oneCell' = true := by
  intro u hu
  obtain ⟨b, _, rfl⟩ := List.mem_map.1 hu
  rfl
/-- A byte, and an end behind it, in new memory. -/
theorem vals_append (a b : List Nat) : vals (a ++ b) = vals a ++ vals b := by simp [vals]
theorem vals_length (a : List Nat) : (vals a).length = a.length := by simp [vals]
theorem run_nil_source {P : Program} (w : World) (base : Nat) (t ty e : TypeId) (i : TypeInfo) (size : Nat) (ht : P.underlying t = some (.slice e)) (hi : P.info? e = some i)
    (v : Value) (n : Nat) (xs : List Value) (hown : w.ownsRow base e size v n xs) (c : Nat) : (Builtin.append_ #[t, t] ty #[v, .slice none 0 c]).run P w = .ok v w := by
  rcases hown.2 with ⟨rfl, rfl⟩ | ⟨g, cap, cur, rfl, _, _, hnc, _⟩
  · simp [Builtin.append_, run_underlying ht, sizeOf, typeInfo, hi, Builtin.lenOf, Builtin.firstCells]
  · simp [Builtin.append_, run_underlying ht, sizeOf, typeInfo, hi, Builtin.lenOf, Builtin.firstCells, hnc, storeCells]
set_option maxRecDepth 100000 in
theorem run_cat (w : World) (base ty : Nat) (v vs : Value) (bs cs : List Nat) (hown : w.ownsRow base 5 1 v bs.length (vals bs)) (hA : BS w w.heap.size vs cs)
    (h63 : bs.length + cs.length ≤ 140737488355328) (hbase : base ≤ w.heap.size) :
    ∃ v' w', (Builtin.append_ #[33, 33] ty #[v, vs]).run Tryz.prog w = .ok v' w' ∧ w'.ownsRow base 5 1 v' (bs ++ cs).length (vals (bs ++ cs)) ∧ w.grownBy w' v.ownBlock := by
  obtain ⟨i0, hi0, hz0, hz1, hz2⟩ := info_parts u8_info
  obtain ⟨A, c, rfl, _, _, hB⟩ := hA
  rw [List.length_append, vals_append]
  rcases A with _ | ad
  · have hm : cs = [] := by
      cases cs with
      | nil => rfl
      | cons y r =>
        obtain ⟨ad, h, _⟩ := hB 0 (by simp)
        cases h
    subst hm
    exact ⟨v, w, run_nil_source w base 33 ty 5 i0 1 Tryz.underlying33 hi0 v _ _ hown c, by simpa [vals] using hown, World.grownBy.refl w _⟩
  · obtain ⟨v', w', h1, h2, h3, _⟩ := run_append_own_at (P := Tryz.prog) w base 33 ty 5 i0 _ 1 1 Tryz.underlying33 hi0 hz0 hz1 hz2 rfl (by omega) v bs.length (vals bs) hown ad cs.length c (vals cs)
      (by rw [vals_length]; omega) (fun j u hu => by
        have hj : j < cs.length := by
          have := (List.getElem?_eq_some_iff.1 hu).1
          rwa [vals_length] at this
        obtain ⟨ad', e, _, _, hc⟩ := hB j hj
        injection e with e
        subst e
        rw [hc, ← hu, getD_vals _ _ hj]) (vals_one _) (by unfold maxLen; omega) (by omega) hbase
    exact ⟨v', w', h1, h2, h3⟩
theorem step_cat {ops : Array Oper} {o : Oper} {a : Act} {w : World} {K : Act → World → Prop} {Q : Exit → Act → World → Prop} {E : Prop} (hgd : o.guard = none) (s x : Operand)
    (ho : o.op = .call { callee := .builtin .append, args := #[s, x], argTypes := #[33, 33] }) (base : Nat) (v vs : Value) (bs cs : List Nat) (hs : a.eval s = v) (hown : w.ownsRow base 5 1 v bs.length (vals bs))
    (hx : a.eval x = vs) (hA : BS w w.heap.size vs cs) (h63 : bs.length + cs.length ≤ 140737488355328) (hbase : base ≤ w.heap.size)
    (h : ∀ v' w', w'.ownsRow base 5 1 v' (bs ++ cs).length (vals (bs ++ cs)) → w.grownBy w' v.ownBlock → K (a.put o.dst v') w') :
    if Region.wanted o (yielded ops a.tmps) = true then Oper.wp Tryz.prog o a w K Q else E := by
  have hw : Region.wanted o (yielded ops a.tmps) = true := by simp [Region.wanted, hgd]
  rw [if_pos hw]
  obtain ⟨v', w', hr, h2, h3⟩ := run_cat w base o.type v vs bs cs hown hA h63 hbase
  unfold Oper.wp execOp
  simp only [ho, resolve, invoke, builtin, Sem.run_bind, Sem.run_pure, Result.andThen_ok, List.map_toArray, List.map_cons, List.map_nil, hs, hx, hr]
  exact h v' w' h2 h3
theorem wpList_cat {ops : Array Oper} {o : Oper} {rest : List Oper} {a : Act} {w : World} {Q : Exit → Act → World → Prop} (hgd : o.guard = none) (s x : Operand)
    (ho : o.op = .call { callee := .builtin .append, args := #[s, x], argTypes := #[33, 33] }) (base : Nat) (v vs : Value) (bs cs : List Nat) (hs : a.eval s = v) (hown : w.ownsRow base 5 1 v bs.length (vals bs))
    (hx : a.eval x = vs) (hA : BS w w.heap.size vs cs) (h63 : bs.length + cs.length ≤ 140737488355328) (hbase : base ≤ w.heap.size)
    (h : ∀ v' w', w'.ownsRow base 5 1 v' (bs ++ cs).length (vals (bs ++ cs)) → w.grownBy w' v.ownBlock → wpList Tryz.prog ops Q rest (a.put o.dst v') w') :
    wpList Tryz.prog ops Q (o :: rest) a w :=
  wpList_plain hgd fun K hK => by
    have := step_cat (ops := ops) (K := K) (Q := Q) (E := True) hgd s x ho base v vs bs cs hs hown hx hA h63 hbase (fun v' w' h2 h3 => hK _ _ (h v' w' h2 h3))
    have hw : Region.wanted o (yielded ops a.tmps) = true := by simp [Region.wanted, hgd]
    rwa [if_pos hw] at this
/-- The first bytes of bytes. -/
theorem BS.take {w : World} {B : Nat} {ad : Addr} {n c : Nat} {bs : List Nat} (h : BS w B (.slice (some ad) n c) bs) (k : Nat) (hk : k ≤ bs.length) : BS w B (.slice (some ad) k c) (bs.take k) := by
  obtain ⟨A, c', e, h1, h2, h3⟩ := h
  cases e
  refine ⟨some ad, c, by rw [List.length_take, Nat.min_eq_left hk], by rw [List.length_take, Nat.min_eq_left hk]; omega, h2, fun i hi => ?_⟩
  rw [List.length_take, Nat.min_eq_left hk] at hi
  obtain ⟨ad', e, q1, q2, q3⟩ := h3 i (by omega)
  have et : (bs.take k).getD i 0 = bs.getD i 0 := by rw [List.getD_eq_getElem?_getD, List.getElem?_take_of_lt hi, List.getD_eq_getElem?_getD]
  refine ⟨ad', e, q1, ?_, ?_⟩
  · show (bs.take k).getD i 0 < 256
    rw [et]; exact q2
  · show w.cell? _ = some (.int .u8 (((bs.take k).getD i 0 : Nat) : Int))
    rw [et]; exact q3
end Go.Proofs.YtmejgbbdehndaaaGreat
