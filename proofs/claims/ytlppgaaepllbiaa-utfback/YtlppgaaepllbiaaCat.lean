/-
  Bytes put behind bytes of one's own, also where the statement guards it; condition: sizes as the model's append asks.
-/
import Derived.Test.YtlppgaaepllbiaaCom
namespace Go.Proofs.Ytlppgaaepllbiaa
open Go.RowKit
theorem run_nil_source {P : Program} (w : World) (base : Nat) (t ty e : TypeId) (i : TypeInfo) (size : Nat) (ht : P.underlying t = some (.slice e)) (hi : P.info? e = some i)
    (v : Value) (n : Nat) (xs : List Value) (hown : w.ownsRow base e size v n xs) (c : Nat) : (Builtin.append_ #[t, t] ty #[v, .slice none 0 c]).run P w = .ok v w := by
  rcases hown.2 with ⟨rfl, rfl⟩ | ⟨g, cap, cur, rfl, _, _, hnc, _⟩
  · simp [Builtin.append_, run_underlying ht, sizeOf, typeInfo, hi, Builtin.lenOf, Builtin.firstCells]
  · simp [Builtin.append_, run_underlying ht, sizeOf, typeInfo, hi, Builtin.lenOf, Builtin.firstCells, hnc, storeCells]
theorem run_cat (w : World) (base ty : Nat) (v vs : Value) (bs cs : List Nat) (hown : w.ownsRow base 5 1 v bs.length (vals bs)) (hA : BS w w.heap.size vs cs)
    (h63 : bs.length + cs.length ≤ 140737488355328) (hbase : base ≤ w.heap.size) :
    ∃ v' w', (Builtin.append_ #[24, 24] ty #[v, vs]).run Try.prog w = .ok v' w' ∧ w'.ownsRow base 5 1 v' (bs ++ cs).length (vals (bs ++ cs)) ∧ w.grownBy w' v.ownBlock := by
  obtain ⟨i0, hi0, hz0, hz1, hz2⟩ := info_parts u8_info
  obtain ⟨A, c, rfl, _, _, hB⟩ := hA
  rw [List.length_append, vals_append]
  rcases A with _ | ad
  · have hm : cs = [] := by
      cases cs with
      | nil => rfl
      | cons y r =>
        obtain ⟨ad, h, _⟩ := hB 0 (by simp)
        cases h
    subst hm
    exact ⟨v, w, run_nil_source w base 24 ty 5 i0 1 Try.underlying24 hi0 v _ _ hown c, by simpa [vals] using hown, World.grownBy.refl w _⟩
  · obtain ⟨v', w', h1, h2, h3, _⟩ := run_append_own_at (P := Try.prog) w base 24 ty 5 i0 _ 1 1 Try.underlying24 hi0 hz0 hz1 hz2 rfl (by omega) v bs.length (vals bs) hown ad cs.length c (vals cs)
      (by rw [vals_length]; omega) (fun j u hu => by
        have hj : j < cs.length := by
          have := (List.getElem?_eq_some_iff.1 hu).1
          rwa [vals_length] at this
        obtain ⟨ad', e, _, _, hc⟩ := hB j hj
        injection e with e
        subst e
        rw [hc, ← hu, getD_vals _ _ hj]) (vals_one _) (by unfold maxLen; omega) (by omega) hbase
    exact ⟨v', w', h1, h2, h3⟩
theorem wpList_cat {ops : Array Oper} {o : Oper} {rest : List Oper} {a : Act} {w : World} {Q : Exit → Act → World → Prop} (hw : Region.wanted o (yielded ops a.tmps) = true) (s x : Operand)
    (ho : o.op = .call { callee := .builtin .append, args := #[s, x], argTypes := #[24, 24] }) (base : Nat) (v vs : Value) (bs cs : List Nat) (hs : a.eval s = v) (hown : w.ownsRow base 5 1 v bs.length (vals bs))
    (hx : a.eval x = vs) (hA : BS w w.heap.size vs cs) (h63 : bs.length + cs.length ≤ 140737488355328) (hbase : base ≤ w.heap.size)
    (h : ∀ v' w', w'.ownsRow base 5 1 v' (bs ++ cs).length (vals (bs ++ cs)) → w.grownBy w' v.ownBlock → wpList Try.prog ops Q rest (a.put o.dst v') w') :
    wpList Try.prog ops Q (o :: rest) a w := by
  refine wpList_step fun K hK => ?_
  rw [if_pos hw]
  obtain ⟨v', w', hr, h2, h3⟩ := run_cat w base o.type v vs bs cs hown hA h63 hbase
  unfold Oper.wp execOp
  simp only [ho, resolve, invoke, builtin, Sem.run_bind, Sem.run_pure, Result.andThen_ok, List.map_toArray, List.map_cons, List.map_nil, hs, hx, hr]
  exact hK _ _ (h v' w' h2 h3)
end Go.Proofs.Ytlppgaaepllbiaa
