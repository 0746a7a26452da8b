/-
  Steps over a frame of which only some slots are known: reading a slot behind a store into another, one operation that yields a value, and a comparison behind '&&'; no condition.
-/
import Derived.Test.YtjapcalndolamaaCMem
import Derived.Tactics2
namespace Go.Proofs.Ytjapcalndolamaa
open Go.RowKit
theorem eval_put_same (a : Act) (n : Nat) (v : Value) (h : n < a.tmps.size) : (a.put (some n) v).eval (.tmp n) = v := by
  simp [Act.put, Act.eval, Array.getD, h]
theorem eval_put_ne (a : Act) (n m : Nat) (v : Value) (h : n ≠ m) : (a.put (some n) v).eval (.tmp m) = a.eval (.tmp m) := by
  simp only [Act.put, Act.eval, Array.getD_eq_getD_getElem?]
  rw [Array.getElem?_setIfInBounds]
  simp [h]
theorem size_put (a : Act) (n : Nat) (v : Value) : (a.put (some n) v).tmps.size = a.tmps.size := by simp [Act.put]
theorem defers_put (a : Act) (n : Nat) (v : Value) : (a.put (some n) v).defers = a.defers := rfl
section
variable {P : Program} {ops : Array Oper} {Q : Exit → Act → World → Prop} {a : Act} {w : World} {rest : List Oper} {o : Oper} {v : Value}
theorem step_val (hw : Region.wanted o (yielded ops a.tmps) = true) (hx : (execOp a.eval o).run P w = .ok (.value v) w) (h : wpList P ops Q rest (a.put o.dst v) w) : wpList P ops Q (o :: rest) a w :=
  wpList_step fun K hK => by
    rw [if_pos hw]
    unfold Oper.wp
    rw [hx]
    exact hK _ _ h
theorem wanted_none (h : o.guard = none) : Region.wanted o (yielded ops a.tmps) = true := by unfold Region.wanted; rw [h]
theorem yielded_eq {g n : Nat} {t : Bool} (hg : (ops[g]?).bind (·.dst) = some n) (hn : n < a.tmps.size) (ht : a.eval (.tmp n) = .bool t) : yielded ops a.tmps g = some t := by
  unfold yielded
  rw [hg]
  simp only [Option.bind_some]
  have : a.tmps[n]? = some (.bool t) := by
    rw [Array.getElem?_eq_getElem hn]
    simp only [Act.eval, Array.getD_eq_getD_getElem?, Array.getElem?_eq_getElem hn, Option.getD_some] at ht
    rw [ht]
  rw [this]
theorem wanted_some {g n : Nat} {want t : Bool} (h : o.guard = some (g, want)) (hg : (ops[g]?).bind (·.dst) = some n) (hn : n < a.tmps.size) (ht : a.eval (.tmp n) = .bool t) : Region.wanted o (yielded ops a.tmps) = (t == want) := by
  unfold Region.wanted
  rw [h]
  simp only
  rw [yielded_eq hg hn ht]
  cases t <;> cases want <;> rfl
theorem run_move {ρ : Operand → Value} {x : Operand} (h : o.op = .move x) : (execOp ρ o).run P w = .ok (.value (ρ x)) w := by simp [execOp, h, go_sem]
theorem run_assign {ρ : Operand → Value} {x : Operand} (h : o.op = .assign x) : (execOp ρ o).run P w = .ok (.value (ρ x)) w := by simp [execOp, h, go_sem]
theorem run_pick {ρ : Operand → Value} {c x y : Operand} {t : Bool} (h : o.op = .pick c x y) (hc : ρ c = .bool t) : (execOp ρ o).run P w = .ok (.value (if t then ρ x else ρ y)) w := by simp [execOp, h, hc, go_sem]
end
/-- A frame of N slots in which slots 2 and 5 point to X and Y, and slot m holds the Bool t. -/
structure Fr (N X Y m : Nat) (t : Bool) (a : Act) : Prop where
  size : a.tmps.size = N
  defers : a.defers = []
  px : a.eval (.tmp 2) = .pointer (some ⟨X, 0, none⟩)
  py : a.eval (.tmp 5) = .pointer (some ⟨Y, 0, none⟩)
  ok : a.eval (.tmp m) = .bool t
theorem Fr.put {N X Y m : Nat} {t : Bool} {a : Act} (h : Fr N X Y m t a) (n : Nat) (v : Value) (h2 : n ≠ 2) (h5 : n ≠ 5) (hm : n ≠ m) : Fr N X Y m t (a.put (some n) v) :=
  ⟨by rw [size_put]; exact h.size, h.defers, by rw [eval_put_ne _ _ _ _ h2]; exact h.px, by rw [eval_put_ne _ _ _ _ h5]; exact h.py, by rw [eval_put_ne _ _ _ _ hm]; exact h.ok⟩
/-- An operation that is skipped: its guard does not hold. -/
theorem step_skip {P : Program} {ops : Array Oper} {Q : Exit → Act → World → Prop} {a : Act} {w : World} {rest : List Oper} {o : Oper} {g n : Nat} (hg0 : o.guard = some (g, true)) (hg : (ops[g]?).bind (·.dst) = some n) (hn : n < a.tmps.size) (ht : a.eval (.tmp n) = .bool false)
    (h : wpList P ops Q rest (a.put o.dst undef) w) : wpList P ops Q (o :: rest) a w := by
  refine wpList_skip ?_ h
  rw [wanted_some hg0 hg hn ht]
  rfl
theorem run_field {o : Oper} {ρ : Operand → Value} {w : World} {x : Operand} {f X : Nat} (h : o.op = .fieldAddr 48 x f) (hx : ρ x = .pointer (some ⟨X, 0, none⟩)) (hf : f < 9) : (execOp ρ o).run Try.prog w = .ok (.value (.pointer (some ⟨X, f, none⟩))) w := by
  have : f = 0 ∨ f = 1 ∨ f = 2 ∨ f = 3 ∨ f = 4 ∨ f = 5 ∨ f = 6 ∨ f = 7 ∨ f = 8 := by omega
  rcases this with rfl | rfl | rfl | rfl | rfl | rfl | rfl | rfl | rfl
  all_goals simp [execOp, h, hx, go_sem]
theorem run_load_int {o : Oper} {ρ : Operand → Value} {w : World} {x : Operand} {ad : Addr} {v : Int} {t : TypeId} (h : o.op = .load t x) (ht : t = 3 ∨ t = 2) (hx : ρ x = .pointer (some ad)) (hc : w.cell? ad = some (.int .i64 v)) : (execOp ρ o).run Try.prog w = .ok (.value (.int .i64 v)) w := by
  rcases ht with rfl | rfl
  all_goals simp [execOp, h, hx, hc, go_sem]
theorem run_load_slice {o : Oper} {ρ : Operand → Value} {w : World} {x : Operand} {ad : Addr} {A : Option Addr} {n c : Nat} {t : TypeId} (h : o.op = .load t x) (ht : t = 46 ∨ t = 23) (hx : ρ x = .pointer (some ad)) (hc : w.cell? ad = some (.slice A n c)) : (execOp ρ o).run Try.prog w = .ok (.value (.slice A n c)) w := by
  rcases ht with rfl | rfl
  all_goals simp [execOp, h, hx, hc, go_sem]
theorem run_eql_int {o : Oper} {ρ : Operand → Value} {w : World} {x y : Operand} {u v : Int} {t s : TypeId} (h : o.op = .binOp .eql t x y s) (ht : t = 3 ∨ t = 2) (hx : ρ x = .int .i64 u) (hy : ρ y = .int .i64 v) : (execOp ρ o).run Try.prog w = .ok (.value (.bool (u == v))) w := by
  rcases ht with rfl | rfl
  all_goals simp [execOp, h, hx, hy, go_sem]
theorem run_len {o : Oper} {ρ : Operand → Value} {w : World} {x : Operand} {A : Option Addr} {n c : Nat} {t : TypeId} (h : o.op = .call { callee := .builtin .len, args := #[x], argTypes := #[t] }) (ht : t = 46 ∨ t = 23) (hx : ρ x = .slice A n c) : (execOp ρ o).run Try.prog w = .ok (.value (.int .i64 (n : Nat))) w := by
  rcases ht with rfl | rfl
  all_goals simp [execOp, h, hx, go_sem]
/-- 'ok && x.f == y.f', both numbers. -/
theorem cmp_int {ops : Array Oper} {Q : Exit → Act → World → Prop} {a : Act} {w : World} {rest : List Oper} {N X Y m : Nat} {t : Bool} (hF : Fr N X Y m t a) (n g f : Nat) (ty s : TypeId) (u v : Int)
    {o1 o2 o3 o4 o5 o6 o7 : Oper}
    (p1 : o1.op = .move (.tmp m)) (p2 : o2.op = .fieldAddr 48 (.tmp 2) f) (p3 : o3.op = .load ty (.tmp (n + 1))) (p4 : o4.op = .fieldAddr 48 (.tmp 5) f) (p5 : o5.op = .load ty (.tmp (n + 3))) (p6 : o6.op = .binOp .eql ty (.tmp (n + 2)) (.tmp (n + 4)) s) (p7 : o7.op = .pick (.tmp n) (.tmp (n + 5)) (.const (.bool false)))
    (d1 : o1.dst = some n) (d2 : o2.dst = some (n + 1)) (d3 : o3.dst = some (n + 2)) (d4 : o4.dst = some (n + 3)) (d5 : o5.dst = some (n + 4)) (d6 : o6.dst = some (n + 5)) (d7 : o7.dst = some (n + 6))
    (g1 : o1.guard = none) (g2 : o2.guard = some (g, true)) (g3 : o3.guard = some (g, true)) (g4 : o4.guard = some (g, true)) (g5 : o5.guard = some (g, true)) (g6 : o6.guard = some (g, true)) (g7 : o7.guard = none)
    (hg : (ops[g]?).bind (·.dst) = some n) (hn : 6 ≤ n) (hN : n + 6 < N) (hm : m < n) (hf : f < 9) (hty : ty = 3 ∨ ty = 2)
    (cx : w.cell? ⟨X, f, none⟩ = some (.int .i64 u)) (cy : w.cell? ⟨Y, f, none⟩ = some (.int .i64 v))
    (h : ∀ a', Fr N X Y (n + 6) (t && (u == v)) a' → wpList Try.prog ops Q rest a' w) : wpList Try.prog ops Q (o1 :: o2 :: o3 :: o4 :: o5 :: o6 :: o7 :: rest) a w := by
  refine step_val (wanted_none g1) (run_move p1) ?_
  rw [d1, hF.ok]
  have F1 := hF.put n (.bool t) (by omega) (by omega) (by omega)
  have t1 : (a.put (some n) (.bool t)).eval (.tmp n) = .bool t := eval_put_same _ _ _ (by rw [hF.size]; omega)
  generalize a.put (some n) (.bool t) = a1 at F1 t1 ⊢
  cases t with
  | false =>
    have sk : ∀ {a : Act} {rest : List Oper} {o : Oper} {k : Nat} (_ : o.guard = some (g, true)) (_ : o.dst = some k) (_ : n < k) (_ : Fr N X Y m false a) (_ : a.eval (.tmp n) = .bool false), (∀ a', Fr N X Y m false a' → a'.eval (.tmp n) = .bool false → wpList Try.prog ops Q rest a' w) → wpList Try.prog ops Q (o :: rest) a w := by
      intro a rest o k hg0 hd hk hF ht hr
      refine step_skip hg0 hg (by rw [hF.size]; omega) ht ?_
      rw [hd]
      exact hr _ (hF.put k _ (by omega) (by omega) (by omega)) (by rw [eval_put_ne _ _ _ _ (by omega)]; exact ht)
    refine sk g2 d2 (by omega) F1 t1 fun a2 F2 t2 => ?_
    refine sk g3 d3 (by omega) F2 t2 fun a3 F3 t3 => ?_
    refine sk g4 d4 (by omega) F3 t3 fun a4 F4 t4 => ?_
    refine sk g5 d5 (by omega) F4 t4 fun a5 F5 t5 => ?_
    refine sk g6 d6 (by omega) F5 t5 fun a6 F6 t6 => ?_
    refine step_val (wanted_none g7) (run_pick p7 t6) ?_
    rw [d7]
    refine h _ ⟨by rw [size_put]; exact F6.size, F6.defers, by rw [eval_put_ne _ _ _ _ (by omega)]; exact F6.px, by rw [eval_put_ne _ _ _ _ (by omega)]; exact F6.py, ?_⟩
    rw [eval_put_same _ _ _ (by rw [F6.size]; omega)]
    rfl
  | true =>
    have wn : ∀ {a : Act} {o : Oper} (_ : o.guard = some (g, true)) (_ : Fr N X Y m true a) (_ : a.eval (.tmp n) = .bool true), Region.wanted o (yielded ops a.tmps) = true := by
      intro a o hg0 hF ht
      rw [wanted_some hg0 hg (by rw [hF.size]; omega) ht]
      rfl
    refine step_val (wn g2 F1 t1) (run_field p2 F1.px hf) ?_
    rw [d2]
    have F2 := F1.put (n + 1) (.pointer (some ⟨X, f, none⟩)) (by omega) (by omega) (by omega)
    have e2 : (a1.put (some (n + 1)) (.pointer (some ⟨X, f, none⟩))).eval (.tmp (n + 1)) = .pointer (some ⟨X, f, none⟩) := eval_put_same _ _ _ (by rw [F1.size]; omega)
    have t2 : (a1.put (some (n + 1)) (.pointer (some ⟨X, f, none⟩))).eval (.tmp n) = .bool true := by rw [eval_put_ne _ _ _ _ (by omega)]; exact t1
    generalize a1.put (some (n + 1)) (.pointer (some ⟨X, f, none⟩)) = a2 at F2 e2 t2 ⊢
    refine step_val (wn g3 F2 t2) (run_load_int p3 hty e2 cx) ?_
    rw [d3]
    have F3 := F2.put (n + 2) (.int .i64 u) (by omega) (by omega) (by omega)
    have e3 : (a2.put (some (n + 2)) (.int .i64 u)).eval (.tmp (n + 2)) = .int .i64 u := eval_put_same _ _ _ (by rw [F2.size]; omega)
    have t3 : (a2.put (some (n + 2)) (.int .i64 u)).eval (.tmp n) = .bool true := by rw [eval_put_ne _ _ _ _ (by omega)]; exact t2
    generalize a2.put (some (n + 2)) (.int .i64 u) = a3 at F3 e3 t3 ⊢
    refine step_val (wn g4 F3 t3) (run_field p4 F3.py hf) ?_
    rw [d4]
    have F4 := F3.put (n + 3) (.pointer (some ⟨Y, f, none⟩)) (by omega) (by omega) (by omega)
    have e4 : (a3.put (some (n + 3)) (.pointer (some ⟨Y, f, none⟩))).eval (.tmp (n + 3)) = .pointer (some ⟨Y, f, none⟩) := eval_put_same _ _ _ (by rw [F3.size]; omega)
    have e3' : (a3.put (some (n + 3)) (.pointer (some ⟨Y, f, none⟩))).eval (.tmp (n + 2)) = .int .i64 u := by rw [eval_put_ne _ _ _ _ (by omega)]; exact e3
    have t4 : (a3.put (some (n + 3)) (.pointer (some ⟨Y, f, none⟩))).eval (.tmp n) = .bool true := by rw [eval_put_ne _ _ _ _ (by omega)]; exact t3
    generalize a3.put (some (n + 3)) (.pointer (some ⟨Y, f, none⟩)) = a4 at F4 e4 e3' t4 ⊢
    refine step_val (wn g5 F4 t4) (run_load_int p5 hty e4 cy) ?_
    rw [d5]
    have F5 := F4.put (n + 4) (.int .i64 v) (by omega) (by omega) (by omega)
    have e5 : (a4.put (some (n + 4)) (.int .i64 v)).eval (.tmp (n + 4)) = .int .i64 v := eval_put_same _ _ _ (by rw [F4.size]; omega)
    have e3'' : (a4.put (some (n + 4)) (.int .i64 v)).eval (.tmp (n + 2)) = .int .i64 u := by rw [eval_put_ne _ _ _ _ (by omega)]; exact e3'
    have t5 : (a4.put (some (n + 4)) (.int .i64 v)).eval (.tmp n) = .bool true := by rw [eval_put_ne _ _ _ _ (by omega)]; exact t4
    generalize a4.put (some (n + 4)) (.int .i64 v) = a5 at F5 e5 e3'' t5 ⊢
    refine step_val (wn g6 F5 t5) (run_eql_int p6 hty e3'' e5) ?_
    rw [d6]
    have F6 := F5.put (n + 5) (.bool (u == v)) (by omega) (by omega) (by omega)
    have e6 : (a5.put (some (n + 5)) (.bool (u == v))).eval (.tmp (n + 5)) = .bool (u == v) := eval_put_same _ _ _ (by rw [F5.size]; omega)
    have t6 : (a5.put (some (n + 5)) (.bool (u == v))).eval (.tmp n) = .bool true := by rw [eval_put_ne _ _ _ _ (by omega)]; exact t5
    generalize a5.put (some (n + 5)) (.bool (u == v)) = a6 at F6 e6 t6 ⊢
    refine step_val (wanted_none g7) (run_pick p7 t6) ?_
    rw [d7]
    refine h _ ⟨by rw [size_put]; exact F6.size, F6.defers, by rw [eval_put_ne _ _ _ _ (by omega)]; exact F6.px, by rw [eval_put_ne _ _ _ _ (by omega)]; exact F6.py, ?_⟩
    rw [eval_put_same _ _ _ (by rw [F6.size]; omega)]
    simp only [if_true, Bool.true_and]
    exact e6
/-- 'ok && len(x.f) == len(y.f)'. -/
theorem cmp_len {ops : Array Oper} {Q : Exit → Act → World → Prop} {a : Act} {w : World} {rest : List Oper} {N X Y m : Nat} {t : Bool} (hF : Fr N X Y m t a) (n g f : Nat) (ty s : TypeId) (u v : Nat) (A B : Option Addr) (c d : Nat)
    {o1 o2 o3 o4 o5 o6 o7 o8 o9 : Oper}
    (p1 : o1.op = .move (.tmp m)) (p2 : o2.op = .fieldAddr 48 (.tmp 2) f) (p3 : o3.op = .load ty (.tmp (n + 1))) (p4 : o4.op = .call { callee := .builtin .len, args := #[.tmp (n + 2)], argTypes := #[ty] }) (p5 : o5.op = .fieldAddr 48 (.tmp 5) f) (p6 : o6.op = .load ty (.tmp (n + 4))) (p7 : o7.op = .call { callee := .builtin .len, args := #[.tmp (n + 5)], argTypes := #[ty] }) (p8 : o8.op = .binOp .eql 3 (.tmp (n + 3)) (.tmp (n + 6)) s) (p9 : o9.op = .pick (.tmp n) (.tmp (n + 7)) (.const (.bool false)))
    (d1 : o1.dst = some n) (d2 : o2.dst = some (n + 1)) (d3 : o3.dst = some (n + 2)) (d4 : o4.dst = some (n + 3)) (d5 : o5.dst = some (n + 4)) (d6 : o6.dst = some (n + 5)) (d7 : o7.dst = some (n + 6)) (d8 : o8.dst = some (n + 7)) (d9 : o9.dst = some (n + 8))
    (g1 : o1.guard = none) (g2 : o2.guard = some (g, true)) (g3 : o3.guard = some (g, true)) (g4 : o4.guard = some (g, true)) (g5 : o5.guard = some (g, true)) (g6 : o6.guard = some (g, true)) (g7 : o7.guard = some (g, true)) (g8 : o8.guard = some (g, true)) (g9 : o9.guard = none)
    (hg : (ops[g]?).bind (·.dst) = some n) (hn : 6 ≤ n) (hN : n + 8 < N) (hm : m < n) (hf : f < 9) (hty : ty = 46 ∨ ty = 23)
    (cx : w.cell? ⟨X, f, none⟩ = some (.slice A u c)) (cy : w.cell? ⟨Y, f, none⟩ = some (.slice B v d))
    (h : ∀ a', Fr N X Y (n + 8) (t && ((u : Int) == (v : Int))) a' → wpList Try.prog ops Q rest a' w) : wpList Try.prog ops Q (o1 :: o2 :: o3 :: o4 :: o5 :: o6 :: o7 :: o8 :: o9 :: rest) a w := by
  refine step_val (wanted_none g1) (run_move p1) ?_
  rw [d1, hF.ok]
  have F1 := hF.put n (.bool t) (by omega) (by omega) (by omega)
  have t1 : (a.put (some n) (.bool t)).eval (.tmp n) = .bool t := eval_put_same _ _ _ (by rw [hF.size]; omega)
  generalize a.put (some n) (.bool t) = a1 at F1 t1 ⊢
  cases t with
  | false =>
    have sk : ∀ {a : Act} {rest : List Oper} {o : Oper} {k : Nat} (_ : o.guard = some (g, true)) (_ : o.dst = some k) (_ : n < k) (_ : Fr N X Y m false a) (_ : a.eval (.tmp n) = .bool false), (∀ a', Fr N X Y m false a' → a'.eval (.tmp n) = .bool false → wpList Try.prog ops Q rest a' w) → wpList Try.prog ops Q (o :: rest) a w := by
      intro a rest o k hg0 hd hk hF ht hr
      refine step_skip hg0 hg (by rw [hF.size]; omega) ht ?_
      rw [hd]
      exact hr _ (hF.put k _ (by omega) (by omega) (by omega)) (by rw [eval_put_ne _ _ _ _ (by omega)]; exact ht)
    refine sk g2 d2 (by omega) F1 t1 fun a2 F2 t2 => ?_
    refine sk g3 d3 (by omega) F2 t2 fun a3 F3 t3 => ?_
    refine sk g4 d4 (by omega) F3 t3 fun a4 F4 t4 => ?_
    refine sk g5 d5 (by omega) F4 t4 fun a5 F5 t5 => ?_
    refine sk g6 d6 (by omega) F5 t5 fun a6 F6 t6 => ?_
    refine sk g7 d7 (by omega) F6 t6 fun a7 F7 t7 => ?_
    refine sk g8 d8 (by omega) F7 t7 fun a8 F8 t8 => ?_
    refine step_val (wanted_none g9) (run_pick p9 t8) ?_
    rw [d9]
    refine h _ ⟨by rw [size_put]; exact F8.size, F8.defers, by rw [eval_put_ne _ _ _ _ (by omega)]; exact F8.px, by rw [eval_put_ne _ _ _ _ (by omega)]; exact F8.py, ?_⟩
    rw [eval_put_same _ _ _ (by rw [F8.size]; omega)]
    rfl
  | true =>
    have wn : ∀ {a : Act} {o : Oper} (_ : o.guard = some (g, true)) (_ : Fr N X Y m true a) (_ : a.eval (.tmp n) = .bool true), Region.wanted o (yielded ops a.tmps) = true := by
      intro a o hg0 hF ht
      rw [wanted_some hg0 hg (by rw [hF.size]; omega) ht]
      rfl
    refine step_val (wn g2 F1 t1) (run_field p2 F1.px hf) ?_
    rw [d2]
    have F2 := F1.put (n + 1) (.pointer (some ⟨X, f, none⟩)) (by omega) (by omega) (by omega)
    have e2 : (a1.put (some (n + 1)) (.pointer (some ⟨X, f, none⟩))).eval (.tmp (n + 1)) = .pointer (some ⟨X, f, none⟩) := eval_put_same _ _ _ (by rw [F1.size]; omega)
    have t2 : (a1.put (some (n + 1)) (.pointer (some ⟨X, f, none⟩))).eval (.tmp n) = .bool true := by rw [eval_put_ne _ _ _ _ (by omega)]; exact t1
    generalize a1.put (some (n + 1)) (.pointer (some ⟨X, f, none⟩)) = a2 at F2 e2 t2 ⊢
    refine step_val (wn g3 F2 t2) (run_load_slice p3 hty e2 cx) ?_
    rw [d3]
    have F3 := F2.put (n + 2) (.slice A u c) (by omega) (by omega) (by omega)
    have e3 : (a2.put (some (n + 2)) (.slice A u c)).eval (.tmp (n + 2)) = .slice A u c := eval_put_same _ _ _ (by rw [F2.size]; omega)
    have t3 : (a2.put (some (n + 2)) (.slice A u c)).eval (.tmp n) = .bool true := by rw [eval_put_ne _ _ _ _ (by omega)]; exact t2
    generalize a2.put (some (n + 2)) (.slice A u c) = a3 at F3 e3 t3 ⊢
    refine step_val (wn g4 F3 t3) (run_len p4 hty e3) ?_
    rw [d4]
    have F4 := F3.put (n + 3) (.int .i64 (u : Nat)) (by omega) (by omega) (by omega)
    have e4 : (a3.put (some (n + 3)) (.int .i64 (u : Nat))).eval (.tmp (n + 3)) = .int .i64 (u : Nat) := eval_put_same _ _ _ (by rw [F3.size]; omega)
    have t4 : (a3.put (some (n + 3)) (.int .i64 (u : Nat))).eval (.tmp n) = .bool true := by rw [eval_put_ne _ _ _ _ (by omega)]; exact t3
    generalize a3.put (some (n + 3)) (.int .i64 (u : Nat)) = a4 at F4 e4 t4 ⊢
    refine step_val (wn g5 F4 t4) (run_field p5 F4.py hf) ?_
    rw [d5]
    have F5 := F4.put (n + 4) (.pointer (some ⟨Y, f, none⟩)) (by omega) (by omega) (by omega)
    have e5 : (a4.put (some (n + 4)) (.pointer (some ⟨Y, f, none⟩))).eval (.tmp (n + 4)) = .pointer (some ⟨Y, f, none⟩) := eval_put_same _ _ _ (by rw [F4.size]; omega)
    have t5 : (a4.put (some (n + 4)) (.pointer (some ⟨Y, f, none⟩))).eval (.tmp n) = .bool true := by rw [eval_put_ne _ _ _ _ (by omega)]; exact t4
    have k6 : (a4.put (some (n + 4)) (.pointer (some ⟨Y, f, none⟩))).eval (.tmp (n + 3)) = .int .i64 (u : Nat) := by rw [eval_put_ne _ _ _ _ (by omega)]; exact e4
    generalize a4.put (some (n + 4)) (.pointer (some ⟨Y, f, none⟩)) = a5 at F5 e5 t5 k6 ⊢
    refine step_val (wn g6 F5 t5) (run_load_slice p6 hty e5 cy) ?_
    rw [d6]
    have F6 := F5.put (n + 5) (.slice B v d) (by omega) (by omega) (by omega)
    have e6 : (a5.put (some (n + 5)) (.slice B v d)).eval (.tmp (n + 5)) = .slice B v d := eval_put_same _ _ _ (by rw [F5.size]; omega)
    have t6 : (a5.put (some (n + 5)) (.slice B v d)).eval (.tmp n) = .bool true := by rw [eval_put_ne _ _ _ _ (by omega)]; exact t5
    have k7 : (a5.put (some (n + 5)) (.slice B v d)).eval (.tmp (n + 3)) = .int .i64 (u : Nat) := by rw [eval_put_ne _ _ _ _ (by omega)]; exact k6
    generalize a5.put (some (n + 5)) (.slice B v d) = a6 at F6 e6 t6 k7 ⊢
    refine step_val (wn g7 F6 t6) (run_len p7 hty e6) ?_
    rw [d7]
    have F7 := F6.put (n + 6) (.int .i64 (v : Nat)) (by omega) (by omega) (by omega)
    have e7 : (a6.put (some (n + 6)) (.int .i64 (v : Nat))).eval (.tmp (n + 6)) = .int .i64 (v : Nat) := eval_put_same _ _ _ (by rw [F6.size]; omega)
    have t7 : (a6.put (some (n + 6)) (.int .i64 (v : Nat))).eval (.tmp n) = .bool true := by rw [eval_put_ne _ _ _ _ (by omega)]; exact t6
    have k8 : (a6.put (some (n + 6)) (.int .i64 (v : Nat))).eval (.tmp (n + 3)) = .int .i64 (u : Nat) := by rw [eval_put_ne _ _ _ _ (by omega)]; exact k7
    generalize a6.put (some (n + 6)) (.int .i64 (v : Nat)) = a7 at F7 e7 t7 k8 ⊢
    refine step_val (wn g8 F7 t7) (run_eql_int p8 (.inl rfl) k8 e7) ?_
    rw [d8]
    have F8 := F7.put (n + 7) (.bool ((u : Int) == (v : Int))) (by omega) (by omega) (by omega)
    have e8 : (a7.put (some (n + 7)) (.bool ((u : Int) == (v : Int)))).eval (.tmp (n + 7)) = .bool ((u : Int) == (v : Int)) := eval_put_same _ _ _ (by rw [F7.size]; omega)
    have t8 : (a7.put (some (n + 7)) (.bool ((u : Int) == (v : Int)))).eval (.tmp n) = .bool true := by rw [eval_put_ne _ _ _ _ (by omega)]; exact t7
    generalize a7.put (some (n + 7)) (.bool ((u : Int) == (v : Int))) = a8 at F8 e8 t8 ⊢
    refine step_val (wanted_none g9) (run_pick p9 t8) ?_
    rw [d9]
    refine h _ ⟨by rw [size_put]; exact F8.size, F8.defers, by rw [eval_put_ne _ _ _ _ (by omega)]; exact F8.px, by rw [eval_put_ne _ _ _ _ (by omega)]; exact F8.py, ?_⟩
    rw [eval_put_same _ _ _ (by rw [F8.size]; omega)]
    simp only [if_true, Bool.true_and]
    exact e8
theorem via_frame {P : Program} {code : Code} {Q : Exit → Act → World → Prop} {a : Act} {w : World} (F : Act → Prop) (hF : F a) (h : ∀ a', F a' → Code.wp P code Q a' w) : Code.wp P code Q a w := h a hF
end Go.Proofs.Ytjapcalndolamaa
