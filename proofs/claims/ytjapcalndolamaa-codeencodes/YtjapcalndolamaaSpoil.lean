/-
  Answers that are written over: what may be written over stays well-formed whatever else is written over, and nothing older is written; condition: the answer lies in rows from B on.
-/
import Derived.Test.YtjapcalndolamaaCat
import Derived.Test.YtjapcalndolamaaLabels
namespace Go.Proofs.Ytjapcalndolamaa
open Go.RowKit
/-- What appending one element does: new memory alone, or cells of the row behind its elements. -/
theorem run_append_sp {P : Program} (w : World) (B : Nat) (t ty e : TypeId) (i : TypeInfo) (z : Value) (size bytes : Nat) (ht : P.underlying t = some (.slice e)) (hi : P.info? e = some i) (hz : i.zero = some z) (hsize : i.size = size) (hby : i.bytes = bytes)
    (v : Value) (n : Nat) (xs : List Value) (hown : w.ownsRow B e size v n xs) (a : Addr) (c : Nat) (news : List Value) (hl : news.length = size) (hnews : ∀ j u, news[j]? = some u → w.cell? (a.add j) = some u) (h1 : ∀ u ∈ news, u.oneCell' = true)
    (h63 : n + 1 ≤ maxLen) (hbytes : (n + 1) * bytes ≤ 140737488355328) :
    ∃ v' w', (Builtin.append_ #[t, t] ty #[v, .slice (some a) 1 c]).run P w = .ok v' w' ∧ (w.grownBy w' none ∨ ∃ g cap cur, v = .slice (some ⟨g, 0, none⟩) n cap ∧ B ≤ g ∧ w.heap[g]? = some (.cells cur e (0, 0)) ∧ (n + 1) * size ≤ cur.size ∧
      w' = w.setRow g (cur.toList.take (n * size) ++ news ++ cur.toList.drop (n * size + size)).toArray) := by
  subst hsize
  subst hby
  have hsmall : n + 1 ≤ 9223372036854775807 := by simp only [maxLen] at h63; omega
  rcases hown.2 with ⟨rfl, rfl⟩ | ⟨g, cap, cur, rfl, hbg, hg, hnc, hcm, hcs, htake⟩
  · have hr := run_append_nil (P := P) w t ty e i z ht hi hz a 1 c news (by omega) hnews (by omega) (by omega) (by have hb := hbytes; simp only [Nat.zero_add] at hb; omega)
    exact ⟨_, _, hr, .inl ⟨rfl, rfl, rfl, by simp, fun k hk _ => Below.heap_alloc w.drew _ k hk⟩⟩
  · by_cases hroom : n + 1 ≤ cap
    · have hfit : n * i.size + news.length ≤ cur.size := by
        rw [hl, hcs]
        have := Nat.mul_le_mul_right i.size hroom
        rw [Nat.add_mul] at this
        omega
      have hr := run_append_room (P := P) w t ty e i ht hi g n cap cur hg a 1 c news (by omega) hnews h1 hroom hfit
      refine ⟨_, _, hr, .inr ⟨g, cap, cur, rfl, hbg, hg, by rw [Nat.add_mul]; omega, by rw [hl]⟩⟩
    · have holds : ∀ j u, xs[j]? = some u → w.cell? ((⟨g, 0, none⟩ : Addr).add j) = some u := hown.cells (g := g) rfl
      have hr := run_append_grow (P := P) w t ty e i z ht hi hz ⟨g, 0, none⟩ n cap xs hown.1 holds a 1 c news (by omega) hnews (by omega) (by omega) (growslice_fits (by omega) hbytes)
      exact ⟨_, _, hr, .inl ⟨rfl, rfl, rfl, by simp, fun k hk _ => Below.heap_alloc w.drew _ k hk⟩⟩
theorem wpList_append_sp {ops : Array Oper} {rest : List Oper} {o : Oper} {aa : Act} {Q : Exit → Act → World → Prop} (w : World) (hgd : o.guard = none) (s x : Operand) (t : TypeId) (ho : o.op = .call { callee := .builtin .append, args := #[s, x], argTypes := #[t, t] })
    (B : Nat) (e : TypeId) (i : TypeInfo) (z : Value) (size bytes : Nat) (ht : Try.prog.underlying t = some (.slice e)) (hi : Try.prog.info? e = some i) (hz : i.zero = some z) (hsize : i.size = size) (hby : i.bytes = bytes)
    (v : Value) (n : Nat) (xs : List Value) (hs : aa.eval s = v) (hown : w.ownsRow B e size v n xs) (a : Addr) (c : Nat) (news : List Value) (hx : aa.eval x = .slice (some a) 1 c) (hl : news.length = size) (hnews : ∀ j u, news[j]? = some u → w.cell? (a.add j) = some u) (h1 : ∀ u ∈ news, u.oneCell' = true)
    (h63 : n + 1 ≤ maxLen) (hbytes : (n + 1) * bytes ≤ 140737488355328)
    (h : ∀ v' w', (w.grownBy w' none ∨ ∃ g cap cur, v = .slice (some ⟨g, 0, none⟩) n cap ∧ B ≤ g ∧ w.heap[g]? = some (.cells cur e (0, 0)) ∧ (n + 1) * size ≤ cur.size ∧
      w' = w.setRow g (cur.toList.take (n * size) ++ news ++ cur.toList.drop (n * size + size)).toArray) → wpList Try.prog ops Q rest (aa.put o.dst v') w') : wpList Try.prog ops Q (o :: rest) aa w :=
  wpList_plain hgd fun K hK => by
    obtain ⟨v', w', hr, h2⟩ := run_append_sp (P := Try.prog) w B t o.type e i z size bytes ht hi hz hsize hby v n xs hown a c news hl hnews h1 h63 hbytes
    unfold Oper.wp execOp
    simp only [ho, resolve, invoke, builtin, Sem.run_bind, Sem.run_pure, Result.andThen_ok, List.map_toArray, List.map_cons, List.map_nil, hs, hx, hr]
    exact hK _ _ (h v' w' h2)
/-- Rows of instructions and of numbers, from B on, are written over; nothing older is. -/
structure Spoil (B : Nat) (w w' : World) : Prop where
  os : w'.os = w.os
  tape : w'.tape = w.tape
  output : w'.output = w.output
  size : w.heap.size ≤ w'.heap.size
  old : ∀ k : Nat, k < B → k < w.heap.size → w'.heap[k]? = w.heap[k]?
  ints : ∀ (g : Nat) (cur : Array Value), w.heap[g]? = some (.cells cur 3 (0, 0)) → ∃ cur' : Array Value, w'.heap[g]? = some (.cells cur' 3 (0, 0)) ∧ cur'.size = cur.size
  rows : ∀ (g : Nat) (cur : Array Value), w.heap[g]? = some (.cells cur 48 (0, 0)) → ∃ cur' : Array Value, w'.heap[g]? = some (.cells cur' 48 (0, 0)) ∧ cur'.size = cur.size ∧
    ∀ i : Nat, (∀ j : Nat, j < 9 → cur'[i * 9 + j]? = cur[i * 9 + j]?) ∨ (∃ op : Int, ∀ j : Nat, j < 9 → cur'[i * 9 + j]? = (item9 (M.hd0 op) (.slice none 0 0) (.slice none 0 0) (.slice none 0 0))[j]?)
theorem Spoil.refl (B : Nat) (w : World) : Spoil B w w := ⟨rfl, rfl, rfl, Nat.le_refl _, fun _ _ _ => rfl, fun _ cur h => ⟨cur, h, rfl⟩, fun _ cur h => ⟨cur, h, rfl, fun _ => .inl fun _ _ => rfl⟩⟩
theorem Spoil.trans {B : Nat} {a b c : World} (h : Spoil B a b) (k : Spoil B b c) : Spoil B a c := by
  refine ⟨k.os.trans h.os, k.tape.trans h.tape, k.output.trans h.output, Nat.le_trans h.size k.size, fun i hi hi2 => (k.old i hi (Nat.lt_of_lt_of_le hi2 h.size)).trans (h.old i hi hi2), fun g cur hg => ?_, fun g cur hg => ?_⟩
  · obtain ⟨c1, h1, h2⟩ := h.ints g cur hg
    obtain ⟨c2, k1, k2⟩ := k.ints g c1 h1
    exact ⟨c2, k1, k2.trans h2⟩
  · obtain ⟨c1, h1, h2, h3⟩ := h.rows g cur hg
    obtain ⟨c2, k1, k2, k3⟩ := k.rows g c1 h1
    refine ⟨c2, k1, k2.trans h2, fun i => ?_⟩
    rcases k3 i with q | q
    · rcases h3 i with r | ⟨op, r⟩
      · exact .inl fun j hj => (q j hj).trans (r j hj)
      · exact .inr ⟨op, fun j hj => (q j hj).trans (r j hj)⟩
    · exact .inr q
theorem Spoil.below {B : Nat} {w w' : World} (h : Spoil B w w') (hB : B ≤ w.heap.size) : Below B w w' := ⟨h.os, h.tape, h.output, h.size, fun k hk => h.old k hk (by omega)⟩
theorem Spoil.new {B : Nat} {w w' : World} (h : Below w.heap.size w w') : Spoil B w w' :=
  ⟨h.os, h.tape, h.output, h.size, fun k _ hk => h.block k hk, fun g cur hg => ⟨cur, by rw [h.block g (Array.getElem?_eq_some_iff.1 hg).1]; exact hg, rfl⟩, fun g cur hg => ⟨cur, by rw [h.block g (Array.getElem?_eq_some_iff.1 hg).1]; exact hg, rfl, fun _ => .inl fun _ _ => rfl⟩⟩
/-- A row of numbers is written over. -/
theorem Spoil.int {B : Nat} {w w' : World} {g : Nat} {cur cur' : Array Value} (hg : w.heap[g]? = some (.cells cur 3 (0, 0))) (hB : B ≤ g) (ho : w'.os = w.os ∧ w'.tape = w.tape ∧ w'.output = w.output ∧ w.heap.size ≤ w'.heap.size) (h1 : w'.heap[g]? = some (.cells cur' 3 (0, 0))) (hs : cur'.size = cur.size) (h2 : ∀ k, k ≠ g → k < w.heap.size → w'.heap[k]? = w.heap[k]?) : Spoil B w w' := by
  refine ⟨ho.1, ho.2.1, ho.2.2.1, ho.2.2.2, fun k hk hk2 => h2 k (by omega) hk2, fun g' c' hg' => ?_, fun g' c' hg' => ?_⟩
  · by_cases e : g' = g
    · subst e
      rw [hg] at hg'
      cases hg'
      exact ⟨cur', h1, hs⟩
    · exact ⟨c', by rw [h2 g' e (Array.getElem?_eq_some_iff.1 hg').1]; exact hg', rfl⟩
  · by_cases e : g' = g
    · subst e
      rw [hg] at hg'
      injection hg' with hg'
      injection hg' with _ hg'
      exact absurd hg' (by decide)
    · exact ⟨c', by rw [h2 g' e (Array.getElem?_eq_some_iff.1 hg').1]; exact hg', rfl, fun _ => .inl fun _ _ => rfl⟩
/-- A row of instructions is written over at one of them. -/
theorem Spoil.row {B : Nat} {w w' : World} {g : Nat} {cur cur' : Array Value} (i : Nat) (op : Int) (hg : w.heap[g]? = some (.cells cur 48 (0, 0))) (hB : B ≤ g) (ho : w'.os = w.os ∧ w'.tape = w.tape ∧ w'.output = w.output ∧ w.heap.size ≤ w'.heap.size) (h1 : w'.heap[g]? = some (.cells cur' 48 (0, 0))) (hs : cur'.size = cur.size)
    (hi : ∀ j, j < 9 → cur'[i * 9 + j]? = (item9 (M.hd0 op) (.slice none 0 0) (.slice none 0 0) (.slice none 0 0))[j]?) (hn : ∀ k, (k < i * 9 ∨ i * 9 + 9 ≤ k) → cur'[k]? = cur[k]?) (h2 : ∀ k, k ≠ g → k < w.heap.size → w'.heap[k]? = w.heap[k]?) : Spoil B w w' := by
  refine ⟨ho.1, ho.2.1, ho.2.2.1, ho.2.2.2, fun k hk hk2 => h2 k (by omega) hk2, fun g' c' hg' => ?_, fun g' c' hg' => ?_⟩
  · by_cases e : g' = g
    · subst e
      rw [hg] at hg'
      injection hg' with hg'
      injection hg' with _ hg'
      exact absurd hg' (by decide)
    · exact ⟨c', by rw [h2 g' e (Array.getElem?_eq_some_iff.1 hg').1]; exact hg', rfl⟩
  · by_cases e : g' = g
    · subst e
      rw [hg] at hg'
      cases hg'
      refine ⟨cur', h1, hs, fun i' => ?_⟩
      by_cases ei : i' = i
      · subst ei; exact .inr ⟨op, hi⟩
      · exact .inl fun j hj => hn _ (by omega)
    · exact ⟨c', by rw [h2 g' e (Array.getElem?_eq_some_iff.1 hg').1]; exact hg', rfl, fun _ => .inl fun _ _ => rfl⟩
def NWF (B : Nat) (w : World) (v : Value) : Prop := ∃ k xs, w.ownsRow B 3 1 v k xs ∧ k ≤ 100000
def WF (B : Nat) (w : World) : Nat → Value → Prop
  | 0, _ => False
  | n + 1, v => ∃ k xs, w.ownsRow B 48 9 v k xs ∧ k ≤ 100000 ∧ ∀ i, i < k → ∃ vL vB vE, xs[i * 9 + 6]? = some vL ∧ xs[i * 9 + 7]? = some vB ∧ xs[i * 9 + 8]? = some vE ∧ NWF B w vL ∧ WF B w n vB ∧ WF B w n vE
theorem nil_NWF (B : Nat) (w : World) : NWF B w (.slice none 0 0) := ⟨0, [], World.ownsRow_nil _ _ _ _, by omega⟩
theorem nil_WF (B : Nat) (w : World) (n : Nat) : WF B w (n + 1) (.slice none 0 0) := ⟨0, [], World.ownsRow_nil _ _ _ _, by omega, fun i hi => by omega⟩
theorem NWF.spoil {B : Nat} {w w' : World} {v : Value} (h : NWF B w v) (hs : Spoil B w w') : NWF B w' v := by
  obtain ⟨k, xs, h1, h2⟩ := h
  rcases h1.2 with ⟨rfl, rfl⟩ | ⟨g, cap, cur, rfl, hb, hg, h3, h4, h5, h6⟩
  · exact nil_NWF B w'
  · obtain ⟨cur', q1, q2⟩ := hs.ints g cur hg
    exact ⟨k, cur'.toList.take (k * 1), ⟨by simp [q2, h5]; omega, .inr ⟨g, cap, cur', rfl, hb, q1, h3, h4, by rw [q2]; exact h5, rfl⟩⟩, h2⟩
theorem WF.spoil {B : Nat} {w w' : World} (hs : Spoil B w w') : ∀ (n : Nat) {v : Value}, WF B w n v → WF B w' n v
  | 0, _, h => h
  | n + 1, v, h => by
    obtain ⟨k, xs, h1, h2, h7⟩ := h
    rcases h1.2 with ⟨rfl, rfl⟩ | ⟨g, cap, cur, rfl, hb, hg, h3, h4, h5, h6⟩
    · exact nil_WF B w' n
    · obtain ⟨cur', q1, q2, q3⟩ := hs.rows g cur hg
      have hlen : ∀ i j, i < k → j < 9 → i * 9 + j < k * 9 := fun i j hi hj => by omega
      refine ⟨k, cur'.toList.take (k * 9), ⟨by simp [q2, h5]; omega, .inr ⟨g, cap, cur', rfl, hb, q1, h3, h4, by rw [q2]; exact h5, rfl⟩⟩, h2, fun i hi => ?_⟩
      obtain ⟨vL, vB, vE, a1, a2, a3, b1, b2, b3⟩ := h7 i hi
      have tk : ∀ j, j < 9 → (cur'.toList.take (k * 9))[i * 9 + j]? = cur'[i * 9 + j]? := fun j hj => by rw [List.getElem?_take_of_lt (hlen i j hi hj), Array.getElem?_toList]
      have tk0 : ∀ j, j < 9 → xs[i * 9 + j]? = cur[i * 9 + j]? := fun j hj => by rw [← h6, List.getElem?_take_of_lt (hlen i j hi hj), Array.getElem?_toList]
      rcases q3 i with r | ⟨op, r⟩
      · refine ⟨vL, vB, vE, ?_, ?_, ?_, b1.spoil hs, WF.spoil hs n b2, WF.spoil hs n b3⟩
        · rw [tk 6 (by omega), r 6 (by omega), ← tk0 6 (by omega)]; exact a1
        · rw [tk 7 (by omega), r 7 (by omega), ← tk0 7 (by omega)]; exact a2
        · rw [tk 8 (by omega), r 8 (by omega), ← tk0 8 (by omega)]; exact a3
      · have hn : ∃ m, n = m + 1 := by
          cases n with
          | zero => exact absurd b2 (by simp [WF])
          | succ m => exact ⟨m, rfl⟩
        obtain ⟨m, rfl⟩ := hn
        refine ⟨.slice none 0 0, .slice none 0 0, .slice none 0 0, ?_, ?_, ?_, nil_NWF B w', nil_WF B w' m, nil_WF B w' m⟩
        · rw [tk 6 (by omega), r 6 (by omega)]; rfl
        · rw [tk 7 (by omega), r 7 (by omega)]; rfl
        · rw [tk 8 (by omega), r 8 (by omega)]; rfl
theorem items_nth {w : World} {S : Nat → Prop} (l : M.L) : ∀ {xs : List Value} {i : Nat} {h : M.Hd} {b e : M.L}, Items w S l xs → l.nth i = some (h, b, e) →
    ∃ vL vB vE, xs[i * 9 + 6]? = some vL ∧ xs[i * 9 + 7]? = some vB ∧ xs[i * 9 + 8]? = some vE ∧ OwnN w S vL h.labels ∧ OwnL w S vB b ∧ OwnL w S vE e := by
  induction l with
  | nil => intro xs i h b e _ hn; cases hn
  | cons h' b' e' r _ _ ih =>
    rintro xs i h b e ⟨vL, vB, vE, ys, rfl, _, h3, h4, h5, h6⟩ hn
    cases i with
    | zero =>
      simp only [M.L.nth, Option.some.injEq, Prod.mk.injEq] at hn
      obtain ⟨rfl, rfl, rfl⟩ := hn
      exact ⟨vL, vB, vE, rfl, rfl, rfl, h3, h4, h5⟩
    | succ i =>
      obtain ⟨vL', vB', vE', a1, a2, a3, a4⟩ := ih h6 hn
      have sh : ∀ j, (item9 h' vL vB vE ++ ys)[(i + 1) * 9 + j]? = ys[i * 9 + j]? := fun j => by
        rw [List.getElem?_append_right (by simp [item9]; omega)]
        congr 1
        simp [item9]
        omega
      exact ⟨vL', vB', vE', by rw [sh]; exact a1, by rw [sh]; exact a2, by rw [sh]; exact a3, a4⟩
theorem own_WF {B : Nat} {w : World} {S : Nat → Prop} (hS : ∀ k, S k → B ≤ k) : ∀ (N : Nat) (l : M.L) (v : Value), l.sz < N → OwnL w S v l → WF B w N v := by
  intro N
  induction N with
  | zero => intro l v h; omega
  | succ N ih =>
    intro l v hl hown
    obtain ⟨xs, h1, h2, h3, h4⟩ := hown
    refine ⟨l.len, xs, ownsRow_base h1 (fun g hg => hS g (h2 g hg)), h3, fun i hi => ?_⟩
    obtain ⟨h, b, e, hn⟩ := M.nth_of hi
    obtain ⟨vL, vB, vE, a1, a2, a3, a4, a5, a6⟩ := items_nth l h4 hn
    have hsz := (M.nth_some hn).2
    exact ⟨vL, vB, vE, a1, a2, a3, ⟨_, _, ownsRow_base a4.row (fun g hg => hS g (a4.blk g hg)), a4.len⟩, ih b vB (by omega) a5, ih e vE (by omega) a6⟩
end Go.Proofs.Ytjapcalndolamaa
