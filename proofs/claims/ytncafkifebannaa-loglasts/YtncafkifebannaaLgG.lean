/-
  Bytes appended to a row that has room; lists of records in memory; what the log counts of records' room; condition: all lies in memory.
-/
import Derived.Test.YtncafkifebannaaLgF
import Derived.ArgAppend
namespace Go.Proofs.Ytncafkifebannaa
open Go.RowKit
theorem u8_parts : ∃ i, Try.prog.info? 5 = some i ∧ i.size = 1 := by
  obtain ⟨i0, hi0, _, hz1, _⟩ := info_parts u8_info
  exact ⟨i0, hi0, hz1⟩
theorem RowAt.push {w : World} {g C : Nat} {bs xs : List Nat} (h : RowAt w g C bs) (hfull : bs.length = C) (ty : TypeId) (j d : Nat) {U : Option Addr} (hU : BS w w.heap.size (.slice U xs.length d) xs) (hx : 0 < xs.length) (hroom : j + xs.length ≤ C) :
    ∃ w2, (Builtin.append_ #[37, 37] ty #[.slice (some ⟨g, 0, none⟩) j C, .slice U xs.length d]).run Try.prog w = .ok (.slice (some ⟨g, 0, none⟩) (j + xs.length) C) w2 ∧ RowAt w2 g C (M.lay bs j xs) ∧ But (· = g) w w2 := by
  obtain ⟨i0, hi0, hz1⟩ := u8_parts
  obtain ⟨cur, h1, h2, h3, h4, h5, h6⟩ := h
  have hU' := hU
  obtain ⟨U', d', e1, u1, u2, hB⟩ := hU'
  cases e1
  obtain ⟨ad, hA, _⟩ := hB 0 hx
  subst hA
  have hsrc : ∀ j v, (vals xs)[j]? = some v → w.cell? (ad.add j) = some v := fun j u hu => by
    have hj : j < xs.length := by
      have := (List.getElem?_eq_some_iff.1 hu).1
      rwa [vals_length] at this
    obtain ⟨ad', hA', _, _, hc⟩ := hB j hj
    injection hA' with hA'
    subst hA'
    rw [hc, ← hu, getD_vals _ _ hj]
  have hrun := run_append_room (P := Try.prog) w 37 ty 5 i0 Try.underlying37 hi0 g j C cur h1 ad xs.length d (vals xs) (by rw [vals_length, hz1]; omega) hsrc (vals_one _) hroom (by rw [vals_length, hz1]; omega)
  have hcur : cur.toList = vals bs ++ cur.toList.drop bs.length := by
    rw [← h5]; exact (List.take_append_drop _ _).symm
  have hs := vals_splice bs j xs (cur.toList.drop bs.length) (by omega)
  rw [← hcur] at hs
  have hL : (M.lay bs j xs).length = bs.length := M.lay_length (by omega)
  rw [hz1, Nat.mul_one, vals_length] at hrun
  refine ⟨_, hrun, ⟨_, setRow_heap w g cur _ _ _ h1, ?_, by rw [hL]; exact h3, h4, ?_, M.lay_lt h6 hU.lt⟩, ⟨rfl, rfl, rfl, by simp, fun k _ hk => setRow_other w g k _ hk⟩⟩
  · have := vals_length xs
    simp [this]
    omega
  · have hs' : List.take j cur.toList ++ vals xs ++ List.drop (j + xs.length) cur.toList = vals (M.lay bs j xs) ++ List.drop bs.length cur.toList := by
      rw [← hs]; unfold splice; rw [List.append_assoc, vals_length]
    rw [hs']
    exact List.take_left' (by rw [vals_length, hL])
theorem wpList_push {ops : Array Oper} {o : Oper} {rest : List Oper} {a : Act} {w : World} {Q : Exit → Act → World → Prop} (hgd : o.guard = none) (s x : Operand)
    (ho : o.op = .call { callee := .builtin .append, args := #[s, x], argTypes := #[37, 37] }) (g C j d : Nat) (U : Option Addr) (bs xs : List Nat) (hs : a.eval s = .slice (some ⟨g, 0, none⟩) j C) (hr : RowAt w g C bs) (hfull : bs.length = C)
    (hxv : a.eval x = .slice U xs.length d) (hU : BS w w.heap.size (.slice U xs.length d) xs) (h0 : 0 < xs.length) (hroom : j + xs.length ≤ C)
    (h : ∀ w', RowAt w' g C (M.lay bs j xs) → But (· = g) w w' → wpList Try.prog ops Q rest (a.put o.dst (.slice (some ⟨g, 0, none⟩) (j + xs.length) C)) w') : wpList Try.prog ops Q (o :: rest) a w :=
  wpList_plain hgd fun K hK => by
    obtain ⟨w2, hrun, h2, h3⟩ := hr.push hfull o.type j d hU h0 hroom
    unfold Oper.wp execOp
    simp only [ho, resolve, invoke, builtin, Sem.run_bind, Sem.run_pure, Result.andThen_ok, List.map_toArray, List.map_cons, List.map_nil, hs, hxv, hrun]
    exact hK _ _ (h w2 h2 h3)
/-- A slice of these bytes, in blocks of P. -/
def BSP (w : World) (P : Nat → Prop) (u : Value) (x : List Nat) : Prop :=
  ∃ A c, u = .slice A x.length c ∧ (x.length ≤ c ∧ c ≤ maxLen) ∧ ∀ i, i < x.length → ∃ ad, A = some ad ∧ P ad.block ∧ x.getD i 0 < 256 ∧ w.cell? (ad.add i) = some (.int .u8 ((x.getD i 0 : Nat) : Int))
/-- A slice of records, in blocks of P. -/
def Recs (w : World) (P : Nat → Prop) (v : Value) (rs : List (List Nat)) : Prop :=
  ∃ A c, v = .slice A rs.length c ∧ (rs.length ≤ c ∧ c ≤ maxLen) ∧ ∀ i x, rs[i]? = some x → ∃ ad u, A = some ad ∧ P ad.block ∧ w.cell? (ad.add i) = some u ∧ BSP w P u x
theorem BSP.to {w w' : World} {P Q : Nat → Prop} {u : Value} {x : List Nat} (h : BSP w P u x) (ha : ∀ b, P b → w'.heap[b]? = w.heap[b]?) (hQ : ∀ b, P b → Q b) : BSP w' Q u x := by
  obtain ⟨A, c, e, h1, h2⟩ := h
  refine ⟨A, c, e, h1, fun i hi => ?_⟩
  obtain ⟨ad, q1, q2, q3, q4⟩ := h2 i hi
  exact ⟨ad, q1, hQ _ q2, q3, (World.cell?_of_block (by rw [addr_block]; exact ha _ q2)).trans q4⟩
theorem BSP.bs {w : World} {P : Nat → Prop} {u : Value} {x : List Nat} (h : BSP w P u x) (hP : ∀ b, P b → b < w.heap.size) : BS w w.heap.size u x := by
  obtain ⟨A, c, e, h1, h2⟩ := h
  refine ⟨A, c, e, h1.1, h1.2, fun i hi => ?_⟩
  obtain ⟨ad, q1, q2, q3, q4⟩ := h2 i hi
  exact ⟨ad, q1, hP _ q2, q3, q4⟩
theorem Recs.to {w w' : World} {P Q : Nat → Prop} {v : Value} {rs : List (List Nat)} (h : Recs w P v rs) (ha : ∀ b, P b → w'.heap[b]? = w.heap[b]?) (hQ : ∀ b, P b → Q b) : Recs w' Q v rs := by
  obtain ⟨A, c, e, h1, h2⟩ := h
  refine ⟨A, c, e, h1, fun i x hx => ?_⟩
  obtain ⟨ad, u, q1, q2, q3, q4⟩ := h2 i x hx
  exact ⟨ad, u, q1, hQ _ q2, (World.cell?_of_block (by rw [addr_block]; exact ha _ q2)).trans q3, q4.to ha hQ⟩
/-- What records take of the room. -/
def M.room (rs : List (List Nat)) : Nat := (rs.map fun r => 16 + r.length).sum
theorem M.room_take (rs : List (List Nat)) (k : Nat) (x : List Nat) (h : rs[k]? = some x) : M.room (rs.take (k + 1)) = M.room (rs.take k) + (16 + x.length) := by
  unfold M.room
  rw [List.take_add_one, h]
  simp
theorem roomOf_any (w : World) (P : Nat → Prop) (v : Value) (rs : List (List Nat)) (h : Recs w P v rs) (hm : ∀ k, M.room (rs.take k) ≤ 1073741824) : Calls Try.prog 33 #[v] w fun e w' => e = .returned (.int .i64 ((M.room rs : Nat) : Int)) ∧ w' = w := by
  obtain ⟨A, c, rfl, h1, h2⟩ := h
  obtain ⟨n, hN⟩ : ∃ n, n = rs.length := ⟨_, rfl⟩
  rw [← hN] at h1 ⊢
  unfold maxLen at h1
  have hall := Lib.hid (show M.room (rs.take n) = M.room rs by rw [hN, List.take_length])
  replace hN := Lib.hid hN
  replace h2 := Lib.hid h2
  replace hm := Lib.hid hm
  go_enter Try.func33, Try.ntmps33
  go_wp2_with fail
  go_loopw [3, 8] (fun s i w' => ∃ k : Nat, k ≤ n ∧ i = .int .i64 k ∧ s = .int .i64 ((M.room (rs.take k) : Nat) : Int) ∧ w' = w) (fun _ i _ => n - (intOf i).toNat)
  case atStart => exact ⟨0, by omega, rfl, rfl, rfl⟩
  case round =>
    obtain ⟨k, hk, rfl, rfl, rfl⟩ := hrel
    by_cases hlt : k < n
    · have hx := List.getElem?_eq_getElem (show k < rs.length by rw [← hN.out]; exact hlt)
      obtain ⟨x, hxx⟩ : ∃ x, x = rs[k]'(by rw [← hN.out]; exact hlt) := ⟨_, rfl⟩
      rw [← hxx] at hx
      clear hxx
      obtain ⟨ad, u, rfl, _, q3, A2, c2, rfl, _⟩ := h2.out k x hx
      have hr := M.room_take rs k x hx
      have m1 := hm.out (k + 1)
      have t0 : (0 : Int) ≤ (k : Int) := by omega
      have t1 : (k : Int) < (n : Int) := by omega
      obtain ⟨R, hR⟩ : ∃ R, R = M.room (rs.take k) := ⟨_, rfl⟩
      rw [← hR] at hr ⊢
      have hr' : Unit → M.room (rs.take (k + 1)) = R + (16 + x.length) := fun _ => hr
      have m2 : R + (16 + x.length) ≤ 1073741824 := by omega
      clear hr m1 hR hx
      go_wp2_with fail
      refine ⟨⟨k + 1, by omega, by go_num, congrArg (Value.int .i64) (by rw [hr' ()]; push_cast; omega), by first | rfl | trivial⟩, by simp [intOf]; omega⟩
    · obtain rfl : k = n := by omega
      go_wp2_with fail
      go_ret
      exact ⟨ret_int (by rw [hall.out]), by first | rfl | trivial⟩
end Go.Proofs.Ytncafkifebannaa
