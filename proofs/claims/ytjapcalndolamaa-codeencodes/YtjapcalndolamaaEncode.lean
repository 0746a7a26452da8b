/-
  What Encode answers: the bytes of instructions that may be, in new memory, or it refuses; condition: the instructions lie in memory that was there at the call, and their bytes are no more than a million.
-/
import Derived.Test.YtjapcalndolamaaWrList
namespace Go.Proofs.Ytjapcalndolamaa
open Go.RowKit
set_option maxRecDepth 100000 in
set_option maxHeartbeats 4000000 in
theorem newText_any (w : World) : Calls Try.prog 34 #[] w fun e w' => e = .returned (.pointer (some ⟨w.heap.size, 0, none⟩)) ∧ TextAt w.heap.size w' w.heap.size [] ∧ Below w.heap.size w w' := by
  go_enter Try.func34, Try.ntmps34
  go_wp2_with fail
  go_ret
  exact ⟨rfl, ⟨.slice none 0 0, ⟨Nat.le_refl _, heap_alloc_new w _, World.ownsRow_nil _ _ _ _, by simp, fun b hb => by cases hb⟩⟩, (Below.refl _ _).alloc (Nat.le_refl _) _⟩
/-- The bytes that Encode tells. -/
def EncPost (l : M.L) (w : World) (e : Ending) (w' : World) : Prop :=
  ∃ u, e = .returned (.tuple #[u, .int .i64 0]) ∧ w'.ownsRow w.heap.size 5 1 u (M.enc l ++ [11]).length (vals (M.enc l ++ [11])) ∧ BS w' w'.heap.size u (M.enc l ++ [11]) ∧ Below w.heap.size w w'
set_option maxRecDepth 100000 in
set_option maxHeartbeats 4000000 in
theorem Encode_yes (l : M.L) (v : Value) (w : World) (hl : LB w v l) (hok : M.ok 40 l) (hlen : (M.enc l).length + 1 ≤ 1000000) : Calls Try.prog 21 #[v] w (EncPost l w) := by
  replace hl := Lib.hid hl
  replace hok := Lib.hid hok
  obtain ⟨A, c, rfl, _⟩ := LS.form hl.out
  go_enter Try.func21, Try.ntmps21
  go_wp2_with fail
  refine (areInstrs_yes l _ _ hl.out hok.out).mono ?_
  rintro e1 w1 ⟨rfl, b1⟩
  have l1 := Lib.hid (LS.later hl.out b1)
  replace b1 := Lib.hid b1
  go_wp2_with fail
  refine (newText_any _).mono ?_
  rintro e2 w2 ⟨rfl, t2, b2⟩
  have l2 := Lib.hid (show LS w2 (· < w1.heap.size) _ l from LS.agree l1.out (below_agree b2) (fun _ hk => hk))
  have d2 := Lib.hid (b1.out.trans (b2.mono b1.out.size))
  have e12 : w.heap.size ≤ w1.heap.size := b1.out.size
  replace t2 := Lib.hid t2
  clear b2
  go_wp2_with fail
  refine (tlist_any (l.sz + 1) w1.heap.size _ _ [] l _ 40 (Nat.lt_succ_self _) t2.out l2.out hok.out (by simp; omega)).mono ?_
  rintro e3 w3 ⟨rfl, t3, b3⟩
  have d3 := Lib.hid (d2.out.trans (b3.mono e12))
  rw [List.nil_append] at t3
  replace t3 := Lib.hid t3
  clear b3
  go_wp2_with fail
  refine (tfixed_any w1.heap.size _ _ _ 11 t3.out (by omega) hlen).mono ?_
  rintro e4 w4 ⟨rfl, ⟨vb, t4⟩, b4⟩
  have d4 := Lib.hid (d3.out.trans (b4.mono e12))
  have c0 := t4.cell.1
  have own4 := Lib.hid (show w4.ownsRow w.heap.size 5 1 vb (M.enc l ++ [11]).length (vals (M.enc l ++ [11])) from ownsRow_base t4.own (fun g hg => by have := (t4.ge g hg).1; omega))
  have bs4 := Lib.hid (own_BS t4.own t4.rng)
  replace t4 := Lib.hid t4
  clear b4
  go_wp2_with fail
  go_ret2
  exact ⟨vb, rfl, own4.out, bs4.out, d4.out⟩
set_option maxRecDepth 100000 in
theorem Encode_no (l : M.L) (v : Value) (w : World) (hl : LB w v l) (hok : ¬ M.ok 40 l) : Calls Try.prog 21 #[v] w fun e w' => e = .returned (.tuple #[.slice none 0 0, .int .i64 100]) ∧ Below w.heap.size w w' := by
  replace hl := Lib.hid hl
  replace hok := Lib.hid hok
  go_enter Try.func21, Try.ntmps21
  go_wp2_with fail
  refine (areInstrs_no l _ _ hl.out hok.out).mono ?_
  rintro e1 w1 ⟨rfl, b1⟩
  replace b1 := Lib.hid b1
  go_wp2_with fail
  go_ret2
  exact ⟨rfl, b1.out⟩
namespace M
theorem U_le (x : Int) : (U x).length ≤ 11 := (putU_length 10 x.toNat).2
theorem S_le (x : Int) : (S x).length ≤ 11 := (putS_length 10 x).2
theorem Us_len (xs : List Int) : (Us xs).length ≤ 11 * xs.length := by
  induction xs with
  | nil => simp [Us]
  | cons x t ih => simp only [Us, List.length_append, List.length_cons]; have := U_le x; omega
/-- The bytes are no more than so many times the weight. -/
theorem enc_len (l : L) : (enc l).length ≤ 40 * l.sz := by
  induction l with
  | nil => simp [enc, L.sz]
  | cons h b e r ihb ihe ihr =>
    rw [enc_cons]
    simp only [List.length_cons, List.length_append, L.sz]
    have h1 : (tailOf h b e).length ≤ 11 * h.labels.length + (enc b).length + (enc e).length + 35 := by
      unfold tailOf tailK
      have u1 := U_le h.ix
      have u2 := U_le h.al
      have u3 := U_le h.ofs
      have u4 := U_le (h.labels.length : Int)
      have u5 := Us_len h.labels
      have u6 := S_le h.val
      have u7 := els_len e
      split <;> (try simp only [List.length_cons, List.length_append, List.length_nil]) <;> omega
    omega
end M
end Go.Proofs.Ytjapcalndolamaa
