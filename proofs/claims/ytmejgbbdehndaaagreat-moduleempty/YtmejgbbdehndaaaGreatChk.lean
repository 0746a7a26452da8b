/-
  What the program's small functions answer that ask whether an instruction may be: a type, a number, which parts it fills, whether its numbers are in range; condition: the instruction lies in memory that was there at the call.
-/
import Derived.Test.YtmejgbbdehndaaaGreatSmall2
import Derived.Test.YtmejgbbdehndaaaGreatTools
namespace Go.Proofs.YtmejgbbdehndaaaGreat
open Go.RowKit
theorem isType_any (t : Int) (w : World) : Calls Tryz.prog 244 #[.int .i64 t] w fun e w' => e = .returned (.bool (decide (M.tyOk t))) ∧ w = w' := by
  by_cases h : M.tyOk t
  · have h' := h
    rcases h with rfl | rfl | rfl
    all_goals
      go_enter Tryz.func244, Tryz.ntmps244
      go_wp2
      go_ret
      exact ⟨by first | rfl | exact ret_bool (by decide), rfl⟩
  · have e1 : (t == 64) = false := by rw [beq_eq_false_iff_ne]; intro e; exact h (.inl e)
    have e2 : (t == 127) = false := by rw [beq_eq_false_iff_ne]; intro e; exact h (.inr (.inl e))
    have e3 : (t == 126) = false := by rw [beq_eq_false_iff_ne]; intro e; exact h (.inr (.inr e))
    replace h := Lib.hid h
    go_enter Tryz.func244, Tryz.ntmps244
    go_wp2
    go_ret
    exact ⟨ret_bool (by simp [h.out]), rfl⟩
def widthOf (op : Int) : Int := if op = 65 then 32 else 64
theorem width_any (op : Int) (w : World) : Calls Tryz.prog 265 #[.int .i64 op] w fun e w' => e = .returned (.int .i64 (widthOf op)) ∧ w = w' := by
  by_cases h : op = 65
  · subst h
    go_enter Tryz.func265, Tryz.ntmps265
    go_wp2
    go_ret
    exact ⟨rfl, rfl⟩
  · have e1 : (op == 65) = false := by rw [beq_eq_false_iff_ne]; exact h
    have H := Lib.hid (show (64 : Int) = widthOf op by unfold widthOf; rw [if_neg h])
    go_enter Tryz.func265, Tryz.ntmps265
    go_wp2
    go_ret
    exact ⟨ret_int H.out, rfl⟩
theorem num_div (v : Int) (h : -9223372036854775808 ≤ v ∧ v ≤ 9223372036854775807) : (IntKind.u64.wrap v / 4294967296 == 0) = decide (M.inR v) := by
  rw [IntKind.wrap_u64, Bool.eq_iff_iff, beq_iff_eq, decide_eq_true_iff]
  unfold M.inR
  omega
theorem isNumber_any (v : Int) (w : World) (h : -9223372036854775808 ≤ v ∧ v ≤ 9223372036854775807) : Calls Tryz.prog 264 #[.int .i64 v] w fun e w' => e = .returned (.bool (decide (M.inR v))) ∧ w = w' := by
  have H := Lib.hid (num_div v h)
  clear h
  go_enter Tryz.func264, Tryz.ntmps264
  go_wp2
  go_ret
  exact ⟨ret_bool H.out, rfl⟩
def pw (p : Nat) : Nat := 2 ^ p
/-- A bit more, or not. -/
def addB (s p : Nat) (t : Bool) : Nat := if t then s ||| 2 ^ p else s
theorem addB_lt {s p : Nat} {t : Bool} (hs : s < 1024) (hp : p < 10) : addB s p t < 1024 := by
  unfold addB
  split
  · exact Nat.or_lt_two_pow (n := 10) hs (Nat.pow_lt_pow_right (by omega) hp)
  · exact hs
/-- The cell P holds s, and nothing below it has turned. -/
structure CellU (w : World) (P : Nat) (s : Nat) : Prop where
  cell : w.cell? ⟨P, 0, none⟩ = some (.int .u64 (s : Nat))
  free : w.frozen? ⟨P, 0, none⟩ = false
theorem or_u64 (s p : Nat) (hs : s < 1024) (hp : p < 10) : bits .or .u64 (s : Int) (pw p : Nat) = ((addB s p true : Nat) : Int) := by
  have h2 : 2 ^ p < 1024 := Nat.pow_lt_pow_right (n := 10) (by omega) hp
  rw [u64_or_nat _ _ (by omega) (by unfold pw; omega)]
  simp [addB, pw]
/-- What stays while a bit is made. -/
def SU (P s : Nat) (w0 w : World) : Prop := w.cell? ⟨P, 0, none⟩ = some (.int .u64 (s : Nat)) ∧ w.frozen? ⟨P, 0, none⟩ = false ∧ Below P w0 w ∧ P < w.heap.size
theorem SU.below {P s : Nat} {w0 w w' : World} (h : SU P s w0 w) (hb : Below w.heap.size w w') : SU P s w0 w' := by
  obtain ⟨h1, h2, h3, h4⟩ := h
  exact ⟨by rw [hb.cell (p := ⟨P, 0, none⟩) h4]; exact h1, by rw [hb.frozen (p := ⟨P, 0, none⟩) h4]; exact h2, h3.trans (hb.mono (Nat.le_of_lt h4)), Nat.lt_of_lt_of_le h4 hb.size⟩
theorem SU.alloc {P s : Nat} {w0 w : World} (h : SU P s w0 w) (o : Obj) : SU P s w0 (w.alloc o) := h.below ((Below.refl _ _).alloc (Nat.le_refl _) _)
theorem SU.fin {P s s' : Nat} {w0 w : World} {i : Int} (h : SU P s w0 w) (hi : i = (s' : Nat)) : CellU (w.setCell ⟨P, 0, none⟩ (.int .u64 i)) P s' ∧ Below P w0 (w.setCell ⟨P, 0, none⟩ (.int .u64 i)) := by
  obtain ⟨h1, h2, h3, h4⟩ := h
  subst hi
  exact ⟨⟨World.cell?_setCell_same _ _ _ h1, by simpa using h2⟩, h3.setCell (Nat.le_refl _) _⟩
theorem of_one (p : Nat) (w : World) (hp : p < 10) : Calls Tryz.prog 262 #[.slice (some ⟨w.heap.size, 0, none⟩) 1 1] (w.alloc (.cells #[.int .i64 p] 293)).drew fun e w' => e = .returned (.int .u64 (pw p : Nat)) ∧ Below (w.alloc (.cells #[.int .i64 p] 293)).drew.heap.size (w.alloc (.cells #[.int .i64 p] 293)).drew w' := by
  have h := lit_ints w [p] 293 #[.int .i64 p] rfl (by simpa using hp)
  have h' : Ints (w.alloc (.cells #[.int .i64 p] 293)).drew (w.alloc (.cells #[.int .i64 p] 293)).drew.heap.size (some ⟨w.heap.size, 0, none⟩) 1 (fun i => (([p].getD i 0 : Nat) : Int)) := h.later ((Below.refl _ _).drew)
  exact (of_any _ 1 1 (fun i => [p].getD i 0) _ h' (by unfold maxLen; omega) (fun i => by cases i <;> simp <;> omega)).mono fun _ _ ⟨a, b⟩ => ⟨by rw [a]; simp [orF, pw], by rw [← b]; exact Below.refl _ _⟩
theorem past_new {P : Nat} {w w2 : World} {o : Obj} (h : P < w.heap.size) (hb : Below (w.alloc o).drew.heap.size (w.alloc o).drew w2) :
    w2.cell? ⟨P, 0, none⟩ = w.cell? ⟨P, 0, none⟩ ∧ w2.frozen? ⟨P, 0, none⟩ = w.frozen? ⟨P, 0, none⟩ ∧ Below w.heap.size w w2 := by
  have d : Below w.heap.size w w2 := (((Below.refl _ _).alloc (Nat.le_refl _) _).drew).trans (hb.mono (by simp))
  exact ⟨d.cell (p := ⟨P, 0, none⟩) h, d.frozen (p := ⟨P, 0, none⟩) h, d⟩
set_option maxRecDepth 100000 in
theorem add_yes (P s p : Nat) (w : World) (h : CellU w P s) (hP : P < w.heap.size) (hs : s < 1024) (hp : p < 10) :
    Calls Tryz.prog 263 #[.int .i64 p, .bool true, .pointer (some ⟨P, 0, none⟩)] w fun e w' => e = .returned (.tuple #[]) ∧ (CellU w' P (addB s p true) ∧ Below P w w') := by
  obtain ⟨h1, h2⟩ := h
  have H := Lib.hid (or_u64 s p hs hp)
  go_enter Tryz.func263, Tryz.ntmps263
  go_wp2_with fail
  go_region_with ((go_at_call 262; refine (of_one p _ hp).mono ?_; rintro e w2 ⟨rfl, hw2⟩; obtain ⟨q1, q2, q3⟩ := past_new hP hw2; rw [h1] at q1; rw [h2] at q2; replace q3 := Lib.hid q3; clear hw2))
  all_goals
    go_end0
    exact ⟨rfl, SU.fin (w0 := w) ⟨q1, q2, q3.out.mono (Nat.le_of_lt hP), Nat.lt_of_lt_of_le hP q3.out.size⟩ H.out⟩
theorem add_no (P p : Nat) (w : World) : Calls Tryz.prog 263 #[.int .i64 p, .bool false, .pointer (some ⟨P, 0, none⟩)] w fun e w' => e = .returned (.tuple #[]) ∧ w = w' := by
  go_enter Tryz.func263, Tryz.ntmps263
  go_wp2_with fail
  go_end0
  exact ⟨rfl, rfl⟩
theorem add_any (P s p : Nat) (t : Bool) (w : World) (h : CellU w P s) (hP : P < w.heap.size) (hs : s < 1024) (hp : p < 10) :
    Calls Tryz.prog 263 #[.int .i64 p, .bool t, .pointer (some ⟨P, 0, none⟩)] w fun e w' => e = .returned (.tuple #[]) ∧ (CellU w' P (addB s p t) ∧ Below P w w') := by
  cases t with
  | true => exact add_yes P s p w h hP hs hp
  | false => exact (add_no P p w).mono fun _ _ ⟨a, b⟩ => ⟨a, by rw [← b]; exact ⟨h, Below.refl _ _⟩⟩
/-- The bits of what an instruction has. -/
def fill (t0 t1 t2 t3 t4 t6 t7 t8 : Bool) : Nat := addB (addB (addB (addB (addB (addB (addB (addB 0 0 t0) 1 t1) 2 t2) 3 t3) 4 t4) 6 t6) 7 t7) 8 t8
/-- What an instruction has. -/
def fillOf (h : M.Hd) (b e : M.L) : Nat := fill (h.ty != 0) (decide (0 < h.labels.length)) (h.ix != 0) (h.al != 0) (h.ofs != 0) (h.val != 0) (decide (0 < b.len)) (decide (0 < e.len))
set_option maxRecDepth 100000 in
set_option maxHeartbeats 4000000 in
theorem filled_any (g o : Nat) (h : M.Hd) (vL vB vE : Value) (b e : M.L) (w : World) (hg : g < w.heap.size) (hi : ItemAt w g o h vL vB vE) (hL : ∃ A c, vL = .slice A h.labels.length c) (hB : ∃ A c, vB = .slice A b.len c) (hE : ∃ A c, vE = .slice A e.len c) :
    Calls Tryz.prog 241 #[.pointer (some ⟨g, o, none⟩)] w fun r w' => r = .returned (.int .u64 (fillOf h b e : Nat)) ∧ Below w.heap.size w w' := by
  obtain ⟨AL, cL, rfl⟩ := hL
  obtain ⟨AB, cB, rfl⟩ := hB
  obtain ⟨AE, cE, rfl⟩ := hE
  obtain ⟨c0, c1, c2, c3, c4, c5, c6, c7, c8⟩ := hi
  go_enter Tryz.func241, Tryz.ntmps241
  go_wp2_with fail
  have C0 : CellU (w.alloc (.cells #[.int .u64 0] 288)) w.heap.size 0 := ⟨by simp, by simp⟩
  have z0 : w.heap.size < (w.alloc (.cells #[.int .u64 0] 288)).heap.size := by simp
  have l0 : 0 < 1024 := by omega
  have d0 := Lib.hid ((Below.refl w.heap.size w).alloc (Nat.le_refl _) (.cells #[.int .u64 0] 288))
  refine (add_any w.heap.size 0 0 (h.ty != 0) _ C0 z0 l0 (by omega)).mono ?_
  rintro r1 w1 ⟨rfl, C1, b1⟩
  have l1 := addB_lt (s := 0) (p := 0) (t := (h.ty != 0)) l0 (by omega)
  obtain ⟨s1, e1⟩ : ∃ s, s = addB 0 0 (h.ty != 0) := ⟨_, rfl⟩
  rw [← e1] at C1 l1
  replace e1 := Lib.hid e1
  have d1 := Lib.hid (d0.out.trans b1)
  have z1 : w.heap.size < w1.heap.size := by have := b1.size; omega
  clear b1 C0 z0
  have x1 : w1.cell? ⟨g, o + 6, none⟩ = some (.slice AL h.labels.length cL) := by rw [d1.out.cell (by exact hg)]; exact c6
  replace C1 := Lib.hid C1
  go_wp2_with fail
  replace C1 := C1.out
  refine (add_any w.heap.size s1 1 (decide (0 < h.labels.length)) _ C1 z1 l1 (by omega)).mono ?_
  rintro r2 w2 ⟨rfl, C2, b2⟩
  have l2 := addB_lt (s := s1) (p := 1) (t := (decide (0 < h.labels.length))) l1 (by omega)
  obtain ⟨s2, e2⟩ : ∃ s, s = addB s1 1 (decide (0 < h.labels.length)) := ⟨_, rfl⟩
  rw [← e2] at C2 l2
  replace e2 := Lib.hid e2
  have d2 := Lib.hid (d1.out.trans b2)
  have z2 : w.heap.size < w2.heap.size := by have := b2.size; omega
  clear b2 C1 z1
  have x2 : w2.cell? ⟨g, o + 2, none⟩ = some (.int .i64 h.ix) := by rw [d2.out.cell (by exact hg)]; exact c2
  replace C2 := Lib.hid C2
  go_wp2_with fail
  replace C2 := C2.out
  refine (add_any w.heap.size s2 2 (h.ix != 0) _ C2 z2 l2 (by omega)).mono ?_
  rintro r3 w3 ⟨rfl, C3, b3⟩
  have l3 := addB_lt (s := s2) (p := 2) (t := (h.ix != 0)) l2 (by omega)
  obtain ⟨s3, e3⟩ : ∃ s, s = addB s2 2 (h.ix != 0) := ⟨_, rfl⟩
  rw [← e3] at C3 l3
  replace e3 := Lib.hid e3
  have d3 := Lib.hid (d2.out.trans b3)
  have z3 : w.heap.size < w3.heap.size := by have := b3.size; omega
  clear b3 C2 z2
  have x3 : w3.cell? ⟨g, o + 3, none⟩ = some (.int .i64 h.al) := by rw [d3.out.cell (by exact hg)]; exact c3
  replace C3 := Lib.hid C3
  go_wp2_with fail
  replace C3 := C3.out
  refine (add_any w.heap.size s3 3 (h.al != 0) _ C3 z3 l3 (by omega)).mono ?_
  rintro r4 w4 ⟨rfl, C4, b4⟩
  have l4 := addB_lt (s := s3) (p := 3) (t := (h.al != 0)) l3 (by omega)
  obtain ⟨s4, e4⟩ : ∃ s, s = addB s3 3 (h.al != 0) := ⟨_, rfl⟩
  rw [← e4] at C4 l4
  replace e4 := Lib.hid e4
  have d4 := Lib.hid (d3.out.trans b4)
  have z4 : w.heap.size < w4.heap.size := by have := b4.size; omega
  clear b4 C3 z3
  have x4 : w4.cell? ⟨g, o + 4, none⟩ = some (.int .i64 h.ofs) := by rw [d4.out.cell (by exact hg)]; exact c4
  replace C4 := Lib.hid C4
  go_wp2_with fail
  replace C4 := C4.out
  refine (add_any w.heap.size s4 4 (h.ofs != 0) _ C4 z4 l4 (by omega)).mono ?_
  rintro r5 w5 ⟨rfl, C5, b5⟩
  have l5 := addB_lt (s := s4) (p := 4) (t := (h.ofs != 0)) l4 (by omega)
  obtain ⟨s5, e5⟩ : ∃ s, s = addB s4 4 (h.ofs != 0) := ⟨_, rfl⟩
  rw [← e5] at C5 l5
  replace e5 := Lib.hid e5
  have d5 := Lib.hid (d4.out.trans b5)
  have z5 : w.heap.size < w5.heap.size := by have := b5.size; omega
  clear b5 C4 z4
  have x5 : w5.cell? ⟨g, o + 5, none⟩ = some (.int .i64 h.val) := by rw [d5.out.cell (by exact hg)]; exact c5
  replace C5 := Lib.hid C5
  go_wp2_with fail
  replace C5 := C5.out
  refine (add_any w.heap.size s5 6 (h.val != 0) _ C5 z5 l5 (by omega)).mono ?_
  rintro r6 w6 ⟨rfl, C6, b6⟩
  have l6 := addB_lt (s := s5) (p := 6) (t := (h.val != 0)) l5 (by omega)
  obtain ⟨s6, e6⟩ : ∃ s, s = addB s5 6 (h.val != 0) := ⟨_, rfl⟩
  rw [← e6] at C6 l6
  replace e6 := Lib.hid e6
  have d6 := Lib.hid (d5.out.trans b6)
  have z6 : w.heap.size < w6.heap.size := by have := b6.size; omega
  clear b6 C5 z5
  have x6 : w6.cell? ⟨g, o + 7, none⟩ = some (.slice AB b.len cB) := by rw [d6.out.cell (by exact hg)]; exact c7
  replace C6 := Lib.hid C6
  go_wp2_with fail
  replace C6 := C6.out
  refine (add_any w.heap.size s6 7 (decide (0 < b.len)) _ C6 z6 l6 (by omega)).mono ?_
  rintro r7 w7 ⟨rfl, C7, b7⟩
  have l7 := addB_lt (s := s6) (p := 7) (t := (decide (0 < b.len))) l6 (by omega)
  obtain ⟨s7, e7⟩ : ∃ s, s = addB s6 7 (decide (0 < b.len)) := ⟨_, rfl⟩
  rw [← e7] at C7 l7
  replace e7 := Lib.hid e7
  have d7 := Lib.hid (d6.out.trans b7)
  have z7 : w.heap.size < w7.heap.size := by have := b7.size; omega
  clear b7 C6 z6
  have x7 : w7.cell? ⟨g, o + 8, none⟩ = some (.slice AE e.len cE) := by rw [d7.out.cell (by exact hg)]; exact c8
  replace C7 := Lib.hid C7
  go_wp2_with fail
  replace C7 := C7.out
  refine (add_any w.heap.size s7 8 (decide (0 < e.len)) _ C7 z7 l7 (by omega)).mono ?_
  rintro r8 w8 ⟨rfl, C8, b8⟩
  have l8 := addB_lt (s := s7) (p := 8) (t := (decide (0 < e.len))) l7 (by omega)
  obtain ⟨s8, e8⟩ : ∃ s, s = addB s7 8 (decide (0 < e.len)) := ⟨_, rfl⟩
  rw [← e8] at C8 l8
  replace e8 := Lib.hid e8
  have d8 := Lib.hid (d7.out.trans b8)
  have z8 : w.heap.size < w8.heap.size := by have := b8.size; omega
  clear b8 C7 z7
  have q := C8.cell
  go_wp2_with fail
  go_ret
  refine ⟨ret_int ?_, d8.out⟩
  rw [e8.out, e7.out, e6.out, e5.out, e4.out, e3.out, e2.out, e1.out]
  rfl
end Go.Proofs.YtmejgbbdehndaaaGreat
