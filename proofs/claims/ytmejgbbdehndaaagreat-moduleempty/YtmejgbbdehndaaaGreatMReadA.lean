/-
  What the program's readers of bytes, numbers and pieces answer; condition: the place lies in memory that was there at the call, what is read into in other memory.
-/
import Derived.Test.YtmejgbbdehndaaaGreatMMem
import Derived.Test.YtmejgbbdehndaaaGreatUBase
namespace Go.Proofs.YtmejgbbdehndaaaGreat
open Go.RowKit
theorem bytes_tail {w : World} {B : Nat} {ad : Addr} {b : Nat} {r : List Nat} (h : Bytes w B (some ad) (b :: r).length (M.bf (b :: r))) : Bytes w B (some ⟨ad.block, ad.off + 1, none⟩) r.length (M.bf r) := by
  intro i hi
  obtain ⟨ad', e, q1, q2, q3⟩ := h (1 + i) (by simp; omega)
  injection e with e
  subst e
  have e : M.bf (b :: r) (1 + i) = M.bf r i := by simp [M.bf, Nat.add_comm 1 i]
  rw [e] at q2 q3
  refine ⟨_, rfl, q1, q2, ?_⟩
  have e2 : (⟨ad.block, ad.off + 1, none⟩ : Addr) = ad.add 1 := by simp [Addr.add]
  rw [e2, add_add]; exact q3
/-- A number has been read into a cell, and the place gone on. -/
theorem put_int {rd : List Nat → Option (Int × List Nat)} {B P g j t c : Nat} {cur : Array Value} {bs r : List Nat} {w w1 : World} {u : Value} {A : Option Addr} {x : Int} (h : PAt B w P bs) (b1 : Below w.heap.size w w1) (hg : w.heap[g]? = some (.cells cur t (0, 0))) (hu : cur[j]? = some u) (hne : g ≠ P) (hB : B ≤ g) (hx : i64R x)
    (hrd : rd bs = some (x, r)) (hl : r.length ≤ bs.length) (hc : r.length ≤ c ∧ c ≤ maxLen) (hb : Bytes w B A r.length (M.bf r)) :
    MdPost rInt rd B P g j bs w (.returned (.bool true)) ((w1.setCell ⟨g, j, none⟩ (.int .i64 x)).setCell ⟨P, 0, none⟩ (.slice A r.length c)) := by
  have hgl := lt_row hg
  have hPl := h.lt
  have hPlo := h.lo
  have p1 := h.later b1
  have p2 := p1.set (j := j) hne hB (.int .i64 x)
  have b2 : Below B w (w1.setCell ⟨g, j, none⟩ (.int .i64 x)) := (b1.mono (by omega)).setCell (p := ⟨g, j, none⟩) hB _
  have hb2 := hb.below b2 (Nat.le_refl _)
  have p3 := p2.move hl hc hb2
  have hg1 : w1.heap[g]? = some (.cells cur t (0, 0)) := by rw [b1.block g hgl]; exact hg
  refine .inl ⟨x, r, [.int .i64 x], hrd, rfl, p3, ⟨rfl, hx⟩, fun i v hi => ?_, ?_⟩
  · cases i with
    | zero =>
      cases hi
      rw [Nat.add_zero, World.cell?_of_block (w := w1.setCell ⟨g, j, none⟩ (.int .i64 x)) (Below.heap_setCell _ _ _ _ (by show g ≠ P; exact hne))]
      exact World.cell?_setCell_same _ _ _ ((cell_row hg1 j).trans hu)
    | succ i => cases hi
  · exact ((Fr.of_below b1 hgl hne).trans (Fr.set w1 j _ (Nat.le_refl _) (by show j < j + 1; omega))).trans (Fr.setP _ 0 _ hne)
set_option maxRecDepth 100000 in
theorem mbyte_ok (u : Value) : MdOk 98 rInt [u] (M.cByteI fun _ => true).rd := by
  intro B P g j t cur bs w h hg hz hne hB
  have hpl := Lib.hid h
  obtain ⟨A, c, hP, h1, h2, h3⟩ := h.ex
  unfold maxLen at h2
  have c0 := cell_row hP 0
  have f0 := frozen_row hP 0
  have cj : w.cell? ⟨g, j, none⟩ = some u := (cell_row hg j).trans (hz 0 u rfl)
  have fj := frozen_row hg j
  simp only [List.size_toArray, List.length_cons, List.length_nil, Nat.lt_irrefl, List.getElem?_toArray, List.getElem?_cons_zero] at c0
  clear h
  replace hP := Lib.hid hP
  replace hg := Lib.hid hg
  replace hz := Lib.hid hz
  cases bs with
  | nil =>
    simp only [List.length_nil] at c0
    go_enter Tryz.func98, Tryz.ntmps98
    go_wp2_with fail
    go_ret
    exact .inr ⟨rfl, rfl, Kb.refl _ _⟩
  | cons b r =>
    obtain ⟨ad, rfl, q1, q2, q3⟩ := h3 0 (by simp)
    have hb0 : M.bf (b :: r) 0 = b := rfl
    rw [hb0] at q2 q3
    replace q3 : w.cell? ad = some (.int .u8 (b : Int)) := by simpa only [Addr.add, if_true] using q3
    simp only [List.length_cons] at c0 h1
    obtain ⟨n, hn⟩ : ∃ n, n = r.length := ⟨_, rfl⟩
    rw [← hn] at c0 h1
    replace hn := Lib.hid hn
    replace h3 := Lib.hid h3
    clear hb0
    have hPg : ¬ P = g := fun e => hne e.symm
    by_cases hc : c = 1
    · have hr : r.length = 0 := by have := hn.out; omega
      replace hr := Lib.hid hr
      go_enter Tryz.func98, Tryz.ntmps98
      go_wp2_with fail
      go_ret
      rw [hn.out]
      exact put_int hpl.out (Below.refl _ _) hg.out (hz.out 0 u rfl) hne hB ⟨by omega, by omega⟩ rfl (by simp) ⟨by have := hr.out; omega, by unfold maxLen; omega⟩ (fun i hi => by have := hr.out; omega)
    · go_enter Tryz.func98, Tryz.ntmps98
      go_wp2_with fail
      go_ret
      rw [hn.out]
      exact put_int hpl.out (Below.refl _ _) hg.out (hz.out 0 u rfl) hne hB ⟨by omega, by omega⟩ rfl (by simp) ⟨by have := hn.out; omega, by unfold maxLen; omega⟩ (bytes_tail h3.out)

set_option maxRecDepth 100000 in
theorem mnum_ok (u : Value) : MdOk 171 rInt [u] M.num := by
  intro B P g j t cur bs w h hg hz hne hB
  have hpl := Lib.hid h
  have hPl := h.lt
  have hPlo := h.lo
  have hsm := h.small
  obtain ⟨A, c, hP, h1, h2, h3⟩ := h.ex
  unfold maxLen at h2
  have c0 := cell_row hP 0
  simp only [List.size_toArray, List.length_cons, List.length_nil, Nat.lt_irrefl, List.getElem?_toArray, List.getElem?_cons_zero] at c0
  have f0 := frozen_row hP 0
  have cj : w.cell? ⟨g, j, none⟩ = some u := (cell_row hg j).trans (hz 0 u rfl)
  have fj := frozen_row hg j
  have hgl := lt_row hg
  have hB3 := Lib.hid (h3.below (C := w.heap.size) (Below.refl _ _) (by omega))
  replace h3 := Lib.hid h3
  clear h
  replace hP := Lib.hid hP
  replace hg := Lib.hid hg
  replace hz := Lib.hid hz
  have hPg : ¬ P = g := fun e => hne e.symm
  cases hnum : M.num bs with
  | none =>
    have hU := Lib.hid (num_none hnum)
    replace hnum := Lib.hid hnum
    go_enter Tryz.func171, Tryz.ntmps171
    go_wp2_with fail
    refine (Uint_no A bs.length c (M.bf bs) 32 _ hB3.out (by unfold maxLen; omega) (by omega) (by omega) hU.out).mono ?_
    rintro e1 w1 ⟨rfl, b1⟩
    replace b1 := Lib.hid b1
    go_wp2_with fail
    go_ret
    exact .inr ⟨hnum.out, rfl, .of_below b1.out⟩
  | some p =>
    obtain ⟨x, r⟩ := p
    obtain ⟨n, hU, hv, hr, n1, n2, n5, v0, v1⟩ := num_of hnum
    obtain ⟨ad, rfl, _⟩ := h3.out 0 (by omega)
    obtain ⟨m, hm⟩ : ∃ m, m = M.low (M.bf bs) n := ⟨_, rfl⟩
    rw [← hm] at hv
    subst hv
    replace hm := Lib.hid hm
    have hrl : r.length = bs.length - n := by rw [hr, List.length_drop]
    have hbr := Lib.hid (show Bytes w B (some (ad.add n)) r.length (M.bf r) by rw [hr]; exact rest_bytes n h3.out)
    replace hU := Lib.hid hU
    replace hr := Lib.hid hr
    replace hnum := Lib.hid hnum
    replace hrl := Lib.hid hrl
    by_cases hc : c = n
    all_goals
      go_enter Tryz.func171, Tryz.ntmps171
      go_wp2_with fail
      refine (Uint_yes (some ad) bs.length _ (M.bf bs) 32 n _ hB3.out (by unfold maxLen; omega) (by omega) (by omega) hU.out).mono ?_
      rintro e1 w1 ⟨rfl, b1⟩
      rw [← hm.out]
      have c01 : w1.cell? ⟨P, 0, none⟩ = _ := (b1.cell (p := ⟨P, 0, none⟩) hPl).trans c0
      have f01 : w1.frozen? ⟨P, 0, none⟩ = _ := (b1.frozen (p := ⟨P, 0, none⟩) hPl).trans f0
      have cj1 : w1.cell? ⟨g, j, none⟩ = _ := (b1.cell (p := ⟨g, j, none⟩) hgl).trans cj
      have fj1 : w1.frozen? ⟨g, j, none⟩ = _ := (b1.frozen (p := ⟨g, j, none⟩) hgl).trans fj
      replace b1 := Lib.hid b1
      clear c0 f0 cj fj
      go_wp2_with fail
      go_ret
      rw [← hrl.out]
      first
        | exact put_int hpl.out b1.out hg.out (hz.out 0 u rfl) hne hB ⟨by omega, by omega⟩ hnum.out (by rw [hrl.out]; omega) ⟨by rw [hrl.out]; omega, by unfold maxLen; omega⟩ hbr.out
        | exact put_int hpl.out b1.out hg.out (hz.out 0 u rfl) hne hB ⟨by omega, by omega⟩ hnum.out (by rw [hrl.out]; omega) ⟨by rw [hrl.out]; omega, by unfold maxLen; omega⟩ (fun i hi => by rw [hrl.out] at hi; omega)
theorem kb_new {P : Nat} {w w' : World} {o : Obj} (h : Kb (fun k => k = P ∨ k = w.heap.size) (w.alloc o) w') : Kb (· = P) w w' :=
  ⟨h.os, h.tape, h.output, by have := h.size; simp at this; omega, fun k hk hne => by
    rw [h.block k (by simp; omega) (by omega)]
    exact Below.heap_alloc _ _ _ hk⟩
theorem PAt.alloc {B : Nat} {w : World} {P : Nat} {bs : List Nat} (h : PAt B w P bs) (o : Obj) : PAt B (w.alloc o) P bs := h.later ((Below.refl _ _).alloc (Nat.le_refl _) o)
/-- What reading a byte that must be x leaves. -/
def FxPost (x B P : Nat) (bs : List Nat) (w : World) (e : Ending) (w' : World) : Prop :=
  (∃ r, (M.cFix x).rd bs = some ((), r) ∧ e = .returned (.bool true) ∧ PAt B w' P r ∧ Kb (· = P) w w') ∨ ((M.cFix x).rd bs = none ∧ e = .returned (.bool false) ∧ Kb (· = P) w w')
theorem fix_byte (x : Nat) (bs : List Nat) : (M.cFix x).rd bs = ((M.cByteI fun _ => true).rd bs).bind fun p => if p.1 = (x : Int) then some ((), p.2) else none := by
  cases bs with
  | nil => rfl
  | cons b r =>
    by_cases h : b = x
    · subst h; simp [M.cFix, M.cByteI]
    · have h' : ¬ (b : Int) = (x : Int) := by omega
      simp [M.cFix, M.cByteI, h, h']
set_option maxRecDepth 100000 in
theorem mfixed_any (x B P : Nat) (bs : List Nat) (w : World) (h : PAt B w P bs) (hx : x < 256) : Calls Tryz.prog 72 #[.pointer (some ⟨P, 0, none⟩), .int .i64 (x : Nat)] w (FxPost x B P bs w) := by
  have hPl := h.lt
  have hPlo := h.lo
  have ha := Lib.hid (h.alloc (.cells #[.int .i64 0] 3))
  have hfx := Lib.hid (fix_byte x bs)
  replace h := Lib.hid h
  go_enter Tryz.func72, Tryz.ntmps72
  go_wp2_with fail
  refine (mbyte_ok (.int .i64 0) B P w.heap.size 0 3 #[.int .i64 0] bs _ ha.out (heap_alloc_new w _) (fun i u hu => by simpa using hu) (by omega) (by omega)).mono ?_
  rintro e1 w1 (⟨y, r, cs, hrd, rfl, p1, ⟨rfl, hy⟩, hc, fr⟩ | ⟨hrd, rfl, kb⟩)
  · have c1 : w1.cell? ⟨w.heap.size, 0, none⟩ = some (.int .i64 y) := hc 0 _ rfl
    rw [hrd] at hfx
    replace hrd := Lib.hid hrd
    replace p1 := Lib.hid p1
    replace fr := Lib.hid (kb_new fr.kb)
    clear hc
    by_cases hyx : y = (x : Int)
    · have t1 : (y == (x : Int)) = true := by rw [beq_iff_eq]; exact hyx
      replace hyx := Lib.hid hyx
      go_wp2_with fail
      go_ret
      exact .inl ⟨r, by rw [hfx.out, Option.bind_some, if_pos hyx.out], rfl, p1.out, fr.out⟩
    · have t1 : (y == (x : Int)) = false := by rw [beq_eq_false_iff_ne]; exact hyx
      replace hyx := Lib.hid hyx
      go_wp2_with fail
      go_ret
      exact .inr ⟨by rw [hfx.out, Option.bind_some, if_neg hyx.out], rfl, fr.out⟩
  · rw [hrd] at hfx
    replace kb := Lib.hid (kb_new kb)
    go_wp2_with fail
    go_ret
    exact .inr ⟨hfx.out, rfl, kb.out⟩
/-- What reading a piece leaves: it stays where it is. -/
def PcPost (B P g j : Nat) (bs : List Nat) (w : World) (e : Ending) (w' : World) : Prop :=
  (∃ x r A c, M.cPiece.rd bs = some (x, r) ∧ e = .returned (.bool true) ∧ PAt B w' P r ∧ w'.cell? ⟨g, j, none⟩ = some (.slice A x.length c) ∧ (x.length ≤ c ∧ c ≤ maxLen) ∧ Bytes w' B A x.length (M.bf x) ∧ x.length ≤ 65536 ∧ Fr P g j 1 w w') ∨
  (M.cPiece.rd bs = none ∧ e = .returned (.bool false) ∧ Kb (fun k => k = P ∨ k = g) w w')
theorem Fr.new {P g j s : Nat} {w w' : World} {o : Obj} (hg : g < w.heap.size) (hgP : g ≠ P) (h : Kb (fun k => k = P ∨ k = w.heap.size) (w.alloc o) w') : Fr P g j s w w' := Fr.of_kb (kb_new h) hg hgP
theorem bytes_take {w : World} {B : Nat} {A : Option Addr} {bs : List Nat} (n : Nat) (hn : n ≤ bs.length) (h : Bytes w B A bs.length (M.bf bs)) : Bytes w B A (bs.take n).length (M.bf (bs.take n)) := by
  intro i hi
  have hi' : i < n := by simp at hi; omega
  obtain ⟨ad, e, q1, q2, q3⟩ := h i (by omega)
  have e2 : M.bf (bs.take n) i = M.bf bs i := by simp [M.bf, List.getD_eq_getElem?_getD, List.getElem?_take_of_lt hi']
  rw [e2]
  exact ⟨ad, e, q1, q2, q3⟩
/-- What a reader leaves where it reads. -/
def YesPost {α : Type} (R : Rep α) (x : α) (r : List Nat) (B P g j : Nat) (w : World) (e : Ending) (w' : World) : Prop :=
  e = .returned (.bool true) ∧ PAt B w' P r ∧ (∃ cs, R.is w' (Since w.heap.size w') x cs ∧ (∀ i u, cs[i]? = some u → w'.cell? ⟨g, j + i, none⟩ = some u)) ∧ Fr P g j R.sz w w'
/-- The same memory. -/
structure Same (w W : World) : Prop where
  heap : W.heap = w.heap
  os : W.os = w.os
  tape : W.tape = w.tape
  output : W.output = w.output
theorem Same.kb {T : Nat → Prop} {w W w' : World} (s : Same w W) (h : Kb T W w') : Kb T w w' := ⟨h.os.trans s.os, h.tape.trans s.tape, h.output.trans s.output, by have := h.size; rw [s.heap] at this; exact this, fun k hk ht => by rw [h.block k (by rw [s.heap]; exact hk) ht, s.heap]⟩
theorem Same.fr {P g j n : Nat} {w W w' : World} (s : Same w W) (h : Fr P g j n W w') : Fr P g j n w w' := ⟨s.kb h.kb, fun cur t hc => h.row cur t (by rw [s.heap]; exact hc)⟩
theorem Same.pat {B P : Nat} {bs : List Nat} {w W : World} (s : Same w W) (h : PAt B w P bs) : PAt B W P bs := h.agree fun k _ => by rw [s.heap]
theorem Same.below {B : Nat} {w W w' : World} (s : Same w W) (h : Below B W w') : Below B w w' := ⟨h.os.trans s.os, h.tape.trans s.tape, h.output.trans s.output, by have := h.size; rw [s.heap] at this; exact this, fun k hk => by rw [h.block k hk, s.heap]⟩
theorem MdOk.at {α : Type} {f : Nat} {R : Rep α} {z : List Value} {rd : List Nat → Option (α × List Nat)} (h : MdOk f R z rd) {B P g j t : Nat} {cur : Array Value} {bs : List Nat} {w W : World} (s : Same w W) (h1 : PAt B w P bs) (h2 : w.heap[g]? = some (.cells cur t (0, 0))) (h3 : ∀ i u, z[i]? = some u → cur[j + i]? = some u) (h4 : g ≠ P) (h5 : B ≤ g) :
    Calls Tryz.prog f #[.pointer (some ⟨P, 0, none⟩), .pointer (some ⟨g, j, none⟩)] W (MdPost R rd B P g j bs w) :=
  (h B P g j t cur bs W (s.pat h1) (by rw [s.heap]; exact h2) h3 h4 h5).mono fun e w' hp => by
    rcases hp with ⟨x', r', cs, q1, q2, q3, q4, q5, q6⟩ | ⟨q1, q2, q3⟩
    · exact .inl ⟨x', r', cs, q1, q2, q3, by rw [← s.heap]; exact q4, q5, s.fr q6⟩
    · exact .inr ⟨q1, q2, s.kb q3⟩
theorem MdOk.yes {α : Type} {f : Nat} {R : Rep α} {z : List Value} {rd : List Nat → Option (α × List Nat)} (h : MdOk f R z rd) {B P g j t : Nat} {cur : Array Value} {bs : List Nat} {w W : World} {x : α} {r : List Nat} (hrd : rd bs = some (x, r)) (h1 : PAt B w P bs) (h2 : w.heap[g]? = some (.cells cur t (0, 0))) (h3 : ∀ i u, z[i]? = some u → cur[j + i]? = some u) (h4 : g ≠ P) (h5 : B ≤ g) (s : Same w W) :
    Calls Tryz.prog f #[.pointer (some ⟨P, 0, none⟩), .pointer (some ⟨g, j, none⟩)] W (YesPost R x r B P g j w) :=
  (h.at s h1 h2 h3 h4 h5).mono fun e w' hp => by
    rcases hp with ⟨x', r', cs, q1, q2, q3, q4, q5, q6⟩ | ⟨q1, _⟩
    · rw [hrd] at q1; cases q1; exact ⟨q2, q3, ⟨cs, q4, q5⟩, q6⟩
    · rw [hrd] at q1; cases q1
theorem MdOk.no {α : Type} {f : Nat} {R : Rep α} {z : List Value} {rd : List Nat → Option (α × List Nat)} (h : MdOk f R z rd) {B P g j t : Nat} {cur : Array Value} {bs : List Nat} {w W : World} (hrd : rd bs = none) (h1 : PAt B w P bs) (h2 : w.heap[g]? = some (.cells cur t (0, 0))) (h3 : ∀ i u, z[i]? = some u → cur[j + i]? = some u) (h4 : g ≠ P) (h5 : B ≤ g) (s : Same w W) :
    Calls Tryz.prog f #[.pointer (some ⟨P, 0, none⟩), .pointer (some ⟨g, j, none⟩)] W fun e w' => e = .returned (.bool false) ∧ Kb (fun k => k = P ∨ k = g) w w' :=
  (h.at s h1 h2 h3 h4 h5).mono fun e w' hp => by
    rcases hp with ⟨x', r', cs, q1, _⟩ | ⟨_, q2, q3⟩
    · rw [hrd] at q1; cases q1
    · exact ⟨q2, q3⟩
theorem one_row (v : Value) : ∀ i y, [v][i]? = some y → #[v][0 + i]? = some y := fun i y h => by simpa using h
theorem Same.pcell {w W : World} (s : Same w W) (a : Addr) : W.cell? a = w.cell? a := World.cell?_of_block (by rw [s.heap])
theorem same_drew (w : World) : Same w w.drew := ⟨rfl, rfl, rfl, rfl⟩
theorem Fr.after {P g j s : Nat} {w w1 W : World} (h : Fr P g j s w w1) (q : Same w1 W) : Fr P g j s w W :=
  ⟨⟨q.os.trans h.kb.os, q.tape.trans h.kb.tape, q.output.trans h.kb.output, by rw [q.heap]; exact h.kb.size, fun k hk ht => by rw [q.heap]; exact h.kb.block k hk ht⟩, fun cur t hc => by
    obtain ⟨c1, h1, h2⟩ := h.row cur t hc
    exact ⟨c1, by rw [q.heap]; exact h1, h2⟩⟩
/-- Something has been read into the cells j .. of block g; behind it these values lie. -/
structure Prog {α : Type} (R : Rep α) (x : α) (z : List Value) (B P g j t : Nat) (r : List Nat) (w0 w : World) : Prop where
  pat : PAt B w P r
  cells : ∃ cs cur, R.is w (Since w0.heap.size w) x cs ∧ w.heap[g]? = some (.cells cur t (0, 0)) ∧ (∀ i u, cs[i]? = some u → cur[j + i]? = some u) ∧ (∀ i u, z[i]? = some u → cur[j + R.sz + i]? = some u)
  fr : Fr P g j R.sz w0 w
  hg : g < w0.heap.size
  ne : g ≠ P
  hP : P < w0.heap.size
  hB : B ≤ g
theorem Prog.start {α : Type} {R : Rep α} {x : α} {zR z : List Value} {B P g j t : Nat} {cur : Array Value} {bs r : List Nat} {w w' : World} (h : PAt B w P bs) (hg : w.heap[g]? = some (.cells cur t (0, 0))) (hz : ∀ i u, (zR ++ z)[i]? = some u → cur[j + i]? = some u) (hl : zR.length = R.sz) (hne : g ≠ P) (hB : B ≤ g) (hy : YesPost R x r B P g j w (.returned (.bool true)) w') : Prog R x z B P g j t r w w' := by
  obtain ⟨_, p1, ⟨cs, hi, hc⟩, fr⟩ := hy
  obtain ⟨cur', h1, h2, h3⟩ := fr.row cur t hg
  refine ⟨p1, ⟨cs, cur', hi, h1, fun i u hu => ?_, fun i u hu => ?_⟩, fr, lt_row hg, hne, h.lt, hB⟩
  · rw [← cell_row h1]; exact hc i u hu
  · rw [h3 _ (.inr (by omega)), Nat.add_assoc]
    refine hz _ _ ?_
    rw [List.getElem?_append_right (by omega), hl, Nat.add_sub_cancel_left]
    exact hu
theorem Prog.row {α : Type} {R : Rep α} {x : α} {z : List Value} {B P g j t : Nat} {r : List Nat} {w0 w : World} (h : Prog R x z B P g j t r w0 w) : ∃ cur, w.heap[g]? = some (.cells cur t (0, 0)) ∧ ∀ i u, z[i]? = some u → cur[j + R.sz + i]? = some u := by
  obtain ⟨cs, cur, h1, h2, h3, h4⟩ := h.cells
  exact ⟨cur, h2, h4⟩
theorem Prog.step {α β : Type} {R : Rep α} {Q : Rep β} {x : α} {y : β} {zQ z : List Value} {B P g j t : Nat} {r r' : List Nat} {w0 w w' : World} (h : Prog R x (zQ ++ z) B P g j t r w0 w) (hl : zQ.length = Q.sz) (hy : YesPost Q y r' B P g (j + R.sz) w (.returned (.bool true)) w') : Prog (rP2 R Q) (x, y) z B P g j t r' w0 w' := by
  obtain ⟨_, p1, ⟨ds, hi, hc⟩, fr⟩ := hy
  obtain ⟨cs, cur, h1, h2, h3, h4⟩ := h.cells
  obtain ⟨cur', k1, k2, k3⟩ := fr.row cur t h2
  have hs0 := h.fr.kb.size
  have hs1 := fr.kb.size
  have hlen := R.len h1
  have hg0 := h.hg
  have hP0 := h.hP
  have ag : Agree (Since w0.heap.size w) w w' := fun k hk => fr.kb.block k hk.2 (by have := hk.1; omega)
  refine ⟨p1, ⟨cs ++ ds, cur', ⟨cs, ds, rfl, R.agree h1 ag (fun k hk => ⟨hk.1, by have := hk.2; omega⟩), Q.agree hi (fun _ _ => rfl) (fun k hk => ⟨by have := hk.1; omega, hk.2⟩)⟩, k1, fun i u hu => ?_, fun i u hu => ?_⟩, ?_, h.hg, h.ne, h.hP, h.hB⟩
  · by_cases hi : i < cs.length
    · rw [List.getElem?_append_left hi] at hu
      rw [k3 _ (.inl (by omega))]
      exact h3 i u hu
    · rw [List.getElem?_append_right (by omega), hlen] at hu
      have := hc _ _ hu
      rw [cell_row k1, show j + R.sz + (i - R.sz) = j + i by omega] at this
      exact this
  · show cur'[j + (R.sz + Q.sz) + i]? = some u
    rw [k3 _ (.inr (by omega)), show j + (R.sz + Q.sz) + i = j + R.sz + (Q.sz + i) by omega]
    refine h4 _ _ ?_
    rw [List.getElem?_append_right (by omega), hl, Nat.add_sub_cancel_left]
    exact hu
  · exact (h.fr.wide (Nat.le_refl _) (show j + R.sz ≤ j + (R.sz + Q.sz) by omega)).trans (fr.wide (by omega) (show j + R.sz + Q.sz ≤ j + (R.sz + Q.sz) by omega))
/-- Nothing but the place has changed. -/
theorem Prog.skip {α : Type} {R : Rep α} {x : α} {z : List Value} {B P g j t : Nat} {r r' : List Nat} {w0 w w' : World} (h : Prog R x z B P g j t r w0 w) (p1 : PAt B w' P r') (kb : Kb (· = P) w w') : Prog R x z B P g j t r' w0 w' := by
  obtain ⟨cs, cur, h1, h2, h3, h4⟩ := h.cells
  have hs0 := h.fr.kb.size
  have hs1 := kb.size
  have hg0 := h.hg
  have hP0 := h.hP
  exact ⟨p1, ⟨cs, cur, R.agree h1 (fun k hk => kb.block k hk.2 (by have := hk.1; omega)) (fun k hk => ⟨hk.1, by have := hk.2; omega⟩), by rw [kb.block g (by omega) h.ne]; exact h2, h3, h4⟩, h.fr.trans (Fr.of_kb kb (by omega) h.ne), h.hg, h.ne, h.hP, h.hB⟩
theorem Prog.fin {α β : Type} {R : Rep α} {R2 : Rep β} {x : α} {y : β} {z : List Value} {B P g j t : Nat} {bs r : List Nat} {w0 w : World} {rd : List Nat → Option (β × List Nat)} (h : Prog R x z B P g j t r w0 w) (hrd : rd bs = some (y, r)) (hs : R2.sz = R.sz) (hi : ∀ cs, R.is w (Since w0.heap.size w) x cs → R2.is w (Since w0.heap.size w) y cs) : MdPost R2 rd B P g j bs w0 (.returned (.bool true)) w := by
  obtain ⟨cs, cur, h1, h2, h3, h4⟩ := h.cells
  exact .inl ⟨y, r, cs, hrd, rfl, h.pat, hi cs h1, fun i u hu => by rw [cell_row h2]; exact h3 i u hu, by rw [hs]; exact h.fr⟩
theorem Prog.bad {α : Type} {R : Rep α} {x : α} {z : List Value} {B P g j t : Nat} {r : List Nat} {w0 w w' : World} (h : Prog R x z B P g j t r w0 w) (kb : Kb (fun k => k = P ∨ k = g) w w') : Kb (fun k => k = P ∨ k = g) w0 w' := h.fr.kb.trans kb
theorem kb_g {P g : Nat} {w w' : World} (h : Kb (· = P) w w') : Kb (fun k => k = P ∨ k = g) w w' := h.mono fun _ hk => .inl hk
end Go.Proofs.YtmejgbbdehndaaaGreat
