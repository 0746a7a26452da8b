/-
  The ground of the proofs of this seat, put together: XEach, XList1, XTab, LRef, PRead, ReadV, Within, Instr. No condition beyond what each text names.
-/
import Derived.Deep.DeepCutAuto
import Derived.Test.YtilaheifccjjeaaGreatXGE
import Derived.Test.YtilaheifccjjeaaGreatXGC
import Derived.Test.YtilaheifccjjeaaGreatXGA
import Derived.Test.YtilaheifccjjeaaGreatXGB
import Derived.Test.YtilaheifccjjeaaGreatXGD
namespace Go.Proofs.YtilaheifccjjeaaGreat
open Go.RowKit
/-- Where a loop over a vector stands. -/
structure ERel {α : Type} (c : M.Codec α) (B P n : Nat) (out : List Nat) (xs : List α) (w : World) (i : Value) (w' : World) (k : Nat) : Prop where
  hk : k ≤ n
  hi : i = .int .i64 k
  t : MTx B w' P (out ++ M.wTimes c (xs.take k))
  ok : ∀ x ∈ xs.take k, c.ok x
  b : Wro P w w'
theorem wTimes_snoc {α : Type} (c : M.Codec α) (xs : List α) (x : α) : M.wTimes c (xs ++ [x]) = M.wTimes c xs ++ c.wr x := by
  induction xs with
  | nil => simp [M.wTimes]
  | cons y t ih => simp only [List.cons_append, M.wTimes, ih, List.append_assoc]
theorem wTimes_le {α : Type} (c : M.Codec α) (xs : List α) (k : Nat) : (M.wTimes c (xs.take k)).length ≤ (M.wTimes c xs).length := by
  induction xs generalizing k with
  | nil => simp
  | cons y t ih =>
    cases k with
    | zero => simp [M.wTimes]
    | succ k => simp only [List.take_succ_cons, M.wTimes, List.length_append]; have := ih k; omega
theorem take_snoc {α : Type} {xs : List α} {k : Nat} {x : α} (h : xs[k]? = some x) : xs.take (k + 1) = xs.take k ++ [x] := by
  rw [List.take_add_one, h]; rfl
/-- One more has been written. -/
theorem ERel.step {α : Type} {c : M.Codec α} {B P n k : Nat} {out : List Nat} {xs : List α} {x : α} {w w1 w2 : World} {i : Value} (h : ERel c B P n out xs w i w1 k) (hkn : k < n) (hx : xs[k]? = some x) (ho : c.ok x) (t : MTx B w2 P (out ++ M.wTimes c (xs.take k) ++ c.wr x)) (b : Wro P w1 w2) : ERel c B P n out xs w (.int .i64 ((k : Int) + 1)) w2 (k + 1) := by
  refine ⟨hkn, by simp, ?_, fun y hy => ?_, h.b.trans b⟩
  · rw [take_snoc hx, wTimes_snoc, ← List.append_assoc]; exact t
  · rw [take_snoc hx] at hy
    rcases List.mem_append.1 hy with hy | hy
    · exact h.ok y hy
    · rw [List.mem_singleton] at hy
      subst hy; exact ho
/-- One could not be written. -/
theorem ERel.no {α : Type} {c : M.Codec α} {B P n k : Nat} {out : List Nat} {xs : List α} {x : α} {w w1 w2 : World} {i : Value} (h : ERel c B P n out xs w i w1 k) (hx : xs[k]? = some x) (hn : ¬ (c.ok x ∧ (out ++ M.wTimes c (xs.take k)).length + (c.wr x).length ≤ 65536)) (b : Wro P w1 w2) : WrPost B P out (∀ x ∈ xs, c.ok x) (M.wTimes c xs) w (.returned (.bool false)) w2 := by
  refine .inr ⟨fun hh => hn ⟨hh.1 x (List.mem_of_getElem? hx), ?_⟩, rfl, h.b.trans b⟩
  have := wTimes_le c xs (k + 1)
  rw [take_snoc hx, wTimes_snoc, List.length_append] at this
  have := hh.2
  rw [List.length_append]
  omega
theorem ERel.done {α : Type} {c : M.Codec α} {B P : Nat} {out : List Nat} {xs : List α} {w w1 : World} {i : Value} (h : ERel c B P xs.length out xs w i w1 xs.length) : WrPost B P out (∀ x ∈ xs, c.ok x) (M.wTimes c xs) w (.returned (.bool true)) w1 := by
  have t := h.t
  have ok := h.ok
  rw [List.take_length] at t ok
  exact .inl ⟨ok, by have := t.len; rw [List.length_append] at this; exact this, rfl, t, h.b⟩
theorem ERel.start {α : Type} {c : M.Codec α} {B P n : Nat} {out : List Nat} {xs : List α} {w : World} (t : MTx B w P out) : ERel c B P n out xs w (.int .i64 ((0 : Nat) : Int)) w 0 :=
  ⟨Nat.zero_le _, rfl, by rw [List.take_zero]; simpa [M.wTimes] using t, (fun x hx => by rw [List.take_zero] at hx; cases hx), Wro.refl _ _⟩
end Go.Proofs.YtilaheifccjjeaaGreat
namespace Go.Proofs.YtilaheifccjjeaaGreat
open Go.RowKit
theorem vec_ok {α : Type} (c : M.Codec α) (xs : List α) : (M.vec c).ok xs = (xs.length ≤ 128 ∧ ∀ x ∈ xs, c.ok x) := rfl
theorem vec_wr {α : Type} (c : M.Codec α) (xs : List α) : (M.vec c).wr xs = M.U xs.length ++ M.wTimes c xs := rfl
def Pre_val (_ : Int) : Prop := True
def Pre_num (_ : Int) : Prop := True
theorem wok_val (B : Nat) (w : World) (P : Nat) (out : List Nat) (x : Int) (cs : List Value) (h : MTx B w P out) (his : rInt.is w (· < B) x cs) (_ : Pre_val x) : Calls Tryz.prog 140 #[.pointer (some ⟨P, 0, none⟩), cs.headD undef] w (WrPost B P out (M.cVal.ok x) (M.cVal.wr x) w) := by
  obtain ⟨rfl, _⟩ := his
  exact tval2_any B w P out x h
theorem wok_num (B : Nat) (w : World) (P : Nat) (out : List Nat) (x : Int) (cs : List Value) (h : MTx B w P out) (his : rInt.is w (· < B) x cs) (_ : Pre_num x) : Calls Tryz.prog 93 #[.pointer (some ⟨P, 0, none⟩), cs.headD undef] w (WrPost B P out (M.cNum.ok x) (M.cNum.wr x) w) := by
  obtain ⟨rfl, hr⟩ := his
  exact tnumb_any B w P out x h hr
set_option maxRecDepth 100000 in
set_option maxHeartbeats 4000000 in
theorem each_val (B : Nat) (w : World) (P : Nat) (out : List Nat) (v : Value) (xs : List _) (h : MTx B w P out) (hl : Lst rInt w (· < B) v xs) (hpre : ∀ x ∈ xs, Pre_val x) :
    Calls Tryz.prog 177 #[.pointer (some ⟨P, 0, none⟩), v, .func (.func 140) #[] #[]] w (WrPost B P out (∀ x ∈ xs, (M.cVal).ok x) (M.wTimes M.cVal xs) w) := by
  obtain ⟨A, c, rfl, hn, hc, hm⟩ := hl.form
  unfold maxLen at hm
  replace hl := Lib.hid hl
  replace hpre := Lib.hid hpre
  have rel0 := Lib.hid (ERel.start (c := M.cVal) (n := xs.length) (xs := xs) h)
  replace h := Lib.hid h
  obtain ⟨n, hN⟩ : ∃ n, n = xs.length := ⟨_, rfl⟩
  rw [← hN] at hl hn hc rel0 ⊢
  replace hN := Lib.hid hN
  go_enter Tryz.func177, Tryz.ntmps177
  go_wp2_with fail
  go_loopw [11] (fun i w' => ∃ k : Nat, ERel M.cVal B P n out xs w i w' k) (fun i _ => n - (intOf i).toNat)
  case atStart => exact ⟨0, rel0.out⟩
  case round =>
    clear rel0
    obtain ⟨j, E⟩ := hrel
    have hi := E.hi
    have hk := E.hk
    subst hi
    have bel := E.b.below h.out
    by_cases hjn : j < n
    · obtain ⟨x, hx⟩ : ∃ x, xs[j]? = some x := ⟨_, List.getElem?_eq_getElem (by rw [← hN.out]; exact hjn)⟩
      obtain ⟨g, o, cs, rfl, hgB, his, hcs⟩ := hl.out.nth hx
      obtain ⟨rfl, hxr⟩ := his
      have his : rInt.is w (· < B) x [.int .i64 x] := ⟨rfl, hxr⟩
      have xc0 : wr.cell? ⟨g, o + j, none⟩ = some (.int .i64 x) := (bel.cell (p := ⟨g, _, none⟩) hgB).trans (by have := hcs 0 _ rfl; rwa [show o + j * rInt.sz + 0 = o + j from by show o + j * 1 + 0 = _; omega] at this)
      have his' := Lib.hid (rInt.agree his (below_agree bel) (fun _ hk => hk))
      have t0 : (0 : Int) ≤ (j : Int) := by omega
      have t1 : (j : Int) < (n : Int) := by omega
      have is1 := his'
      have E1 := Lib.hid E.t
      have d1 := Lib.hid (Wro.refl P wr)
      have hx' := Lib.hid hx
      have hp := Lib.hid (hpre.out x (List.mem_of_getElem? hx))
      replace E := Lib.hid E
      clear hx his hcs bel
      go_wp2_with fail
      refine (wok_val B wr P _ x [.int .i64 x] E1.out is1.out hp.out).mono ?_
      rintro e2 w2 (⟨ho, hf, rfl, t2, b2⟩ | ⟨hno, rfl, b2⟩)
      · have E2 := Lib.hid (E.out.step hjn hx'.out ho t2 (d1.out.trans b2))
        clear b2 t2
        go_wp2_with fail
        exact ⟨⟨j + 1, E2.out⟩, by simp [intOf]; omega⟩
      · have E2 := Lib.hid (E.out.no hx'.out hno (d1.out.trans b2))
        clear b2
        go_wp2_with fail
        go_ret
        exact E2.out
    · obtain rfl : j = n := by omega
      rw [hN.out] at E
      have E2 := Lib.hid E.done
      clear E bel
      go_wp2_with fail
      go_ret
      exact E2.out
set_option maxRecDepth 100000 in
set_option maxHeartbeats 1000000 in
theorem list_w_val (B : Nat) (w : World) (P : Nat) (out : List Nat) (v : Value) (xs : List _) (h : MTx B w P out) (hl : Lst rInt w (· < B) v xs) (hpre : ∀ x ∈ xs, Pre_val x) :
    Calls Tryz.prog 139 #[.pointer (some ⟨P, 0, none⟩), v, .func (.func 140) #[] #[]] w (WrPost B P out ((M.vec M.cVal).ok xs) ((M.vec M.cVal).wr xs) w) := by
  rw [vec_ok, vec_wr]
  obtain ⟨A, c, rfl, hn, hc, hm⟩ := hl.form
  unfold maxLen at hm
  have hlB := Lib.hid (fun w' (b : Wro P w w') => hl.agree (below_agree (b.below h)) (fun _ hk => hk))
  have hpre' := Lib.hid hpre
  replace h := Lib.hid h
  clear hl hpre
  obtain ⟨n, hN⟩ : ∃ n, n = xs.length := ⟨_, rfl⟩
  rw [← hN] at hlB hn hc ⊢
  clear hN
  by_cases h128 : n ≤ 128
  · have hR : M.inR (n : Int) := ⟨by omega, by omega⟩
    replace hR := Lib.hid hR
    go_enter Tryz.func139, Tryz.ntmps139
    go_wp2_with fail
    refine (tnumb_any B w P out n h.out (by omega)).mono ?_
    rintro e1 w1 (⟨_, hf, rfl, t1, b1⟩ | ⟨hno, rfl, b1⟩)
    · replace t1 := Lib.hid t1
      have l1 := Lib.hid (hlB.out w1 b1)
      replace b1 := Lib.hid b1
      go_wp2_with fail
      refine (each_val B w1 P _ _ xs t1.out l1.out hpre'.out).mono ?_
      intro e2 w2 k2
      have this := Lib.hid ((WrPost.then ⟨hR.out, hf⟩ b1.out k2).iff (C := n ≤ 128 ∧ ∀ x ∈ xs, (M.cVal).ok x) ⟨fun hh => ⟨h128, hh.2⟩, fun hh => ⟨hR.out, hh.2⟩⟩)
      rcases k2 with ⟨_, _, rfl, _⟩ | ⟨_, rfl, _⟩
      all_goals
        go_wp2_with fail
        go_ret
        exact this.out
    · have this := Lib.hid ((WrPost.stop (B := B) (C := ∀ x ∈ xs, (M.cVal).ok x) (yb := M.wTimes M.cVal xs) hno b1).iff (C := n ≤ 128 ∧ ∀ x ∈ xs, (M.cVal).ok x) ⟨fun hh => ⟨h128, hh.2⟩, fun hh => ⟨hR.out, hh.2⟩⟩)
      go_wp2_with fail
      go_ret
      exact this.out
  · have hno := Lib.hid (WrPost.no (B := B) (P := P) (out := out) (w := w) (ys := M.U (n : Int) ++ M.wTimes M.cVal xs) (C := n ≤ 128 ∧ ∀ x ∈ xs, (M.cVal).ok x) (fun hh => h128 hh.1))
    have hgt : (128 : Int) < (n : Int) := by omega
    go_enter Tryz.func139, Tryz.ntmps139
    go_wp2_with fail
    go_ret
    exact hno.out
set_option maxRecDepth 100000 in
set_option maxHeartbeats 4000000 in
theorem each_num (B : Nat) (w : World) (P : Nat) (out : List Nat) (v : Value) (xs : List _) (h : MTx B w P out) (hl : Lst rInt w (· < B) v xs) (hpre : ∀ x ∈ xs, Pre_num x) :
    Calls Tryz.prog 177 #[.pointer (some ⟨P, 0, none⟩), v, .func (.func 93) #[] #[]] w (WrPost B P out (∀ x ∈ xs, (M.cNum).ok x) (M.wTimes M.cNum xs) w) := by
  obtain ⟨A, c, rfl, hn, hc, hm⟩ := hl.form
  unfold maxLen at hm
  replace hl := Lib.hid hl
  replace hpre := Lib.hid hpre
  have rel0 := Lib.hid (ERel.start (c := M.cNum) (n := xs.length) (xs := xs) h)
  replace h := Lib.hid h
  obtain ⟨n, hN⟩ : ∃ n, n = xs.length := ⟨_, rfl⟩
  rw [← hN] at hl hn hc rel0 ⊢
  replace hN := Lib.hid hN
  go_enter Tryz.func177, Tryz.ntmps177
  go_wp2_with fail
  go_loopw [11] (fun i w' => ∃ k : Nat, ERel M.cNum B P n out xs w i w' k) (fun i _ => n - (intOf i).toNat)
  case atStart => exact ⟨0, rel0.out⟩
  case round =>
    clear rel0
    obtain ⟨j, E⟩ := hrel
    have hi := E.hi
    have hk := E.hk
    subst hi
    have bel := E.b.below h.out
    by_cases hjn : j < n
    · obtain ⟨x, hx⟩ : ∃ x, xs[j]? = some x := ⟨_, List.getElem?_eq_getElem (by rw [← hN.out]; exact hjn)⟩
      obtain ⟨g, o, cs, rfl, hgB, his, hcs⟩ := hl.out.nth hx
      obtain ⟨rfl, hxr⟩ := his
      have his : rInt.is w (· < B) x [.int .i64 x] := ⟨rfl, hxr⟩
      have xc0 : wr.cell? ⟨g, o + j, none⟩ = some (.int .i64 x) := (bel.cell (p := ⟨g, _, none⟩) hgB).trans (by have := hcs 0 _ rfl; rwa [show o + j * rInt.sz + 0 = o + j from by show o + j * 1 + 0 = _; omega] at this)
      have his' := Lib.hid (rInt.agree his (below_agree bel) (fun _ hk => hk))
      have t0 : (0 : Int) ≤ (j : Int) := by omega
      have t1 : (j : Int) < (n : Int) := by omega
      have is1 := his'
      have E1 := Lib.hid E.t
      have d1 := Lib.hid (Wro.refl P wr)
      have hx' := Lib.hid hx
      have hp := Lib.hid (hpre.out x (List.mem_of_getElem? hx))
      replace E := Lib.hid E
      clear hx his hcs bel
      go_wp2_with fail
      refine (wok_num B wr P _ x [.int .i64 x] E1.out is1.out hp.out).mono ?_
      rintro e2 w2 (⟨ho, hf, rfl, t2, b2⟩ | ⟨hno, rfl, b2⟩)
      · have E2 := Lib.hid (E.out.step hjn hx'.out ho t2 (d1.out.trans b2))
        clear b2 t2
        go_wp2_with fail
        exact ⟨⟨j + 1, E2.out⟩, by simp [intOf]; omega⟩
      · have E2 := Lib.hid (E.out.no hx'.out hno (d1.out.trans b2))
        clear b2
        go_wp2_with fail
        go_ret
        exact E2.out
    · obtain rfl : j = n := by omega
      rw [hN.out] at E
      have E2 := Lib.hid E.done
      clear E bel
      go_wp2_with fail
      go_ret
      exact E2.out
set_option maxRecDepth 100000 in
set_option maxHeartbeats 1000000 in
theorem list_w_num (B : Nat) (w : World) (P : Nat) (out : List Nat) (v : Value) (xs : List _) (h : MTx B w P out) (hl : Lst rInt w (· < B) v xs) (hpre : ∀ x ∈ xs, Pre_num x) :
    Calls Tryz.prog 139 #[.pointer (some ⟨P, 0, none⟩), v, .func (.func 93) #[] #[]] w (WrPost B P out ((M.vec M.cNum).ok xs) ((M.vec M.cNum).wr xs) w) := by
  rw [vec_ok, vec_wr]
  obtain ⟨A, c, rfl, hn, hc, hm⟩ := hl.form
  unfold maxLen at hm
  have hlB := Lib.hid (fun w' (b : Wro P w w') => hl.agree (below_agree (b.below h)) (fun _ hk => hk))
  have hpre' := Lib.hid hpre
  replace h := Lib.hid h
  clear hl hpre
  obtain ⟨n, hN⟩ : ∃ n, n = xs.length := ⟨_, rfl⟩
  rw [← hN] at hlB hn hc ⊢
  clear hN
  by_cases h128 : n ≤ 128
  · have hR : M.inR (n : Int) := ⟨by omega, by omega⟩
    replace hR := Lib.hid hR
    go_enter Tryz.func139, Tryz.ntmps139
    go_wp2_with fail
    refine (tnumb_any B w P out n h.out (by omega)).mono ?_
    rintro e1 w1 (⟨_, hf, rfl, t1, b1⟩ | ⟨hno, rfl, b1⟩)
    · replace t1 := Lib.hid t1
      have l1 := Lib.hid (hlB.out w1 b1)
      replace b1 := Lib.hid b1
      go_wp2_with fail
      refine (each_num B w1 P _ _ xs t1.out l1.out hpre'.out).mono ?_
      intro e2 w2 k2
      have this := Lib.hid ((WrPost.then ⟨hR.out, hf⟩ b1.out k2).iff (C := n ≤ 128 ∧ ∀ x ∈ xs, (M.cNum).ok x) ⟨fun hh => ⟨h128, hh.2⟩, fun hh => ⟨hR.out, hh.2⟩⟩)
      rcases k2 with ⟨_, _, rfl, _⟩ | ⟨_, rfl, _⟩
      all_goals
        go_wp2_with fail
        go_ret
        exact this.out
    · have this := Lib.hid ((WrPost.stop (B := B) (C := ∀ x ∈ xs, (M.cNum).ok x) (yb := M.wTimes M.cNum xs) hno b1).iff (C := n ≤ 128 ∧ ∀ x ∈ xs, (M.cNum).ok x) ⟨fun hh => ⟨h128, hh.2⟩, fun hh => ⟨hR.out, hh.2⟩⟩)
      go_wp2_with fail
      go_ret
      exact this.out
  · have hno := Lib.hid (WrPost.no (B := B) (P := P) (out := out) (w := w) (ys := M.U (n : Int) ++ M.wTimes M.cNum xs) (C := n ≤ 128 ∧ ∀ x ∈ xs, (M.cNum).ok x) (fun hh => h128 hh.1))
    have hgt : (128 : Int) < (n : Int) := by omega
    go_enter Tryz.func139, Tryz.ntmps139
    go_wp2_with fail
    go_ret
    exact hno.out
end Go.Proofs.YtilaheifccjjeaaGreat
namespace Go.Proofs.YtilaheifccjjeaaGreat
open Go.RowKit
theorem row_ints {w : World} {S : Nat → Prop} : ∀ xs : List Int, (∀ x ∈ xs, i64R x) → RowOf rInt w S xs (xs.map fun x => .int .i64 x)
  | [], _ => rfl
  | x :: t, h => ⟨[.int .i64 x], t.map fun x => .int .i64 x, rfl, ⟨rfl, h x (List.mem_cons_self ..)⟩, row_ints t (fun y hy => h y (List.mem_cons_of_mem _ hy))⟩
theorem nums_lst {w : World} {S : Nat → Prop} {v : Value} {xs : List Int} (h : NS w S v xs) (hs : xs.length ≤ 1000000000) : Lst rInt w S v xs := by
  obtain ⟨A, c, e, ⟨h1, h1', h1''⟩, h2⟩ := h
  refine ⟨A, c, e, ⟨hs, h1', h1''⟩, ?_⟩
  by_cases h0 : xs = []
  · exact .inl h0
  have hp : 0 < xs.length := List.length_pos_iff.2 h0
  obtain ⟨ad, rfl, hS, _, hc0⟩ := h2 0 hp
  have hsp : ad.spot = none := by
    have := World.cell?_spot hc0
    unfold Addr.add at this
    simpa using this
  obtain ⟨g, o, sp⟩ := ad
  subst hsp
  refine .inr ⟨g, o, xs.map fun x => .int .i64 x, rfl, hS, ?_, fun j u hu => ?_⟩
  · refine row_ints xs fun x hx => ?_
    obtain ⟨i, hi, rfl⟩ := List.getElem_of_mem hx
    obtain ⟨_, _, _, h3, _⟩ := h2 i hi
    unfold i64R
    simpa [List.getD_eq_getElem?_getD, List.getElem?_eq_getElem hi] using h3
  · have hj : j < xs.length := by
      have := (List.getElem?_eq_some_iff.1 hu).1
      simpa using this
    obtain ⟨ad, e1, _, _, hc⟩ := h2 j hj
    cases e1
    rw [add_none] at hc
    rw [hc, ← hu, List.getElem?_map, List.getElem?_eq_getElem hj, List.getD_eq_getElem?_getD, List.getElem?_eq_getElem hj]
    rfl
theorem cTab_ok (y : M.Lim) : M.cTab.ok y ↔ True ∧ M.cLim.ok y := Iff.rfl
theorem cTab_wr (y : M.Lim) : M.cTab.wr y = [112] ++ M.cLim.wr y := rfl
set_option maxRecDepth 100000 in
set_option maxHeartbeats 1000000 in
theorem ttable_any (B : Nat) (w : World) (P : Nat) (out : List Nat) (mn mx : Int) (h : MTx B w P out) (h1 : -9223372036854775808 ≤ mn ∧ mn ≤ 9223372036854775807) (h2 : -9223372036854775808 ≤ mx ∧ mx ≤ 9223372036854775807) :
    Calls Tryz.prog 111 #[.pointer (some ⟨P, 0, none⟩), .agg #[.int .i64 mn, .int .i64 mx]] w (WrPost B P out (M.cTab.ok ⟨mn, mx⟩) (M.cTab.wr ⟨mn, mx⟩) w) := by
  rw [cTab_ok, cTab_wr]
  obtain ⟨ok, hok⟩ : ∃ ok, ok = M.cLim.ok ⟨mn, mx⟩ := ⟨_, rfl⟩
  obtain ⟨ys, hys⟩ : ∃ ys, ys = M.cLim.wr ⟨mn, mx⟩ := ⟨_, rfl⟩
  have hlim := fun w' out' (t : MTx B w' P out') => tlimits_any B w' P out' mn mx t h1 h2
  rw [← hok, ← hys] at hlim ⊢
  clear hok hys
  replace hlim := Lib.hid hlim
  obtain ⟨W0, hW0⟩ : ∃ W0, W0 = w.alloc (.cells #[.int .i64 mn, .int .i64 mx] 58) := ⟨_, rfl⟩
  have b0 : Below w.heap.size w W0 := by rw [hW0]; exact (Below.refl _ _).alloc (Nat.le_refl _) _
  have q0 : W0.cell? ⟨w.heap.size, 0, none⟩ = some (.int .i64 mn) := by rw [hW0]; simp
  have q1 : W0.cell? ⟨w.heap.size, 1, none⟩ = some (.int .i64 mx) := by rw [hW0]; simp
  have hz : w.heap.size < W0.heap.size := by rw [hW0]; simp
  have ht := Lib.hid (h.later b0)
  have hP := h.lt
  have d0 := Lib.hid (Wro.ofBelow h.lt b0)
  have keep := box_keep h b0 (Nat.le_refl _) hz
  replace keep := Lib.hid keep
  replace hW0 := Lib.hid hW0
  clear b0 h
  go_enter Tryz.func111, Tryz.ntmps111
  go_upto_region 1 with fail
  rw [← hW0.out]
  go_wp2_with fail
  refine (tone_any B W0 P out 112 _ ht.out rfl (by decide)).mono ?_
  rintro e1 w1 (⟨_, hf, rfl, t1, b1⟩ | ⟨hn, rfl, b1⟩)
  · have c0 := (keep.out w1 b1 0).trans q0
    have c1 := (keep.out w1 b1 1).trans q1
    replace t1 := Lib.hid t1
    replace b1 := Lib.hid b1
    go_wp2_with fail
    refine (hlim.out w1 _ t1.out).mono ?_
    intro e2 w2 k2
    have this := Lib.hid ((WrPost.then ⟨trivial, hf⟩ b1.out k2).pre d0.out)
    rcases k2 with ⟨_, _, rfl, _⟩ | ⟨_, rfl, _⟩
    all_goals
      go_wp2_with fail
      go_ret
      exact this.out
  · have this := Lib.hid (((WrPost.stop (B := B) (C := ok) (yb := ys) hn b1).pre d0.out))
    go_wp2_with fail
    go_ret
    exact this.out
theorem cFT_ok (y : M.FT) : M.cFT.ok y ↔ (True ∧ (M.vec M.cVal).ok y.ps ∧ (M.vec M.cVal).ok y.rs) ∧ y.rs.length ≤ 1 := by
  show _ ∧ decide (y.rs.length ≤ 1) = true ↔ _
  rw [decide_eq_true_iff]
  exact Iff.rfl
theorem cFT_wr (y : M.FT) : M.cFT.wr y = [96] ++ ((M.vec M.cVal).wr y.ps ++ (M.vec M.cVal).wr y.rs) := rfl
set_option maxRecDepth 100000 in
set_option maxHeartbeats 1000000 in
theorem tft_any (B : Nat) (w : World) (P : Nat) (out : List Nat) (v1 v2 : Value) (ps rs : List Int) (h : MTx B w P out) (h1 : NS w (· < B) v1 ps) (h2 : NS w (· < B) v2 rs) (s1 : ps.length ≤ 1000000000) (s2 : rs.length ≤ 1000000000) :
    Calls Tryz.prog 105 #[.pointer (some ⟨P, 0, none⟩), .agg #[v1, v2]] w (WrPost B P out (M.cFT.ok ⟨ps, rs⟩) (M.cFT.wr ⟨ps, rs⟩) w) := by
  rw [cFT_ok, cFT_wr]
  have l1 := nums_lst h1 s1
  have l2 := nums_lst h2 s2
  clear h1 h2
  obtain ⟨A1, c1, rfl, _⟩ := l1.form
  obtain ⟨A2, c2, rfl, _⟩ := l2.form
  obtain ⟨W0, hW0⟩ : ∃ W0, W0 = w.alloc (.cells #[.slice A1 ps.length c1, .slice A2 rs.length c2] 54) := ⟨_, rfl⟩
  have b0 : Below w.heap.size w W0 := by rw [hW0]; exact (Below.refl _ _).alloc (Nat.le_refl _) _
  have q0 : W0.cell? ⟨w.heap.size, 0, none⟩ = some (.slice A1 ps.length c1) := by rw [hW0]; simp
  have q1 : W0.cell? ⟨w.heap.size, 1, none⟩ = some (.slice A2 rs.length c2) := by rw [hW0]; simp
  have hz : w.heap.size < W0.heap.size := by rw [hW0]; simp
  have L1 := Lib.hid (fun w' (b : Wro P W0 w') => l1.agree (below_agree ((b0.mono h.nn).trans (b.below (h.later b0)))) (fun _ hk => hk))
  have L2 := Lib.hid (fun w' (b : Wro P W0 w') => l2.agree (below_agree ((b0.mono h.nn).trans (b.below (h.later b0)))) (fun _ hk => hk))
  have ht := Lib.hid (h.later b0)
  have hP := h.lt
  have d0 := Lib.hid (Wro.ofBelow h.lt b0)
  have keep := box_keep h b0 (Nat.le_refl _) hz
  replace keep := Lib.hid keep
  replace hW0 := Lib.hid hW0
  clear b0 h l1 l2
  by_cases hr : rs.length ≤ 1
  · go_enter Tryz.func105, Tryz.ntmps105
    go_upto_region 1 with fail
    rw [← hW0.out]
    go_wp2_with fail
    refine (tone_any B W0 P out 96 _ ht.out rfl (by decide)).mono ?_
    rintro e1 w1 (⟨_, hf, rfl, t1, b1⟩ | ⟨hn, rfl, b1⟩)
    · have c0 := (keep.out w1 b1 0).trans q0
      have l1 := Lib.hid (L1.out w1 b1)
      replace t1 := Lib.hid t1
      replace b1 := Lib.hid b1
      go_wp2_with fail
      refine (list_w_val B w1 P _ _ ps t1.out l1.out (fun _ _ => trivial)).mono ?_
      rintro e2 w2 (⟨ho2, hf2, rfl, t2, b2⟩ | ⟨hn2, rfl, b2⟩)
      · have c1 := (keep.out w2 (b1.out.trans b2) 1).trans q1
        have l2 := Lib.hid (L2.out w2 (b1.out.trans b2))
        replace t2 := Lib.hid t2
        replace b2 := Lib.hid b2
        go_wp2_with fail
        refine (list_w_val B w2 P _ _ rs t2.out l2.out (fun _ _ => trivial)).mono ?_
        intro e3 w3 k3
        have this := Lib.hid (((WrPost.then ⟨trivial, hf⟩ b1.out (WrPost.then ⟨ho2, hf2⟩ b2.out k3)).pre d0.out).iff (C := (True ∧ (M.vec M.cVal).ok ps ∧ (M.vec M.cVal).ok rs) ∧ rs.length ≤ 1) ⟨fun hh => ⟨hh, hr⟩, fun hh => hh.1⟩)
        rcases k3 with ⟨_, _, rfl, _⟩ | ⟨_, rfl, _⟩
        all_goals
          go_wp2_with fail
          go_ret
          exact this.out
      · have this := Lib.hid (((WrPost.then (C := (M.vec M.cVal).ok ps ∧ (M.vec M.cVal).ok rs) (yb := (M.vec M.cVal).wr ps ++ (M.vec M.cVal).wr rs) ⟨trivial, hf⟩ b1.out (WrPost.stop (B := B) hn2 b2)).pre d0.out).iff (C := (True ∧ (M.vec M.cVal).ok ps ∧ (M.vec M.cVal).ok rs) ∧ rs.length ≤ 1) ⟨fun hh => ⟨hh, hr⟩, fun hh => hh.1⟩)
        go_wp2_with fail
        go_ret
        exact this.out
    · have this := Lib.hid ((((WrPost.stop (B := B) (C := (M.vec M.cVal).ok ps ∧ (M.vec M.cVal).ok rs) (yb := (M.vec M.cVal).wr ps ++ (M.vec M.cVal).wr rs) hn b1).pre d0.out)).iff (C := (True ∧ (M.vec M.cVal).ok ps ∧ (M.vec M.cVal).ok rs) ∧ rs.length ≤ 1) ⟨fun hh => ⟨hh, hr⟩, fun hh => hh.1⟩)
      go_wp2_with fail
      go_ret
      exact this.out
  · obtain ⟨ok, hok⟩ : ∃ ok : Prop, ok = ((True ∧ (M.vec M.cVal).ok ps ∧ (M.vec M.cVal).ok rs) ∧ rs.length ≤ 1) := ⟨_, rfl⟩
    obtain ⟨ys, hys⟩ : ∃ ys, ys = [96] ++ ((M.vec M.cVal).wr ps ++ (M.vec M.cVal).wr rs) := ⟨_, rfl⟩
    have hnk : ¬ ok := by rw [hok]; exact fun hh => hr hh.2
    rw [← hok, ← hys]
    have hno := Lib.hid ((WrPost.no (B := B) (P := P) (out := out) (w := W0) (ys := ys) hnk).pre d0.out)
    clear hok hys hnk
    have hgt : (1 : Int) < (rs.length : Int) := by omega
    have hle : ¬ ((rs.length : Int) ≤ 1) := by omega
    go_enter Tryz.func105, Tryz.ntmps105
    go_upto_region 1 with fail
    rw [← hW0.out]
    go_wp2_with fail
    go_ret
    exact hno.out
end Go.Proofs.YtilaheifccjjeaaGreat
namespace Go.Proofs.YtilaheifccjjeaaGreat
open Go.RowKit
/-- Where the page's reading has come to. -/
structure RAt (w : World) (P : Nat) (A : Option Addr) (c : Nat) (bs : List Nat) (p : Nat) (bad : Bool) : Prop where
  c0 : w.cell? ⟨P, 0, none⟩ = some (.slice A bs.length c)
  c1 : w.cell? ⟨P, 1, none⟩ = some (.int .i64 (p : Nat))
  c2 : w.cell? ⟨P, 2, none⟩ = some (.bool bad)
  f1 : w.frozen? ⟨P, 1, none⟩ = false
  f2 : w.frozen? ⟨P, 2, none⟩ = false
  le : p ≤ bs.length
  cap : bs.length ≤ c ∧ c ≤ maxLen
  small : bs.length ≤ 100000
  bytes : Bytes w P A bs.length (M.bf bs)
  size : P < w.heap.size
theorem RAt.agree {w w' : World} {P : Nat} {A : Option Addr} {c : Nat} {bs : List Nat} {p : Nat} {bad : Bool} (h : RAt w P A c bs p bad) (hb : ∀ k, k ≤ P → w'.heap[k]? = w.heap[k]?) (hs : w.heap.size ≤ w'.heap.size) : RAt w' P A c bs p bad := by
  have e : ∀ j, w'.cell? ⟨P, j, none⟩ = w.cell? ⟨P, j, none⟩ := fun j => World.cell?_of_block (w := w) (hb P (Nat.le_refl _))
  have f : ∀ j, w'.frozen? ⟨P, j, none⟩ = w.frozen? ⟨P, j, none⟩ := fun j => World.frozen?_of_block (w := w) (hb P (Nat.le_refl _))
  obtain ⟨c0, c1, c2, f1, f2, le, cap, small, bytes, size⟩ := h
  refine ⟨by rw [e]; exact c0, by rw [e]; exact c1, by rw [e]; exact c2, by rw [f]; exact f1, by rw [f]; exact f2, le, cap, small, ?_, Nat.lt_of_lt_of_le size hs⟩
  intro i hi
  obtain ⟨ad, e1, h1, h2, h3⟩ := bytes i hi
  exact ⟨ad, e1, h1, h2, by rw [World.cell?_of_block (w := w) (hb _ (by rw [addr_block]; omega))]; exact h3⟩
theorem bytes_set {w : World} {P j : Nat} {u : Value} {A : Option Addr} {bs : List Nat} (h : Bytes w P A bs.length (M.bf bs)) : Bytes (w.setCell ⟨P, j, none⟩ u) P A bs.length (M.bf bs) := by
  intro i hi
  obtain ⟨ad, e1, h1, h2, h3⟩ := h i hi
  exact ⟨ad, e1, h1, h2, by rw [World.cell?_of_block (w := w) (Below.heap_setCell _ _ _ _ (by rw [addr_block]; show ad.block ≠ P; omega))]; exact h3⟩
theorem RAt.move {w : World} {P : Nat} {A : Option Addr} {c : Nat} {bs : List Nat} {p : Nat} {bad : Bool} (h : RAt w P A c bs p bad) (q : Nat) (hq : q ≤ bs.length) : RAt (w.setCell ⟨P, 1, none⟩ (.int .i64 (q : Nat))) P A c bs q bad := by
  obtain ⟨c0, c1, c2, f1, f2, le, cap, small, bytes, size⟩ := h
  have o : ∀ j, j ≠ 1 → (w.setCell ⟨P, 1, none⟩ (.int .i64 (q : Nat))).cell? ⟨P, j, none⟩ = w.cell? ⟨P, j, none⟩ := fun j hj => World.cell?_setCell_other _ _ _ _ (by intro e; cases e; exact hj rfl)
  exact ⟨by rw [o _ (by decide)]; exact c0, World.cell?_setCell_same _ _ _ c1, by rw [o _ (by decide)]; exact c2, by simpa using f1, by simpa using f2, hq, cap, small, bytes_set bytes, by simpa using size⟩
theorem RAt.fail {w : World} {P : Nat} {A : Option Addr} {c : Nat} {bs : List Nat} {p : Nat} {bad : Bool} (h : RAt w P A c bs p bad) : RAt (w.setCell ⟨P, 2, none⟩ (.bool true)) P A c bs p true := by
  obtain ⟨c0, c1, c2, f1, f2, le, cap, small, bytes, size⟩ := h
  have o : ∀ j, j ≠ 2 → (w.setCell ⟨P, 2, none⟩ (.bool true)).cell? ⟨P, j, none⟩ = w.cell? ⟨P, j, none⟩ := fun j hj => World.cell?_setCell_other _ _ _ _ (by intro e; cases e; exact hj rfl)
  exact ⟨by rw [o _ (by decide)]; exact c0, by rw [o _ (by decide)]; exact c1, World.cell?_setCell_same _ _ _ c2, by simpa using f1, by simpa using f2, le, cap, small, bytes_set bytes, by simpa using size⟩
theorem RAt.drewN {w : World} {P : Nat} {A : Option Addr} {c : Nat} {bs : List Nat} {p : Nat} {bad : Bool} (h : RAt w P A c bs p bad) (n : Nat) : RAt (w.drewN n) P A c bs p bad := h.agree (fun _ _ => rfl) (Nat.le_refl _)
theorem Kb.drewN {T : Nat → Prop} {a b : World} (h : Kb T a b) (n : Nat) : Kb T a (b.drewN n) := ⟨h.os, h.tape, h.output, h.size, h.block⟩
/-- What is left to read, or that reading has gone wrong. -/
def St (w : World) (P : Nat) (A : Option Addr) (c : Nat) (bs : List Nat) : Option (List Nat) → Prop
  | some r => ∃ q, RAt w P A c bs q false ∧ r = bs.drop q
  | none => ∃ q, RAt w P A c bs q true
theorem St.agree {w w' : World} {P : Nat} {A : Option Addr} {c : Nat} {bs : List Nat} {o : Option (List Nat)} (h : St w P A c bs o) (hb : ∀ k, k ≤ P → w'.heap[k]? = w.heap[k]?) (hs : w.heap.size ≤ w'.heap.size) : St w' P A c bs o := by
  cases o with
  | none => obtain ⟨q, hq⟩ := h; exact ⟨q, hq.agree hb hs⟩
  | some r => obtain ⟨q, hq, e⟩ := h; exact ⟨q, hq.agree hb hs, e⟩
theorem St.lt {w : World} {P : Nat} {A : Option Addr} {c : Nat} {bs : List Nat} {o : Option (List Nat)} (h : St w P A c bs o) : P < w.heap.size := by
  cases o with
  | none => obtain ⟨q, hq⟩ := h; exact hq.size
  | some r => obtain ⟨q, hq, e⟩ := h; exact hq.size
/-- Whether reading has gone wrong. -/
theorem St.bad {w : World} {P : Nat} {A : Option Addr} {c : Nat} {bs : List Nat} {o : Option (List Nat)} (h : St w P A c bs o) : w.cell? ⟨P, 2, none⟩ = some (.bool o.isNone) ∧ w.frozen? ⟨P, 2, none⟩ = false := by
  cases o with
  | none => obtain ⟨q, hq⟩ := h; exact ⟨hq.c2, hq.f2⟩
  | some r => obtain ⟨q, hq, e⟩ := h; exact ⟨hq.c2, hq.f2⟩
theorem St.fail {w : World} {P : Nat} {A : Option Addr} {c : Nat} {bs : List Nat} {o : Option (List Nat)} (h : St w P A c bs o) : St (w.setCell ⟨P, 2, none⟩ (.bool true)) P A c bs none := by
  cases o with
  | none => obtain ⟨q, hq⟩ := h; exact ⟨q, hq.fail⟩
  | some r => obtain ⟨q, hq, e⟩ := h; exact ⟨q, hq.fail⟩
namespace M
end M
end Go.Proofs.YtilaheifccjjeaaGreat
namespace Go.Proofs.YtilaheifccjjeaaGreat
open Go.RowKit
theorem width_l (op W : Int) (w : World) (hW : widthOf op = W) : Calls Tryz.prog 264 #[.int .i64 op] w fun e w' => e = .returned (.int .i64 W) ∧ w = w' := (width_any op w).mono fun _ _ ⟨a, b⟩ => ⟨by rw [a, hW], b⟩
set_option maxRecDepth 100000 in
theorem val_32 (P : Nat) (ad : Addr) (c : Nat) (bs : List Nat) (d g o base : Nat) (sub : M.Rd) (s : M.Stt) (w : World) (p : Nat) (vL vB vE : Value) (h : RS P (some ad) c bs d g o base s w p vL vB vE) (hwd : M.wd s.h.op = 32) :
    Calls Tryz.prog 252 #[.pointer (some ⟨P, 0, none⟩), .pointer (some ⟨g, o, none⟩)] w (RdPost P (some ad) c bs d g o base w (M.rdPart sub 6 s)) := by
  have hW := Lib.hid (show widthOf s.h.op = 32 by
    unfold M.wd at hwd
    unfold widthOf
    split at hwd
    · rename_i e; first | (exfalso; omega) | rw [if_pos e]
    · rename_i e; first | (exfalso; omega) | rw [if_neg e])
  have h0 := Lib.hid h
  have hop := h.item.c0
  have hc5 := h.item.c5
  obtain ⟨cur, hcur⟩ := h.blk
  have hf := hcur.frozen (o + 5)
  have hPg := h.apart
  have hr := h.rest
  have hpl := Lib.hid h.place
  have hglt := h.lt
  clear hcur
  obtain ⟨c0, c1, c2, c3, c4, c5, c6, c7, c8, c9, c10, c11, c12, f1, f2, le, cap, small, deep, bytes, size⟩ := h.place
  clear c2 c3 c4 c5 c6 c7 c8 c9 c10 c11 c12 f2
  obtain ⟨cap1, cap2⟩ := cap
  unfold maxLen at cap2
  replace bytes := Lib.hid bytes
  clear h
  have t0 : (0 : Int) ≤ (p : Int) := by omega
  have t1 : (p : Int) ≤ (bs.length : Int) := by omega
  have hgP : ¬ g = P := by omega
  cases hn : M.sgn 32 (bs.drop p) with
  | none =>
    have hres := Lib.hid (show M.rdPart sub 6 s = none by simp only [M.rdPart, hr, hwd, hn]; rfl)
    have hS := Lib.hid (sgn_none hn)
    clear hn hr hwd
    by_cases t2 : c = p
    · have hl0 : bs.length = p := by omega
      have h00 : bs.length - p = 0 := by omega
      go_enter Tryz.func252, Tryz.ntmps252
      go_wp2_with fail
      go_region_held3 (fun w' => w'.cell? ⟨P, 0, none⟩ = some (.slice (some ad) bs.length c) ∧ w'.cell? ⟨P, 1, none⟩ = some (.int .i64 (p : Nat)) ∧ w'.cell? ⟨g, o, none⟩ = some (.int .i64 s.h.op) ∧ Below w.heap.size w w')
    (first | exact ⟨c0, c1, hop, (Below.refl _ _).drew⟩ | assumption | (go_split_ands; exact ⟨by rw [hw2.cell (p := ⟨P, 0, none⟩) (by exact size)]; exact c0, by rw [hw2.cell (p := ⟨P, 1, none⟩) (by exact size)]; exact c1, by rw [hw2.cell (p := ⟨g, o, none⟩) (by exact hglt)]; exact hop, (Below.drew (Below.refl _ _)).trans hw2⟩))
    (first
      | (go_at_call 264; refine (width_l _ _ _ hW.out).mono ?_; rintro e w2 ⟨rfl, rfl⟩)
      | (go_at_call 266; refine (Sint_no (some ad) 0 _ (M.bf (bs.drop p)) 32 _ (fun i hi => absurd hi (Nat.not_lt_zero _)) (by unfold maxLen; omega) (by omega) (by omega) (fun n hn => hn.2.1 (by rw [← hn.1]; rfl))).mono ?_; rintro e w2 ⟨rfl, hw2⟩))
      have d2 := Lib.hid ((Below.drew (Below.refl w.heap.size w)).trans hw2)
      clear hw2
      go_wp2_with fail
      go_ret
      exact .inr ⟨hres.out, rfl, ⟨p, hpl.out.agree (fun k hk => d2.out.block k (by omega)) d2.out.size⟩, Step.of_kb (.of_below d2.out) hglt (by omega)⟩
    · go_enter Tryz.func252, Tryz.ntmps252
      go_wp2_with fail
      go_region_held3 (fun w' => w'.cell? ⟨P, 0, none⟩ = some (.slice (some ad) bs.length c) ∧ w'.cell? ⟨P, 1, none⟩ = some (.int .i64 (p : Nat)) ∧ w'.cell? ⟨g, o, none⟩ = some (.int .i64 s.h.op) ∧ Below w.heap.size w w')
    (first | exact ⟨c0, c1, hop, (Below.refl _ _).drew⟩ | assumption | (go_split_ands; exact ⟨by rw [hw2.cell (p := ⟨P, 0, none⟩) (by exact size)]; exact c0, by rw [hw2.cell (p := ⟨P, 1, none⟩) (by exact size)]; exact c1, by rw [hw2.cell (p := ⟨g, o, none⟩) (by exact hglt)]; exact hop, (Below.drew (Below.refl _ _)).trans hw2⟩))
    (first
      | (go_at_call 264; refine (width_l _ _ _ hW.out).mono ?_; rintro e w2 ⟨rfl, rfl⟩)
      | (go_at_call 266; refine (Sint_no (some (ad.add p)) (bs.length - p) (c - p) (M.bf (bs.drop p)) 32 _ ?_ (by unfold maxLen; omega) (by omega) (by omega) (by rw [← List.length_drop]; exact hS.out)).mono ?_; (rw [← List.length_drop]; exact (rest_bytes p bytes.out).below (Below.drew (Below.refl _ _)) (Nat.le_of_lt size)); rintro e w2 ⟨rfl, hw2⟩))
      have d2 := Lib.hid ((Below.drew (Below.refl w.heap.size w)).trans hw2)
      clear hw2
      go_wp2_with fail
      go_ret
      exact .inr ⟨hres.out, rfl, ⟨p, hpl.out.agree (fun k hk => d2.out.block k (by omega)) d2.out.size⟩, Step.of_kb (.of_below d2.out) hglt (by omega)⟩
  | some x =>
    obtain ⟨v, r⟩ := x
    obtain ⟨n, hS, hv, hrq, n1, n2⟩ := sgn_of hn
    have hvr := (M.sgn_short hn).1
    have hres := Lib.hid (show M.rdPart sub 6 s = some { s with r := r, h := { s.h with val := v } } by simp only [M.rdPart, hr, hwd, hn]; rfl)
    rw [List.length_drop] at n2
    have t2 : ¬ c = p := by omega
    replace hS := Lib.hid hS
    replace hrq := Lib.hid hrq
    replace hv := Lib.hid hv
    replace hvr := Lib.hid hvr
    clear hn hr hwd
    go_enter Tryz.func252, Tryz.ntmps252
    go_wp2_with fail
    go_region_held3 (fun w' => w'.cell? ⟨P, 0, none⟩ = some (.slice (some ad) bs.length c) ∧ w'.cell? ⟨P, 1, none⟩ = some (.int .i64 (p : Nat)) ∧ w'.cell? ⟨g, o, none⟩ = some (.int .i64 s.h.op) ∧ Below w.heap.size w w')
    (first | exact ⟨c0, c1, hop, (Below.refl _ _).drew⟩ | assumption | (go_split_ands; exact ⟨by rw [hw2.cell (p := ⟨P, 0, none⟩) (by exact size)]; exact c0, by rw [hw2.cell (p := ⟨P, 1, none⟩) (by exact size)]; exact c1, by rw [hw2.cell (p := ⟨g, o, none⟩) (by exact hglt)]; exact hop, (Below.drew (Below.refl _ _)).trans hw2⟩))
    (first
      | (go_at_call 264; refine (width_l _ _ _ hW.out).mono ?_; rintro e w2 ⟨rfl, rfl⟩)
      | (go_at_call 266; refine (Sint_yes (some (ad.add p)) (bs.length - p) (c - p) (M.bf (bs.drop p)) 32 n _ ?_ (by unfold maxLen; omega) (by omega) (by omega) (by rw [← List.length_drop]; exact hS.out)).mono ?_; (rw [← List.length_drop]; exact (rest_bytes p bytes.out).below (Below.drew (Below.refl _ _)) (Nat.le_of_lt size)); rintro e w2 ⟨rfl, hw2⟩))
    have d2 : Below w.heap.size w w2 := (Below.drew (Below.refl _ _)).trans hw2
    have hc52 : w2.cell? ⟨g, o + 5, none⟩ = some (.int .i64 s.h.val) := by rw [d2.cell (by exact hglt)]; exact hc5
    have hf2 : w2.frozen? ⟨g, o + 5, none⟩ = false := by rw [d2.frozen (by exact hglt)]; exact hf
    have c12 : w2.cell? ⟨P, 1, none⟩ = some (.int .i64 (p : Nat)) := by rw [d2.cell (by exact size)]; exact c1
    have f12 : w2.frozen? ⟨P, 1, none⟩ = false := by rw [d2.frozen (by exact size)]; exact f1
    rw [← hv.out]
    clear hw2 c0 c1 f1 hc5 hf hop
    replace d2 := Lib.hid d2
    go_wp2_with fail
    go_ret
    obtain ⟨st, pl, it, it1⟩ := h0.out.num (j := 5) (v := v) (q := p + n) d2.out (by omega) (by decide)
    have hR := h0.out.rng
    have hvr' := hvr.out
    simp at hvr'
    rw [Int.natCast_add] at st pl it
    exact .inl ⟨_, p + n, vL, vB, vE, hres.out, rfl, h0.out.step st pl (by simp only; rw [hrq.out, List.drop_drop]) (it _ (it1.put5 _)) ⟨hR.r0, hR.r1, hR.r2, hR.r3, hR.r4, by simp only; omega⟩ rfl rfl rfl, st⟩
set_option maxRecDepth 100000 in
theorem val_64 (P : Nat) (ad : Addr) (c : Nat) (bs : List Nat) (d g o base : Nat) (sub : M.Rd) (s : M.Stt) (w : World) (p : Nat) (vL vB vE : Value) (h : RS P (some ad) c bs d g o base s w p vL vB vE) (hwd : M.wd s.h.op = 64) :
    Calls Tryz.prog 252 #[.pointer (some ⟨P, 0, none⟩), .pointer (some ⟨g, o, none⟩)] w (RdPost P (some ad) c bs d g o base w (M.rdPart sub 6 s)) := by
  have hW := Lib.hid (show widthOf s.h.op = 64 by
    unfold M.wd at hwd
    unfold widthOf
    split at hwd
    · rename_i e; first | (exfalso; omega) | rw [if_pos e]
    · rename_i e; first | (exfalso; omega) | rw [if_neg e])
  have h0 := Lib.hid h
  have hop := h.item.c0
  have hc5 := h.item.c5
  obtain ⟨cur, hcur⟩ := h.blk
  have hf := hcur.frozen (o + 5)
  have hPg := h.apart
  have hr := h.rest
  have hpl := Lib.hid h.place
  have hglt := h.lt
  clear hcur
  obtain ⟨c0, c1, c2, c3, c4, c5, c6, c7, c8, c9, c10, c11, c12, f1, f2, le, cap, small, deep, bytes, size⟩ := h.place
  clear c2 c3 c4 c5 c6 c7 c8 c9 c10 c11 c12 f2
  obtain ⟨cap1, cap2⟩ := cap
  unfold maxLen at cap2
  replace bytes := Lib.hid bytes
  clear h
  have t0 : (0 : Int) ≤ (p : Int) := by omega
  have t1 : (p : Int) ≤ (bs.length : Int) := by omega
  have hgP : ¬ g = P := by omega
  cases hn : M.sgn 64 (bs.drop p) with
  | none =>
    have hres := Lib.hid (show M.rdPart sub 6 s = none by simp only [M.rdPart, hr, hwd, hn]; rfl)
    have hS := Lib.hid (sgn_none hn)
    clear hn hr hwd
    by_cases t2 : c = p
    · have hl0 : bs.length = p := by omega
      have h00 : bs.length - p = 0 := by omega
      go_enter Tryz.func252, Tryz.ntmps252
      go_wp2_with fail
      go_region_held3 (fun w' => w'.cell? ⟨P, 0, none⟩ = some (.slice (some ad) bs.length c) ∧ w'.cell? ⟨P, 1, none⟩ = some (.int .i64 (p : Nat)) ∧ w'.cell? ⟨g, o, none⟩ = some (.int .i64 s.h.op) ∧ Below w.heap.size w w')
    (first | exact ⟨c0, c1, hop, (Below.refl _ _).drew⟩ | assumption | (go_split_ands; exact ⟨by rw [hw2.cell (p := ⟨P, 0, none⟩) (by exact size)]; exact c0, by rw [hw2.cell (p := ⟨P, 1, none⟩) (by exact size)]; exact c1, by rw [hw2.cell (p := ⟨g, o, none⟩) (by exact hglt)]; exact hop, (Below.drew (Below.refl _ _)).trans hw2⟩))
    (first
      | (go_at_call 264; refine (width_l _ _ _ hW.out).mono ?_; rintro e w2 ⟨rfl, rfl⟩)
      | (go_at_call 266; refine (Sint_no (some ad) 0 _ (M.bf (bs.drop p)) 64 _ (fun i hi => absurd hi (Nat.not_lt_zero _)) (by unfold maxLen; omega) (by omega) (by omega) (fun n hn => hn.2.1 (by rw [← hn.1]; rfl))).mono ?_; rintro e w2 ⟨rfl, hw2⟩))
      have d2 := Lib.hid ((Below.drew (Below.refl w.heap.size w)).trans hw2)
      clear hw2
      go_wp2_with fail
      go_ret
      exact .inr ⟨hres.out, rfl, ⟨p, hpl.out.agree (fun k hk => d2.out.block k (by omega)) d2.out.size⟩, Step.of_kb (.of_below d2.out) hglt (by omega)⟩
    · go_enter Tryz.func252, Tryz.ntmps252
      go_wp2_with fail
      go_region_held3 (fun w' => w'.cell? ⟨P, 0, none⟩ = some (.slice (some ad) bs.length c) ∧ w'.cell? ⟨P, 1, none⟩ = some (.int .i64 (p : Nat)) ∧ w'.cell? ⟨g, o, none⟩ = some (.int .i64 s.h.op) ∧ Below w.heap.size w w')
    (first | exact ⟨c0, c1, hop, (Below.refl _ _).drew⟩ | assumption | (go_split_ands; exact ⟨by rw [hw2.cell (p := ⟨P, 0, none⟩) (by exact size)]; exact c0, by rw [hw2.cell (p := ⟨P, 1, none⟩) (by exact size)]; exact c1, by rw [hw2.cell (p := ⟨g, o, none⟩) (by exact hglt)]; exact hop, (Below.drew (Below.refl _ _)).trans hw2⟩))
    (first
      | (go_at_call 264; refine (width_l _ _ _ hW.out).mono ?_; rintro e w2 ⟨rfl, rfl⟩)
      | (go_at_call 266; refine (Sint_no (some (ad.add p)) (bs.length - p) (c - p) (M.bf (bs.drop p)) 64 _ ?_ (by unfold maxLen; omega) (by omega) (by omega) (by rw [← List.length_drop]; exact hS.out)).mono ?_; (rw [← List.length_drop]; exact (rest_bytes p bytes.out).below (Below.drew (Below.refl _ _)) (Nat.le_of_lt size)); rintro e w2 ⟨rfl, hw2⟩))
      have d2 := Lib.hid ((Below.drew (Below.refl w.heap.size w)).trans hw2)
      clear hw2
      go_wp2_with fail
      go_ret
      exact .inr ⟨hres.out, rfl, ⟨p, hpl.out.agree (fun k hk => d2.out.block k (by omega)) d2.out.size⟩, Step.of_kb (.of_below d2.out) hglt (by omega)⟩
  | some x =>
    obtain ⟨v, r⟩ := x
    obtain ⟨n, hS, hv, hrq, n1, n2⟩ := sgn_of hn
    have hvr := (M.sgn_short hn).1
    have hres := Lib.hid (show M.rdPart sub 6 s = some { s with r := r, h := { s.h with val := v } } by simp only [M.rdPart, hr, hwd, hn]; rfl)
    rw [List.length_drop] at n2
    have t2 : ¬ c = p := by omega
    replace hS := Lib.hid hS
    replace hrq := Lib.hid hrq
    replace hv := Lib.hid hv
    replace hvr := Lib.hid hvr
    clear hn hr hwd
    go_enter Tryz.func252, Tryz.ntmps252
    go_wp2_with fail
    go_region_held3 (fun w' => w'.cell? ⟨P, 0, none⟩ = some (.slice (some ad) bs.length c) ∧ w'.cell? ⟨P, 1, none⟩ = some (.int .i64 (p : Nat)) ∧ w'.cell? ⟨g, o, none⟩ = some (.int .i64 s.h.op) ∧ Below w.heap.size w w')
    (first | exact ⟨c0, c1, hop, (Below.refl _ _).drew⟩ | assumption | (go_split_ands; exact ⟨by rw [hw2.cell (p := ⟨P, 0, none⟩) (by exact size)]; exact c0, by rw [hw2.cell (p := ⟨P, 1, none⟩) (by exact size)]; exact c1, by rw [hw2.cell (p := ⟨g, o, none⟩) (by exact hglt)]; exact hop, (Below.drew (Below.refl _ _)).trans hw2⟩))
    (first
      | (go_at_call 264; refine (width_l _ _ _ hW.out).mono ?_; rintro e w2 ⟨rfl, rfl⟩)
      | (go_at_call 266; refine (Sint_yes (some (ad.add p)) (bs.length - p) (c - p) (M.bf (bs.drop p)) 64 n _ ?_ (by unfold maxLen; omega) (by omega) (by omega) (by rw [← List.length_drop]; exact hS.out)).mono ?_; (rw [← List.length_drop]; exact (rest_bytes p bytes.out).below (Below.drew (Below.refl _ _)) (Nat.le_of_lt size)); rintro e w2 ⟨rfl, hw2⟩))
    have d2 : Below w.heap.size w w2 := (Below.drew (Below.refl _ _)).trans hw2
    have hc52 : w2.cell? ⟨g, o + 5, none⟩ = some (.int .i64 s.h.val) := by rw [d2.cell (by exact hglt)]; exact hc5
    have hf2 : w2.frozen? ⟨g, o + 5, none⟩ = false := by rw [d2.frozen (by exact hglt)]; exact hf
    have c12 : w2.cell? ⟨P, 1, none⟩ = some (.int .i64 (p : Nat)) := by rw [d2.cell (by exact size)]; exact c1
    have f12 : w2.frozen? ⟨P, 1, none⟩ = false := by rw [d2.frozen (by exact size)]; exact f1
    rw [← hv.out]
    clear hw2 c0 c1 f1 hc5 hf hop
    replace d2 := Lib.hid d2
    go_wp2_with fail
    go_ret
    obtain ⟨st, pl, it, it1⟩ := h0.out.num (j := 5) (v := v) (q := p + n) d2.out (by omega) (by decide)
    have hR := h0.out.rng
    have hvr' := hvr.out
    simp at hvr'
    rw [Int.natCast_add] at st pl it
    exact .inl ⟨_, p + n, vL, vB, vE, hres.out, rfl, h0.out.step st pl (by simp only; rw [hrq.out, List.drop_drop]) (it _ (it1.put5 _)) ⟨hR.r0, hR.r1, hR.r2, hR.r3, hR.r4, by simp only; omega⟩ rfl rfl rfl, st⟩
theorem val_any (P : Nat) (ad : Addr) (c : Nat) (bs : List Nat) (d g o base : Nat) (sub : M.Rd) (s : M.Stt) (w : World) (p : Nat) (vL vB vE : Value) (h : RS P (some ad) c bs d g o base s w p vL vB vE) :
    Calls Tryz.prog 252 #[.pointer (some ⟨P, 0, none⟩), .pointer (some ⟨g, o, none⟩)] w (RdPost P (some ad) c bs d g o base w (M.rdPart sub 6 s)) := by
  by_cases e : s.h.op = 65
  · exact val_32 P ad c bs d g o base sub s w p vL vB vE h (by unfold M.wd; rw [if_pos e])
  · exact val_64 P ad c bs d g o base sub s w p vL vB vE h (by unfold M.wd; rw [if_neg e])
end Go.Proofs.YtilaheifccjjeaaGreat
namespace Go.Proofs.YtilaheifccjjeaaGreat
open Go.RowKit
/-- What the reader of a list leaves. -/
def ListPost (P : Nat) (ad : Addr) (c : Nat) (bs : List Nat) (d p : Nat) (w : World) (e : Ending) (w' : World) : Prop :=
  (∃ l r v q, M.dec (40 - d) (bs.drop p) = some (l, r) ∧ e = .returned (.tuple #[v, .bool true]) ∧ PlaceAt w' P (some ad) c bs q d ∧ r = bs.drop q ∧ OwnL w' (Since w.heap.size w') v l ∧ Kb (· = P) w w') ∨
  (M.dec (40 - d) (bs.drop p) = none ∧ e = .returned (.tuple #[.slice none 0 0, .bool false]) ∧ (∃ q, PlaceAt w' P (some ad) c bs q d) ∧ Kb (· = P) w w')
def ListOk (d : Nat) : Prop := ∀ (P : Nat) (ad : Addr) (c : Nat) (bs : List Nat) (p : Nat) (w : World), PlaceAt w P (some ad) c bs p d →
  Calls Tryz.prog 235 #[.pointer (some ⟨P, 0, none⟩)] w (ListPost P ad c bs d p w)
/-- What reading a block's instructions leaves. -/
def WithinPost (P : Nat) (ad : Addr) (c : Nat) (bs : List Nat) (d p g j : Nat) (w : World) (e : Ending) (w' : World) : Prop :=
  (∃ l r v q w3, M.subOf (40 - d) (bs.drop p) = some (l, r) ∧ e = .returned (.bool true) ∧ PlaceAt w3 P (some ad) c bs q d ∧ r = bs.drop q ∧ OwnL w3 (Since w.heap.size w3) v l ∧ Kb (· = P) w w3 ∧ w' = w3.setCell ⟨g, j, none⟩ v) ∨
  (M.subOf (40 - d) (bs.drop p) = none ∧ e = .returned (.bool false) ∧ ∃ q w3, PlaceAt w3 P (some ad) c bs q d ∧ Kb (· = P) w w3 ∧ (w' = w3 ∨ w' = w3.setCell ⟨g, j, none⟩ (.slice none 0 0)))
theorem own_slice {w : World} {S : Nat → Prop} {v : Value} {l : M.L} (h : OwnL w S v l) : ∃ A n c, v = .slice A n c := by
  obtain ⟨xs, h1, _⟩ := h
  rcases h1.2 with ⟨rfl, _⟩ | ⟨g, cap, cur, rfl, _⟩
  · exact ⟨_, _, _, rfl⟩
  · exact ⟨_, _, _, rfl⟩
set_option maxRecDepth 100000 in
theorem within_any (P : Nat) (ad : Addr) (c : Nat) (bs : List Nat) (d p g j : Nat) (u : Value) (w : World) (ih : d < 40 → ListOk (d + 1)) (h : PlaceAt w P (some ad) c bs p d) (hPg : P < g) (hu : w.cell? ⟨g, j, none⟩ = some u) (hf : w.frozen? ⟨g, j, none⟩ = false) :
    Calls Tryz.prog 267 #[.pointer (some ⟨P, 0, none⟩), .pointer (some ⟨g, j, none⟩)] w (WithinPost P ad c bs d p g j w) := by
  have hglt : g < w.heap.size := World.block_lt_of_cell? w ⟨g, j, none⟩ hu
  have hpl := Lib.hid h
  have c2 := h.c2
  have f2 := h.f2
  have hd := h.deep
  have hPs := h.size
  have hgP : ¬ g = P := by omega
  clear h
  by_cases h40 : d = 40
  · have t1 : ((d : Int) == 40) = true := by rw [beq_iff_eq]; omega
    have hs := Lib.hid (show M.subOf (40 - d) (bs.drop p) = none by rw [h40]; rfl)
    replace h40 := Lib.hid h40
    go_enter Tryz.func267, Tryz.ntmps267
    go_wp2_with fail
    go_ret
    exact .inr ⟨hs.out, rfl, p, w, hpl.out, Kb.refl _ _, .inl rfl⟩
  · have t1 : ((d : Int) == 40) = false := by rw [beq_eq_false_iff_ne]; omega
    have hs := Lib.hid (show M.subOf (40 - d) = M.dec (40 - (d + 1)) by rw [show 40 - d = (40 - (d + 1)) + 1 by omega]; rfl)
    have hih := Lib.hid (ih (by omega))
    clear ih
    go_enter Tryz.func267, Tryz.ntmps267
    go_wp2_with fail
    have pl1 := hpl.out.depth (d + 1) (by omega)
    rw [Int.natCast_add] at pl1
    refine (hih.out P ad c bs p _ pl1).mono ?_
    have k1 : Kb (· = P) w (w.setCell ⟨P, 2, none⟩ (.int .i64 ((d : Int) + 1))) := Kb.setCell (T := (· = P)) (Kb.refl _ _) (p := ⟨P, 2, none⟩) rfl _
    rintro e1 w2 (⟨l, r, v, q, hdec, rfl, pl2, hr, hown, kb⟩ | ⟨hdec, rfl, ⟨q, pl2⟩, kb⟩)
    · have k2 := k1.trans kb
      have hu2 : w2.cell? ⟨g, j, none⟩ = some u := by rw [World.cell?_of_block (w := w) (k2.block g hglt hgP)]; exact hu
      have hf2 : w2.frozen? ⟨g, j, none⟩ = false := by rw [World.frozen?_of_block (w := w) (k2.block g hglt hgP)]; exact hf
      have c22 := pl2.c2
      have f22 := pl2.f2
      rw [Int.natCast_add] at c22
      obtain ⟨A, n, cc, rfl⟩ := own_slice hown
      have pl3 := Lib.hid (pl2.depth d (by omega))
      have k3 := Lib.hid (Kb.setCell (T := (· = P)) k2 (p := ⟨P, 2, none⟩) rfl (.int .i64 (d : Nat)))
      have hP2 : P < w.heap.size := hPs
      have hown3 : OwnL (w2.setCell ⟨P, 2, none⟩ (.int .i64 (d : Nat))) (Since w.heap.size (w2.setCell ⟨P, 2, none⟩ (.int .i64 (d : Nat)))) (.slice A n cc) l :=
        hown.agree (fun k hk => Below.heap_setCell _ _ _ _ (by have := hk.1; simp at this; show k ≠ P; omega)) (fun k hk => ⟨by have := hk.1; simpa using this, by simpa using hk.2⟩)
      replace hown3 := Lib.hid hown3
      clear hown kb k1 hu hf c2 f2 pl1
      replace pl2 := Lib.hid pl2
      replace k2 := Lib.hid k2
      replace hdec := Lib.hid hdec
      replace hr := Lib.hid hr
      go_wp2_with fail
      go_ret
      exact .inl ⟨l, r, _, q, _, by rw [hs.out]; exact hdec.out, rfl, pl3.out, hr.out, hown3.out, k3.out, rfl⟩
    · have k2 := k1.trans kb
      have hu2 : w2.cell? ⟨g, j, none⟩ = some u := by rw [World.cell?_of_block (w := w) (k2.block g hglt hgP)]; exact hu
      have hf2 : w2.frozen? ⟨g, j, none⟩ = false := by rw [World.frozen?_of_block (w := w) (k2.block g hglt hgP)]; exact hf
      have c22 := pl2.c2
      have f22 := pl2.f2
      rw [Int.natCast_add] at c22
      have pl3 := Lib.hid (pl2.depth d (by omega))
      have k3 := Lib.hid (Kb.setCell (T := (· = P)) k2 (p := ⟨P, 2, none⟩) rfl (.int .i64 (d : Nat)))
      clear kb k1 hu hf c2 f2 pl1
      replace pl2 := Lib.hid pl2
      replace k2 := Lib.hid k2
      replace hdec := Lib.hid hdec
      go_wp2_with fail
      go_ret
      exact .inr ⟨by rw [hs.out]; exact hdec.out, rfl, q, _, pl3.out, k3.out, .inr rfl⟩
/-- A block's instructions have been read into the body, or behind else. -/
theorem RS.inner {P : Nat} {ad : Addr} {c : Nat} {bs : List Nat} {d g o base : Nat} {s : M.Stt} {w w3 : World} {p q j : Nat} {vL vB vE v : Value} {l : M.L} (h : RS P (some ad) c bs d g o base s w p vL vB vE) (hj : j < 9) (pl : PlaceAt w3 P (some ad) c bs q d) (kb : Kb (· = P) w w3) (hown : OwnL w3 (Since w.heap.size w3) v l) :
    Step P g o w (w3.setCell ⟨g, o + j, none⟩ v) ∧ PlaceAt (w3.setCell ⟨g, o + j, none⟩ v) P (some ad) c bs q d ∧ ItemAt w3 g o s.h vL vB vE ∧ OwnL (w3.setCell ⟨g, o + j, none⟩ v) (Since base (w3.setCell ⟨g, o + j, none⟩ v)) v l := by
  have hPg := h.apart
  have hgP : g ≠ P := by omega
  have s1 : Step P g o w w3 := Step.of_kb kb h.lt hgP
  refine ⟨s1.trans (Step.set w3 j _ hj), pl.agree (fun k hk => Below.heap_setCell _ _ _ _ (by show k ≠ g; omega)) (by simp), h.item.agree (kb.block g h.lt hgP), ?_⟩
  have h1 := h.old
  have h2 := h.lt
  exact hown.agree (fun k hk => Below.heap_setCell _ _ _ _ (by have := hk.1; show k ≠ g; omega)) (fun k hk => ⟨by have := hk.1; omega, by simpa using hk.2⟩)
set_option maxRecDepth 100000 in
theorem body_any (P : Nat) (ad : Addr) (c : Nat) (bs : List Nat) (d g o base : Nat) (s : M.Stt) (w : World) (p : Nat) (vL vB vE : Value) (ih : d < 40 → ListOk (d + 1)) (h : RS P (some ad) c bs d g o base s w p vL vB vE) :
    Calls Tryz.prog 253 #[.pointer (some ⟨P, 0, none⟩), .pointer (some ⟨g, o, none⟩)] w (RdPost P (some ad) c bs d g o base w (M.rdPart (M.subOf (40 - d)) 7 s)) := by
  have h0 := Lib.hid h
  have hc := h.item.c7
  obtain ⟨cur, hcur⟩ := h.blk
  have hf := hcur.frozen (o + 7)
  have hPg := h.apart
  have hr := Lib.hid h.rest
  have hpl := Lib.hid h.place
  replace ih := Lib.hid ih
  clear h hcur
  go_enter Tryz.func253, Tryz.ntmps253
  go_wp2_with fail
  refine (within_any P ad c bs d p g (o + 7) _ _ ih.out hpl.out hPg hc hf).mono ?_
  rintro e1 w1 (⟨l, r, v, q, w3, hsub, rfl, pl, hrq, hown, kb, rfl⟩ | ⟨hsub, rfl, q, w3, pl, kb, hw⟩)
  · obtain ⟨st, pl2, it, own2⟩ := h0.out.inner (j := 7) (by decide) pl kb hown
    have hres := Lib.hid (show M.rdPart (M.subOf (40 - d)) 7 s = some { s with r := r, b := l } by simp only [M.rdPart, hr.out, hsub]; rfl)
    have it2 := Lib.hid (it.put7 v)
    replace st := Lib.hid st
    replace pl2 := Lib.hid pl2
    replace own2 := Lib.hid own2
    replace hrq := Lib.hid hrq
    clear it hown pl kb hsub
    go_wp2_with fail
    go_ret
    have ha := Since.agree st.out.kb h0.out.old.1 h0.out.old.2.1
    have hm := Since.mono (base := base) st.out.kb.size
    obtain ⟨cur, hcur⟩ := h0.out.blk
    obtain ⟨cur', hc', _⟩ := st.out.blk cur hcur
    exact .inl ⟨_, q, vL, v, vE, hres.out, rfl, ⟨pl2.out, hrq.out, it2.out, ⟨cur', hc'⟩, h0.out.apart, ⟨h0.out.old.1, h0.out.old.2.1, Nat.le_trans h0.out.old.2.2 st.out.kb.size⟩, h0.out.rng, h0.out.own.agree ha hm, own2.out, h0.out.ownE.agree ha hm⟩, st.out⟩
  · have hres := Lib.hid (show M.rdPart (M.subOf (40 - d)) 7 s = none by simp only [M.rdPart, hr.out, hsub]; rfl)
    have s1 : Step P g o w w3 := Step.of_kb kb h0.out.lt (by omega)
    have hfin := Lib.hid (show (∃ p', PlaceAt w1 P (some ad) c bs p' d) ∧ Step P g o w w1 by
      rcases hw with rfl | rfl
      · exact ⟨⟨q, pl⟩, s1⟩
      · exact ⟨⟨q, pl.agree (fun k hk => Below.heap_setCell _ _ _ _ (by show k ≠ g; omega)) (by simp)⟩, s1.trans (Step.set w3 7 _ (by decide))⟩)
    clear hw pl kb hsub s1
    go_wp2_with fail
    go_ret
    exact .inr ⟨hres.out, rfl, hfin.out.1, hfin.out.2⟩
set_option maxRecDepth 100000 in
theorem otherwise_any (P : Nat) (ad : Addr) (c : Nat) (bs : List Nat) (d g o base : Nat) (s : M.Stt) (w : World) (p : Nat) (vL vB vE : Value) (ih : d < 40 → ListOk (d + 1)) (h : RS P (some ad) c bs d g o base s w p vL vB vE) :
    Calls Tryz.prog 254 #[.pointer (some ⟨P, 0, none⟩), .pointer (some ⟨g, o, none⟩)] w (RdPost P (some ad) c bs d g o base w (M.rdPart (M.subOf (40 - d)) 8 s)) := by
  have h0 := Lib.hid h
  have hPg := h.apart
  have hr := Lib.hid h.rest
  have hpl := Lib.hid h.place
  have hglt := h.lt
  replace ih := Lib.hid ih
  clear h
  go_enter Tryz.func254, Tryz.ntmps254
  go_wp2_with fail
  refine (fixed_any _ P (some ad) c bs p d 5 hpl.out (by omega)).mono ?_
  rintro e1 w1 (⟨hb, rfl, pl, kb⟩ | ⟨hb, rfl, pl, kb⟩)
  · have hd := (nextB_lt hb).2
    have st1 : Step P g o w w1 := Step.of_kb kb hglt (by omega)
    have h1 : RS P (some ad) c bs d g o base { s with r := bs.drop (p + 1) } w1 (p + 1) vL vB vE := h0.out.step st1 pl rfl (h0.out.item.agree (kb.block g hglt (by omega))) h0.out.rng rfl rfl rfl
    have hc := h1.item.c8
    obtain ⟨cur, hcur⟩ := h1.blk
    have hf := hcur.frozen (o + 8)
    have hrd := Lib.hid (show M.rdPart (M.subOf (40 - d)) 8 s = (M.subOf (40 - d) (bs.drop (p + 1))).bind fun x => some { s with r := x.2, e := x.1 } by simp only [M.rdPart, hr.out, hd, if_true])
    replace st1 := Lib.hid st1
    replace h1 := Lib.hid h1
    replace pl := Lib.hid pl
    clear hcur kb hb hd
    go_wp2_with fail
    refine (within_any P ad c bs d (p + 1) g (o + 8) _ _ ih.out pl.out hPg hc hf).mono ?_
    rintro e1 w2 (⟨l, r, v, q, w3, hsub, rfl, pl3, hrq, hown, kb3, rfl⟩ | ⟨hsub, rfl, q, w3, pl3, kb3, hw⟩)
    · obtain ⟨st, pl2, it, own2⟩ := h1.out.inner (j := 8) (by decide) pl3 kb3 hown
      have hres := Lib.hid (show M.rdPart (M.subOf (40 - d)) 8 s = some { s with r := r, e := l } by rw [hrd.out, hsub]; rfl)
      have it2 := Lib.hid (it.put8 v)
      replace st := Lib.hid st
      replace pl2 := Lib.hid pl2
      replace own2 := Lib.hid own2
      replace hrq := Lib.hid hrq
      clear it hown pl3 kb3 hsub
      go_wp2_with fail
      go_ret
      have ha := Since.agree st.out.kb h1.out.old.1 h1.out.old.2.1
      have hm := Since.mono (base := base) st.out.kb.size
      obtain ⟨cur, hcur⟩ := h1.out.blk
      obtain ⟨cur', hc', _⟩ := st.out.blk cur hcur
      exact .inl ⟨_, q, vL, vB, v, hres.out, rfl, ⟨pl2.out, hrq.out, it2.out, ⟨cur', hc'⟩, h1.out.apart, ⟨h1.out.old.1, h1.out.old.2.1, Nat.le_trans h1.out.old.2.2 st.out.kb.size⟩, h1.out.rng, h1.out.own.agree ha hm, h1.out.ownB.agree ha hm, own2.out⟩, st1.out.trans st.out⟩
    · have hres := Lib.hid (show M.rdPart (M.subOf (40 - d)) 8 s = none by rw [hrd.out, hsub]; rfl)
      have s1 : Step P g o w1 w3 := Step.of_kb kb3 h1.out.lt (by omega)
      have hfin := Lib.hid (show (∃ p', PlaceAt w2 P (some ad) c bs p' d) ∧ Step P g o w w2 by
        rcases hw with rfl | rfl
        · exact ⟨⟨q, pl3⟩, st1.out.trans s1⟩
        · exact ⟨⟨q, pl3.agree (fun k hk => Below.heap_setCell _ _ _ _ (by show k ≠ g; omega)) (by simp)⟩, st1.out.trans (s1.trans (Step.set w3 8 _ (by decide)))⟩)
      clear hw pl3 kb3 hsub s1
      go_wp2_with fail
      go_ret
      exact .inr ⟨hres.out, rfl, hfin.out.1, hfin.out.2⟩
  · have st1 := Lib.hid (show Step P g o w w1 from Step.of_kb kb hglt (by omega))
    have it1 := Lib.hid (h0.out.item.agree (kb.block g hglt (by omega)))
    have hres := Lib.hid (show M.rdPart (M.subOf (40 - d)) 8 s = some s by
      simp only [M.rdPart, hr.out]
      unfold nextB at hb
      cases hd : bs.drop p with
      | nil => rfl
      | cons y t =>
        rw [hd] at hb
        have : ¬ y = 5 := fun e => by subst e; simp at hb
        simp only [if_neg this])
    replace pl := Lib.hid pl
    clear kb hb
    go_wp2_with fail
    go_ret
    exact .inl ⟨s, p, vL, vB, vE, hres.out, rfl, h0.out.step st1.out pl.out hr.out it1.out h0.out.rng rfl rfl rfl, st1.out⟩
end Go.Proofs.YtilaheifccjjeaaGreat
namespace Go.Proofs.YtilaheifccjjeaaGreat
open Go.RowKit
def LabelsOk : Prop := ∀ (P : Nat) (ad : Addr) (c : Nat) (bs : List Nat) (d g o base : Nat) (sub : M.Rd) (s : M.Stt) (w : World) (p : Nat) (vL vB vE : Value), RS P (some ad) c bs d g o base s w p vL vB vE → s.h.labels = [] → (vL = .slice none 0 0 ∧ vB = .slice none 0 0 ∧ vE = .slice none 0 0 ∧ s.b = .nil ∧ s.e = .nil) →
    Calls Tryz.prog 247 #[.pointer (some ⟨P, 0, none⟩), .pointer (some ⟨g, o, none⟩)] w (RdPost P (some ad) c bs d g o base w (M.rdPart sub 1 s))
/-- What the loop over the parts keeps up. -/
def InsRel (P : Nat) (ad : Addr) (c : Nat) (bs : List Nat) (d g o base : Nat) (sub : M.Rd) (m : Nat) (R : Option M.Stt) (w : World) (i : Value) (w' : World) : Prop :=
  ∃ (k q : Nat) (s : M.Stt) (vL vB vE : Value), k ≤ 10 ∧ i = .int .i64 (k : Nat) ∧ RS P (some ad) c bs d g o base s w' q vL vB vE ∧ Step P g o w w' ∧ M.rdAll sub m (10 - k) s = R ∧ (k ≤ 1 → s.h.labels = [] ∧ (hasB m 0 = false → (vL = .slice none 0 0 ∧ vB = .slice none 0 0 ∧ vE = .slice none 0 0 ∧ s.b = .nil ∧ s.e = .nil)))
theorem mask_01 (op : Int) : hasB (M.mask op) 1 = true → hasB (M.mask op) 0 = false := by
  unfold M.mask
  rcases M.kind_cases op with k | k | k | k | k | k | k | k | k | k
  all_goals rw [k]; simp only [M.maskK]
  case inr.inr.inl => split <;> decide
  all_goals decide
theorem zero_rng : Rng (M.hd0 0) := by constructor <;> (simp only [M.hd0]; omega)
theorem part_1 {sub : M.Rd} {k : Nat} {s s' : M.Stt} (h : M.rdPart sub k s = some s') (hk : k = 0) : s'.h.labels = s.h.labels := by
  subst hk
  simp only [M.rdPart] at h
  split at h
  · cases h
  · split at h
    · cases h; rfl
    · cases h

set_option maxRecDepth 100000 in
set_option maxHeartbeats 4000000 in
theorem instr_of (lab : LabelsOk) (P : Nat) (ad : Addr) (c : Nat) (bs : List Nat) (d p g o b0 : Nat) (w : World) (ih : d < 40 → ListOk (d + 1)) (h : PlaceAt w P (some ad) c bs p d) (hb : bs.drop p = b0 :: bs.drop (p + 1)) (hp : p < bs.length) (hPg : P < g) (hi : ItemAt w g o (M.hd0 0) (.slice none 0 0) (.slice none 0 0) (.slice none 0 0)) (hblk : ∃ cur, Blk w g cur) :
    Calls Tryz.prog 257 #[.pointer (some ⟨P, 0, none⟩), .pointer (some ⟨g, o, none⟩)] w (RdPost P (some ad) c bs d g o w.heap.size w ((M.ins (M.subOf (40 - d)) b0 (bs.drop (p + 1))).bind fun x => some ⟨x.2, x.1.1, x.1.2.1, x.1.2.2⟩)) := by
  have hglt : g < w.heap.size := World.block_lt_of_cell? w ⟨g, o, none⟩ hi.c0
  have h0 := Lib.hid h
  obtain ⟨ad', y, ea, hd, hy, q⟩ := h.byte hp
  injection ea with ea
  subst ea
  have hyb : y = b0 := by rw [hb] at hd; injection hd with hd _; exact hd.symm
  subst hyb
  clear hd hb
  have hi0 := Lib.hid hi
  have hc0 := hi.c0
  simp only [M.hd0] at hc0
  obtain ⟨cur, hcur⟩ := hblk
  have hf := hcur.frozen o
  replace hcur := Lib.hid hcur
  obtain ⟨c0, c1, c2, c3, c4, c5, c6, c7, c8, c9, c10, c11, c12, f1, f2, le, cap, small, deep, bytes, size⟩ := h
  clear c2 c3 c4 c5 c6 c7 c8 c9 c10 c11 c12 f2 bytes hi
  obtain ⟨cap1, cap2⟩ := cap
  unfold maxLen at cap2
  have t0 : (0 : Int) ≤ (p : Int) := by omega
  have t1 : (p : Int) < (bs.length : Int) := by omega
  have hgP : ¬ g = P := by omega
  replace ih := Lib.hid ih
  obtain ⟨R, hR⟩ : ∃ R, R = ((M.ins (M.subOf (40 - d)) y (bs.drop (p + 1))).bind fun x => some (⟨x.2, x.1.1, x.1.2.1, x.1.2.2⟩ : M.Stt)) := ⟨_, rfl⟩
  rw [← hR]
  replace hR := Lib.hid hR
  go_enter Tryz.func257, Tryz.ntmps257
  go_wp2_with fail
  go_still_tail 14, (by kernel_rfl)
  change wpList _ _ _ _ _ w.drew
  have hbd := Lib.hid ((Below.refl w.heap.size w).drew)
  replace hc0 : w.drew.cell? ⟨g, o, none⟩ = some (.int .i64 0) := hc0
  replace hf : w.drew.frozen? ⟨g, o, none⟩ = false := hf
  replace c1 : w.drew.cell? ⟨P, 1, none⟩ = some (.int .i64 (p : Nat)) := c1
  replace f1 : w.drew.frozen? ⟨P, 1, none⟩ = false := f1
  have r0 := Lib.hid (show RS P (some ad) c bs d g o w.heap.size ⟨bs.drop p, M.hd0 0, .nil, .nil⟩ w p (.slice none 0 0) (.slice none 0 0) (.slice none 0 0) from ⟨h0.out, rfl, hi0.out, ⟨cur, hcur.out⟩, hPg, ⟨size, hglt, Nat.le_refl _⟩, zero_rng, OwnN.nil _ _, OwnL.nil _ _, OwnL.nil _ _⟩)
  clear c0 q
  generalize w.drew = w1 at hc0 hf c1 f1 hbd ⊢
  obtain ⟨st, pl, it, it1⟩ := r0.out.num (j := 0) (v := (y : Int)) (q := p + 1) hbd.out (by omega) (by decide)
  have r1 := r0.out.step (s' := ⟨bs.drop (p + 1), M.hd0 y, .nil, .nil⟩) st pl rfl (it _ (it1.put0 (y : Int))) (by constructor <;> (simp only [M.hd0]; omega)) rfl rfl rfl
  rw [Int.natCast_add] at r1 st
  simp only [Nat.add_zero] at r1 st
  replace r1 := Lib.hid r1
  replace st := Lib.hid st
  clear pl it it1 r0 hi0
  by_cases hk : M.kind (y : Int) = 0
  · have hres := Lib.hid (show R = none by rw [hR.out]; unfold M.ins; rw [hk]; rfl)
    replace hk := Lib.hid hk
    go_wp2_with fail
    refine (partsOf_no _ _ hk.out).mono ?_
    rintro e1 w2 ⟨rfl, b2⟩
    replace b2 := Lib.hid b2
    go_wp2_with fail
    go_ret
    have s2 : Step P g o _ w2 := Step.of_kb (.of_below b2.out) r1.out.lt (by omega)
    exact .inr ⟨hres.out, rfl, ⟨p + 1, r1.out.place.agree (fun k hk => b2.out.block k (Nat.lt_of_le_of_lt hk r1.out.place.size)) b2.out.size⟩, st.out.trans s2⟩
  · have hres := M.rd_ins (M.subOf (40 - d)) y (bs.drop (p + 1)) hk
    rw [← hR.out] at hres
    have hml := mask_lt (y : Int)
    replace hk := Lib.hid hk
    go_wp2_with fail
    refine (partsOf_yes _ _ hk.out).mono ?_
    rintro e1 w2 ⟨rfl, b2⟩
    have s2 : Step P g o _ w2 := Step.of_kb (.of_below b2) r1.out.lt (by omega)
    have r2 := Lib.hid (r1.out.step (s' := ⟨bs.drop (p + 1), M.hd0 y, .nil, .nil⟩) s2 (r1.out.place.agree (fun k hk => b2.block k (Nat.lt_of_le_of_lt hk r1.out.place.size)) b2.size) rfl (r1.out.item.agree (b2.block g r1.out.lt)) r1.out.rng rfl rfl rfl)
    have st2 := Lib.hid (st.out.trans s2)
    clear b2 s2 r1 st
    obtain ⟨m, hm⟩ : ∃ m, m = M.mask (y : Int) := ⟨_, rfl⟩
    have hm01 := mask_01 (y : Int)
    rw [← hm] at hres hml hm01 ⊢
    replace hm01 := Lib.hid hm01
    replace hm := Lib.hid hm
    replace hres := Lib.hid hres
    clear hR hc0 hf c1 f1
    go_wp2_with fail
    go_loopw [7, 39] (fun _ i w' => InsRel P ad c bs d g o w.heap.size (M.subOf (40 - d)) m R w i w') (fun _ i _ => 10 - (intOf i).toNat)
    case atStart => exact ⟨0, p + 1, _, _, _, _, by omega, rfl, r2.out, st2.out, hres.out, fun _ => ⟨rfl, fun _ => ⟨rfl, rfl, rfl, rfl, rfl⟩⟩⟩
    case round =>
      obtain ⟨k, q, s, vL, vB, vE, hk10, rfl, hrs, hstp, hR, hl⟩ := hrel
      replace hrs := Lib.hid hrs
      replace hstp := Lib.hid hstp
      replace hR := Lib.hid hR
      replace hl := Lib.hid hl
      have hks : k = 0 ∨ k = 1 ∨ k = 2 ∨ k = 3 ∨ k = 4 ∨ k = 5 ∨ k = 6 ∨ k = 7 ∨ k = 8 ∨ k = 9 ∨ k = 10 := by omega
      clear hk10 r2 st2 hres
      rcases hks with rfl | rfl | rfl | rfl | rfl | rfl | rfl | rfl | rfl | rfl | rfl
      · -- part 0: blockType
        have hst := Lib.hid (M.rd_at (M.subOf (40 - d)) m 0 s (by omega))
        cases hm : hasB m 0 with
        | false =>
          replace hm := Lib.hid hm
          go_wp2_with fail
          refine (has_any m 0 _ hml (by omega)).mono ?_
          rintro e1 w1 ⟨rfl, rfl⟩
          rw [hm.out]
          go_wp2_with fail
          exact ⟨⟨1, q, s, vL, vB, vE, by omega, rfl, hrs.out, hstp.out, by rw [← hR.out, hst.out, if_neg (by rw [hm.out]; decide)], fun _ => hl.out (by omega)⟩, by simp [intOf]⟩
        | true =>
          replace hm := Lib.hid hm
          have cf := hrs.out.place.c3
          go_wp2_with fail
          refine (has_any m 0 _ hml (by omega)).mono ?_
          rintro e1 w1 ⟨rfl, rfl⟩
          rw [hm.out]
          go_wp2_with fail
          refine (blockType_any P ad c bs d g o _ (M.subOf (40 - d)) s _ q vL vB vE hrs.out).mono ?_
          rintro e1 w1 (⟨s', q', vL', vB', vE', hres, rfl, hrs', hst'⟩ | ⟨hres, rfl, hpl', hst'⟩)
          · have hR' := Lib.hid (show M.rdAll (M.subOf (40 - d)) m (10 - 1) s' = R by rw [← hR.out, hst.out, if_pos hm.out, hres]; rfl)
            have hst2 := Lib.hid (hstp.out.trans hst')
            replace hrs' := Lib.hid hrs'
            have hl2 := Lib.hid (show s'.h.labels = [] ∧ (hasB m 0 = false → (vL' = .slice none 0 0 ∧ vB' = .slice none 0 0 ∧ vE' = .slice none 0 0 ∧ s'.b = .nil ∧ s'.e = .nil)) from ⟨by rw [part_1 hres rfl]; exact (hl.out (by omega)).1, fun h9 => by rw [hm.out] at h9; cases h9⟩)
            clear hst' hres cf
            go_wp2_with fail
            exact ⟨⟨1, q', s', vL', vB', vE', by omega, rfl, hrs'.out, hst2.out, hR'.out, fun _ => hl2.out⟩, by simp [intOf]⟩
          · have hR' := Lib.hid (show R = none by rw [← hR.out, hst.out, if_pos hm.out, hres]; rfl)
            have hst2 := Lib.hid (hstp.out.trans hst')
            replace hpl' := Lib.hid hpl'
            clear hst' hres cf
            go_wp2_with fail
            go_ret
            exact .inr ⟨hR'.out, rfl, hpl'.out, hst2.out⟩
      · -- part 1: labels
        have hst := Lib.hid (M.rd_at (M.subOf (40 - d)) m 1 s (by omega))
        cases hm : hasB m 1 with
        | false =>
          replace hm := Lib.hid hm
          go_wp2_with fail
          refine (has_any m 1 _ hml (by omega)).mono ?_
          rintro e1 w1 ⟨rfl, rfl⟩
          rw [hm.out]
          go_wp2_with fail
          exact ⟨⟨2, q, s, vL, vB, vE, by omega, rfl, hrs.out, hstp.out, by rw [← hR.out, hst.out, if_neg (by rw [hm.out]; decide)], fun _ => hl.out (by omega)⟩, by simp [intOf]⟩
        | true =>
          replace hm := Lib.hid hm
          have cf := hrs.out.place.c4
          go_wp2_with fail
          refine (has_any m 1 _ hml (by omega)).mono ?_
          rintro e1 w1 ⟨rfl, rfl⟩
          rw [hm.out]
          go_wp2_with fail
          refine (lab P ad c bs d g o _ (M.subOf (40 - d)) s _ q vL vB vE hrs.out (hl.out (by omega)).1 ((hl.out (by omega)).2 (hm01.out hm.out))).mono ?_
          rintro e1 w1 (⟨s', q', vL', vB', vE', hres, rfl, hrs', hst'⟩ | ⟨hres, rfl, hpl', hst'⟩)
          · have hR' := Lib.hid (show M.rdAll (M.subOf (40 - d)) m (10 - 2) s' = R by rw [← hR.out, hst.out, if_pos hm.out, hres]; rfl)
            have hst2 := Lib.hid (hstp.out.trans hst')
            replace hrs' := Lib.hid hrs'
            clear hst' hres cf
            go_wp2_with fail
            exact ⟨⟨2, q', s', vL', vB', vE', by omega, rfl, hrs'.out, hst2.out, hR'.out, fun h => by omega⟩, by simp [intOf]⟩
          · have hR' := Lib.hid (show R = none by rw [← hR.out, hst.out, if_pos hm.out, hres]; rfl)
            have hst2 := Lib.hid (hstp.out.trans hst')
            replace hpl' := Lib.hid hpl'
            clear hst' hres cf
            go_wp2_with fail
            go_ret
            exact .inr ⟨hR'.out, rfl, hpl'.out, hst2.out⟩
      · -- part 2: index
        have hst := Lib.hid (M.rd_at (M.subOf (40 - d)) m 2 s (by omega))
        cases hm : hasB m 2 with
        | false =>
          replace hm := Lib.hid hm
          go_wp2_with fail
          refine (has_any m 2 _ hml (by omega)).mono ?_
          rintro e1 w1 ⟨rfl, rfl⟩
          rw [hm.out]
          go_wp2_with fail
          exact ⟨⟨3, q, s, vL, vB, vE, by omega, rfl, hrs.out, hstp.out, by rw [← hR.out, hst.out, if_neg (by rw [hm.out]; decide)], fun _ => hl.out (by omega)⟩, by simp [intOf]⟩
        | true =>
          replace hm := Lib.hid hm
          have cf := hrs.out.place.c5
          go_wp2_with fail
          refine (has_any m 2 _ hml (by omega)).mono ?_
          rintro e1 w1 ⟨rfl, rfl⟩
          rw [hm.out]
          go_wp2_with fail
          refine (index_any P ad c bs d g o _ (M.subOf (40 - d)) s _ q vL vB vE hrs.out).mono ?_
          rintro e1 w1 (⟨s', q', vL', vB', vE', hres, rfl, hrs', hst'⟩ | ⟨hres, rfl, hpl', hst'⟩)
          · have hR' := Lib.hid (show M.rdAll (M.subOf (40 - d)) m (10 - 3) s' = R by rw [← hR.out, hst.out, if_pos hm.out, hres]; rfl)
            have hst2 := Lib.hid (hstp.out.trans hst')
            replace hrs' := Lib.hid hrs'
            clear hst' hres cf
            go_wp2_with fail
            exact ⟨⟨3, q', s', vL', vB', vE', by omega, rfl, hrs'.out, hst2.out, hR'.out, fun h => by omega⟩, by simp [intOf]⟩
          · have hR' := Lib.hid (show R = none by rw [← hR.out, hst.out, if_pos hm.out, hres]; rfl)
            have hst2 := Lib.hid (hstp.out.trans hst')
            replace hpl' := Lib.hid hpl'
            clear hst' hres cf
            go_wp2_with fail
            go_ret
            exact .inr ⟨hR'.out, rfl, hpl'.out, hst2.out⟩
      · -- part 3: align
        have hst := Lib.hid (M.rd_at (M.subOf (40 - d)) m 3 s (by omega))
        cases hm : hasB m 3 with
        | false =>
          replace hm := Lib.hid hm
          go_wp2_with fail
          refine (has_any m 3 _ hml (by omega)).mono ?_
          rintro e1 w1 ⟨rfl, rfl⟩
          rw [hm.out]
          go_wp2_with fail
          exact ⟨⟨4, q, s, vL, vB, vE, by omega, rfl, hrs.out, hstp.out, by rw [← hR.out, hst.out, if_neg (by rw [hm.out]; decide)], fun _ => hl.out (by omega)⟩, by simp [intOf]⟩
        | true =>
          replace hm := Lib.hid hm
          have cf := hrs.out.place.c6
          go_wp2_with fail
          refine (has_any m 3 _ hml (by omega)).mono ?_
          rintro e1 w1 ⟨rfl, rfl⟩
          rw [hm.out]
          go_wp2_with fail
          refine (align_any P ad c bs d g o _ (M.subOf (40 - d)) s _ q vL vB vE hrs.out).mono ?_
          rintro e1 w1 (⟨s', q', vL', vB', vE', hres, rfl, hrs', hst'⟩ | ⟨hres, rfl, hpl', hst'⟩)
          · have hR' := Lib.hid (show M.rdAll (M.subOf (40 - d)) m (10 - 4) s' = R by rw [← hR.out, hst.out, if_pos hm.out, hres]; rfl)
            have hst2 := Lib.hid (hstp.out.trans hst')
            replace hrs' := Lib.hid hrs'
            clear hst' hres cf
            go_wp2_with fail
            exact ⟨⟨4, q', s', vL', vB', vE', by omega, rfl, hrs'.out, hst2.out, hR'.out, fun h => by omega⟩, by simp [intOf]⟩
          · have hR' := Lib.hid (show R = none by rw [← hR.out, hst.out, if_pos hm.out, hres]; rfl)
            have hst2 := Lib.hid (hstp.out.trans hst')
            replace hpl' := Lib.hid hpl'
            clear hst' hres cf
            go_wp2_with fail
            go_ret
            exact .inr ⟨hR'.out, rfl, hpl'.out, hst2.out⟩
      · -- part 4: offset
        have hst := Lib.hid (M.rd_at (M.subOf (40 - d)) m 4 s (by omega))
        cases hm : hasB m 4 with
        | false =>
          replace hm := Lib.hid hm
          go_wp2_with fail
          refine (has_any m 4 _ hml (by omega)).mono ?_
          rintro e1 w1 ⟨rfl, rfl⟩
          rw [hm.out]
          go_wp2_with fail
          exact ⟨⟨5, q, s, vL, vB, vE, by omega, rfl, hrs.out, hstp.out, by rw [← hR.out, hst.out, if_neg (by rw [hm.out]; decide)], fun _ => hl.out (by omega)⟩, by simp [intOf]⟩
        | true =>
          replace hm := Lib.hid hm
          have cf := hrs.out.place.c7
          go_wp2_with fail
          refine (has_any m 4 _ hml (by omega)).mono ?_
          rintro e1 w1 ⟨rfl, rfl⟩
          rw [hm.out]
          go_wp2_with fail
          refine (offset_any P ad c bs d g o _ (M.subOf (40 - d)) s _ q vL vB vE hrs.out).mono ?_
          rintro e1 w1 (⟨s', q', vL', vB', vE', hres, rfl, hrs', hst'⟩ | ⟨hres, rfl, hpl', hst'⟩)
          · have hR' := Lib.hid (show M.rdAll (M.subOf (40 - d)) m (10 - 5) s' = R by rw [← hR.out, hst.out, if_pos hm.out, hres]; rfl)
            have hst2 := Lib.hid (hstp.out.trans hst')
            replace hrs' := Lib.hid hrs'
            clear hst' hres cf
            go_wp2_with fail
            exact ⟨⟨5, q', s', vL', vB', vE', by omega, rfl, hrs'.out, hst2.out, hR'.out, fun h => by omega⟩, by simp [intOf]⟩
          · have hR' := Lib.hid (show R = none by rw [← hR.out, hst.out, if_pos hm.out, hres]; rfl)
            have hst2 := Lib.hid (hstp.out.trans hst')
            replace hpl' := Lib.hid hpl'
            clear hst' hres cf
            go_wp2_with fail
            go_ret
            exact .inr ⟨hR'.out, rfl, hpl'.out, hst2.out⟩
      · -- part 5: nought
        have hst := Lib.hid (M.rd_at (M.subOf (40 - d)) m 5 s (by omega))
        cases hm : hasB m 5 with
        | false =>
          replace hm := Lib.hid hm
          go_wp2_with fail
          refine (has_any m 5 _ hml (by omega)).mono ?_
          rintro e1 w1 ⟨rfl, rfl⟩
          rw [hm.out]
          go_wp2_with fail
          exact ⟨⟨6, q, s, vL, vB, vE, by omega, rfl, hrs.out, hstp.out, by rw [← hR.out, hst.out, if_neg (by rw [hm.out]; decide)], fun _ => hl.out (by omega)⟩, by simp [intOf]⟩
        | true =>
          replace hm := Lib.hid hm
          have cf := hrs.out.place.c8
          go_wp2_with fail
          refine (has_any m 5 _ hml (by omega)).mono ?_
          rintro e1 w1 ⟨rfl, rfl⟩
          rw [hm.out]
          go_wp2_with fail
          refine (nought_any P ad c bs d g o _ (M.subOf (40 - d)) s _ q vL vB vE hrs.out).mono ?_
          rintro e1 w1 (⟨s', q', vL', vB', vE', hres, rfl, hrs', hst'⟩ | ⟨hres, rfl, hpl', hst'⟩)
          · have hR' := Lib.hid (show M.rdAll (M.subOf (40 - d)) m (10 - 6) s' = R by rw [← hR.out, hst.out, if_pos hm.out, hres]; rfl)
            have hst2 := Lib.hid (hstp.out.trans hst')
            replace hrs' := Lib.hid hrs'
            clear hst' hres cf
            go_wp2_with fail
            exact ⟨⟨6, q', s', vL', vB', vE', by omega, rfl, hrs'.out, hst2.out, hR'.out, fun h => by omega⟩, by simp [intOf]⟩
          · have hR' := Lib.hid (show R = none by rw [← hR.out, hst.out, if_pos hm.out, hres]; rfl)
            have hst2 := Lib.hid (hstp.out.trans hst')
            replace hpl' := Lib.hid hpl'
            clear hst' hres cf
            go_wp2_with fail
            go_ret
            exact .inr ⟨hR'.out, rfl, hpl'.out, hst2.out⟩
      · -- part 6: val
        have hst := Lib.hid (M.rd_at (M.subOf (40 - d)) m 6 s (by omega))
        cases hm : hasB m 6 with
        | false =>
          replace hm := Lib.hid hm
          go_wp2_with fail
          refine (has_any m 6 _ hml (by omega)).mono ?_
          rintro e1 w1 ⟨rfl, rfl⟩
          rw [hm.out]
          go_wp2_with fail
          exact ⟨⟨7, q, s, vL, vB, vE, by omega, rfl, hrs.out, hstp.out, by rw [← hR.out, hst.out, if_neg (by rw [hm.out]; decide)], fun _ => hl.out (by omega)⟩, by simp [intOf]⟩
        | true =>
          replace hm := Lib.hid hm
          have cf := hrs.out.place.c9
          go_wp2_with fail
          refine (has_any m 6 _ hml (by omega)).mono ?_
          rintro e1 w1 ⟨rfl, rfl⟩
          rw [hm.out]
          go_wp2_with fail
          refine (val_any P ad c bs d g o _ (M.subOf (40 - d)) s _ q vL vB vE hrs.out).mono ?_
          rintro e1 w1 (⟨s', q', vL', vB', vE', hres, rfl, hrs', hst'⟩ | ⟨hres, rfl, hpl', hst'⟩)
          · have hR' := Lib.hid (show M.rdAll (M.subOf (40 - d)) m (10 - 7) s' = R by rw [← hR.out, hst.out, if_pos hm.out, hres]; rfl)
            have hst2 := Lib.hid (hstp.out.trans hst')
            replace hrs' := Lib.hid hrs'
            clear hst' hres cf
            go_wp2_with fail
            exact ⟨⟨7, q', s', vL', vB', vE', by omega, rfl, hrs'.out, hst2.out, hR'.out, fun h => by omega⟩, by simp [intOf]⟩
          · have hR' := Lib.hid (show R = none by rw [← hR.out, hst.out, if_pos hm.out, hres]; rfl)
            have hst2 := Lib.hid (hstp.out.trans hst')
            replace hpl' := Lib.hid hpl'
            clear hst' hres cf
            go_wp2_with fail
            go_ret
            exact .inr ⟨hR'.out, rfl, hpl'.out, hst2.out⟩
      · -- part 7: body
        have hst := Lib.hid (M.rd_at (M.subOf (40 - d)) m 7 s (by omega))
        cases hm : hasB m 7 with
        | false =>
          replace hm := Lib.hid hm
          go_wp2_with fail
          refine (has_any m 7 _ hml (by omega)).mono ?_
          rintro e1 w1 ⟨rfl, rfl⟩
          rw [hm.out]
          go_wp2_with fail
          exact ⟨⟨8, q, s, vL, vB, vE, by omega, rfl, hrs.out, hstp.out, by rw [← hR.out, hst.out, if_neg (by rw [hm.out]; decide)], fun _ => hl.out (by omega)⟩, by simp [intOf]⟩
        | true =>
          replace hm := Lib.hid hm
          have cf := hrs.out.place.c10
          go_wp2_with fail
          refine (has_any m 7 _ hml (by omega)).mono ?_
          rintro e1 w1 ⟨rfl, rfl⟩
          rw [hm.out]
          go_wp2_with fail
          refine (body_any P ad c bs d g o _ s _ q vL vB vE ih.out hrs.out).mono ?_
          rintro e1 w1 (⟨s', q', vL', vB', vE', hres, rfl, hrs', hst'⟩ | ⟨hres, rfl, hpl', hst'⟩)
          · have hR' := Lib.hid (show M.rdAll (M.subOf (40 - d)) m (10 - 8) s' = R by rw [← hR.out, hst.out, if_pos hm.out, hres]; rfl)
            have hst2 := Lib.hid (hstp.out.trans hst')
            replace hrs' := Lib.hid hrs'
            clear hst' hres cf
            go_wp2_with fail
            exact ⟨⟨8, q', s', vL', vB', vE', by omega, rfl, hrs'.out, hst2.out, hR'.out, fun h => by omega⟩, by simp [intOf]⟩
          · have hR' := Lib.hid (show R = none by rw [← hR.out, hst.out, if_pos hm.out, hres]; rfl)
            have hst2 := Lib.hid (hstp.out.trans hst')
            replace hpl' := Lib.hid hpl'
            clear hst' hres cf
            go_wp2_with fail
            go_ret
            exact .inr ⟨hR'.out, rfl, hpl'.out, hst2.out⟩
      · -- part 8: otherwise
        have hst := Lib.hid (M.rd_at (M.subOf (40 - d)) m 8 s (by omega))
        cases hm : hasB m 8 with
        | false =>
          replace hm := Lib.hid hm
          go_wp2_with fail
          refine (has_any m 8 _ hml (by omega)).mono ?_
          rintro e1 w1 ⟨rfl, rfl⟩
          rw [hm.out]
          go_wp2_with fail
          exact ⟨⟨9, q, s, vL, vB, vE, by omega, rfl, hrs.out, hstp.out, by rw [← hR.out, hst.out, if_neg (by rw [hm.out]; decide)], fun _ => hl.out (by omega)⟩, by simp [intOf]⟩
        | true =>
          replace hm := Lib.hid hm
          have cf := hrs.out.place.c11
          go_wp2_with fail
          refine (has_any m 8 _ hml (by omega)).mono ?_
          rintro e1 w1 ⟨rfl, rfl⟩
          rw [hm.out]
          go_wp2_with fail
          refine (otherwise_any P ad c bs d g o _ s _ q vL vB vE ih.out hrs.out).mono ?_
          rintro e1 w1 (⟨s', q', vL', vB', vE', hres, rfl, hrs', hst'⟩ | ⟨hres, rfl, hpl', hst'⟩)
          · have hR' := Lib.hid (show M.rdAll (M.subOf (40 - d)) m (10 - 9) s' = R by rw [← hR.out, hst.out, if_pos hm.out, hres]; rfl)
            have hst2 := Lib.hid (hstp.out.trans hst')
            replace hrs' := Lib.hid hrs'
            clear hst' hres cf
            go_wp2_with fail
            exact ⟨⟨9, q', s', vL', vB', vE', by omega, rfl, hrs'.out, hst2.out, hR'.out, fun h => by omega⟩, by simp [intOf]⟩
          · have hR' := Lib.hid (show R = none by rw [← hR.out, hst.out, if_pos hm.out, hres]; rfl)
            have hst2 := Lib.hid (hstp.out.trans hst')
            replace hpl' := Lib.hid hpl'
            clear hst' hres cf
            go_wp2_with fail
            go_ret
            exact .inr ⟨hR'.out, rfl, hpl'.out, hst2.out⟩
      · -- part 9: end
        have hst := Lib.hid (M.rd_at (M.subOf (40 - d)) m 9 s (by omega))
        cases hm : hasB m 9 with
        | false =>
          replace hm := Lib.hid hm
          go_wp2_with fail
          refine (has_any m 9 _ hml (by omega)).mono ?_
          rintro e1 w1 ⟨rfl, rfl⟩
          rw [hm.out]
          go_wp2_with fail
          exact ⟨⟨10, q, s, vL, vB, vE, by omega, rfl, hrs.out, hstp.out, by rw [← hR.out, hst.out, if_neg (by rw [hm.out]; decide)], fun _ => hl.out (by omega)⟩, by simp [intOf]⟩
        | true =>
          replace hm := Lib.hid hm
          have cf := hrs.out.place.c12
          go_wp2_with fail
          refine (has_any m 9 _ hml (by omega)).mono ?_
          rintro e1 w1 ⟨rfl, rfl⟩
          rw [hm.out]
          go_wp2_with fail
          refine (end_any P ad c bs d g o _ (M.subOf (40 - d)) s _ q vL vB vE hrs.out).mono ?_
          rintro e1 w1 (⟨s', q', vL', vB', vE', hres, rfl, hrs', hst'⟩ | ⟨hres, rfl, hpl', hst'⟩)
          · have hR' := Lib.hid (show M.rdAll (M.subOf (40 - d)) m (10 - 10) s' = R by rw [← hR.out, hst.out, if_pos hm.out, hres]; rfl)
            have hst2 := Lib.hid (hstp.out.trans hst')
            replace hrs' := Lib.hid hrs'
            clear hst' hres cf
            go_wp2_with fail
            exact ⟨⟨10, q', s', vL', vB', vE', by omega, rfl, hrs'.out, hst2.out, hR'.out, fun h => by omega⟩, by simp [intOf]⟩
          · have hR' := Lib.hid (show R = none by rw [← hR.out, hst.out, if_pos hm.out, hres]; rfl)
            have hst2 := Lib.hid (hstp.out.trans hst')
            replace hpl' := Lib.hid hpl'
            clear hst' hres cf
            go_wp2_with fail
            go_ret
            exact .inr ⟨hR'.out, rfl, hpl'.out, hst2.out⟩
      · have hR' := Lib.hid (show R = some s by rw [← hR.out]; rfl)
        go_wp2_with fail
        go_ret
        exact .inl ⟨s, q, vL, vB, vE, hR'.out, rfl, hrs.out, hstp.out⟩
end Go.Proofs.YtilaheifccjjeaaGreat
