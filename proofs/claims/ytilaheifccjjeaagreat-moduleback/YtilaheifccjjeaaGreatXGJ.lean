/-
  The ground of the proofs of this seat, put together: XList2, XList3, XGroups, XLoc. No condition beyond what each text names.
-/
import Derived.Deep.DeepCutAuto
import Derived.Test.YtilaheifccjjeaaGreatXGI
import Derived.Test.YtilaheifccjjeaaGreatXGB
import Derived.Test.YtilaheifccjjeaaGreatXGA
import Derived.Test.YtilaheifccjjeaaGreatXGC
import Derived.Test.YtilaheifccjjeaaGreatXGD
import Derived.Test.YtilaheifccjjeaaGreatXGE
import Derived.Test.YtilaheifccjjeaaGreatXGF
import Derived.Test.YtilaheifccjjeaaGreatXGG
import Derived.Test.YtilaheifccjjeaaGreatXGH
namespace Go.Proofs.YtilaheifccjjeaaGreat
open Go.RowKit
def Pre_lim (_ : M.Lim) : Prop := True
def Pre_tab (_ : M.Lim) : Prop := True
def Pre_ft (x : M.FT) : Prop := x.ps.length ≤ 1000000000 ∧ x.rs.length ≤ 1000000000
def Pre_exp (_ : M.Exp) : Prop := True
def Pre_glo (x : M.Glo) : Prop := x.ini.sz ≤ 24000
def Pre_elm (x : M.Elm) : Prop := x.off.sz ≤ 24000 ∧ x.fs.length ≤ 1000000000
def Pre_dat (x : M.Dat) : Prop := x.off.sz ≤ 24000
theorem kind_iff (k : Int) : (M.cByteI fun b => decide (b ≤ 3)).ok k ↔ KindOk k := by
  show 0 ≤ k ∧ decide (k.toNat ≤ 3) = true ↔ 0 ≤ k ∧ k ≤ 3
  rw [decide_eq_true_iff]
  omega
theorem bss_BS {w : World} {B : Nat} {v : Value} {bs : List Nat} (h : BSS w (· < B) v bs) : BS w B v bs ∧ bs.length ≤ 1000000000 := by
  obtain ⟨A, c, e, ⟨h1, h2, h3⟩, h4⟩ := h
  exact ⟨⟨A, c, e, h2, h3, h4⟩, h1⟩
theorem wok_lim (B : Nat) (w : World) (P : Nat) (out : List Nat) (x : M.Lim) (cs : List Value) (h : MTx B w P out) (his : rLim.is w (· < B) x cs) (hp : Pre_lim x) : Calls Tryz.prog 112 #[.pointer (some ⟨P, 0, none⟩), .agg cs.toArray] w (WrPost B P out ((M.cLim).ok x) ((M.cLim).wr x) w) := by
  obtain ⟨rfl, h1, h2⟩ := form_lim his
  exact tlimits_any B w P out x.mn x.mx h h1 h2
theorem wok_tab (B : Nat) (w : World) (P : Nat) (out : List Nat) (x : M.Lim) (cs : List Value) (h : MTx B w P out) (his : rLim.is w (· < B) x cs) (hp : Pre_tab x) : Calls Tryz.prog 111 #[.pointer (some ⟨P, 0, none⟩), .agg cs.toArray] w (WrPost B P out ((M.cTab).ok x) ((M.cTab).wr x) w) := by
  obtain ⟨rfl, h1, h2⟩ := form_lim his
  exact ttable_any B w P out x.mn x.mx h h1 h2
theorem wok_ft (B : Nat) (w : World) (P : Nat) (out : List Nat) (x : M.FT) (cs : List Value) (h : MTx B w P out) (his : rFT.is w (· < B) x cs) (hp : Pre_ft x) : Calls Tryz.prog 105 #[.pointer (some ⟨P, 0, none⟩), .agg cs.toArray] w (WrPost B P out ((M.cFT).ok x) ((M.cFT).wr x) w) := by
  obtain ⟨A1, c1, A2, c2, rfl, h1, h2⟩ := form_ft his
  exact tft_any B w P out _ _ x.ps x.rs h h1 h2 hp.1 hp.2
theorem wok_exp (B : Nat) (w : World) (P : Nat) (out : List Nat) (x : M.Exp) (cs : List Value) (h : MTx B w P out) (his : rExp.is w (· < B) x cs) (hp : Pre_exp x) : Calls Tryz.prog 116 #[.pointer (some ⟨P, 0, none⟩), .agg cs.toArray] w (WrPost B P out ((M.cExp).ok x) ((M.cExp).wr x) w) := by
  obtain ⟨s, rfl, h1, h2, h3, h4⟩ := form_exp his
  refine (texport_any B w P out s x.kd x.ix h (by rw [← sby_len, h1]; exact h2) h4).mono fun e w2 k => ?_
  rw [h1] at k
  exact k.iff ⟨fun hh => ⟨hh.1, (kind_iff _).2 hh.2.1, hh.2.2⟩, fun hh => ⟨hh.1, (kind_iff _).1 hh.2.1, hh.2.2⟩⟩
theorem wok_glo (B : Nat) (w : World) (P : Nat) (out : List Nat) (x : M.Glo) (cs : List Value) (h : MTx B w P out) (his : rGlo.is w (· < B) x cs) (hp : Pre_glo x) : Calls Tryz.prog 114 #[.pointer (some ⟨P, 0, none⟩), .agg cs.toArray] w (WrPost B P out ((M.cGlo).ok x) ((M.cGlo).wr x) w) := by
  obtain ⟨hd, A1, m1, c1, A2, m2, c2, A3, m3, c3, rfl, h1⟩ := form_glo his
  exact tglobal_any B w P out x.ty x.mu x.ini hd A1 A2 A3 m1 c1 m2 c2 m3 c3 h h1 hp
theorem wok_elm (B : Nat) (w : World) (P : Nat) (out : List Nat) (x : M.Elm) (cs : List Value) (h : MTx B w P out) (his : rElm.is w (· < B) x cs) (hp : Pre_elm x) : Calls Tryz.prog 118 #[.pointer (some ⟨P, 0, none⟩), .agg cs.toArray] w (WrPost B P out ((M.cElm).ok x) ((M.cElm).wr x) w) := by
  obtain ⟨hd, A1, m1, c1, A2, m2, c2, A3, m3, c3, A4, c4, rfl, h1, h2, h3⟩ := form_elm his
  exact telem_any B w P out x.ta x.fs A4 _ c4 x.off hd A1 A2 A3 m1 c1 m2 c2 m3 c3 h h1 h2 hp.1 (nums_lst h3 hp.2)
theorem wok_dat (B : Nat) (w : World) (P : Nat) (out : List Nat) (x : M.Dat) (cs : List Value) (h : MTx B w P out) (his : rDat.is w (· < B) x cs) (hp : Pre_dat x) : Calls Tryz.prog 121 #[.pointer (some ⟨P, 0, none⟩), .agg cs.toArray] w (WrPost B P out ((M.cDat).ok x) ((M.cDat).wr x) w) := by
  obtain ⟨hd, A1, m1, c1, A2, m2, c2, A3, m3, c3, A4, c4, rfl, h1, h2, h3⟩ := form_dat his
  obtain ⟨h4, h5⟩ := bss_BS h3
  refine (tdata_any B w P out x.me x.bs A4 _ c4 x.off hd A1 A2 A3 m1 c1 m2 c2 m3 c3 h h1 h2 hp h4 h5).mono fun e w2 k => ?_
  exact k.iff ⟨fun hh => ⟨hh.1, hh.2.1, by have := hh.2.2.2; show x.bs.length < 4294967296; omega⟩, fun hh => ⟨hh.1, hh.2.1, Int.natCast_nonneg _, by have : x.bs.length < 4294967296 := hh.2.2; omega⟩⟩
set_option maxRecDepth 100000 in
set_option maxHeartbeats 4000000 in
theorem each_ft (B : Nat) (w : World) (P : Nat) (out : List Nat) (v : Value) (xs : List _) (h : MTx B w P out) (hl : Lst rFT w (· < B) v xs) (hpre : ∀ x ∈ xs, Pre_ft x) :
    Calls Tryz.prog 176 #[.pointer (some ⟨P, 0, none⟩), v, .func (.func 105) #[] #[]] w (WrPost B P out (∀ x ∈ xs, (M.cFT).ok x) (M.wTimes M.cFT xs) w) := by
  obtain ⟨A, c, rfl, hn, hc, hm⟩ := hl.form
  unfold maxLen at hm
  replace hl := Lib.hid hl
  replace hpre := Lib.hid hpre
  have rel0 := Lib.hid (ERel.start (c := M.cFT) (n := xs.length) (xs := xs) h)
  replace h := Lib.hid h
  obtain ⟨n, hN⟩ : ∃ n, n = xs.length := ⟨_, rfl⟩
  rw [← hN] at hl hn hc rel0 ⊢
  replace hN := Lib.hid hN
  go_enter Tryz.func176, Tryz.ntmps176
  go_wp2_with fail
  go_loopw [11] (fun i w' => ∃ k : Nat, ERel M.cFT B P n out xs w i w' k) (fun i _ => n - (intOf i).toNat)
  case atStart => exact ⟨0, rel0.out⟩
  case round =>
    clear rel0
    obtain ⟨j, E⟩ := hrel
    have hi := E.hi
    have hk := E.hk
    subst hi
    have bel := E.b.below h.out
    by_cases hjn : j < n
    · obtain ⟨x, hx⟩ : ∃ x, xs[j]? = some x := ⟨_, List.getElem?_eq_getElem (by rw [← hN.out]; exact hjn)⟩
      obtain ⟨g, o, cs, rfl, hgB, his, hcs⟩ := hl.out.nth hx
      have his0 := Lib.hid his
      obtain ⟨A1, c1, A2, c2, rfl, _⟩ := form_ft his
      replace his := his0.out
      clear his0
      have xc0 : wr.cell? ⟨g, o + j * 2, none⟩ = some (.slice A1 x.ps.length c1) := (bel.cell (p := ⟨g, _, none⟩) hgB).trans (hcs 0 _ rfl)
      have xc1 : wr.cell? ⟨g, o + j * 2 + 1, none⟩ = some (.slice A2 x.rs.length c2) := (bel.cell (p := ⟨g, _, none⟩) hgB).trans (hcs 1 _ rfl)
      have his' := Lib.hid (rFT.agree his (below_agree bel) (fun _ hk => hk))
      have t0 : (0 : Int) ≤ (j : Int) := by omega
      have t1 : (j : Int) < (n : Int) := by omega
      obtain ⟨W1, hW1⟩ : ∃ W1, W1 = wr.alloc (.cells #[.slice A1 x.ps.length c1, .slice A2 x.rs.length c2] 54) := ⟨_, rfl⟩
      replace hW1 := Lib.hid hW1
      have b1 : Below wr.heap.size wr W1 := by rw [hW1.out]; exact (Below.refl _ _).alloc (Nat.le_refl _) _
      have E1 := Lib.hid (E.t.later b1)
      have d1 := Lib.hid (Wro.ofBelow E.t.lt b1)
      have is1 := Lib.hid (rFT.agree his'.out (below_agree (b1.mono E.t.nn)) (fun _ hk => hk))
      have hx' := Lib.hid hx
      have hp := Lib.hid (hpre.out x (List.mem_of_getElem? hx))
      replace E := Lib.hid E
      clear hx his hcs bel b1
      go_upto_region 4 with fail
      rw [← hW1.out]
      have hsz : W1.heap.size = wr.heap.size + 1 := by rw [hW1.out]; simp
      have yc0 : W1.cell? ⟨wr.heap.size, 0, none⟩ = some (.slice A1 x.ps.length c1) := by rw [hW1.out]; simp
      have yc1 : W1.cell? ⟨wr.heap.size, 1, none⟩ = some (.slice A2 x.rs.length c2) := by rw [hW1.out]; simp
      go_wp2_with fail
      refine (wok_ft B W1 P _ x [.slice A1 x.ps.length c1, .slice A2 x.rs.length c2] E1.out is1.out hp.out).mono ?_
      rintro e2 w2 (⟨ho, hf, rfl, t2, b2⟩ | ⟨hno, rfl, b2⟩)
      · have E2 := Lib.hid (E.out.step hjn hx'.out ho t2 (d1.out.trans b2))
        clear b2 t2
        go_wp2_with fail
        exact ⟨⟨j + 1, E2.out⟩, by simp [intOf]; omega⟩
      · have E2 := Lib.hid (E.out.no hx'.out hno (d1.out.trans b2))
        clear b2
        go_wp2_with fail
        go_ret
        exact E2.out
    · obtain rfl : j = n := by omega
      rw [hN.out] at E
      have E2 := Lib.hid E.done
      clear E bel
      go_wp2_with fail
      go_ret
      exact E2.out
set_option maxRecDepth 100000 in
set_option maxHeartbeats 1000000 in
theorem list_w_ft (B : Nat) (w : World) (P : Nat) (out : List Nat) (v : Value) (xs : List _) (h : MTx B w P out) (hl : Lst rFT w (· < B) v xs) (hpre : ∀ x ∈ xs, Pre_ft x) :
    Calls Tryz.prog 138 #[.pointer (some ⟨P, 0, none⟩), v, .func (.func 105) #[] #[]] w (WrPost B P out ((M.vec M.cFT).ok xs) ((M.vec M.cFT).wr xs) w) := by
  rw [vec_ok, vec_wr]
  obtain ⟨A, c, rfl, hn, hc, hm⟩ := hl.form
  unfold maxLen at hm
  have hlB := Lib.hid (fun w' (b : Wro P w w') => hl.agree (below_agree (b.below h)) (fun _ hk => hk))
  have hpre' := Lib.hid hpre
  replace h := Lib.hid h
  clear hl hpre
  obtain ⟨n, hN⟩ : ∃ n, n = xs.length := ⟨_, rfl⟩
  rw [← hN] at hlB hn hc ⊢
  clear hN
  by_cases h128 : n ≤ 128
  · have hR : M.inR (n : Int) := ⟨by omega, by omega⟩
    replace hR := Lib.hid hR
    go_enter Tryz.func138, Tryz.ntmps138
    go_wp2_with fail
    refine (tnumb_any B w P out n h.out (by omega)).mono ?_
    rintro e1 w1 (⟨_, hf, rfl, t1, b1⟩ | ⟨hno, rfl, b1⟩)
    · replace t1 := Lib.hid t1
      have l1 := Lib.hid (hlB.out w1 b1)
      replace b1 := Lib.hid b1
      go_wp2_with fail
      refine (each_ft B w1 P _ _ xs t1.out l1.out hpre'.out).mono ?_
      intro e2 w2 k2
      have this := Lib.hid ((WrPost.then ⟨hR.out, hf⟩ b1.out k2).iff (C := n ≤ 128 ∧ ∀ x ∈ xs, (M.cFT).ok x) ⟨fun hh => ⟨h128, hh.2⟩, fun hh => ⟨hR.out, hh.2⟩⟩)
      rcases k2 with ⟨_, _, rfl, _⟩ | ⟨_, rfl, _⟩
      all_goals
        go_wp2_with fail
        go_ret
        exact this.out
    · have this := Lib.hid ((WrPost.stop (B := B) (C := ∀ x ∈ xs, (M.cFT).ok x) (yb := M.wTimes M.cFT xs) hno b1).iff (C := n ≤ 128 ∧ ∀ x ∈ xs, (M.cFT).ok x) ⟨fun hh => ⟨h128, hh.2⟩, fun hh => ⟨hR.out, hh.2⟩⟩)
      go_wp2_with fail
      go_ret
      exact this.out
  · have hno := Lib.hid (WrPost.no (B := B) (P := P) (out := out) (w := w) (ys := M.U (n : Int) ++ M.wTimes M.cFT xs) (C := n ≤ 128 ∧ ∀ x ∈ xs, (M.cFT).ok x) (fun hh => h128 hh.1))
    have hgt : (128 : Int) < (n : Int) := by omega
    go_enter Tryz.func138, Tryz.ntmps138
    go_wp2_with fail
    go_ret
    exact hno.out
set_option maxRecDepth 100000 in
set_option maxHeartbeats 4000000 in
theorem each_exp (B : Nat) (w : World) (P : Nat) (out : List Nat) (v : Value) (xs : List _) (h : MTx B w P out) (hl : Lst rExp w (· < B) v xs) (hpre : ∀ x ∈ xs, Pre_exp x) :
    Calls Tryz.prog 185 #[.pointer (some ⟨P, 0, none⟩), v, .func (.func 116) #[] #[]] w (WrPost B P out (∀ x ∈ xs, (M.cExp).ok x) (M.wTimes M.cExp xs) w) := by
  obtain ⟨A, c, rfl, hn, hc, hm⟩ := hl.form
  unfold maxLen at hm
  replace hl := Lib.hid hl
  replace hpre := Lib.hid hpre
  have rel0 := Lib.hid (ERel.start (c := M.cExp) (n := xs.length) (xs := xs) h)
  replace h := Lib.hid h
  obtain ⟨n, hN⟩ : ∃ n, n = xs.length := ⟨_, rfl⟩
  rw [← hN] at hl hn hc rel0 ⊢
  replace hN := Lib.hid hN
  go_enter Tryz.func185, Tryz.ntmps185
  go_wp2_with fail
  go_loopw [11] (fun i w' => ∃ k : Nat, ERel M.cExp B P n out xs w i w' k) (fun i _ => n - (intOf i).toNat)
  case atStart => exact ⟨0, rel0.out⟩
  case round =>
    clear rel0
    obtain ⟨j, E⟩ := hrel
    have hi := E.hi
    have hk := E.hk
    subst hi
    have bel := E.b.below h.out
    by_cases hjn : j < n
    · obtain ⟨x, hx⟩ : ∃ x, xs[j]? = some x := ⟨_, List.getElem?_eq_getElem (by rw [← hN.out]; exact hjn)⟩
      obtain ⟨g, o, cs, rfl, hgB, his, hcs⟩ := hl.out.nth hx
      have his0 := Lib.hid his
      obtain ⟨s, rfl, _⟩ := form_exp his
      replace his := his0.out
      clear his0
      have xc0 : wr.cell? ⟨g, o + j * 3, none⟩ = some (.string s) := (bel.cell (p := ⟨g, _, none⟩) hgB).trans (hcs 0 _ rfl)
      have xc1 : wr.cell? ⟨g, o + j * 3 + 1, none⟩ = some (.int .i64 x.kd) := (bel.cell (p := ⟨g, _, none⟩) hgB).trans (hcs 1 _ rfl)
      have xc2 : wr.cell? ⟨g, o + j * 3 + 2, none⟩ = some (.int .i64 x.ix) := (bel.cell (p := ⟨g, _, none⟩) hgB).trans (hcs 2 _ rfl)
      have his' := Lib.hid (rExp.agree his (below_agree bel) (fun _ hk => hk))
      have t0 : (0 : Int) ≤ (j : Int) := by omega
      have t1 : (j : Int) < (n : Int) := by omega
      obtain ⟨W1, hW1⟩ : ∃ W1, W1 = wr.alloc (.cells #[.string s, .int .i64 x.kd, .int .i64 x.ix] 74) := ⟨_, rfl⟩
      replace hW1 := Lib.hid hW1
      have b1 : Below wr.heap.size wr W1 := by rw [hW1.out]; exact (Below.refl _ _).alloc (Nat.le_refl _) _
      have E1 := Lib.hid (E.t.later b1)
      have d1 := Lib.hid (Wro.ofBelow E.t.lt b1)
      have is1 := Lib.hid (rExp.agree his'.out (below_agree (b1.mono E.t.nn)) (fun _ hk => hk))
      have hx' := Lib.hid hx
      have hp := Lib.hid (hpre.out x (List.mem_of_getElem? hx))
      replace E := Lib.hid E
      clear hx his hcs bel b1
      go_upto_region 4 with fail
      rw [← hW1.out]
      have hsz : W1.heap.size = wr.heap.size + 1 := by rw [hW1.out]; simp
      have yc0 : W1.cell? ⟨wr.heap.size, 0, none⟩ = some (.string s) := by rw [hW1.out]; simp
      have yc1 : W1.cell? ⟨wr.heap.size, 1, none⟩ = some (.int .i64 x.kd) := by rw [hW1.out]; simp
      have yc2 : W1.cell? ⟨wr.heap.size, 2, none⟩ = some (.int .i64 x.ix) := by rw [hW1.out]; simp
      go_wp2_with fail
      refine (wok_exp B W1 P _ x [.string s, .int .i64 x.kd, .int .i64 x.ix] E1.out is1.out hp.out).mono ?_
      rintro e2 w2 (⟨ho, hf, rfl, t2, b2⟩ | ⟨hno, rfl, b2⟩)
      · have E2 := Lib.hid (E.out.step hjn hx'.out ho t2 (d1.out.trans b2))
        clear b2 t2
        go_wp2_with fail
        exact ⟨⟨j + 1, E2.out⟩, by simp [intOf]; omega⟩
      · have E2 := Lib.hid (E.out.no hx'.out hno (d1.out.trans b2))
        clear b2
        go_wp2_with fail
        go_ret
        exact E2.out
    · obtain rfl : j = n := by omega
      rw [hN.out] at E
      have E2 := Lib.hid E.done
      clear E bel
      go_wp2_with fail
      go_ret
      exact E2.out
set_option maxRecDepth 100000 in
set_option maxHeartbeats 1000000 in
theorem list_w_exp (B : Nat) (w : World) (P : Nat) (out : List Nat) (v : Value) (xs : List _) (h : MTx B w P out) (hl : Lst rExp w (· < B) v xs) (hpre : ∀ x ∈ xs, Pre_exp x) :
    Calls Tryz.prog 151 #[.pointer (some ⟨P, 0, none⟩), v, .func (.func 116) #[] #[]] w (WrPost B P out ((M.vec M.cExp).ok xs) ((M.vec M.cExp).wr xs) w) := by
  rw [vec_ok, vec_wr]
  obtain ⟨A, c, rfl, hn, hc, hm⟩ := hl.form
  unfold maxLen at hm
  have hlB := Lib.hid (fun w' (b : Wro P w w') => hl.agree (below_agree (b.below h)) (fun _ hk => hk))
  have hpre' := Lib.hid hpre
  replace h := Lib.hid h
  clear hl hpre
  obtain ⟨n, hN⟩ : ∃ n, n = xs.length := ⟨_, rfl⟩
  rw [← hN] at hlB hn hc ⊢
  clear hN
  by_cases h128 : n ≤ 128
  · have hR : M.inR (n : Int) := ⟨by omega, by omega⟩
    replace hR := Lib.hid hR
    go_enter Tryz.func151, Tryz.ntmps151
    go_wp2_with fail
    refine (tnumb_any B w P out n h.out (by omega)).mono ?_
    rintro e1 w1 (⟨_, hf, rfl, t1, b1⟩ | ⟨hno, rfl, b1⟩)
    · replace t1 := Lib.hid t1
      have l1 := Lib.hid (hlB.out w1 b1)
      replace b1 := Lib.hid b1
      go_wp2_with fail
      refine (each_exp B w1 P _ _ xs t1.out l1.out hpre'.out).mono ?_
      intro e2 w2 k2
      have this := Lib.hid ((WrPost.then ⟨hR.out, hf⟩ b1.out k2).iff (C := n ≤ 128 ∧ ∀ x ∈ xs, (M.cExp).ok x) ⟨fun hh => ⟨h128, hh.2⟩, fun hh => ⟨hR.out, hh.2⟩⟩)
      rcases k2 with ⟨_, _, rfl, _⟩ | ⟨_, rfl, _⟩
      all_goals
        go_wp2_with fail
        go_ret
        exact this.out
    · have this := Lib.hid ((WrPost.stop (B := B) (C := ∀ x ∈ xs, (M.cExp).ok x) (yb := M.wTimes M.cExp xs) hno b1).iff (C := n ≤ 128 ∧ ∀ x ∈ xs, (M.cExp).ok x) ⟨fun hh => ⟨h128, hh.2⟩, fun hh => ⟨hR.out, hh.2⟩⟩)
      go_wp2_with fail
      go_ret
      exact this.out
  · have hno := Lib.hid (WrPost.no (B := B) (P := P) (out := out) (w := w) (ys := M.U (n : Int) ++ M.wTimes M.cExp xs) (C := n ≤ 128 ∧ ∀ x ∈ xs, (M.cExp).ok x) (fun hh => h128 hh.1))
    have hgt : (128 : Int) < (n : Int) := by omega
    go_enter Tryz.func151, Tryz.ntmps151
    go_wp2_with fail
    go_ret
    exact hno.out
set_option maxRecDepth 100000 in
set_option maxHeartbeats 4000000 in
theorem each_glo (B : Nat) (w : World) (P : Nat) (out : List Nat) (v : Value) (xs : List _) (h : MTx B w P out) (hl : Lst rGlo w (· < B) v xs) (hpre : ∀ x ∈ xs, Pre_glo x) :
    Calls Tryz.prog 183 #[.pointer (some ⟨P, 0, none⟩), v, .func (.func 114) #[] #[]] w (WrPost B P out (∀ x ∈ xs, (M.cGlo).ok x) (M.wTimes M.cGlo xs) w) := by
  obtain ⟨A, c, rfl, hn, hc, hm⟩ := hl.form
  unfold maxLen at hm
  replace hl := Lib.hid hl
  replace hpre := Lib.hid hpre
  have rel0 := Lib.hid (ERel.start (c := M.cGlo) (n := xs.length) (xs := xs) h)
  replace h := Lib.hid h
  obtain ⟨n, hN⟩ : ∃ n, n = xs.length := ⟨_, rfl⟩
  rw [← hN] at hl hn hc rel0 ⊢
  replace hN := Lib.hid hN
  go_enter Tryz.func183, Tryz.ntmps183
  go_wp2_with fail
  go_loopw [11] (fun i w' => ∃ k : Nat, ERel M.cGlo B P n out xs w i w' k) (fun i _ => n - (intOf i).toNat)
  case atStart => exact ⟨0, rel0.out⟩
  case round =>
    clear rel0
    obtain ⟨j, E⟩ := hrel
    have hi := E.hi
    have hk := E.hk
    subst hi
    have bel := E.b.below h.out
    by_cases hjn : j < n
    · obtain ⟨x, hx⟩ : ∃ x, xs[j]? = some x := ⟨_, List.getElem?_eq_getElem (by rw [← hN.out]; exact hjn)⟩
      obtain ⟨g, o, cs, rfl, hgB, his, hcs⟩ := hl.out.nth hx
      have his0 := Lib.hid his
      obtain ⟨hd, A1, m1, c1, A2, m2, c2, A3, m3, c3, rfl, _⟩ := form_glo his
      replace his := his0.out
      clear his0
      have xc0 : wr.cell? ⟨g, o + j * 11, none⟩ = some (.int .i64 x.ty) := (bel.cell (p := ⟨g, _, none⟩) hgB).trans (hcs 0 _ rfl)
      have xc1 : wr.cell? ⟨g, o + j * 11 + 1, none⟩ = some (.bool x.mu) := (bel.cell (p := ⟨g, _, none⟩) hgB).trans (hcs 1 _ rfl)
      have xc2 : wr.cell? ⟨g, o + j * 11 + 2, none⟩ = some (.int .i64 hd.op) := (bel.cell (p := ⟨g, _, none⟩) hgB).trans (hcs 2 _ rfl)
      have xc3 : wr.cell? ⟨g, o + j * 11 + 3, none⟩ = some (.int .i64 hd.ty) := (bel.cell (p := ⟨g, _, none⟩) hgB).trans (hcs 3 _ rfl)
      have xc4 : wr.cell? ⟨g, o + j * 11 + 4, none⟩ = some (.int .i64 hd.ix) := (bel.cell (p := ⟨g, _, none⟩) hgB).trans (hcs 4 _ rfl)
      have xc5 : wr.cell? ⟨g, o + j * 11 + 5, none⟩ = some (.int .i64 hd.al) := (bel.cell (p := ⟨g, _, none⟩) hgB).trans (hcs 5 _ rfl)
      have xc6 : wr.cell? ⟨g, o + j * 11 + 6, none⟩ = some (.int .i64 hd.ofs) := (bel.cell (p := ⟨g, _, none⟩) hgB).trans (hcs 6 _ rfl)
      have xc7 : wr.cell? ⟨g, o + j * 11 + 7, none⟩ = some (.int .i64 hd.val) := (bel.cell (p := ⟨g, _, none⟩) hgB).trans (hcs 7 _ rfl)
      have xc8 : wr.cell? ⟨g, o + j * 11 + 8, none⟩ = some (.slice A1 m1 c1) := (bel.cell (p := ⟨g, _, none⟩) hgB).trans (hcs 8 _ rfl)
      have xc9 : wr.cell? ⟨g, o + j * 11 + 9, none⟩ = some (.slice A2 m2 c2) := (bel.cell (p := ⟨g, _, none⟩) hgB).trans (hcs 9 _ rfl)
      have xc10 : wr.cell? ⟨g, o + j * 11 + 10, none⟩ = some (.slice A3 m3 c3) := (bel.cell (p := ⟨g, _, none⟩) hgB).trans (hcs 10 _ rfl)
      have his' := Lib.hid (rGlo.agree his (below_agree bel) (fun _ hk => hk))
      have t0 : (0 : Int) ≤ (j : Int) := by omega
      have t1 : (j : Int) < (n : Int) := by omega
      obtain ⟨W1, hW1⟩ : ∃ W1, W1 = wr.alloc (.cells #[.int .i64 x.ty, .bool x.mu, .int .i64 hd.op, .int .i64 hd.ty, .int .i64 hd.ix, .int .i64 hd.al, .int .i64 hd.ofs, .int .i64 hd.val, .slice A1 m1 c1, .slice A2 m2 c2, .slice A3 m3 c3] 70) := ⟨_, rfl⟩
      replace hW1 := Lib.hid hW1
      have b1 : Below wr.heap.size wr W1 := by rw [hW1.out]; exact (Below.refl _ _).alloc (Nat.le_refl _) _
      have E1 := Lib.hid (E.t.later b1)
      have d1 := Lib.hid (Wro.ofBelow E.t.lt b1)
      have is1 := Lib.hid (rGlo.agree his'.out (below_agree (b1.mono E.t.nn)) (fun _ hk => hk))
      have hx' := Lib.hid hx
      have hp := Lib.hid (hpre.out x (List.mem_of_getElem? hx))
      replace E := Lib.hid E
      clear hx his hcs bel b1
      go_upto_region 4 with fail
      rw [← hW1.out]
      have hsz : W1.heap.size = wr.heap.size + 1 := by rw [hW1.out]; simp
      have yc0 : W1.cell? ⟨wr.heap.size, 0, none⟩ = some (.int .i64 x.ty) := by rw [hW1.out]; simp
      have yc1 : W1.cell? ⟨wr.heap.size, 1, none⟩ = some (.bool x.mu) := by rw [hW1.out]; simp
      have yc2 : W1.cell? ⟨wr.heap.size, 2, none⟩ = some (.int .i64 hd.op) := by rw [hW1.out]; simp
      have yc3 : W1.cell? ⟨wr.heap.size, 3, none⟩ = some (.int .i64 hd.ty) := by rw [hW1.out]; simp
      have yc4 : W1.cell? ⟨wr.heap.size, 4, none⟩ = some (.int .i64 hd.ix) := by rw [hW1.out]; simp
      have yc5 : W1.cell? ⟨wr.heap.size, 5, none⟩ = some (.int .i64 hd.al) := by rw [hW1.out]; simp
      have yc6 : W1.cell? ⟨wr.heap.size, 6, none⟩ = some (.int .i64 hd.ofs) := by rw [hW1.out]; simp
      have yc7 : W1.cell? ⟨wr.heap.size, 7, none⟩ = some (.int .i64 hd.val) := by rw [hW1.out]; simp
      have yc8 : W1.cell? ⟨wr.heap.size, 8, none⟩ = some (.slice A1 m1 c1) := by rw [hW1.out]; simp
      have yc9 : W1.cell? ⟨wr.heap.size, 9, none⟩ = some (.slice A2 m2 c2) := by rw [hW1.out]; simp
      have yc10 : W1.cell? ⟨wr.heap.size, 10, none⟩ = some (.slice A3 m3 c3) := by rw [hW1.out]; simp
      go_wp2_with fail
      refine (wok_glo B W1 P _ x [.int .i64 x.ty, .bool x.mu, .int .i64 hd.op, .int .i64 hd.ty, .int .i64 hd.ix, .int .i64 hd.al, .int .i64 hd.ofs, .int .i64 hd.val, .slice A1 m1 c1, .slice A2 m2 c2, .slice A3 m3 c3] E1.out is1.out hp.out).mono ?_
      rintro e2 w2 (⟨ho, hf, rfl, t2, b2⟩ | ⟨hno, rfl, b2⟩)
      · have E2 := Lib.hid (E.out.step hjn hx'.out ho t2 (d1.out.trans b2))
        clear b2 t2
        go_wp2_with fail
        exact ⟨⟨j + 1, E2.out⟩, by simp [intOf]; omega⟩
      · have E2 := Lib.hid (E.out.no hx'.out hno (d1.out.trans b2))
        clear b2
        go_wp2_with fail
        go_ret
        exact E2.out
    · obtain rfl : j = n := by omega
      rw [hN.out] at E
      have E2 := Lib.hid E.done
      clear E bel
      go_wp2_with fail
      go_ret
      exact E2.out
set_option maxRecDepth 100000 in
set_option maxHeartbeats 1000000 in
theorem list_w_glo (B : Nat) (w : World) (P : Nat) (out : List Nat) (v : Value) (xs : List _) (h : MTx B w P out) (hl : Lst rGlo w (· < B) v xs) (hpre : ∀ x ∈ xs, Pre_glo x) :
    Calls Tryz.prog 149 #[.pointer (some ⟨P, 0, none⟩), v, .func (.func 114) #[] #[]] w (WrPost B P out ((M.vec M.cGlo).ok xs) ((M.vec M.cGlo).wr xs) w) := by
  rw [vec_ok, vec_wr]
  obtain ⟨A, c, rfl, hn, hc, hm⟩ := hl.form
  unfold maxLen at hm
  have hlB := Lib.hid (fun w' (b : Wro P w w') => hl.agree (below_agree (b.below h)) (fun _ hk => hk))
  have hpre' := Lib.hid hpre
  replace h := Lib.hid h
  clear hl hpre
  obtain ⟨n, hN⟩ : ∃ n, n = xs.length := ⟨_, rfl⟩
  rw [← hN] at hlB hn hc ⊢
  clear hN
  by_cases h128 : n ≤ 128
  · have hR : M.inR (n : Int) := ⟨by omega, by omega⟩
    replace hR := Lib.hid hR
    go_enter Tryz.func149, Tryz.ntmps149
    go_wp2_with fail
    refine (tnumb_any B w P out n h.out (by omega)).mono ?_
    rintro e1 w1 (⟨_, hf, rfl, t1, b1⟩ | ⟨hno, rfl, b1⟩)
    · replace t1 := Lib.hid t1
      have l1 := Lib.hid (hlB.out w1 b1)
      replace b1 := Lib.hid b1
      go_wp2_with fail
      refine (each_glo B w1 P _ _ xs t1.out l1.out hpre'.out).mono ?_
      intro e2 w2 k2
      have this := Lib.hid ((WrPost.then ⟨hR.out, hf⟩ b1.out k2).iff (C := n ≤ 128 ∧ ∀ x ∈ xs, (M.cGlo).ok x) ⟨fun hh => ⟨h128, hh.2⟩, fun hh => ⟨hR.out, hh.2⟩⟩)
      rcases k2 with ⟨_, _, rfl, _⟩ | ⟨_, rfl, _⟩
      all_goals
        go_wp2_with fail
        go_ret
        exact this.out
    · have this := Lib.hid ((WrPost.stop (B := B) (C := ∀ x ∈ xs, (M.cGlo).ok x) (yb := M.wTimes M.cGlo xs) hno b1).iff (C := n ≤ 128 ∧ ∀ x ∈ xs, (M.cGlo).ok x) ⟨fun hh => ⟨h128, hh.2⟩, fun hh => ⟨hR.out, hh.2⟩⟩)
      go_wp2_with fail
      go_ret
      exact this.out
  · have hno := Lib.hid (WrPost.no (B := B) (P := P) (out := out) (w := w) (ys := M.U (n : Int) ++ M.wTimes M.cGlo xs) (C := n ≤ 128 ∧ ∀ x ∈ xs, (M.cGlo).ok x) (fun hh => h128 hh.1))
    have hgt : (128 : Int) < (n : Int) := by omega
    go_enter Tryz.func149, Tryz.ntmps149
    go_wp2_with fail
    go_ret
    exact hno.out
set_option maxRecDepth 100000 in
set_option maxHeartbeats 4000000 in
theorem each_elm (B : Nat) (w : World) (P : Nat) (out : List Nat) (v : Value) (xs : List _) (h : MTx B w P out) (hl : Lst rElm w (· < B) v xs) (hpre : ∀ x ∈ xs, Pre_elm x) :
    Calls Tryz.prog 186 #[.pointer (some ⟨P, 0, none⟩), v, .func (.func 118) #[] #[]] w (WrPost B P out (∀ x ∈ xs, (M.cElm).ok x) (M.wTimes M.cElm xs) w) := by
  obtain ⟨A, c, rfl, hn, hc, hm⟩ := hl.form
  unfold maxLen at hm
  replace hl := Lib.hid hl
  replace hpre := Lib.hid hpre
  have rel0 := Lib.hid (ERel.start (c := M.cElm) (n := xs.length) (xs := xs) h)
  replace h := Lib.hid h
  obtain ⟨n, hN⟩ : ∃ n, n = xs.length := ⟨_, rfl⟩
  rw [← hN] at hl hn hc rel0 ⊢
  replace hN := Lib.hid hN
  go_enter Tryz.func186, Tryz.ntmps186
  go_wp2_with fail
  go_loopw [11] (fun i w' => ∃ k : Nat, ERel M.cElm B P n out xs w i w' k) (fun i _ => n - (intOf i).toNat)
  case atStart => exact ⟨0, rel0.out⟩
  case round =>
    clear rel0
    obtain ⟨j, E⟩ := hrel
    have hi := E.hi
    have hk := E.hk
    subst hi
    have bel := E.b.below h.out
    by_cases hjn : j < n
    · obtain ⟨x, hx⟩ : ∃ x, xs[j]? = some x := ⟨_, List.getElem?_eq_getElem (by rw [← hN.out]; exact hjn)⟩
      obtain ⟨g, o, cs, rfl, hgB, his, hcs⟩ := hl.out.nth hx
      have his0 := Lib.hid his
      obtain ⟨hd, A1, m1, c1, A2, m2, c2, A3, m3, c3, A4, c4, rfl, _⟩ := form_elm his
      replace his := his0.out
      clear his0
      have xc0 : wr.cell? ⟨g, o + j * 11, none⟩ = some (.int .i64 x.ta) := (bel.cell (p := ⟨g, _, none⟩) hgB).trans (hcs 0 _ rfl)
      have xc1 : wr.cell? ⟨g, o + j * 11 + 1, none⟩ = some (.int .i64 hd.op) := (bel.cell (p := ⟨g, _, none⟩) hgB).trans (hcs 1 _ rfl)
      have xc2 : wr.cell? ⟨g, o + j * 11 + 2, none⟩ = some (.int .i64 hd.ty) := (bel.cell (p := ⟨g, _, none⟩) hgB).trans (hcs 2 _ rfl)
      have xc3 : wr.cell? ⟨g, o + j * 11 + 3, none⟩ = some (.int .i64 hd.ix) := (bel.cell (p := ⟨g, _, none⟩) hgB).trans (hcs 3 _ rfl)
      have xc4 : wr.cell? ⟨g, o + j * 11 + 4, none⟩ = some (.int .i64 hd.al) := (bel.cell (p := ⟨g, _, none⟩) hgB).trans (hcs 4 _ rfl)
      have xc5 : wr.cell? ⟨g, o + j * 11 + 5, none⟩ = some (.int .i64 hd.ofs) := (bel.cell (p := ⟨g, _, none⟩) hgB).trans (hcs 5 _ rfl)
      have xc6 : wr.cell? ⟨g, o + j * 11 + 6, none⟩ = some (.int .i64 hd.val) := (bel.cell (p := ⟨g, _, none⟩) hgB).trans (hcs 6 _ rfl)
      have xc7 : wr.cell? ⟨g, o + j * 11 + 7, none⟩ = some (.slice A1 m1 c1) := (bel.cell (p := ⟨g, _, none⟩) hgB).trans (hcs 7 _ rfl)
      have xc8 : wr.cell? ⟨g, o + j * 11 + 8, none⟩ = some (.slice A2 m2 c2) := (bel.cell (p := ⟨g, _, none⟩) hgB).trans (hcs 8 _ rfl)
      have xc9 : wr.cell? ⟨g, o + j * 11 + 9, none⟩ = some (.slice A3 m3 c3) := (bel.cell (p := ⟨g, _, none⟩) hgB).trans (hcs 9 _ rfl)
      have xc10 : wr.cell? ⟨g, o + j * 11 + 10, none⟩ = some (.slice A4 x.fs.length c4) := (bel.cell (p := ⟨g, _, none⟩) hgB).trans (hcs 10 _ rfl)
      have his' := Lib.hid (rElm.agree his (below_agree bel) (fun _ hk => hk))
      have t0 : (0 : Int) ≤ (j : Int) := by omega
      have t1 : (j : Int) < (n : Int) := by omega
      obtain ⟨W1, hW1⟩ : ∃ W1, W1 = wr.alloc (.cells #[.int .i64 x.ta, .int .i64 hd.op, .int .i64 hd.ty, .int .i64 hd.ix, .int .i64 hd.al, .int .i64 hd.ofs, .int .i64 hd.val, .slice A1 m1 c1, .slice A2 m2 c2, .slice A3 m3 c3, .slice A4 x.fs.length c4] 76) := ⟨_, rfl⟩
      replace hW1 := Lib.hid hW1
      have b1 : Below wr.heap.size wr W1 := by rw [hW1.out]; exact (Below.refl _ _).alloc (Nat.le_refl _) _
      have E1 := Lib.hid (E.t.later b1)
      have d1 := Lib.hid (Wro.ofBelow E.t.lt b1)
      have is1 := Lib.hid (rElm.agree his'.out (below_agree (b1.mono E.t.nn)) (fun _ hk => hk))
      have hx' := Lib.hid hx
      have hp := Lib.hid (hpre.out x (List.mem_of_getElem? hx))
      replace E := Lib.hid E
      clear hx his hcs bel b1
      go_upto_region 4 with fail
      rw [← hW1.out]
      have hsz : W1.heap.size = wr.heap.size + 1 := by rw [hW1.out]; simp
      have yc0 : W1.cell? ⟨wr.heap.size, 0, none⟩ = some (.int .i64 x.ta) := by rw [hW1.out]; simp
      have yc1 : W1.cell? ⟨wr.heap.size, 1, none⟩ = some (.int .i64 hd.op) := by rw [hW1.out]; simp
      have yc2 : W1.cell? ⟨wr.heap.size, 2, none⟩ = some (.int .i64 hd.ty) := by rw [hW1.out]; simp
      have yc3 : W1.cell? ⟨wr.heap.size, 3, none⟩ = some (.int .i64 hd.ix) := by rw [hW1.out]; simp
      have yc4 : W1.cell? ⟨wr.heap.size, 4, none⟩ = some (.int .i64 hd.al) := by rw [hW1.out]; simp
      have yc5 : W1.cell? ⟨wr.heap.size, 5, none⟩ = some (.int .i64 hd.ofs) := by rw [hW1.out]; simp
      have yc6 : W1.cell? ⟨wr.heap.size, 6, none⟩ = some (.int .i64 hd.val) := by rw [hW1.out]; simp
      have yc7 : W1.cell? ⟨wr.heap.size, 7, none⟩ = some (.slice A1 m1 c1) := by rw [hW1.out]; simp
      have yc8 : W1.cell? ⟨wr.heap.size, 8, none⟩ = some (.slice A2 m2 c2) := by rw [hW1.out]; simp
      have yc9 : W1.cell? ⟨wr.heap.size, 9, none⟩ = some (.slice A3 m3 c3) := by rw [hW1.out]; simp
      have yc10 : W1.cell? ⟨wr.heap.size, 10, none⟩ = some (.slice A4 x.fs.length c4) := by rw [hW1.out]; simp
      go_wp2_with fail
      refine (wok_elm B W1 P _ x [.int .i64 x.ta, .int .i64 hd.op, .int .i64 hd.ty, .int .i64 hd.ix, .int .i64 hd.al, .int .i64 hd.ofs, .int .i64 hd.val, .slice A1 m1 c1, .slice A2 m2 c2, .slice A3 m3 c3, .slice A4 x.fs.length c4] E1.out is1.out hp.out).mono ?_
      rintro e2 w2 (⟨ho, hf, rfl, t2, b2⟩ | ⟨hno, rfl, b2⟩)
      · have E2 := Lib.hid (E.out.step hjn hx'.out ho t2 (d1.out.trans b2))
        clear b2 t2
        go_wp2_with fail
        exact ⟨⟨j + 1, E2.out⟩, by simp [intOf]; omega⟩
      · have E2 := Lib.hid (E.out.no hx'.out hno (d1.out.trans b2))
        clear b2
        go_wp2_with fail
        go_ret
        exact E2.out
    · obtain rfl : j = n := by omega
      rw [hN.out] at E
      have E2 := Lib.hid E.done
      clear E bel
      go_wp2_with fail
      go_ret
      exact E2.out
set_option maxRecDepth 100000 in
set_option maxHeartbeats 1000000 in
theorem list_w_elm (B : Nat) (w : World) (P : Nat) (out : List Nat) (v : Value) (xs : List _) (h : MTx B w P out) (hl : Lst rElm w (· < B) v xs) (hpre : ∀ x ∈ xs, Pre_elm x) :
    Calls Tryz.prog 152 #[.pointer (some ⟨P, 0, none⟩), v, .func (.func 118) #[] #[]] w (WrPost B P out ((M.vec M.cElm).ok xs) ((M.vec M.cElm).wr xs) w) := by
  rw [vec_ok, vec_wr]
  obtain ⟨A, c, rfl, hn, hc, hm⟩ := hl.form
  unfold maxLen at hm
  have hlB := Lib.hid (fun w' (b : Wro P w w') => hl.agree (below_agree (b.below h)) (fun _ hk => hk))
  have hpre' := Lib.hid hpre
  replace h := Lib.hid h
  clear hl hpre
  obtain ⟨n, hN⟩ : ∃ n, n = xs.length := ⟨_, rfl⟩
  rw [← hN] at hlB hn hc ⊢
  clear hN
  by_cases h128 : n ≤ 128
  · have hR : M.inR (n : Int) := ⟨by omega, by omega⟩
    replace hR := Lib.hid hR
    go_enter Tryz.func152, Tryz.ntmps152
    go_wp2_with fail
    refine (tnumb_any B w P out n h.out (by omega)).mono ?_
    rintro e1 w1 (⟨_, hf, rfl, t1, b1⟩ | ⟨hno, rfl, b1⟩)
    · replace t1 := Lib.hid t1
      have l1 := Lib.hid (hlB.out w1 b1)
      replace b1 := Lib.hid b1
      go_wp2_with fail
      refine (each_elm B w1 P _ _ xs t1.out l1.out hpre'.out).mono ?_
      intro e2 w2 k2
      have this := Lib.hid ((WrPost.then ⟨hR.out, hf⟩ b1.out k2).iff (C := n ≤ 128 ∧ ∀ x ∈ xs, (M.cElm).ok x) ⟨fun hh => ⟨h128, hh.2⟩, fun hh => ⟨hR.out, hh.2⟩⟩)
      rcases k2 with ⟨_, _, rfl, _⟩ | ⟨_, rfl, _⟩
      all_goals
        go_wp2_with fail
        go_ret
        exact this.out
    · have this := Lib.hid ((WrPost.stop (B := B) (C := ∀ x ∈ xs, (M.cElm).ok x) (yb := M.wTimes M.cElm xs) hno b1).iff (C := n ≤ 128 ∧ ∀ x ∈ xs, (M.cElm).ok x) ⟨fun hh => ⟨h128, hh.2⟩, fun hh => ⟨hR.out, hh.2⟩⟩)
      go_wp2_with fail
      go_ret
      exact this.out
  · have hno := Lib.hid (WrPost.no (B := B) (P := P) (out := out) (w := w) (ys := M.U (n : Int) ++ M.wTimes M.cElm xs) (C := n ≤ 128 ∧ ∀ x ∈ xs, (M.cElm).ok x) (fun hh => h128 hh.1))
    have hgt : (128 : Int) < (n : Int) := by omega
    go_enter Tryz.func152, Tryz.ntmps152
    go_wp2_with fail
    go_ret
    exact hno.out
set_option maxRecDepth 100000 in
set_option maxHeartbeats 4000000 in
theorem each_dat (B : Nat) (w : World) (P : Nat) (out : List Nat) (v : Value) (xs : List _) (h : MTx B w P out) (hl : Lst rDat w (· < B) v xs) (hpre : ∀ x ∈ xs, Pre_dat x) :
    Calls Tryz.prog 192 #[.pointer (some ⟨P, 0, none⟩), v, .func (.func 121) #[] #[]] w (WrPost B P out (∀ x ∈ xs, (M.cDat).ok x) (M.wTimes M.cDat xs) w) := by
  obtain ⟨A, c, rfl, hn, hc, hm⟩ := hl.form
  unfold maxLen at hm
  replace hl := Lib.hid hl
  replace hpre := Lib.hid hpre
  have rel0 := Lib.hid (ERel.start (c := M.cDat) (n := xs.length) (xs := xs) h)
  replace h := Lib.hid h
  obtain ⟨n, hN⟩ : ∃ n, n = xs.length := ⟨_, rfl⟩
  rw [← hN] at hl hn hc rel0 ⊢
  replace hN := Lib.hid hN
  go_enter Tryz.func192, Tryz.ntmps192
  go_wp2_with fail
  go_loopw [11] (fun i w' => ∃ k : Nat, ERel M.cDat B P n out xs w i w' k) (fun i _ => n - (intOf i).toNat)
  case atStart => exact ⟨0, rel0.out⟩
  case round =>
    clear rel0
    obtain ⟨j, E⟩ := hrel
    have hi := E.hi
    have hk := E.hk
    subst hi
    have bel := E.b.below h.out
    by_cases hjn : j < n
    · obtain ⟨x, hx⟩ : ∃ x, xs[j]? = some x := ⟨_, List.getElem?_eq_getElem (by rw [← hN.out]; exact hjn)⟩
      obtain ⟨g, o, cs, rfl, hgB, his, hcs⟩ := hl.out.nth hx
      have his0 := Lib.hid his
      obtain ⟨hd, A1, m1, c1, A2, m2, c2, A3, m3, c3, A4, c4, rfl, _⟩ := form_dat his
      replace his := his0.out
      clear his0
      have xc0 : wr.cell? ⟨g, o + j * 11, none⟩ = some (.int .i64 x.me) := (bel.cell (p := ⟨g, _, none⟩) hgB).trans (hcs 0 _ rfl)
      have xc1 : wr.cell? ⟨g, o + j * 11 + 1, none⟩ = some (.int .i64 hd.op) := (bel.cell (p := ⟨g, _, none⟩) hgB).trans (hcs 1 _ rfl)
      have xc2 : wr.cell? ⟨g, o + j * 11 + 2, none⟩ = some (.int .i64 hd.ty) := (bel.cell (p := ⟨g, _, none⟩) hgB).trans (hcs 2 _ rfl)
      have xc3 : wr.cell? ⟨g, o + j * 11 + 3, none⟩ = some (.int .i64 hd.ix) := (bel.cell (p := ⟨g, _, none⟩) hgB).trans (hcs 3 _ rfl)
      have xc4 : wr.cell? ⟨g, o + j * 11 + 4, none⟩ = some (.int .i64 hd.al) := (bel.cell (p := ⟨g, _, none⟩) hgB).trans (hcs 4 _ rfl)
      have xc5 : wr.cell? ⟨g, o + j * 11 + 5, none⟩ = some (.int .i64 hd.ofs) := (bel.cell (p := ⟨g, _, none⟩) hgB).trans (hcs 5 _ rfl)
      have xc6 : wr.cell? ⟨g, o + j * 11 + 6, none⟩ = some (.int .i64 hd.val) := (bel.cell (p := ⟨g, _, none⟩) hgB).trans (hcs 6 _ rfl)
      have xc7 : wr.cell? ⟨g, o + j * 11 + 7, none⟩ = some (.slice A1 m1 c1) := (bel.cell (p := ⟨g, _, none⟩) hgB).trans (hcs 7 _ rfl)
      have xc8 : wr.cell? ⟨g, o + j * 11 + 8, none⟩ = some (.slice A2 m2 c2) := (bel.cell (p := ⟨g, _, none⟩) hgB).trans (hcs 8 _ rfl)
      have xc9 : wr.cell? ⟨g, o + j * 11 + 9, none⟩ = some (.slice A3 m3 c3) := (bel.cell (p := ⟨g, _, none⟩) hgB).trans (hcs 9 _ rfl)
      have xc10 : wr.cell? ⟨g, o + j * 11 + 10, none⟩ = some (.slice A4 x.bs.length c4) := (bel.cell (p := ⟨g, _, none⟩) hgB).trans (hcs 10 _ rfl)
      have his' := Lib.hid (rDat.agree his (below_agree bel) (fun _ hk => hk))
      have t0 : (0 : Int) ≤ (j : Int) := by omega
      have t1 : (j : Int) < (n : Int) := by omega
      obtain ⟨W1, hW1⟩ : ∃ W1, W1 = wr.alloc (.cells #[.int .i64 x.me, .int .i64 hd.op, .int .i64 hd.ty, .int .i64 hd.ix, .int .i64 hd.al, .int .i64 hd.ofs, .int .i64 hd.val, .slice A1 m1 c1, .slice A2 m2 c2, .slice A3 m3 c3, .slice A4 x.bs.length c4] 78) := ⟨_, rfl⟩
      replace hW1 := Lib.hid hW1
      have b1 : Below wr.heap.size wr W1 := by rw [hW1.out]; exact (Below.refl _ _).alloc (Nat.le_refl _) _
      have E1 := Lib.hid (E.t.later b1)
      have d1 := Lib.hid (Wro.ofBelow E.t.lt b1)
      have is1 := Lib.hid (rDat.agree his'.out (below_agree (b1.mono E.t.nn)) (fun _ hk => hk))
      have hx' := Lib.hid hx
      have hp := Lib.hid (hpre.out x (List.mem_of_getElem? hx))
      replace E := Lib.hid E
      clear hx his hcs bel b1
      go_upto_region 4 with fail
      rw [← hW1.out]
      have hsz : W1.heap.size = wr.heap.size + 1 := by rw [hW1.out]; simp
      have yc0 : W1.cell? ⟨wr.heap.size, 0, none⟩ = some (.int .i64 x.me) := by rw [hW1.out]; simp
      have yc1 : W1.cell? ⟨wr.heap.size, 1, none⟩ = some (.int .i64 hd.op) := by rw [hW1.out]; simp
      have yc2 : W1.cell? ⟨wr.heap.size, 2, none⟩ = some (.int .i64 hd.ty) := by rw [hW1.out]; simp
      have yc3 : W1.cell? ⟨wr.heap.size, 3, none⟩ = some (.int .i64 hd.ix) := by rw [hW1.out]; simp
      have yc4 : W1.cell? ⟨wr.heap.size, 4, none⟩ = some (.int .i64 hd.al) := by rw [hW1.out]; simp
      have yc5 : W1.cell? ⟨wr.heap.size, 5, none⟩ = some (.int .i64 hd.ofs) := by rw [hW1.out]; simp
      have yc6 : W1.cell? ⟨wr.heap.size, 6, none⟩ = some (.int .i64 hd.val) := by rw [hW1.out]; simp
      have yc7 : W1.cell? ⟨wr.heap.size, 7, none⟩ = some (.slice A1 m1 c1) := by rw [hW1.out]; simp
      have yc8 : W1.cell? ⟨wr.heap.size, 8, none⟩ = some (.slice A2 m2 c2) := by rw [hW1.out]; simp
      have yc9 : W1.cell? ⟨wr.heap.size, 9, none⟩ = some (.slice A3 m3 c3) := by rw [hW1.out]; simp
      have yc10 : W1.cell? ⟨wr.heap.size, 10, none⟩ = some (.slice A4 x.bs.length c4) := by rw [hW1.out]; simp
      go_wp2_with fail
      refine (wok_dat B W1 P _ x [.int .i64 x.me, .int .i64 hd.op, .int .i64 hd.ty, .int .i64 hd.ix, .int .i64 hd.al, .int .i64 hd.ofs, .int .i64 hd.val, .slice A1 m1 c1, .slice A2 m2 c2, .slice A3 m3 c3, .slice A4 x.bs.length c4] E1.out is1.out hp.out).mono ?_
      rintro e2 w2 (⟨ho, hf, rfl, t2, b2⟩ | ⟨hno, rfl, b2⟩)
      · have E2 := Lib.hid (E.out.step hjn hx'.out ho t2 (d1.out.trans b2))
        clear b2 t2
        go_wp2_with fail
        exact ⟨⟨j + 1, E2.out⟩, by simp [intOf]; omega⟩
      · have E2 := Lib.hid (E.out.no hx'.out hno (d1.out.trans b2))
        clear b2
        go_wp2_with fail
        go_ret
        exact E2.out
    · obtain rfl : j = n := by omega
      rw [hN.out] at E
      have E2 := Lib.hid E.done
      clear E bel
      go_wp2_with fail
      go_ret
      exact E2.out
set_option maxRecDepth 100000 in
set_option maxHeartbeats 1000000 in
theorem list_w_dat (B : Nat) (w : World) (P : Nat) (out : List Nat) (v : Value) (xs : List _) (h : MTx B w P out) (hl : Lst rDat w (· < B) v xs) (hpre : ∀ x ∈ xs, Pre_dat x) :
    Calls Tryz.prog 155 #[.pointer (some ⟨P, 0, none⟩), v, .func (.func 121) #[] #[]] w (WrPost B P out ((M.vec M.cDat).ok xs) ((M.vec M.cDat).wr xs) w) := by
  rw [vec_ok, vec_wr]
  obtain ⟨A, c, rfl, hn, hc, hm⟩ := hl.form
  unfold maxLen at hm
  have hlB := Lib.hid (fun w' (b : Wro P w w') => hl.agree (below_agree (b.below h)) (fun _ hk => hk))
  have hpre' := Lib.hid hpre
  replace h := Lib.hid h
  clear hl hpre
  obtain ⟨n, hN⟩ : ∃ n, n = xs.length := ⟨_, rfl⟩
  rw [← hN] at hlB hn hc ⊢
  clear hN
  by_cases h128 : n ≤ 128
  · have hR : M.inR (n : Int) := ⟨by omega, by omega⟩
    replace hR := Lib.hid hR
    go_enter Tryz.func155, Tryz.ntmps155
    go_wp2_with fail
    refine (tnumb_any B w P out n h.out (by omega)).mono ?_
    rintro e1 w1 (⟨_, hf, rfl, t1, b1⟩ | ⟨hno, rfl, b1⟩)
    · replace t1 := Lib.hid t1
      have l1 := Lib.hid (hlB.out w1 b1)
      replace b1 := Lib.hid b1
      go_wp2_with fail
      refine (each_dat B w1 P _ _ xs t1.out l1.out hpre'.out).mono ?_
      intro e2 w2 k2
      have this := Lib.hid ((WrPost.then ⟨hR.out, hf⟩ b1.out k2).iff (C := n ≤ 128 ∧ ∀ x ∈ xs, (M.cDat).ok x) ⟨fun hh => ⟨h128, hh.2⟩, fun hh => ⟨hR.out, hh.2⟩⟩)
      rcases k2 with ⟨_, _, rfl, _⟩ | ⟨_, rfl, _⟩
      all_goals
        go_wp2_with fail
        go_ret
        exact this.out
    · have this := Lib.hid ((WrPost.stop (B := B) (C := ∀ x ∈ xs, (M.cDat).ok x) (yb := M.wTimes M.cDat xs) hno b1).iff (C := n ≤ 128 ∧ ∀ x ∈ xs, (M.cDat).ok x) ⟨fun hh => ⟨h128, hh.2⟩, fun hh => ⟨hR.out, hh.2⟩⟩)
      go_wp2_with fail
      go_ret
      exact this.out
  · have hno := Lib.hid (WrPost.no (B := B) (P := P) (out := out) (w := w) (ys := M.U (n : Int) ++ M.wTimes M.cDat xs) (C := n ≤ 128 ∧ ∀ x ∈ xs, (M.cDat).ok x) (fun hh => h128 hh.1))
    have hgt : (128 : Int) < (n : Int) := by omega
    go_enter Tryz.func155, Tryz.ntmps155
    go_wp2_with fail
    go_ret
    exact hno.out
set_option maxRecDepth 100000 in
set_option maxHeartbeats 4000000 in
theorem each_lim (B : Nat) (w : World) (P : Nat) (out : List Nat) (v : Value) (xs : List _) (h : MTx B w P out) (hl : Lst rLim w (· < B) v xs) (hpre : ∀ x ∈ xs, Pre_lim x) :
    Calls Tryz.prog 182 #[.pointer (some ⟨P, 0, none⟩), v, .func (.func 112) #[] #[]] w (WrPost B P out (∀ x ∈ xs, (M.cLim).ok x) (M.wTimes M.cLim xs) w) := by
  obtain ⟨A, c, rfl, hn, hc, hm⟩ := hl.form
  unfold maxLen at hm
  replace hl := Lib.hid hl
  replace hpre := Lib.hid hpre
  have rel0 := Lib.hid (ERel.start (c := M.cLim) (n := xs.length) (xs := xs) h)
  replace h := Lib.hid h
  obtain ⟨n, hN⟩ : ∃ n, n = xs.length := ⟨_, rfl⟩
  rw [← hN] at hl hn hc rel0 ⊢
  replace hN := Lib.hid hN
  go_enter Tryz.func182, Tryz.ntmps182
  go_wp2_with fail
  go_loopw [11] (fun i w' => ∃ k : Nat, ERel M.cLim B P n out xs w i w' k) (fun i _ => n - (intOf i).toNat)
  case atStart => exact ⟨0, rel0.out⟩
  case round =>
    clear rel0
    obtain ⟨j, E⟩ := hrel
    have hi := E.hi
    have hk := E.hk
    subst hi
    have bel := E.b.below h.out
    by_cases hjn : j < n
    · obtain ⟨x, hx⟩ : ∃ x, xs[j]? = some x := ⟨_, List.getElem?_eq_getElem (by rw [← hN.out]; exact hjn)⟩
      obtain ⟨g, o, cs, rfl, hgB, his, hcs⟩ := hl.out.nth hx
      have his0 := Lib.hid his
      obtain ⟨rfl, _⟩ := form_lim his
      replace his := his0.out
      clear his0
      have xc0 : wr.cell? ⟨g, o + j * 2, none⟩ = some (.int .i64 x.mn) := (bel.cell (p := ⟨g, _, none⟩) hgB).trans (hcs 0 _ rfl)
      have xc1 : wr.cell? ⟨g, o + j * 2 + 1, none⟩ = some (.int .i64 x.mx) := (bel.cell (p := ⟨g, _, none⟩) hgB).trans (hcs 1 _ rfl)
      have his' := Lib.hid (rLim.agree his (below_agree bel) (fun _ hk => hk))
      have t0 : (0 : Int) ≤ (j : Int) := by omega
      have t1 : (j : Int) < (n : Int) := by omega
      obtain ⟨W1, hW1⟩ : ∃ W1, W1 = wr.alloc (.cells #[.int .i64 x.mn, .int .i64 x.mx] 58) := ⟨_, rfl⟩
      replace hW1 := Lib.hid hW1
      have b1 : Below wr.heap.size wr W1 := by rw [hW1.out]; exact (Below.refl _ _).alloc (Nat.le_refl _) _
      have E1 := Lib.hid (E.t.later b1)
      have d1 := Lib.hid (Wro.ofBelow E.t.lt b1)
      have is1 := Lib.hid (rLim.agree his'.out (below_agree (b1.mono E.t.nn)) (fun _ hk => hk))
      have hx' := Lib.hid hx
      have hp := Lib.hid (hpre.out x (List.mem_of_getElem? hx))
      replace E := Lib.hid E
      clear hx his hcs bel b1
      go_upto_region 4 with fail
      rw [← hW1.out]
      have hsz : W1.heap.size = wr.heap.size + 1 := by rw [hW1.out]; simp
      have yc0 : W1.cell? ⟨wr.heap.size, 0, none⟩ = some (.int .i64 x.mn) := by rw [hW1.out]; simp
      have yc1 : W1.cell? ⟨wr.heap.size, 1, none⟩ = some (.int .i64 x.mx) := by rw [hW1.out]; simp
      go_wp2_with fail
      refine (wok_lim B W1 P _ x [.int .i64 x.mn, .int .i64 x.mx] E1.out is1.out hp.out).mono ?_
      rintro e2 w2 (⟨ho, hf, rfl, t2, b2⟩ | ⟨hno, rfl, b2⟩)
      · have E2 := Lib.hid (E.out.step hjn hx'.out ho t2 (d1.out.trans b2))
        clear b2 t2
        go_wp2_with fail
        exact ⟨⟨j + 1, E2.out⟩, by simp [intOf]; omega⟩
      · have E2 := Lib.hid (E.out.no hx'.out hno (d1.out.trans b2))
        clear b2
        go_wp2_with fail
        go_ret
        exact E2.out
    · obtain rfl : j = n := by omega
      rw [hN.out] at E
      have E2 := Lib.hid E.done
      clear E bel
      go_wp2_with fail
      go_ret
      exact E2.out
set_option maxRecDepth 100000 in
set_option maxHeartbeats 1000000 in
theorem list_w_lim (B : Nat) (w : World) (P : Nat) (out : List Nat) (v : Value) (xs : List _) (h : MTx B w P out) (hl : Lst rLim w (· < B) v xs) (hpre : ∀ x ∈ xs, Pre_lim x) :
    Calls Tryz.prog 147 #[.pointer (some ⟨P, 0, none⟩), v, .func (.func 112) #[] #[]] w (WrPost B P out ((M.vec M.cLim).ok xs) ((M.vec M.cLim).wr xs) w) := by
  rw [vec_ok, vec_wr]
  obtain ⟨A, c, rfl, hn, hc, hm⟩ := hl.form
  unfold maxLen at hm
  have hlB := Lib.hid (fun w' (b : Wro P w w') => hl.agree (below_agree (b.below h)) (fun _ hk => hk))
  have hpre' := Lib.hid hpre
  replace h := Lib.hid h
  clear hl hpre
  obtain ⟨n, hN⟩ : ∃ n, n = xs.length := ⟨_, rfl⟩
  rw [← hN] at hlB hn hc ⊢
  clear hN
  by_cases h128 : n ≤ 128
  · have hR : M.inR (n : Int) := ⟨by omega, by omega⟩
    replace hR := Lib.hid hR
    go_enter Tryz.func147, Tryz.ntmps147
    go_wp2_with fail
    refine (tnumb_any B w P out n h.out (by omega)).mono ?_
    rintro e1 w1 (⟨_, hf, rfl, t1, b1⟩ | ⟨hno, rfl, b1⟩)
    · replace t1 := Lib.hid t1
      have l1 := Lib.hid (hlB.out w1 b1)
      replace b1 := Lib.hid b1
      go_wp2_with fail
      refine (each_lim B w1 P _ _ xs t1.out l1.out hpre'.out).mono ?_
      intro e2 w2 k2
      have this := Lib.hid ((WrPost.then ⟨hR.out, hf⟩ b1.out k2).iff (C := n ≤ 128 ∧ ∀ x ∈ xs, (M.cLim).ok x) ⟨fun hh => ⟨h128, hh.2⟩, fun hh => ⟨hR.out, hh.2⟩⟩)
      rcases k2 with ⟨_, _, rfl, _⟩ | ⟨_, rfl, _⟩
      all_goals
        go_wp2_with fail
        go_ret
        exact this.out
    · have this := Lib.hid ((WrPost.stop (B := B) (C := ∀ x ∈ xs, (M.cLim).ok x) (yb := M.wTimes M.cLim xs) hno b1).iff (C := n ≤ 128 ∧ ∀ x ∈ xs, (M.cLim).ok x) ⟨fun hh => ⟨h128, hh.2⟩, fun hh => ⟨hR.out, hh.2⟩⟩)
      go_wp2_with fail
      go_ret
      exact this.out
  · have hno := Lib.hid (WrPost.no (B := B) (P := P) (out := out) (w := w) (ys := M.U (n : Int) ++ M.wTimes M.cLim xs) (C := n ≤ 128 ∧ ∀ x ∈ xs, (M.cLim).ok x) (fun hh => h128 hh.1))
    have hgt : (128 : Int) < (n : Int) := by omega
    go_enter Tryz.func147, Tryz.ntmps147
    go_wp2_with fail
    go_ret
    exact hno.out
set_option maxRecDepth 100000 in
set_option maxHeartbeats 4000000 in
theorem each_tab (B : Nat) (w : World) (P : Nat) (out : List Nat) (v : Value) (xs : List _) (h : MTx B w P out) (hl : Lst rLim w (· < B) v xs) (hpre : ∀ x ∈ xs, Pre_tab x) :
    Calls Tryz.prog 182 #[.pointer (some ⟨P, 0, none⟩), v, .func (.func 111) #[] #[]] w (WrPost B P out (∀ x ∈ xs, (M.cTab).ok x) (M.wTimes M.cTab xs) w) := by
  obtain ⟨A, c, rfl, hn, hc, hm⟩ := hl.form
  unfold maxLen at hm
  replace hl := Lib.hid hl
  replace hpre := Lib.hid hpre
  have rel0 := Lib.hid (ERel.start (c := M.cTab) (n := xs.length) (xs := xs) h)
  replace h := Lib.hid h
  obtain ⟨n, hN⟩ : ∃ n, n = xs.length := ⟨_, rfl⟩
  rw [← hN] at hl hn hc rel0 ⊢
  replace hN := Lib.hid hN
  go_enter Tryz.func182, Tryz.ntmps182
  go_wp2_with fail
  go_loopw [11] (fun i w' => ∃ k : Nat, ERel M.cTab B P n out xs w i w' k) (fun i _ => n - (intOf i).toNat)
  case atStart => exact ⟨0, rel0.out⟩
  case round =>
    clear rel0
    obtain ⟨j, E⟩ := hrel
    have hi := E.hi
    have hk := E.hk
    subst hi
    have bel := E.b.below h.out
    by_cases hjn : j < n
    · obtain ⟨x, hx⟩ : ∃ x, xs[j]? = some x := ⟨_, List.getElem?_eq_getElem (by rw [← hN.out]; exact hjn)⟩
      obtain ⟨g, o, cs, rfl, hgB, his, hcs⟩ := hl.out.nth hx
      have his0 := Lib.hid his
      obtain ⟨rfl, _⟩ := form_lim his
      replace his := his0.out
      clear his0
      have xc0 : wr.cell? ⟨g, o + j * 2, none⟩ = some (.int .i64 x.mn) := (bel.cell (p := ⟨g, _, none⟩) hgB).trans (hcs 0 _ rfl)
      have xc1 : wr.cell? ⟨g, o + j * 2 + 1, none⟩ = some (.int .i64 x.mx) := (bel.cell (p := ⟨g, _, none⟩) hgB).trans (hcs 1 _ rfl)
      have his' := Lib.hid (rLim.agree his (below_agree bel) (fun _ hk => hk))
      have t0 : (0 : Int) ≤ (j : Int) := by omega
      have t1 : (j : Int) < (n : Int) := by omega
      obtain ⟨W1, hW1⟩ : ∃ W1, W1 = wr.alloc (.cells #[.int .i64 x.mn, .int .i64 x.mx] 58) := ⟨_, rfl⟩
      replace hW1 := Lib.hid hW1
      have b1 : Below wr.heap.size wr W1 := by rw [hW1.out]; exact (Below.refl _ _).alloc (Nat.le_refl _) _
      have E1 := Lib.hid (E.t.later b1)
      have d1 := Lib.hid (Wro.ofBelow E.t.lt b1)
      have is1 := Lib.hid (rLim.agree his'.out (below_agree (b1.mono E.t.nn)) (fun _ hk => hk))
      have hx' := Lib.hid hx
      have hp := Lib.hid (hpre.out x (List.mem_of_getElem? hx))
      replace E := Lib.hid E
      clear hx his hcs bel b1
      go_upto_region 4 with fail
      rw [← hW1.out]
      have hsz : W1.heap.size = wr.heap.size + 1 := by rw [hW1.out]; simp
      have yc0 : W1.cell? ⟨wr.heap.size, 0, none⟩ = some (.int .i64 x.mn) := by rw [hW1.out]; simp
      have yc1 : W1.cell? ⟨wr.heap.size, 1, none⟩ = some (.int .i64 x.mx) := by rw [hW1.out]; simp
      go_wp2_with fail
      refine (wok_tab B W1 P _ x [.int .i64 x.mn, .int .i64 x.mx] E1.out is1.out hp.out).mono ?_
      rintro e2 w2 (⟨ho, hf, rfl, t2, b2⟩ | ⟨hno, rfl, b2⟩)
      · have E2 := Lib.hid (E.out.step hjn hx'.out ho t2 (d1.out.trans b2))
        clear b2 t2
        go_wp2_with fail
        exact ⟨⟨j + 1, E2.out⟩, by simp [intOf]; omega⟩
      · have E2 := Lib.hid (E.out.no hx'.out hno (d1.out.trans b2))
        clear b2
        go_wp2_with fail
        go_ret
        exact E2.out
    · obtain rfl : j = n := by omega
      rw [hN.out] at E
      have E2 := Lib.hid E.done
      clear E bel
      go_wp2_with fail
      go_ret
      exact E2.out
set_option maxRecDepth 100000 in
set_option maxHeartbeats 1000000 in
theorem list_w_tab (B : Nat) (w : World) (P : Nat) (out : List Nat) (v : Value) (xs : List _) (h : MTx B w P out) (hl : Lst rLim w (· < B) v xs) (hpre : ∀ x ∈ xs, Pre_tab x) :
    Calls Tryz.prog 147 #[.pointer (some ⟨P, 0, none⟩), v, .func (.func 111) #[] #[]] w (WrPost B P out ((M.vec M.cTab).ok xs) ((M.vec M.cTab).wr xs) w) := by
  rw [vec_ok, vec_wr]
  obtain ⟨A, c, rfl, hn, hc, hm⟩ := hl.form
  unfold maxLen at hm
  have hlB := Lib.hid (fun w' (b : Wro P w w') => hl.agree (below_agree (b.below h)) (fun _ hk => hk))
  have hpre' := Lib.hid hpre
  replace h := Lib.hid h
  clear hl hpre
  obtain ⟨n, hN⟩ : ∃ n, n = xs.length := ⟨_, rfl⟩
  rw [← hN] at hlB hn hc ⊢
  clear hN
  by_cases h128 : n ≤ 128
  · have hR : M.inR (n : Int) := ⟨by omega, by omega⟩
    replace hR := Lib.hid hR
    go_enter Tryz.func147, Tryz.ntmps147
    go_wp2_with fail
    refine (tnumb_any B w P out n h.out (by omega)).mono ?_
    rintro e1 w1 (⟨_, hf, rfl, t1, b1⟩ | ⟨hno, rfl, b1⟩)
    · replace t1 := Lib.hid t1
      have l1 := Lib.hid (hlB.out w1 b1)
      replace b1 := Lib.hid b1
      go_wp2_with fail
      refine (each_tab B w1 P _ _ xs t1.out l1.out hpre'.out).mono ?_
      intro e2 w2 k2
      have this := Lib.hid ((WrPost.then ⟨hR.out, hf⟩ b1.out k2).iff (C := n ≤ 128 ∧ ∀ x ∈ xs, (M.cTab).ok x) ⟨fun hh => ⟨h128, hh.2⟩, fun hh => ⟨hR.out, hh.2⟩⟩)
      rcases k2 with ⟨_, _, rfl, _⟩ | ⟨_, rfl, _⟩
      all_goals
        go_wp2_with fail
        go_ret
        exact this.out
    · have this := Lib.hid ((WrPost.stop (B := B) (C := ∀ x ∈ xs, (M.cTab).ok x) (yb := M.wTimes M.cTab xs) hno b1).iff (C := n ≤ 128 ∧ ∀ x ∈ xs, (M.cTab).ok x) ⟨fun hh => ⟨h128, hh.2⟩, fun hh => ⟨hR.out, hh.2⟩⟩)
      go_wp2_with fail
      go_ret
      exact this.out
  · have hno := Lib.hid (WrPost.no (B := B) (P := P) (out := out) (w := w) (ys := M.U (n : Int) ++ M.wTimes M.cTab xs) (C := n ≤ 128 ∧ ∀ x ∈ xs, (M.cTab).ok x) (fun hh => h128 hh.1))
    have hgt : (128 : Int) < (n : Int) := by omega
    go_enter Tryz.func147, Tryz.ntmps147
    go_wp2_with fail
    go_ret
    exact hno.out
end Go.Proofs.YtilaheifccjjeaaGreat
namespace Go.Proofs.YtilaheifccjjeaaGreat
open Go.RowKit
/-- A function's type alone, whatever it has beside it. -/
def rHd : Rep Int where
  sz := 3
  is := fun w S ty cs => ∃ x : M.Fn, x.ty = ty ∧ rFn.is w S x cs
  len := fun ⟨x, _, h⟩ => rFn.len h
  one := fun ⟨x, _, h⟩ => rFn.one h
  agree := fun ⟨x, e, h⟩ ha hT => ⟨x, e, rFn.agree h ha hT⟩
theorem row_map {α β : Type} {R : Rep α} {Q : Rep β} {w : World} {S : Nat → Prop} (f : α → β) (hf : ∀ x cs, R.is w S x cs → Q.is w S (f x) cs) : ∀ {xs : List α} {cs : List Value}, RowOf R w S xs cs → RowOf Q w S (xs.map f) cs
  | [], _, h => h
  | x :: t, _, ⟨c, d, e, h1, h2⟩ => ⟨c, d, e, hf x c h1, row_map f hf h2⟩
theorem lst_map {α β : Type} {R : Rep α} {Q : Rep β} {w : World} {S : Nat → Prop} {v : Value} {xs : List α} (f : α → β) (hf : ∀ x cs, R.is w S x cs → Q.is w S (f x) cs) (h : Lst R w S v xs) : Lst Q w S v (xs.map f) := by
  obtain ⟨A, c, e, h1, h2⟩ := h
  refine ⟨A, c, by rw [e, List.length_map], by rw [List.length_map]; exact h1, ?_⟩
  rcases h2 with rfl | ⟨g, o, cs, h3, h4, h5, h6⟩
  · exact .inl rfl
  · exact .inr ⟨g, o, cs, h3, h4, row_map f hf h5, h6⟩
def Pre_head (_ : Int) : Prop := True
def Pre_imp (_ : M.Imp) : Prop := True
theorem wok_head (B : Nat) (w : World) (P : Nat) (out : List Nat) (x : Int) (cs : List Value) (h : MTx B w P out) (his : rHd.is w (· < B) x cs) (hp : Pre_head x) : Calls Tryz.prog 109 #[.pointer (some ⟨P, 0, none⟩), .agg cs.toArray] w (WrPost B P out ((M.cNum).ok x) ((M.cNum).wr x) w) := by
  obtain ⟨y, rfl, his2⟩ := his
  obtain ⟨A1, c1, A2, c2, rfl, h1, _⟩ := form_fn his2
  exact thead_any B w P out y.ty _ _ h h1
theorem wok_imp (B : Nat) (w : World) (P : Nat) (out : List Nat) (x : M.Imp) (cs : List Value) (h : MTx B w P out) (his : rImp.is w (· < B) x cs) (hp : Pre_imp x) : Calls Tryz.prog 107 #[.pointer (some ⟨P, 0, none⟩), .agg cs.toArray] w (WrPost B P out ((M.cImp).ok x) ((M.cImp).wr x) w) := by
  obtain ⟨s, t, rfl, ⟨h1, h2⟩, ⟨h3, h4⟩, h5, h6, h7, h8⟩ := form_imp his
  have := timp_any B w P out s t x.kd x.ty x.lim.mn x.lim.mx x.mu h (by rw [← sby_len, h1]; exact h2) (by rw [← sby_len, h3]; exact h4) h6 h7 h8
  rw [h1, h3] at this
  exact this
set_option maxRecDepth 100000 in
set_option maxHeartbeats 4000000 in
theorem each_head (B : Nat) (w : World) (P : Nat) (out : List Nat) (v : Value) (xs : List _) (h : MTx B w P out) (hl : Lst rHd w (· < B) v xs) (hpre : ∀ x ∈ xs, Pre_head x) :
    Calls Tryz.prog 181 #[.pointer (some ⟨P, 0, none⟩), v, .func (.func 109) #[] #[]] w (WrPost B P out (∀ x ∈ xs, (M.cNum).ok x) (M.wTimes M.cNum xs) w) := by
  obtain ⟨A, c, rfl, hn, hc, hm⟩ := hl.form
  unfold maxLen at hm
  replace hl := Lib.hid hl
  replace hpre := Lib.hid hpre
  have rel0 := Lib.hid (ERel.start (c := M.cNum) (n := xs.length) (xs := xs) h)
  replace h := Lib.hid h
  obtain ⟨n, hN⟩ : ∃ n, n = xs.length := ⟨_, rfl⟩
  rw [← hN] at hl hn hc rel0 ⊢
  replace hN := Lib.hid hN
  go_enter Tryz.func181, Tryz.ntmps181
  go_wp2_with fail
  go_loopw [11] (fun i w' => ∃ k : Nat, ERel M.cNum B P n out xs w i w' k) (fun i _ => n - (intOf i).toNat)
  case atStart => exact ⟨0, rel0.out⟩
  case round =>
    clear rel0
    obtain ⟨j, E⟩ := hrel
    have hi := E.hi
    have hk := E.hk
    subst hi
    have bel := E.b.below h.out
    by_cases hjn : j < n
    · obtain ⟨x, hx⟩ : ∃ x, xs[j]? = some x := ⟨_, List.getElem?_eq_getElem (by rw [← hN.out]; exact hjn)⟩
      obtain ⟨g, o, cs, rfl, hgB, his, hcs⟩ := hl.out.nth hx
      have his0 := Lib.hid his
      obtain ⟨y, hyx, his2⟩ := his
      obtain ⟨A1, c1, A2, c2, rfl, _⟩ := form_fn his2
      replace hyx := Lib.hid hyx
      replace his := his0.out
      clear his0
      have xc0 : wr.cell? ⟨g, o + j * 3, none⟩ = some (.int .i64 y.ty) := (bel.cell (p := ⟨g, _, none⟩) hgB).trans (hcs 0 _ rfl)
      have xc1 : wr.cell? ⟨g, o + j * 3 + 1, none⟩ = some (.slice A1 y.lo.length c1) := (bel.cell (p := ⟨g, _, none⟩) hgB).trans (hcs 1 _ rfl)
      have xc2 : wr.cell? ⟨g, o + j * 3 + 2, none⟩ = some (.slice A2 y.bo.len c2) := (bel.cell (p := ⟨g, _, none⟩) hgB).trans (hcs 2 _ rfl)
      have his' := Lib.hid (rHd.agree his (below_agree bel) (fun _ hk => hk))
      have t0 : (0 : Int) ≤ (j : Int) := by omega
      have t1 : (j : Int) < (n : Int) := by omega
      obtain ⟨W1, hW1⟩ : ∃ W1, W1 = wr.alloc (.cells #[.int .i64 y.ty, .slice A1 y.lo.length c1, .slice A2 y.bo.len c2] 64) := ⟨_, rfl⟩
      replace hW1 := Lib.hid hW1
      have b1 : Below wr.heap.size wr W1 := by rw [hW1.out]; exact (Below.refl _ _).alloc (Nat.le_refl _) _
      have E1 := Lib.hid (E.t.later b1)
      have d1 := Lib.hid (Wro.ofBelow E.t.lt b1)
      have is1 := Lib.hid (rHd.agree his'.out (below_agree (b1.mono E.t.nn)) (fun _ hk => hk))
      have hx' := Lib.hid hx
      have hp := Lib.hid (hpre.out x (List.mem_of_getElem? hx))
      replace E := Lib.hid E
      clear hx his hcs bel b1
      go_upto_region 4 with fail
      rw [← hW1.out]
      have hsz : W1.heap.size = wr.heap.size + 1 := by rw [hW1.out]; simp
      have yc0 : W1.cell? ⟨wr.heap.size, 0, none⟩ = some (.int .i64 y.ty) := by rw [hW1.out]; simp
      have yc1 : W1.cell? ⟨wr.heap.size, 1, none⟩ = some (.slice A1 y.lo.length c1) := by rw [hW1.out]; simp
      have yc2 : W1.cell? ⟨wr.heap.size, 2, none⟩ = some (.slice A2 y.bo.len c2) := by rw [hW1.out]; simp
      go_wp2_with fail
      refine (wok_head B W1 P _ x [.int .i64 y.ty, .slice A1 y.lo.length c1, .slice A2 y.bo.len c2] E1.out is1.out hp.out).mono ?_
      rintro e2 w2 (⟨ho, hf, rfl, t2, b2⟩ | ⟨hno, rfl, b2⟩)
      · have E2 := Lib.hid (E.out.step hjn hx'.out ho t2 (d1.out.trans b2))
        clear b2 t2
        go_wp2_with fail
        exact ⟨⟨j + 1, E2.out⟩, by simp [intOf]; omega⟩
      · have E2 := Lib.hid (E.out.no hx'.out hno (d1.out.trans b2))
        clear b2
        go_wp2_with fail
        go_ret
        exact E2.out
    · obtain rfl : j = n := by omega
      rw [hN.out] at E
      have E2 := Lib.hid E.done
      clear E bel
      go_wp2_with fail
      go_ret
      exact E2.out
set_option maxRecDepth 100000 in
set_option maxHeartbeats 1000000 in
theorem list_w_head (B : Nat) (w : World) (P : Nat) (out : List Nat) (v : Value) (xs : List _) (h : MTx B w P out) (hl : Lst rHd w (· < B) v xs) (hpre : ∀ x ∈ xs, Pre_head x) :
    Calls Tryz.prog 146 #[.pointer (some ⟨P, 0, none⟩), v, .func (.func 109) #[] #[]] w (WrPost B P out ((M.vec M.cNum).ok xs) ((M.vec M.cNum).wr xs) w) := by
  rw [vec_ok, vec_wr]
  obtain ⟨A, c, rfl, hn, hc, hm⟩ := hl.form
  unfold maxLen at hm
  have hlB := Lib.hid (fun w' (b : Wro P w w') => hl.agree (below_agree (b.below h)) (fun _ hk => hk))
  have hpre' := Lib.hid hpre
  replace h := Lib.hid h
  clear hl hpre
  obtain ⟨n, hN⟩ : ∃ n, n = xs.length := ⟨_, rfl⟩
  rw [← hN] at hlB hn hc ⊢
  clear hN
  by_cases h128 : n ≤ 128
  · have hR : M.inR (n : Int) := ⟨by omega, by omega⟩
    replace hR := Lib.hid hR
    go_enter Tryz.func146, Tryz.ntmps146
    go_wp2_with fail
    refine (tnumb_any B w P out n h.out (by omega)).mono ?_
    rintro e1 w1 (⟨_, hf, rfl, t1, b1⟩ | ⟨hno, rfl, b1⟩)
    · replace t1 := Lib.hid t1
      have l1 := Lib.hid (hlB.out w1 b1)
      replace b1 := Lib.hid b1
      go_wp2_with fail
      refine (each_head B w1 P _ _ xs t1.out l1.out hpre'.out).mono ?_
      intro e2 w2 k2
      have this := Lib.hid ((WrPost.then ⟨hR.out, hf⟩ b1.out k2).iff (C := n ≤ 128 ∧ ∀ x ∈ xs, (M.cNum).ok x) ⟨fun hh => ⟨h128, hh.2⟩, fun hh => ⟨hR.out, hh.2⟩⟩)
      rcases k2 with ⟨_, _, rfl, _⟩ | ⟨_, rfl, _⟩
      all_goals
        go_wp2_with fail
        go_ret
        exact this.out
    · have this := Lib.hid ((WrPost.stop (B := B) (C := ∀ x ∈ xs, (M.cNum).ok x) (yb := M.wTimes M.cNum xs) hno b1).iff (C := n ≤ 128 ∧ ∀ x ∈ xs, (M.cNum).ok x) ⟨fun hh => ⟨h128, hh.2⟩, fun hh => ⟨hR.out, hh.2⟩⟩)
      go_wp2_with fail
      go_ret
      exact this.out
  · have hno := Lib.hid (WrPost.no (B := B) (P := P) (out := out) (w := w) (ys := M.U (n : Int) ++ M.wTimes M.cNum xs) (C := n ≤ 128 ∧ ∀ x ∈ xs, (M.cNum).ok x) (fun hh => h128 hh.1))
    have hgt : (128 : Int) < (n : Int) := by omega
    go_enter Tryz.func146, Tryz.ntmps146
    go_wp2_with fail
    go_ret
    exact hno.out
set_option maxRecDepth 100000 in
set_option maxHeartbeats 4000000 in
theorem each_imp (B : Nat) (w : World) (P : Nat) (out : List Nat) (v : Value) (xs : List _) (h : MTx B w P out) (hl : Lst rImp w (· < B) v xs) (hpre : ∀ x ∈ xs, Pre_imp x) :
    Calls Tryz.prog 179 #[.pointer (some ⟨P, 0, none⟩), v, .func (.func 107) #[] #[]] w (WrPost B P out (∀ x ∈ xs, (M.cImp).ok x) (M.wTimes M.cImp xs) w) := by
  obtain ⟨A, c, rfl, hn, hc, hm⟩ := hl.form
  unfold maxLen at hm
  replace hl := Lib.hid hl
  replace hpre := Lib.hid hpre
  have rel0 := Lib.hid (ERel.start (c := M.cImp) (n := xs.length) (xs := xs) h)
  replace h := Lib.hid h
  obtain ⟨n, hN⟩ : ∃ n, n = xs.length := ⟨_, rfl⟩
  rw [← hN] at hl hn hc rel0 ⊢
  replace hN := Lib.hid hN
  go_enter Tryz.func179, Tryz.ntmps179
  go_wp2_with fail
  go_loopw [11] (fun i w' => ∃ k : Nat, ERel M.cImp B P n out xs w i w' k) (fun i _ => n - (intOf i).toNat)
  case atStart => exact ⟨0, rel0.out⟩
  case round =>
    clear rel0
    obtain ⟨j, E⟩ := hrel
    have hi := E.hi
    have hk := E.hk
    subst hi
    have bel := E.b.below h.out
    by_cases hjn : j < n
    · obtain ⟨x, hx⟩ : ∃ x, xs[j]? = some x := ⟨_, List.getElem?_eq_getElem (by rw [← hN.out]; exact hjn)⟩
      obtain ⟨g, o, cs, rfl, hgB, his, hcs⟩ := hl.out.nth hx
      have his0 := Lib.hid his
      obtain ⟨s, t, rfl, _⟩ := form_imp his
      replace his := his0.out
      clear his0
      have xc0 : wr.cell? ⟨g, o + j * 7, none⟩ = some (.string s) := (bel.cell (p := ⟨g, _, none⟩) hgB).trans (hcs 0 _ rfl)
      have xc1 : wr.cell? ⟨g, o + j * 7 + 1, none⟩ = some (.string t) := (bel.cell (p := ⟨g, _, none⟩) hgB).trans (hcs 1 _ rfl)
      have xc2 : wr.cell? ⟨g, o + j * 7 + 2, none⟩ = some (.int .i64 x.kd) := (bel.cell (p := ⟨g, _, none⟩) hgB).trans (hcs 2 _ rfl)
      have xc3 : wr.cell? ⟨g, o + j * 7 + 3, none⟩ = some (.int .i64 x.ty) := (bel.cell (p := ⟨g, _, none⟩) hgB).trans (hcs 3 _ rfl)
      have xc4 : wr.cell? ⟨g, o + j * 7 + 4, none⟩ = some (.bool x.mu) := (bel.cell (p := ⟨g, _, none⟩) hgB).trans (hcs 4 _ rfl)
      have xc5 : wr.cell? ⟨g, o + j * 7 + 5, none⟩ = some (.int .i64 x.lim.mn) := (bel.cell (p := ⟨g, _, none⟩) hgB).trans (hcs 5 _ rfl)
      have xc6 : wr.cell? ⟨g, o + j * 7 + 6, none⟩ = some (.int .i64 x.lim.mx) := (bel.cell (p := ⟨g, _, none⟩) hgB).trans (hcs 6 _ rfl)
      have his' := Lib.hid (rImp.agree his (below_agree bel) (fun _ hk => hk))
      have t0 : (0 : Int) ≤ (j : Int) := by omega
      have t1 : (j : Int) < (n : Int) := by omega
      obtain ⟨W1, hW1⟩ : ∃ W1, W1 = wr.alloc (.cells #[.string s, .string t, .int .i64 x.kd, .int .i64 x.ty, .bool x.mu, .int .i64 x.lim.mn, .int .i64 x.lim.mx] 60) := ⟨_, rfl⟩
      replace hW1 := Lib.hid hW1
      have b1 : Below wr.heap.size wr W1 := by rw [hW1.out]; exact (Below.refl _ _).alloc (Nat.le_refl _) _
      have E1 := Lib.hid (E.t.later b1)
      have d1 := Lib.hid (Wro.ofBelow E.t.lt b1)
      have is1 := Lib.hid (rImp.agree his'.out (below_agree (b1.mono E.t.nn)) (fun _ hk => hk))
      have hx' := Lib.hid hx
      have hp := Lib.hid (hpre.out x (List.mem_of_getElem? hx))
      replace E := Lib.hid E
      clear hx his hcs bel b1
      go_upto_region 4 with fail
      rw [← hW1.out]
      have hsz : W1.heap.size = wr.heap.size + 1 := by rw [hW1.out]; simp
      have yc0 : W1.cell? ⟨wr.heap.size, 0, none⟩ = some (.string s) := by rw [hW1.out]; simp
      have yc1 : W1.cell? ⟨wr.heap.size, 1, none⟩ = some (.string t) := by rw [hW1.out]; simp
      have yc2 : W1.cell? ⟨wr.heap.size, 2, none⟩ = some (.int .i64 x.kd) := by rw [hW1.out]; simp
      have yc3 : W1.cell? ⟨wr.heap.size, 3, none⟩ = some (.int .i64 x.ty) := by rw [hW1.out]; simp
      have yc4 : W1.cell? ⟨wr.heap.size, 4, none⟩ = some (.bool x.mu) := by rw [hW1.out]; simp
      have yc5 : W1.cell? ⟨wr.heap.size, 5, none⟩ = some (.int .i64 x.lim.mn) := by rw [hW1.out]; simp
      have yc6 : W1.cell? ⟨wr.heap.size, 6, none⟩ = some (.int .i64 x.lim.mx) := by rw [hW1.out]; simp
      go_wp2_with fail
      refine (wok_imp B W1 P _ x [.string s, .string t, .int .i64 x.kd, .int .i64 x.ty, .bool x.mu, .int .i64 x.lim.mn, .int .i64 x.lim.mx] E1.out is1.out hp.out).mono ?_
      rintro e2 w2 (⟨ho, hf, rfl, t2, b2⟩ | ⟨hno, rfl, b2⟩)
      · have E2 := Lib.hid (E.out.step hjn hx'.out ho t2 (d1.out.trans b2))
        clear b2 t2
        go_wp2_with fail
        exact ⟨⟨j + 1, E2.out⟩, by simp [intOf]; omega⟩
      · have E2 := Lib.hid (E.out.no hx'.out hno (d1.out.trans b2))
        clear b2
        go_wp2_with fail
        go_ret
        exact E2.out
    · obtain rfl : j = n := by omega
      rw [hN.out] at E
      have E2 := Lib.hid E.done
      clear E bel
      go_wp2_with fail
      go_ret
      exact E2.out
set_option maxRecDepth 100000 in
set_option maxHeartbeats 1000000 in
theorem list_w_imp (B : Nat) (w : World) (P : Nat) (out : List Nat) (v : Value) (xs : List _) (h : MTx B w P out) (hl : Lst rImp w (· < B) v xs) (hpre : ∀ x ∈ xs, Pre_imp x) :
    Calls Tryz.prog 141 #[.pointer (some ⟨P, 0, none⟩), v, .func (.func 107) #[] #[]] w (WrPost B P out ((M.vec M.cImp).ok xs) ((M.vec M.cImp).wr xs) w) := by
  rw [vec_ok, vec_wr]
  obtain ⟨A, c, rfl, hn, hc, hm⟩ := hl.form
  unfold maxLen at hm
  have hlB := Lib.hid (fun w' (b : Wro P w w') => hl.agree (below_agree (b.below h)) (fun _ hk => hk))
  have hpre' := Lib.hid hpre
  replace h := Lib.hid h
  clear hl hpre
  obtain ⟨n, hN⟩ : ∃ n, n = xs.length := ⟨_, rfl⟩
  rw [← hN] at hlB hn hc ⊢
  clear hN
  by_cases h128 : n ≤ 128
  · have hR : M.inR (n : Int) := ⟨by omega, by omega⟩
    replace hR := Lib.hid hR
    go_enter Tryz.func141, Tryz.ntmps141
    go_wp2_with fail
    refine (tnumb_any B w P out n h.out (by omega)).mono ?_
    rintro e1 w1 (⟨_, hf, rfl, t1, b1⟩ | ⟨hno, rfl, b1⟩)
    · replace t1 := Lib.hid t1
      have l1 := Lib.hid (hlB.out w1 b1)
      replace b1 := Lib.hid b1
      go_wp2_with fail
      refine (each_imp B w1 P _ _ xs t1.out l1.out hpre'.out).mono ?_
      intro e2 w2 k2
      have this := Lib.hid ((WrPost.then ⟨hR.out, hf⟩ b1.out k2).iff (C := n ≤ 128 ∧ ∀ x ∈ xs, (M.cImp).ok x) ⟨fun hh => ⟨h128, hh.2⟩, fun hh => ⟨hR.out, hh.2⟩⟩)
      rcases k2 with ⟨_, _, rfl, _⟩ | ⟨_, rfl, _⟩
      all_goals
        go_wp2_with fail
        go_ret
        exact this.out
    · have this := Lib.hid ((WrPost.stop (B := B) (C := ∀ x ∈ xs, (M.cImp).ok x) (yb := M.wTimes M.cImp xs) hno b1).iff (C := n ≤ 128 ∧ ∀ x ∈ xs, (M.cImp).ok x) ⟨fun hh => ⟨h128, hh.2⟩, fun hh => ⟨hR.out, hh.2⟩⟩)
      go_wp2_with fail
      go_ret
      exact this.out
  · have hno := Lib.hid (WrPost.no (B := B) (P := P) (out := out) (w := w) (ys := M.U (n : Int) ++ M.wTimes M.cImp xs) (C := n ≤ 128 ∧ ∀ x ∈ xs, (M.cImp).ok x) (fun hh => h128 hh.1))
    have hgt : (128 : Int) < (n : Int) := by omega
    go_enter Tryz.func141, Tryz.ntmps141
    go_wp2_with fail
    go_ret
    exact hno.out
end Go.Proofs.YtilaheifccjjeaaGreat
namespace Go.Proofs.YtilaheifccjjeaaGreat
open Go.RowKit
theorem info_group : (Tryz.prog.info? 225).map (fun i => (i.zero, i.size, i.bytes)) = some (some (.agg #[.int .i64 0, .int .i64 0]), 2, 16) := by kernel_rfl
def gvals : List (Nat × Int) → List Value
  | [] => []
  | (c, y) :: r => .int .i64 (c : Int) :: .int .i64 y :: gvals r
theorem gvals_len (gs : List (Nat × Int)) : (gvals gs).length = gs.length * 2 := by
  induction gs with
  | nil => rfl
  | cons g r ih => obtain ⟨c, y⟩ := g; simp only [gvals, List.length_cons, ih]; omega
theorem gvals_app (a b : List (Nat × Int)) : gvals (a ++ b) = gvals a ++ gvals b := by
  induction a with
  | nil => rfl
  | cons g r ih => obtain ⟨c, y⟩ := g; simp only [List.cons_append, gvals, ih]
theorem gvals_set (gs : List (Nat × Int)) (c d : Nat) (y : Int) : (gvals (gs ++ [(c, y)])).set (gs.length * 2) (.int .i64 (d : Int)) = gvals (gs ++ [(d, y)]) := by
  rw [gvals_app, gvals_app, List.set_append_right _ _ (by rw [gvals_len]; exact Nat.le_refl _), gvals_len, Nat.sub_self]
  rfl
/-- A cell of a row of one's own is written. -/
theorem own_set {w : World} {b t s n c r : Nat} {xs : List Value} (h : w.ownsRow b t s (.slice (some ⟨r, 0, none⟩) n c) n xs) (i : Nat) (u : Value) (hi : i < n * s) : (w.setCell ⟨r, i, none⟩ u).ownsRow b t s (.slice (some ⟨r, 0, none⟩) n c) n (xs.set i u) := by
  rcases h.2 with ⟨e, h0⟩ | ⟨g, cap, cur, e, h1, h2, h3, h4, h5, h6⟩
  · cases e
  · cases e
    refine ⟨by rw [List.length_set]; exact h.1, .inr ⟨r, c, cur.setIfInBounds i u, rfl, h1, heap_setCell_same w r i cur _ _ h2, h3, h4, by simpa using h5, ?_⟩⟩
    rw [Array.toList_setIfInBounds, List.take_set, ← h6]
theorem grown_last {w : World} {b M : Nat} {v : Value} {gs : List (Nat × Int)} {x : Int} (h : w.ownsRow b 225 2 v (M + 1) (gvals gs ++ [.int .i64 0, .int .i64 x])) (hm : M = gs.length) :
    ∃ r cap, v = .slice (some ⟨r, 0, none⟩) (M + 1) cap ∧ w.cell? ⟨r, M * 2, none⟩ = some (.int .i64 0) ∧ w.frozen? ⟨r, M * 2, none⟩ = false ∧ b ≤ r ∧ M + 1 ≤ cap ∧ cap ≤ 9223372036854775807 := by
  rcases h.2 with ⟨e, h0⟩ | ⟨g, cap, cur, e, h1, h2, h3, h4, _, _⟩
  · omega
  · subst e
    have := h.cells (g := g) rfl (M * 2) (.int .i64 0) (by rw [List.getElem?_append_right (by rw [gvals_len, hm]; exact Nat.le_refl _), gvals_len, hm, Nat.sub_self]; rfl)
    rw [add_none, Nat.zero_add] at this
    exact ⟨g, cap, rfl, this, frozen_of_row w g _ cur _ h2, h1, h3, by unfold maxLen at h4; omega⟩
theorem gvals_one (gs : List (Nat × Int)) (x : Int) : (gvals gs ++ ([.int .i64 0, .int .i64 x] : List Value)).set (gs.length * 2) (.int .i64 1) = gvals (gs ++ [(1, x)]) := by
  rw [gvals_app, List.set_append_right _ _ (by rw [gvals_len]; exact Nat.le_refl _), gvals_len, Nat.sub_self]
  rfl
def GrPost (l : List Int) (w : World) (e : Ending) (w' : World) : Prop := ∃ v, e = .returned v ∧ w'.ownsRow w.heap.size 225 2 v (M.runs l).length (gvals (M.runs l)) ∧ Below w.heap.size w w'
set_option maxRecDepth 100000 in
set_option maxHeartbeats 4000000 in
theorem groups_any (l : List Int) (v : Value) (w : World) (hl : NS w (· < w.heap.size) v l) (h64 : l.length ≤ 64) :
    Calls Tryz.prog 187 #[v] w (GrPost l w) := by
  obtain ⟨i0, hi0, hz0, hz1, hz2⟩ := info_parts info_group
  obtain ⟨A, c, rfl, f1, f2, f3⟩ := hl.form
  unfold maxLen at f3
  have hcnt : ∀ k, k ≤ l.length → ∀ g ∈ M.runs (l.take k), g.1 ≤ 64 := fun k hk g hg => by
    have := (M.runs_len _ g hg).2.1
    rw [List.length_take] at this
    omega
  replace hl := Lib.hid hl
  obtain ⟨n, hN⟩ : ∃ n, n = l.length := ⟨_, rfl⟩
  rw [← hN] at hl f1 f2 h64 hcnt ⊢
  replace hN := Lib.hid hN
  replace hcnt := Lib.hid hcnt
  go_enter Tryz.func187, Tryz.ntmps187
  go_wp2_with fail
  go_loopw [3, 8] (fun u i w' => ∃ k : Nat, k ≤ n ∧ i = .int .i64 k ∧ w'.ownsRow w.heap.size 225 2 u (M.runs (l.take k)).length (gvals (M.runs (l.take k))) ∧ (M.runs (l.take k)).length ≤ k ∧ Below w.heap.size w w') (fun _ i _ => n - (intOf i).toNat)
  case atStart => exact ⟨0, by omega, rfl, by rw [List.take_zero]; exact World.ownsRow_nil _ _ _ _, by rw [List.take_zero]; exact Nat.le_refl _, Below.refl _ _⟩
  case round =>
    obtain ⟨k, hk, rfl, own, hgl, bel⟩ := hrel
    by_cases hkn : k < n
    · obtain ⟨A', c', e0, _, hcell⟩ := hl.out
      injection e0 with e1 e2 e3
      subst e1
      clear e2 e3
      obtain ⟨ad, rfl, hadl, hx1, hcx⟩ := hcell k (by rw [← hN.out]; exact hkn)
      have dx := (bel.cell (p := ad.add k) (by rw [addr_block]; exact hadl)).trans hcx
      obtain ⟨x, hx⟩ : ∃ x, x = l.getD k 0 := ⟨_, rfl⟩
      have htk : l.take (k + 1) = l.take k ++ [x] := by
        rw [List.take_add_one, List.getElem?_eq_getElem (by rw [← hN.out]; exact hkn), hx, List.getD_eq_getElem?_getD, List.getElem?_eq_getElem (by rw [← hN.out]; exact hkn)]
        rfl
      have hrg : M.runs (l.take (k + 1)) = M.grow (M.runs (l.take k)) x := by rw [htk, M.runs_snoc]
      rw [← hx] at dx
      have t0 : (0 : Int) ≤ (k : Int) := by omega
      have t1 : (k : Int) < (n : Int) := by omega
      have ow := Lib.hid own
      obtain ⟨U, uc, rfl, u1, u2⟩ := x_form own
      unfold maxLen at u2
      have hbs := bel.size
      replace hrg := Lib.hid hrg
      replace bel := Lib.hid bel
      clear htk hx1 hcx own hx
      cases k with
      | zero =>
        have hg0 : M.runs (l.take 0) = [] := by rw [List.take_zero]; rfl
        rw [hg0] at ow u1 hgl hrg
        rw [hg0]
        obtain ⟨gs, hgs⟩ : ∃ gs : List (Nat × Int), gs = [] := ⟨_, rfl⟩
        rw [← hgs] at ow u1 hgl hrg ⊢
        have hgrow : M.runs (l.take (0 + 1)) = gs ++ [(1, x)] := by rw [hrg.out, hgs]; rfl
        replace hgrow := Lib.hid hgrow
        obtain ⟨m, hm⟩ : ∃ m, m = gs.length := ⟨_, rfl⟩
        rw [← hm] at ow u1 hgl ⊢
        replace hm := Lib.hid hm
        replace dx : wr.cell? ad = some (.int .i64 x) := by simpa [Addr.add] using dx
        clear hgs hg0 hrg hcell
        go_wp2_with (at_builtin; refine wpList_append_own _ rfl _ _ 221 rfl w.heap.size 225 i0 (.agg #[.int .i64 0, .int .i64 0]) 2 16 Tryz.underlying221 hi0 hz0 hz1 hz2 rfl (by decide) _ m (gvals gs) rfl (ow.out.alloc _) ⟨_, 0, none⟩ 1 1 [.int .i64 0, .int .i64 x] rfl rfl (World.news_of_block (cs := #[.int .i64 0, .int .i64 x]) (t := 225) (fr := (0, 0)) (heap_alloc_new wr _)) (fun u hu => by simp at hu; rcases hu with rfl | rfl <;> rfl) (by unfold maxLen; omega) (by omega) (Nat.le_trans hbs (by show _ ≤ (wr.heap.push _).size; rw [Array.size_push]; omega)) ?_; intro v' w5 own5 gr5 hnil5; obtain ⟨r, cap, rfl, cl, fz, hrb, cp1, cp2⟩ := grown_last own5 hm.out; replace own5 := Lib.hid own5; replace gr5 := Lib.hid gr5; clear hnil5)
        have hset := Lib.hid (own_set own5.out (m * 2) (.int .i64 1) (by omega))
        have b5 : Below w.heap.size w w5 := (bel.out.trans ((Below.refl w.heap.size wr).alloc bel.out.size _)).trans ((Below.refl _ _).grown gr5.out (by have := bel.out.size; simp; omega) (fun g hg => (ow.out.lt g hg).1))
        refine ⟨⟨0 + 1, by omega, by go_num, ?_, ?_, ?_⟩, by simp [intOf]; omega⟩
        · have h9 := hset.out
          rw [show m * 2 = gs.length * 2 from by rw [hm.out], gvals_one, ← hm.out] at h9
          have hlen : (gs ++ [((1 : Nat), x)]).length = m + 1 := by rw [hm.out, List.length_append]; rfl
          rw [hgrow.out, hlen]
          exact h9
        · rw [hgrow.out, List.length_append, ← hm.out]
          show m + 1 ≤ _
          omega
        · exact b5.setCell (p := ⟨r, _, none⟩) hrb _
      | succ j =>
        replace dx : wr.cell? ⟨ad.block, ad.off + (j + 1), none⟩ = some (.int .i64 x) := by simpa [Addr.add] using dx
        obtain ⟨_, e9, _, _, hcp⟩ := hcell j (by rw [← hN.out]; omega)
        cases e9
        have dp := (bel.out.cell (p := ad.add j) (by rw [addr_block]; exact hadl)).trans hcp
        obtain ⟨y, hy⟩ : ∃ y, y = l.getD j 0 := ⟨_, rfl⟩
        have htj : l.take (j + 1) = l.take j ++ [y] := by
          rw [List.take_add_one, List.getElem?_eq_getElem (by rw [← hN.out]; omega), hy, List.getD_eq_getElem?_getD, List.getElem?_eq_getElem (by rw [← hN.out]; omega)]
          rfl
        obtain ⟨gs0, cc, hgs⟩ := M.runs_last (l.take j) y
        rw [← htj] at hgs
        rw [← hy] at dp
        clear hcell hcp hy htj
        by_cases hxy : y = x
        · subst hxy
          rw [hgs] at ow u1 hgl hrg
          rw [M.grow_same] at hrg
          rw [hgs]
          have hL : (gs0 ++ [(cc, y)]).length = gs0.length + 1 := by simp
          rw [hL] at ow u1 hgl ⊢
          obtain ⟨r, cur, rfl, hrow⟩ : ∃ r cur, U = some ⟨r, 0, none⟩ ∧ wr.heap[r]? = some (.cells cur 225 (0, 0)) := by
            rcases ow.out.2 with ⟨e, h0⟩ | ⟨g, cap, cur, e, _, h2, _⟩
            · omega
            · cases e; exact ⟨g, cur, rfl, h2⟩
          have cl := ow.out.cells (g := r) rfl (gs0.length * 2) (.int .i64 (cc : Int)) (by rw [gvals_app, List.getElem?_append_right (by rw [gvals_len]; exact Nat.le_refl _), gvals_len, Nat.sub_self]; rfl)
          rw [add_none, Nat.zero_add] at cl
          have fz : wr.frozen? ⟨r, gs0.length * 2, none⟩ = false := frozen_of_row wr r _ cur _ hrow
          obtain ⟨m, hm⟩ : ∃ m, m = gs0.length := ⟨_, rfl⟩
          rw [← hm] at cl fz u1 hgl ow ⊢
          have hcc : (cc : Int) ≤ 64 := by
            have := hcnt.out (j + 1) (by omega) (cc, y) (by rw [hgs]; simp)
            omega
          have hset := Lib.hid (own_set ow.out (m * 2) (.int .i64 (((cc + 1 : Nat) : Nat) : Int)) (by omega))
          have hrb := (ow.out.lt r rfl).1
          replace hm := Lib.hid hm
          clear hgs hL hrow
          go_wp2_with fail
          refine ⟨⟨j + 1 + 1, by omega, by go_num, ?_, ?_, ?_⟩, by simp [intOf]; omega⟩
          · have h9 := hset.out
            rw [hm.out, gvals_set] at h9
            rw [hrg.out, show (gs0 ++ [(cc + 1, y)]).length = gs0.length + 1 by simp, ← hm.out]
            rw [← hm.out] at h9
            simpa using h9
          · rw [hrg.out, List.length_append, ← hm.out]
            show m + 1 ≤ _
            omega
          · exact bel.out.setCell (p := ⟨r, _, none⟩) hrb _
        · have hxyb : (x == y) = false := by rw [beq_eq_false_iff_ne]; exact fun e => hxy e.symm
          have hxyn : (x != y) = true := by simp [bne, hxyb]
          have hgrow : M.runs (l.take (j + 1 + 1)) = M.runs (l.take (j + 1)) ++ [(1, x)] := by rw [hrg.out, hgs, M.grow_other gs0 cc y x hxy]
          obtain ⟨gs, hgs2⟩ : ∃ gs, gs = M.runs (l.take (j + 1)) := ⟨_, rfl⟩
          rw [← hgs2] at ow u1 hgl hgrow ⊢
          replace hgrow := Lib.hid hgrow
          obtain ⟨m, hm⟩ : ∃ m, m = gs.length := ⟨_, rfl⟩
          rw [← hm] at ow u1 hgl ⊢
          replace hm := Lib.hid hm
          clear hgs hgs2 hrg hxy
          go_wp2_with (at_builtin; refine wpList_append_own _ rfl _ _ 221 rfl w.heap.size 225 i0 (.agg #[.int .i64 0, .int .i64 0]) 2 16 Tryz.underlying221 hi0 hz0 hz1 hz2 rfl (by decide) _ m (gvals gs) rfl (ow.out.alloc _) ⟨_, 0, none⟩ 1 1 [.int .i64 0, .int .i64 x] rfl rfl (World.news_of_block (cs := #[.int .i64 0, .int .i64 x]) (t := 225) (fr := (0, 0)) (heap_alloc_new wr _)) (fun u hu => by simp at hu; rcases hu with rfl | rfl <;> rfl) (by unfold maxLen; omega) (by omega) (Nat.le_trans hbs (by show _ ≤ (wr.heap.push _).size; rw [Array.size_push]; omega)) ?_; intro v' w5 own5 gr5 hnil5; obtain ⟨r, cap, rfl, cl, fz, hrb, cp1, cp2⟩ := grown_last own5 hm.out; replace own5 := Lib.hid own5; replace gr5 := Lib.hid gr5; clear hnil5)
          have hset := Lib.hid (own_set own5.out (m * 2) (.int .i64 1) (by omega))
          have b5 : Below w.heap.size w w5 := (bel.out.trans ((Below.refl w.heap.size wr).alloc bel.out.size _)).trans ((Below.refl _ _).grown gr5.out (by have := bel.out.size; simp; omega) (fun g hg => (ow.out.lt g hg).1))
          refine ⟨⟨j + 1 + 1, by omega, by go_num, ?_, ?_, ?_⟩, by simp [intOf]; omega⟩
          · have h9 := hset.out
            rw [show m * 2 = gs.length * 2 from by rw [hm.out], gvals_one, ← hm.out] at h9
            have hlen : (gs ++ [((1 : Nat), x)]).length = m + 1 := by rw [hm.out, List.length_append]; rfl
            rw [hgrow.out, hlen]
            exact h9
          · rw [hgrow.out, List.length_append, ← hm.out]
            show m + 1 ≤ _
            omega
          · exact b5.setCell (p := ⟨r, _, none⟩) hrb _
    · obtain rfl : k = n := by omega
      have ht : l.take k = l := List.take_of_length_le (by rw [← hN.out]; exact Nat.le_refl _)
      rw [ht] at own
      have own' := Lib.hid own
      obtain ⟨U, uc, rfl, _⟩ := x_form own
      replace bel := Lib.hid bel
      clear own hgl ht
      go_wp2_with fail
      go_ret
      exact ⟨_, rfl, own'.out, bel.out⟩
end Go.Proofs.YtilaheifccjjeaaGreat
namespace Go.Proofs.YtilaheifccjjeaaGreat
open Go.RowKit
set_option maxRecDepth 100000 in
set_option maxHeartbeats 4000000 in
theorem tgroup_any (B : Nat) (w : World) (P : Nat) (out : List Nat) (gc gy : Int) (h : MTx B w P out) (h1 : -9223372036854775808 ≤ gc ∧ gc ≤ 9223372036854775807) :
    Calls Tryz.prog 189 #[.pointer (some ⟨P, 0, none⟩), .agg #[.int .i64 gc, .int .i64 gy]] w (WrPost B P out (M.inR gc ∧ M.cVal.ok gy) (M.U gc ++ M.cVal.wr gy) w) := by
  obtain ⟨W0, hW0⟩ : ∃ W0, W0 = w.alloc (.cells #[.int .i64 gc, .int .i64 gy] 225) := ⟨_, rfl⟩
  have b0 : Below w.heap.size w W0 := by rw [hW0]; exact (Below.refl _ _).alloc (Nat.le_refl _) _
  have q0 : W0.cell? ⟨w.heap.size, 0, none⟩ = some (.int .i64 gc) := by rw [hW0]; simp
  have q1 : W0.cell? ⟨w.heap.size, 1, none⟩ = some (.int .i64 gy) := by rw [hW0]; simp
  have hz : w.heap.size < W0.heap.size := by rw [hW0]; simp
  have lat : ∀ w', Wro P W0 w' → Below B w w' := fun w' b => (b0.mono h.nn).trans (b.below (h.later b0))

  have ht := Lib.hid (h.later b0)
  have hP := h.lt
  have d0 := Lib.hid (Wro.ofBelow h.lt b0)
  have keep := box_keep h b0 (Nat.le_refl _) hz
  replace keep := Lib.hid keep
  replace hW0 := Lib.hid hW0
  clear b0 h lat
  go_enter Tryz.func189, Tryz.ntmps189
  go_upto_region 1 with fail
  rw [← hW0.out]
  go_wp2_with fail
  refine (tnumb_any B W0 P _ gc ht.out h1).mono ?_
  rintro e1 w1 (⟨ho1, hf1, rfl, t1, b1⟩ | ⟨hn1, rfl, b1⟩)
  · have c1_1 := (keep.out w1 b1 1).trans q1
    replace t1 := Lib.hid t1
    replace b1 := Lib.hid b1
    go_wp2_with fail
    refine (tval2_any B w1 P _ gy t1.out).mono ?_
    intro e2 w2 k2
    have this := Lib.hid ((WrPost.then ⟨ho1, hf1⟩ b1.out k2).pre d0.out)
    rcases k2 with ⟨_, _, rfl, _⟩ | ⟨_, rfl, _⟩
    all_goals
      go_wp2_with fail
      go_ret
      exact this.out
  · have this := Lib.hid ((WrPost.stop (B := B) (C := M.cVal.ok gy) (yb := M.cVal.wr gy) hn1 b1).pre d0.out)
    go_wp2_with fail
    go_ret
    exact this.out

def cGrp : M.Codec (Int × Int) := M.cSeq M.cNum fun _ => M.cVal
def gpairs (gs : List (Nat × Int)) : List (Int × Int) := gs.map fun g => ((g.1 : Int), g.2)
theorem gpairs_wr : ∀ gs : List (Nat × Int), M.wTimes cGrp (gpairs gs) = M.wGroups gs
  | [] => rfl
  | (c, y) :: r => by
    have := gpairs_wr r
    show (M.U (c : Int) ++ M.cVal.wr y) ++ M.wTimes cGrp (gpairs r) = M.U (c : Int) ++ [y.toNat] ++ M.wGroups r
    rw [this]
    rfl
/-- Where the groups' cells lie, whatever is written to the text. -/
def GAt (P : Nat) (w : World) (A : Option Addr) (gs : List (Nat × Int)) : Prop :=
  ∀ k g, gs[k]? = some g → ∃ r, A = some ⟨r, 0, none⟩ ∧ ∀ w', Wro P w w' → w'.cell? ⟨r, k * 2, none⟩ = some (.int .i64 (g.1 : Int)) ∧ w'.cell? ⟨r, k * 2 + 1, none⟩ = some (.int .i64 g.2)
set_option maxRecDepth 100000 in
set_option maxHeartbeats 4000000 in
theorem each_group (B : Nat) (w : World) (P : Nat) (out : List Nat) (A : Option Addr) (c : Nat) (gs : List (Nat × Int)) (h : MTx B w P out) (hl : GAt P w A gs) (hn : gs.length ≤ 64) (hc : gs.length ≤ c) (hm : c ≤ 9223372036854775807) (hpre : ∀ g ∈ gs, g.1 ≤ 64) :
    Calls Tryz.prog 188 #[.pointer (some ⟨P, 0, none⟩), .slice A gs.length c, .func (.func 189) #[] #[]] w (WrPost B P out (∀ x ∈ gpairs gs, cGrp.ok x) (M.wTimes cGrp (gpairs gs)) w) := by
  have hgl : (gpairs gs).length = gs.length := by unfold gpairs; simp
  have rel0 := Lib.hid (ERel.start (c := cGrp) (n := gs.length) (xs := gpairs gs) h)
  have hget : ∀ k, k < gs.length → ∃ g, gs[k]? = some g ∧ (gpairs gs)[k]? = some ((g.1 : Int), g.2) := fun k hk => ⟨gs[k], List.getElem?_eq_getElem hk, by unfold gpairs; rw [List.getElem?_map, List.getElem?_eq_getElem hk]; rfl⟩
  obtain ⟨xs, hxs⟩ : ∃ xs, xs = gpairs gs := ⟨_, rfl⟩
  rw [← hxs] at hgl rel0 hget ⊢
  replace hxs := Lib.hid hxs
  replace hget := Lib.hid hget
  replace hl := Lib.hid hl
  replace hpre := Lib.hid hpre
  replace h := Lib.hid h
  obtain ⟨n, hN⟩ : ∃ n, n = gs.length := ⟨_, rfl⟩
  rw [← hN] at hgl hn hc rel0 hget ⊢
  replace hN := Lib.hid hN
  replace hgl := Lib.hid hgl
  go_enter Tryz.func188, Tryz.ntmps188
  go_wp2_with fail
  go_loopw [11] (fun i w' => ∃ k : Nat, ERel cGrp B P n out xs w i w' k) (fun i _ => n - (intOf i).toNat)
  case atStart => exact ⟨0, rel0.out⟩
  case round =>
    clear rel0
    obtain ⟨j, E⟩ := hrel
    have hi := E.hi
    have hk := E.hk
    subst hi
    have bel := E.b
    by_cases hjn : j < n
    · obtain ⟨gx, hgx, hx⟩ := hget.out j hjn
      obtain ⟨r, rfl, hcs⟩ := hl.out j gx hgx
      obtain ⟨xc0, xc1⟩ := hcs wr bel
      have hg64 := hpre.out gx (List.mem_of_getElem? hgx)
      obtain ⟨gc, gy⟩ := gx
      have xc0 : wr.cell? ⟨r, 0 + j * 2, none⟩ = some (.int .i64 (gc : Int)) := by rw [Nat.zero_add]; exact xc0
      have xc1 : wr.cell? ⟨r, 0 + j * 2 + 1, none⟩ = some (.int .i64 gy) := by rw [Nat.zero_add]; exact xc1
      have t0 : (0 : Int) ≤ (j : Int) := by omega
      have t1 : (j : Int) < (n : Int) := by omega
      have hg64 : gc ≤ 64 := hg64
      obtain ⟨W1, hW1⟩ : ∃ W1, W1 = wr.alloc (.cells #[.int .i64 (gc : Int), .int .i64 gy] 225) := ⟨_, rfl⟩
      replace hW1 := Lib.hid hW1
      have b1 : Below wr.heap.size wr W1 := by rw [hW1.out]; exact (Below.refl _ _).alloc (Nat.le_refl _) _
      have E1 := Lib.hid (E.t.later b1)
      have d1 := Lib.hid (Wro.ofBelow E.t.lt b1)
      have hx' := Lib.hid hx
      replace E := Lib.hid E
      clear hx hcs bel b1 hgx
      go_upto_region 4 with fail
      rw [← hW1.out]
      have hsz : W1.heap.size = wr.heap.size + 1 := by rw [hW1.out]; simp
      have yc0 : W1.cell? ⟨wr.heap.size, 0, none⟩ = some (.int .i64 (gc : Int)) := by rw [hW1.out]; simp
      have yc1 : W1.cell? ⟨wr.heap.size, 1, none⟩ = some (.int .i64 gy) := by rw [hW1.out]; simp
      go_wp2_with fail
      refine (tgroup_any B W1 P _ (gc : Int) gy E1.out (by omega)).mono ?_
      rintro e2 w2 (⟨ho, hf, rfl, t2, b2⟩ | ⟨hno, rfl, b2⟩)
      · have E2 := Lib.hid (E.out.step hjn hx'.out ho t2 (d1.out.trans b2))
        clear b2 t2
        go_wp2_with fail
        exact ⟨⟨j + 1, E2.out⟩, by simp [intOf]; omega⟩
      · have E2 := Lib.hid (E.out.no hx'.out hno (d1.out.trans b2))
        clear b2
        go_wp2_with fail
        go_ret
        exact E2.out
    · obtain rfl : j = n := by omega
      rw [← hgl.out] at E
      have E2 := Lib.hid E.done
      clear E bel
      go_wp2_with fail
      go_ret
      exact E2.out
end Go.Proofs.YtilaheifccjjeaaGreat
