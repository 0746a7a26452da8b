/-
  What the page answers of two modules that are the same: true; condition: both lie in memory, their parts within the lists' own bounds.
-/
import Derived.Test.YtilaheifccjjeaaGreatXGL
import Derived.Test.YtilaheifccjjeaaGreatXGP
import Derived.Test.YtilaheifccjjeaaGreatXGA
import Derived.Test.YtilaheifccjjeaaGreatXGB
import Derived.Test.YtilaheifccjjeaaGreatXGC
import Derived.Test.YtilaheifccjjeaaGreatXGD
import Derived.Test.YtilaheifccjjeaaGreatXGE
import Derived.Test.YtilaheifccjjeaaGreatXGF
import Derived.Test.YtilaheifccjjeaaGreatXGG
import Derived.Test.YtilaheifccjjeaaGreatXGH
import Derived.Test.YtilaheifccjjeaaGreatXGI
import Derived.Test.YtilaheifccjjeaaGreatXGJ
import Derived.Test.YtilaheifccjjeaaGreatXGK
import Derived.Test.YtilaheifccjjeaaGreatXGM
import Derived.Test.YtilaheifccjjeaaGreatXGN
import Derived.Test.YtilaheifccjjeaaGreatXGO
namespace Go.Proofs.YtilaheifccjjeaaGreat
open Go.RowKit
def sOf (bs : List Nat) : ByteArray := bs.foldl (fun r n => r.push (UInt8.ofNat n)) ByteArray.empty
theorem form_imp2 {w : World} {S : Nat → Prop} {cs : List Value} {x : M.Imp} (h : rImp.is w S x cs) : cs = [.string (sOf x.mo), .string (sOf x.na), .int .i64 x.kd, .int .i64 x.ty, .bool x.mu, .int .i64 x.lim.mn, .int .i64 x.lim.mx] := by
  obtain ⟨c, d, rfl, ⟨c, _, rfl, ⟨c, _, rfl, ⟨c, _, rfl, ⟨c, _, rfl, ⟨rfl, h1, h2⟩, rfl, h3, h4⟩, rfl, _⟩, rfl, _⟩, e1⟩, ⟨_, _, rfl, ⟨rfl, _⟩, rfl, _⟩⟩ := h
  cases e1
  rfl
theorem form_exp2 {w : World} {S : Nat → Prop} {cs : List Value} {x : M.Exp} (h : rExp.is w S x cs) : cs = [.string (sOf x.na), .int .i64 x.kd, .int .i64 x.ix] := by
  obtain ⟨c, d, rfl, ⟨c, _, rfl, ⟨rfl, h1, h2⟩, rfl, _⟩, rfl, _⟩ := h
  rfl
theorem up_lt {w w' : World} (h : Below w.heap.size w w') : ∀ k, k < w.heap.size → k < w'.heap.size := fun _ hk => Nat.lt_of_lt_of_le hk h.size
theorem EqInstr_same (x : M.L) (hd1 hd2 : M.Hd) (v1 v2 v3 u1 u2 u3 : Value) (w : World) (h1 : rIns.is w (· < w.heap.size) x (item9 hd1 v1 v2 v3)) (h2 : rIns.is w (· < w.heap.size) x (item9 hd2 u1 u2 u3)) :
    Calls Tryz.prog 96 #[.agg (item9 hd1 v1 v2 v3).toArray, .agg (item9 hd2 u1 u2 u3).toArray] w fun e w' => e = .returned (.bool true) ∧ Below w.heap.size w w' := by
  obtain ⟨h, b, e, vL, vB, vE, rfl, q1, _, hL, hB, hE⟩ := h1
  obtain ⟨h', b', e', uL, uB, uE, q2, q3, _, kL, kB, kE⟩ := h2
  cases q2
  rw [q1, q3]
  exact EqInstr_of (max b.sz e.sz + 1) (EqInstrs_of (max b.sz e.sz + 1)) h b e vL vB vE uL uB uE w (by omega) (by omega) hL hB hE kL kB kE
set_option maxRecDepth 100000 in
theorem EqFuncType_same (x : M.FT) (c1 c2 : List Value) (w : World) (h1 : rFT.is w (· < w.heap.size) x c1) (h2 : rFT.is w (· < w.heap.size) x c2) :
    Calls Tryz.prog 66 #[.agg c1.toArray, .agg c2.toArray] w fun e w' => e = .returned (.bool true) ∧ Below w.heap.size w w' := by
  obtain ⟨A1, Ac1, A2, Ac2, rfl, AN1, AN2⟩ := form_ft h1
  obtain ⟨B1, Bc1, B2, Bc2, rfl, BN1, BN2⟩ := form_ft h2
  replace AN1 := Lib.hid AN1
  replace BN1 := Lib.hid BN1
  replace AN2 := Lib.hid AN2
  replace BN2 := Lib.hid BN2
  clear h1 h2
  go_enter Tryz.func66, Tryz.ntmps66
  go_wp2_with fail
  refine (EqNumbers_same _ _ x.ps _ (AN1.out.later (two_below _ _ _ _)) (BN1.out.later (two_below _ _ _ _))).mono ?_
  rintro e0 w1 ⟨rfl, b1⟩
  obtain ⟨d1, f1, g1⟩ := two_new b1
  have p1 : w1.cell? ⟨w.heap.size, 1, none⟩ = some (.slice A2 x.rs.length Ac2) := f1 1
  have q1 : w1.cell? ⟨w.heap.size + 1, 1, none⟩ = some (.slice B2 x.rs.length Bc2) := g1 1
  clear f1 g1
  clear b1
  replace d1 := Lib.hid d1
  go_wp2_with fail
  refine (EqNumbers_same _ _ x.rs _ (AN2.out.later d1.out) (BN2.out.later d1.out)).mono ?_
  rintro e1 w2 ⟨rfl, b2⟩
  have d2 := d1.out.trans (b2.mono d1.out.size)
  clear b2
  replace d2 := Lib.hid d2
  go_wp2_with fail
  go_ret
  exact ⟨rfl, d2.out⟩
set_option maxRecDepth 100000 in
theorem EqFunc_same (x : M.Fn) (c1 c2 : List Value) (w : World) (h1 : rFn.is w (· < w.heap.size) x c1) (h2 : rFn.is w (· < w.heap.size) x c2) :
    Calls Tryz.prog 67 #[.agg c1.toArray, .agg c2.toArray] w fun e w' => e = .returned (.bool true) ∧ Below w.heap.size w w' := by
  obtain ⟨A1, Ac1, A2, Ac2, rfl, _, AN1, AN2⟩ := form_fn h1
  obtain ⟨B1, Bc1, B2, Bc2, rfl, _, BN1, BN2⟩ := form_fn h2
  have t0 : (x.ty == x.ty) = true := by simp
  replace AN1 := Lib.hid AN1
  replace BN1 := Lib.hid BN1
  replace AN2 := Lib.hid AN2
  replace BN2 := Lib.hid BN2
  clear h1 h2
  go_enter Tryz.func67, Tryz.ntmps67
  go_wp2_with fail
  refine (EqNumbers_same _ _ x.lo _ (AN1.out.later (two_below _ _ _ _)) (BN1.out.later (two_below _ _ _ _))).mono ?_
  rintro e0 w1 ⟨rfl, b1⟩
  obtain ⟨d1, f1, g1⟩ := two_new b1
  have p2 : w1.cell? ⟨w.heap.size, 2, none⟩ = some (.slice A2 x.bo.len Ac2) := f1 2
  have q2 : w1.cell? ⟨w.heap.size + 1, 2, none⟩ = some (.slice B2 x.bo.len Bc2) := g1 2
  clear f1 g1
  clear b1
  replace d1 := Lib.hid d1
  go_wp2_with fail
  refine (EqInstrs_same x.bo _ _ _ (AN2.out.later d1.out) (BN2.out.later d1.out)).mono ?_
  rintro e1 w2 ⟨rfl, b2⟩
  have d2 := d1.out.trans (b2.mono d1.out.size)
  clear b2
  replace d2 := Lib.hid d2
  go_wp2_with fail
  go_ret
  exact ⟨rfl, d2.out⟩
set_option maxRecDepth 100000 in
theorem EqGlobal_same (x : M.Glo) (c1 c2 : List Value) (w : World) (h1 : rGlo.is w (· < w.heap.size) x c1) (h2 : rGlo.is w (· < w.heap.size) x c2) :
    Calls Tryz.prog 68 #[.agg c1.toArray, .agg c2.toArray] w fun e w' => e = .returned (.bool true) ∧ Below w.heap.size w w' := by
  obtain ⟨Ah, A1, Am1, Ac1, A2, Am2, Ac2, A3, Am3, Ac3, rfl, AN1⟩ := form_glo h1
  obtain ⟨Bh, B1, Bm1, Bc1, B2, Bm2, Bc2, B3, Bm3, Bc3, rfl, BN1⟩ := form_glo h2
  have t0 : (x.ty == x.ty) = true := by simp
  have t1 : (x.mu == x.mu) = true := by simp
  replace AN1 := Lib.hid AN1
  replace BN1 := Lib.hid BN1
  clear h1 h2
  go_enter Tryz.func68, Tryz.ntmps68
  go_wp2_with fail
  refine (EqInstr_same x.ini Ah Bh _ _ _ _ _ _ _ (rIns.agree AN1.out (below_agree (two_below _ _ _ _)) (up_lt (two_below _ _ _ _))) (rIns.agree BN1.out (below_agree (two_below _ _ _ _)) (up_lt (two_below _ _ _ _)))).mono ?_
  rintro e0 w1 ⟨rfl, b1⟩
  obtain ⟨d1, f1, g1⟩ := two_new b1
  clear f1 g1
  clear b1
  replace d1 := Lib.hid d1
  go_wp2_with fail
  go_ret
  exact ⟨rfl, d1.out⟩
set_option maxRecDepth 100000 in
theorem EqElem_same (x : M.Elm) (c1 c2 : List Value) (w : World) (h1 : rElm.is w (· < w.heap.size) x c1) (h2 : rElm.is w (· < w.heap.size) x c2) :
    Calls Tryz.prog 69 #[.agg c1.toArray, .agg c2.toArray] w fun e w' => e = .returned (.bool true) ∧ Below w.heap.size w w' := by
  obtain ⟨Ah, A1, Am1, Ac1, A2, Am2, Ac2, A3, Am3, Ac3, A4, Ac4, rfl, _, AN1, AN2⟩ := form_elm h1
  obtain ⟨Bh, B1, Bm1, Bc1, B2, Bm2, Bc2, B3, Bm3, Bc3, B4, Bc4, rfl, _, BN1, BN2⟩ := form_elm h2
  have t0 : (x.ta == x.ta) = true := by simp
  replace AN1 := Lib.hid AN1
  replace BN1 := Lib.hid BN1
  replace AN2 := Lib.hid AN2
  replace BN2 := Lib.hid BN2
  clear h1 h2
  go_enter Tryz.func69, Tryz.ntmps69
  go_wp2_with fail
  refine (EqInstr_same x.off Ah Bh _ _ _ _ _ _ _ (rIns.agree AN1.out (below_agree (two_below _ _ _ _)) (up_lt (two_below _ _ _ _))) (rIns.agree BN1.out (below_agree (two_below _ _ _ _)) (up_lt (two_below _ _ _ _)))).mono ?_
  rintro e0 w1 ⟨rfl, b1⟩
  obtain ⟨d1, f1, g1⟩ := two_new b1
  have p10 : w1.cell? ⟨w.heap.size, 10, none⟩ = some (.slice A4 x.fs.length Ac4) := f1 10
  have q10 : w1.cell? ⟨w.heap.size + 1, 10, none⟩ = some (.slice B4 x.fs.length Bc4) := g1 10
  clear f1 g1
  clear b1
  replace d1 := Lib.hid d1
  go_wp2_with fail
  refine (EqNumbers_same _ _ x.fs _ (AN2.out.later d1.out) (BN2.out.later d1.out)).mono ?_
  rintro e1 w2 ⟨rfl, b2⟩
  have d2 := d1.out.trans (b2.mono d1.out.size)
  clear b2
  replace d2 := Lib.hid d2
  go_wp2_with fail
  go_ret
  exact ⟨rfl, d2.out⟩
set_option maxRecDepth 100000 in
theorem EqData_same (x : M.Dat) (c1 c2 : List Value) (w : World) (h1 : rDat.is w (· < w.heap.size) x c1) (h2 : rDat.is w (· < w.heap.size) x c2) :
    Calls Tryz.prog 70 #[.agg c1.toArray, .agg c2.toArray] w fun e w' => e = .returned (.bool true) ∧ Below w.heap.size w w' := by
  obtain ⟨Ah, A1, Am1, Ac1, A2, Am2, Ac2, A3, Am3, Ac3, A4, Ac4, rfl, _, AN1, AN2⟩ := form_dat h1
  obtain ⟨Bh, B1, Bm1, Bc1, B2, Bm2, Bc2, B3, Bm3, Bc3, B4, Bc4, rfl, _, BN1, BN2⟩ := form_dat h2
  have t0 : (x.me == x.me) = true := by simp
  replace AN1 := Lib.hid AN1
  replace BN1 := Lib.hid BN1
  replace AN2 := Lib.hid AN2
  replace BN2 := Lib.hid BN2
  clear h1 h2
  go_enter Tryz.func70, Tryz.ntmps70
  go_wp2_with fail
  refine (EqInstr_same x.off Ah Bh _ _ _ _ _ _ _ (rIns.agree AN1.out (below_agree (two_below _ _ _ _)) (up_lt (two_below _ _ _ _))) (rIns.agree BN1.out (below_agree (two_below _ _ _ _)) (up_lt (two_below _ _ _ _)))).mono ?_
  rintro e0 w1 ⟨rfl, b1⟩
  obtain ⟨d1, f1, g1⟩ := two_new b1
  have p10 : w1.cell? ⟨w.heap.size, 10, none⟩ = some (.slice A4 x.bs.length Ac4) := f1 10
  have q10 : w1.cell? ⟨w.heap.size + 1, 10, none⟩ = some (.slice B4 x.bs.length Bc4) := g1 10
  clear f1 g1
  clear b1
  replace d1 := Lib.hid d1
  go_wp2_with fail
  refine (EqBytes_same _ _ x.bs _ ((bss_BS AN2.out).1.later d1.out) ((bss_BS BN2.out).1.later d1.out)).mono ?_
  rintro e1 w2 ⟨rfl, b2⟩
  have d2 := d1.out.trans (b2.mono d1.out.size)
  clear b2
  replace d2 := Lib.hid d2
  go_wp2_with fail
  go_ret
  exact ⟨rfl, d2.out⟩
set_option maxRecDepth 100000 in
theorem EqFuncTypes_same (xs : List M.FT) (v1 v2 : Value) (w : World) (h1 : Lst rFT w (· < w.heap.size) v1 xs) (h2 : Lst rFT w (· < w.heap.size) v2 xs) :
    Calls Tryz.prog 38 #[v1, v2] w fun e w' => e = .returned (.bool true) ∧ Below w.heap.size w w' := by
  obtain ⟨A, c, rfl, hc1, hc2, hc3⟩ := h1.form
  obtain ⟨B, d, rfl, hd1, hd2, hd3⟩ := h2.form
  unfold maxLen at hc3 hd3
  replace h1 := Lib.hid h1
  replace h2 := Lib.hid h2
  obtain ⟨n, hn⟩ : ∃ n, n = xs.length := ⟨_, rfl⟩
  rw [← hn] at hc1 hc2 hd2 h1 h2 ⊢
  have hne : ((n : Int) != (n : Int)) = false := by simp
  replace hn := Lib.hid hn
  go_enter Tryz.func38, Tryz.ntmps38
  go_wp2_with fail
  go_loopw [5] (fun i w' => ∃ k : Nat, k ≤ n ∧ i = .int .i64 k ∧ Below w.heap.size w w') (fun i _ => n - (intOf i).toNat)
  case atStart => exact ⟨0, by omega, rfl, Below.refl _ _⟩
  case round =>
    obtain ⟨k, hk, rfl, hbw⟩ := hrel
    by_cases hlt : k < n
    · have hx := List.getElem?_eq_getElem (show k < xs.length by rw [← hn.out]; exact hlt)
      obtain ⟨x, hxx⟩ : ∃ x, x = xs[k] := ⟨_, rfl⟩
      rw [← hxx] at hx
      clear hxx
      obtain ⟨g, o, cs, rfl, hg, his, hc⟩ := h1.out.nth hx
      obtain ⟨g', o', cs', rfl, hg', his', hc'⟩ := h2.out.nth hx
      have ag := below_agree hbw
      have hA := rFT.agree his ag (up_lt hbw)
      have hB := rFT.agree his' ag (up_lt hbw)
      obtain ⟨A1, Ac1, A2, Ac2, rfl, AN1, AN2⟩ := form_ft his
      obtain ⟨B1, Bc1, B2, Bc2, rfl, BN1, BN2⟩ := form_ft his'
      have f0 : wr.cell? ⟨g, o + k * 2, none⟩ = some (.slice A1 x.ps.length Ac1) := (hbw.cell (p := ⟨g, o + k * 2, none⟩) hg).trans (hc 0 _ rfl)
      have f1 : wr.cell? ⟨g, o + k * 2 + 1, none⟩ = some (.slice A2 x.rs.length Ac2) := (hbw.cell (p := ⟨g, o + k * 2 + 1, none⟩) hg).trans (hc 1 _ rfl)
      have g0 : wr.cell? ⟨g', o' + k * 2, none⟩ = some (.slice B1 x.ps.length Bc1) := (hbw.cell (p := ⟨g', o' + k * 2, none⟩) hg').trans (hc' 0 _ rfl)
      have g1 : wr.cell? ⟨g', o' + k * 2 + 1, none⟩ = some (.slice B2 x.rs.length Bc2) := (hbw.cell (p := ⟨g', o' + k * 2 + 1, none⟩) hg').trans (hc' 1 _ rfl)
      have t0 : (0 : Int) ≤ (k : Int) := by omega
      have t1 : (k : Int) < (n : Int) := by omega
      replace hA := Lib.hid hA
      replace hB := Lib.hid hB
      clear hc hc' his his' ag hx
      go_wp2_with fail
      go_still_tail 8, (by kernel_rfl)
      change wpList _ _ _ _ _ wr.drew
      go_wp2_with fail
      refine (EqFuncType_same x _ _ _ (rFT.agree hA.out (below_agree (Below.refl _ _).drew) (up_lt (Below.refl _ _).drew)) (rFT.agree hB.out (below_agree (Below.refl _ _).drew) (up_lt (Below.refl _ _).drew))).mono ?_
      rintro e1 w1 ⟨rfl, b1⟩
      have d1 := Lib.hid (hbw.drew.trans (b1.mono hbw.drew.size))
      clear b1
      go_wp2_with fail
      exact ⟨⟨k + 1, by omega, by go_num, d1.out⟩, by simp [intOf]; omega⟩
    · obtain rfl : k = n := by omega
      go_wp2_with fail
      go_ret
      exact ⟨rfl, hbw⟩
set_option maxRecDepth 100000 in
theorem EqFuncs_same (xs : List M.Fn) (v1 v2 : Value) (w : World) (h1 : Lst rFn w (· < w.heap.size) v1 xs) (h2 : Lst rFn w (· < w.heap.size) v2 xs) :
    Calls Tryz.prog 40 #[v1, v2] w fun e w' => e = .returned (.bool true) ∧ Below w.heap.size w w' := by
  obtain ⟨A, c, rfl, hc1, hc2, hc3⟩ := h1.form
  obtain ⟨B, d, rfl, hd1, hd2, hd3⟩ := h2.form
  unfold maxLen at hc3 hd3
  replace h1 := Lib.hid h1
  replace h2 := Lib.hid h2
  obtain ⟨n, hn⟩ : ∃ n, n = xs.length := ⟨_, rfl⟩
  rw [← hn] at hc1 hc2 hd2 h1 h2 ⊢
  have hne : ((n : Int) != (n : Int)) = false := by simp
  replace hn := Lib.hid hn
  go_enter Tryz.func40, Tryz.ntmps40
  go_wp2_with fail
  go_loopw [5] (fun i w' => ∃ k : Nat, k ≤ n ∧ i = .int .i64 k ∧ Below w.heap.size w w') (fun i _ => n - (intOf i).toNat)
  case atStart => exact ⟨0, by omega, rfl, Below.refl _ _⟩
  case round =>
    obtain ⟨k, hk, rfl, hbw⟩ := hrel
    by_cases hlt : k < n
    · have hx := List.getElem?_eq_getElem (show k < xs.length by rw [← hn.out]; exact hlt)
      obtain ⟨x, hxx⟩ : ∃ x, x = xs[k] := ⟨_, rfl⟩
      rw [← hxx] at hx
      clear hxx
      obtain ⟨g, o, cs, rfl, hg, his, hc⟩ := h1.out.nth hx
      obtain ⟨g', o', cs', rfl, hg', his', hc'⟩ := h2.out.nth hx
      have ag := below_agree hbw
      have hA := rFn.agree his ag (up_lt hbw)
      have hB := rFn.agree his' ag (up_lt hbw)
      obtain ⟨A1, Ac1, A2, Ac2, rfl, _, AN1, AN2⟩ := form_fn his
      obtain ⟨B1, Bc1, B2, Bc2, rfl, _, BN1, BN2⟩ := form_fn his'
      have f0 : wr.cell? ⟨g, o + k * 3, none⟩ = some (.int .i64 x.ty) := (hbw.cell (p := ⟨g, o + k * 3, none⟩) hg).trans (hc 0 _ rfl)
      have f1 : wr.cell? ⟨g, o + k * 3 + 1, none⟩ = some (.slice A1 x.lo.length Ac1) := (hbw.cell (p := ⟨g, o + k * 3 + 1, none⟩) hg).trans (hc 1 _ rfl)
      have f2 : wr.cell? ⟨g, o + k * 3 + 2, none⟩ = some (.slice A2 x.bo.len Ac2) := (hbw.cell (p := ⟨g, o + k * 3 + 2, none⟩) hg).trans (hc 2 _ rfl)
      have g0 : wr.cell? ⟨g', o' + k * 3, none⟩ = some (.int .i64 x.ty) := (hbw.cell (p := ⟨g', o' + k * 3, none⟩) hg').trans (hc' 0 _ rfl)
      have g1 : wr.cell? ⟨g', o' + k * 3 + 1, none⟩ = some (.slice B1 x.lo.length Bc1) := (hbw.cell (p := ⟨g', o' + k * 3 + 1, none⟩) hg').trans (hc' 1 _ rfl)
      have g2 : wr.cell? ⟨g', o' + k * 3 + 2, none⟩ = some (.slice B2 x.bo.len Bc2) := (hbw.cell (p := ⟨g', o' + k * 3 + 2, none⟩) hg').trans (hc' 2 _ rfl)
      have t0 : (0 : Int) ≤ (k : Int) := by omega
      have t1 : (k : Int) < (n : Int) := by omega
      replace hA := Lib.hid hA
      replace hB := Lib.hid hB
      clear hc hc' his his' ag hx
      go_wp2_with fail
      go_still_tail 8, (by kernel_rfl)
      change wpList _ _ _ _ _ wr.drew
      go_wp2_with fail
      refine (EqFunc_same x _ _ _ (rFn.agree hA.out (below_agree (Below.refl _ _).drew) (up_lt (Below.refl _ _).drew)) (rFn.agree hB.out (below_agree (Below.refl _ _).drew) (up_lt (Below.refl _ _).drew))).mono ?_
      rintro e1 w1 ⟨rfl, b1⟩
      have d1 := Lib.hid (hbw.drew.trans (b1.mono hbw.drew.size))
      clear b1
      go_wp2_with fail
      exact ⟨⟨k + 1, by omega, by go_num, d1.out⟩, by simp [intOf]; omega⟩
    · obtain rfl : k = n := by omega
      go_wp2_with fail
      go_ret
      exact ⟨rfl, hbw⟩
set_option maxRecDepth 100000 in
theorem EqGlobals_same (xs : List M.Glo) (v1 v2 : Value) (w : World) (h1 : Lst rGlo w (· < w.heap.size) v1 xs) (h2 : Lst rGlo w (· < w.heap.size) v2 xs) :
    Calls Tryz.prog 42 #[v1, v2] w fun e w' => e = .returned (.bool true) ∧ Below w.heap.size w w' := by
  obtain ⟨A, c, rfl, hc1, hc2, hc3⟩ := h1.form
  obtain ⟨B, d, rfl, hd1, hd2, hd3⟩ := h2.form
  unfold maxLen at hc3 hd3
  replace h1 := Lib.hid h1
  replace h2 := Lib.hid h2
  obtain ⟨n, hn⟩ : ∃ n, n = xs.length := ⟨_, rfl⟩
  rw [← hn] at hc1 hc2 hd2 h1 h2 ⊢
  have hne : ((n : Int) != (n : Int)) = false := by simp
  replace hn := Lib.hid hn
  go_enter Tryz.func42, Tryz.ntmps42
  go_wp2_with fail
  go_loopw [5] (fun i w' => ∃ k : Nat, k ≤ n ∧ i = .int .i64 k ∧ Below w.heap.size w w') (fun i _ => n - (intOf i).toNat)
  case atStart => exact ⟨0, by omega, rfl, Below.refl _ _⟩
  case round =>
    obtain ⟨k, hk, rfl, hbw⟩ := hrel
    by_cases hlt : k < n
    · have hx := List.getElem?_eq_getElem (show k < xs.length by rw [← hn.out]; exact hlt)
      obtain ⟨x, hxx⟩ : ∃ x, x = xs[k] := ⟨_, rfl⟩
      rw [← hxx] at hx
      clear hxx
      obtain ⟨g, o, cs, rfl, hg, his, hc⟩ := h1.out.nth hx
      obtain ⟨g', o', cs', rfl, hg', his', hc'⟩ := h2.out.nth hx
      have ag := below_agree hbw
      have hA := rGlo.agree his ag (up_lt hbw)
      have hB := rGlo.agree his' ag (up_lt hbw)
      obtain ⟨Ah, A1, Am1, Ac1, A2, Am2, Ac2, A3, Am3, Ac3, rfl, AN1⟩ := form_glo his
      obtain ⟨Bh, B1, Bm1, Bc1, B2, Bm2, Bc2, B3, Bm3, Bc3, rfl, BN1⟩ := form_glo his'
      have f0 : wr.cell? ⟨g, o + k * 11, none⟩ = some (.int .i64 x.ty) := (hbw.cell (p := ⟨g, o + k * 11, none⟩) hg).trans (hc 0 _ rfl)
      have f1 : wr.cell? ⟨g, o + k * 11 + 1, none⟩ = some (.bool x.mu) := (hbw.cell (p := ⟨g, o + k * 11 + 1, none⟩) hg).trans (hc 1 _ rfl)
      have f2 : wr.cell? ⟨g, o + k * 11 + 2, none⟩ = some (.int .i64 Ah.op) := (hbw.cell (p := ⟨g, o + k * 11 + 2, none⟩) hg).trans (hc 2 _ rfl)
      have f3 : wr.cell? ⟨g, o + k * 11 + 3, none⟩ = some (.int .i64 Ah.ty) := (hbw.cell (p := ⟨g, o + k * 11 + 3, none⟩) hg).trans (hc 3 _ rfl)
      have f4 : wr.cell? ⟨g, o + k * 11 + 4, none⟩ = some (.int .i64 Ah.ix) := (hbw.cell (p := ⟨g, o + k * 11 + 4, none⟩) hg).trans (hc 4 _ rfl)
      have f5 : wr.cell? ⟨g, o + k * 11 + 5, none⟩ = some (.int .i64 Ah.al) := (hbw.cell (p := ⟨g, o + k * 11 + 5, none⟩) hg).trans (hc 5 _ rfl)
      have f6 : wr.cell? ⟨g, o + k * 11 + 6, none⟩ = some (.int .i64 Ah.ofs) := (hbw.cell (p := ⟨g, o + k * 11 + 6, none⟩) hg).trans (hc 6 _ rfl)
      have f7 : wr.cell? ⟨g, o + k * 11 + 7, none⟩ = some (.int .i64 Ah.val) := (hbw.cell (p := ⟨g, o + k * 11 + 7, none⟩) hg).trans (hc 7 _ rfl)
      have f8 : wr.cell? ⟨g, o + k * 11 + 8, none⟩ = some (.slice A1 Am1 Ac1) := (hbw.cell (p := ⟨g, o + k * 11 + 8, none⟩) hg).trans (hc 8 _ rfl)
      have f9 : wr.cell? ⟨g, o + k * 11 + 9, none⟩ = some (.slice A2 Am2 Ac2) := (hbw.cell (p := ⟨g, o + k * 11 + 9, none⟩) hg).trans (hc 9 _ rfl)
      have f10 : wr.cell? ⟨g, o + k * 11 + 10, none⟩ = some (.slice A3 Am3 Ac3) := (hbw.cell (p := ⟨g, o + k * 11 + 10, none⟩) hg).trans (hc 10 _ rfl)
      have g0 : wr.cell? ⟨g', o' + k * 11, none⟩ = some (.int .i64 x.ty) := (hbw.cell (p := ⟨g', o' + k * 11, none⟩) hg').trans (hc' 0 _ rfl)
      have g1 : wr.cell? ⟨g', o' + k * 11 + 1, none⟩ = some (.bool x.mu) := (hbw.cell (p := ⟨g', o' + k * 11 + 1, none⟩) hg').trans (hc' 1 _ rfl)
      have g2 : wr.cell? ⟨g', o' + k * 11 + 2, none⟩ = some (.int .i64 Bh.op) := (hbw.cell (p := ⟨g', o' + k * 11 + 2, none⟩) hg').trans (hc' 2 _ rfl)
      have g3 : wr.cell? ⟨g', o' + k * 11 + 3, none⟩ = some (.int .i64 Bh.ty) := (hbw.cell (p := ⟨g', o' + k * 11 + 3, none⟩) hg').trans (hc' 3 _ rfl)
      have g4 : wr.cell? ⟨g', o' + k * 11 + 4, none⟩ = some (.int .i64 Bh.ix) := (hbw.cell (p := ⟨g', o' + k * 11 + 4, none⟩) hg').trans (hc' 4 _ rfl)
      have g5 : wr.cell? ⟨g', o' + k * 11 + 5, none⟩ = some (.int .i64 Bh.al) := (hbw.cell (p := ⟨g', o' + k * 11 + 5, none⟩) hg').trans (hc' 5 _ rfl)
      have g6 : wr.cell? ⟨g', o' + k * 11 + 6, none⟩ = some (.int .i64 Bh.ofs) := (hbw.cell (p := ⟨g', o' + k * 11 + 6, none⟩) hg').trans (hc' 6 _ rfl)
      have g7 : wr.cell? ⟨g', o' + k * 11 + 7, none⟩ = some (.int .i64 Bh.val) := (hbw.cell (p := ⟨g', o' + k * 11 + 7, none⟩) hg').trans (hc' 7 _ rfl)
      have g8 : wr.cell? ⟨g', o' + k * 11 + 8, none⟩ = some (.slice B1 Bm1 Bc1) := (hbw.cell (p := ⟨g', o' + k * 11 + 8, none⟩) hg').trans (hc' 8 _ rfl)
      have g9 : wr.cell? ⟨g', o' + k * 11 + 9, none⟩ = some (.slice B2 Bm2 Bc2) := (hbw.cell (p := ⟨g', o' + k * 11 + 9, none⟩) hg').trans (hc' 9 _ rfl)
      have g10 : wr.cell? ⟨g', o' + k * 11 + 10, none⟩ = some (.slice B3 Bm3 Bc3) := (hbw.cell (p := ⟨g', o' + k * 11 + 10, none⟩) hg').trans (hc' 10 _ rfl)
      have t0 : (0 : Int) ≤ (k : Int) := by omega
      have t1 : (k : Int) < (n : Int) := by omega
      replace hA := Lib.hid hA
      replace hB := Lib.hid hB
      clear hc hc' his his' ag hx
      go_wp2_with fail
      go_still_tail 8, (by kernel_rfl)
      change wpList _ _ _ _ _ wr.drew
      go_wp2_with fail
      refine (EqGlobal_same x _ _ _ (rGlo.agree hA.out (below_agree (Below.refl _ _).drew) (up_lt (Below.refl _ _).drew)) (rGlo.agree hB.out (below_agree (Below.refl _ _).drew) (up_lt (Below.refl _ _).drew))).mono ?_
      rintro e1 w1 ⟨rfl, b1⟩
      have d1 := Lib.hid (hbw.drew.trans (b1.mono hbw.drew.size))
      clear b1
      go_wp2_with fail
      exact ⟨⟨k + 1, by omega, by go_num, d1.out⟩, by simp [intOf]; omega⟩
    · obtain rfl : k = n := by omega
      go_wp2_with fail
      go_ret
      exact ⟨rfl, hbw⟩
set_option maxRecDepth 100000 in
theorem EqElems_same (xs : List M.Elm) (v1 v2 : Value) (w : World) (h1 : Lst rElm w (· < w.heap.size) v1 xs) (h2 : Lst rElm w (· < w.heap.size) v2 xs) :
    Calls Tryz.prog 44 #[v1, v2] w fun e w' => e = .returned (.bool true) ∧ Below w.heap.size w w' := by
  obtain ⟨A, c, rfl, hc1, hc2, hc3⟩ := h1.form
  obtain ⟨B, d, rfl, hd1, hd2, hd3⟩ := h2.form
  unfold maxLen at hc3 hd3
  replace h1 := Lib.hid h1
  replace h2 := Lib.hid h2
  obtain ⟨n, hn⟩ : ∃ n, n = xs.length := ⟨_, rfl⟩
  rw [← hn] at hc1 hc2 hd2 h1 h2 ⊢
  have hne : ((n : Int) != (n : Int)) = false := by simp
  replace hn := Lib.hid hn
  go_enter Tryz.func44, Tryz.ntmps44
  go_wp2_with fail
  go_loopw [5] (fun i w' => ∃ k : Nat, k ≤ n ∧ i = .int .i64 k ∧ Below w.heap.size w w') (fun i _ => n - (intOf i).toNat)
  case atStart => exact ⟨0, by omega, rfl, Below.refl _ _⟩
  case round =>
    obtain ⟨k, hk, rfl, hbw⟩ := hrel
    by_cases hlt : k < n
    · have hx := List.getElem?_eq_getElem (show k < xs.length by rw [← hn.out]; exact hlt)
      obtain ⟨x, hxx⟩ : ∃ x, x = xs[k] := ⟨_, rfl⟩
      rw [← hxx] at hx
      clear hxx
      obtain ⟨g, o, cs, rfl, hg, his, hc⟩ := h1.out.nth hx
      obtain ⟨g', o', cs', rfl, hg', his', hc'⟩ := h2.out.nth hx
      have ag := below_agree hbw
      have hA := rElm.agree his ag (up_lt hbw)
      have hB := rElm.agree his' ag (up_lt hbw)
      obtain ⟨Ah, A1, Am1, Ac1, A2, Am2, Ac2, A3, Am3, Ac3, A4, Ac4, rfl, _, AN1, AN2⟩ := form_elm his
      obtain ⟨Bh, B1, Bm1, Bc1, B2, Bm2, Bc2, B3, Bm3, Bc3, B4, Bc4, rfl, _, BN1, BN2⟩ := form_elm his'
      have f0 : wr.cell? ⟨g, o + k * 11, none⟩ = some (.int .i64 x.ta) := (hbw.cell (p := ⟨g, o + k * 11, none⟩) hg).trans (hc 0 _ rfl)
      have f1 : wr.cell? ⟨g, o + k * 11 + 1, none⟩ = some (.int .i64 Ah.op) := (hbw.cell (p := ⟨g, o + k * 11 + 1, none⟩) hg).trans (hc 1 _ rfl)
      have f2 : wr.cell? ⟨g, o + k * 11 + 2, none⟩ = some (.int .i64 Ah.ty) := (hbw.cell (p := ⟨g, o + k * 11 + 2, none⟩) hg).trans (hc 2 _ rfl)
      have f3 : wr.cell? ⟨g, o + k * 11 + 3, none⟩ = some (.int .i64 Ah.ix) := (hbw.cell (p := ⟨g, o + k * 11 + 3, none⟩) hg).trans (hc 3 _ rfl)
      have f4 : wr.cell? ⟨g, o + k * 11 + 4, none⟩ = some (.int .i64 Ah.al) := (hbw.cell (p := ⟨g, o + k * 11 + 4, none⟩) hg).trans (hc 4 _ rfl)
      have f5 : wr.cell? ⟨g, o + k * 11 + 5, none⟩ = some (.int .i64 Ah.ofs) := (hbw.cell (p := ⟨g, o + k * 11 + 5, none⟩) hg).trans (hc 5 _ rfl)
      have f6 : wr.cell? ⟨g, o + k * 11 + 6, none⟩ = some (.int .i64 Ah.val) := (hbw.cell (p := ⟨g, o + k * 11 + 6, none⟩) hg).trans (hc 6 _ rfl)
      have f7 : wr.cell? ⟨g, o + k * 11 + 7, none⟩ = some (.slice A1 Am1 Ac1) := (hbw.cell (p := ⟨g, o + k * 11 + 7, none⟩) hg).trans (hc 7 _ rfl)
      have f8 : wr.cell? ⟨g, o + k * 11 + 8, none⟩ = some (.slice A2 Am2 Ac2) := (hbw.cell (p := ⟨g, o + k * 11 + 8, none⟩) hg).trans (hc 8 _ rfl)
      have f9 : wr.cell? ⟨g, o + k * 11 + 9, none⟩ = some (.slice A3 Am3 Ac3) := (hbw.cell (p := ⟨g, o + k * 11 + 9, none⟩) hg).trans (hc 9 _ rfl)
      have f10 : wr.cell? ⟨g, o + k * 11 + 10, none⟩ = some (.slice A4 x.fs.length Ac4) := (hbw.cell (p := ⟨g, o + k * 11 + 10, none⟩) hg).trans (hc 10 _ rfl)
      have g0 : wr.cell? ⟨g', o' + k * 11, none⟩ = some (.int .i64 x.ta) := (hbw.cell (p := ⟨g', o' + k * 11, none⟩) hg').trans (hc' 0 _ rfl)
      have g1 : wr.cell? ⟨g', o' + k * 11 + 1, none⟩ = some (.int .i64 Bh.op) := (hbw.cell (p := ⟨g', o' + k * 11 + 1, none⟩) hg').trans (hc' 1 _ rfl)
      have g2 : wr.cell? ⟨g', o' + k * 11 + 2, none⟩ = some (.int .i64 Bh.ty) := (hbw.cell (p := ⟨g', o' + k * 11 + 2, none⟩) hg').trans (hc' 2 _ rfl)
      have g3 : wr.cell? ⟨g', o' + k * 11 + 3, none⟩ = some (.int .i64 Bh.ix) := (hbw.cell (p := ⟨g', o' + k * 11 + 3, none⟩) hg').trans (hc' 3 _ rfl)
      have g4 : wr.cell? ⟨g', o' + k * 11 + 4, none⟩ = some (.int .i64 Bh.al) := (hbw.cell (p := ⟨g', o' + k * 11 + 4, none⟩) hg').trans (hc' 4 _ rfl)
      have g5 : wr.cell? ⟨g', o' + k * 11 + 5, none⟩ = some (.int .i64 Bh.ofs) := (hbw.cell (p := ⟨g', o' + k * 11 + 5, none⟩) hg').trans (hc' 5 _ rfl)
      have g6 : wr.cell? ⟨g', o' + k * 11 + 6, none⟩ = some (.int .i64 Bh.val) := (hbw.cell (p := ⟨g', o' + k * 11 + 6, none⟩) hg').trans (hc' 6 _ rfl)
      have g7 : wr.cell? ⟨g', o' + k * 11 + 7, none⟩ = some (.slice B1 Bm1 Bc1) := (hbw.cell (p := ⟨g', o' + k * 11 + 7, none⟩) hg').trans (hc' 7 _ rfl)
      have g8 : wr.cell? ⟨g', o' + k * 11 + 8, none⟩ = some (.slice B2 Bm2 Bc2) := (hbw.cell (p := ⟨g', o' + k * 11 + 8, none⟩) hg').trans (hc' 8 _ rfl)
      have g9 : wr.cell? ⟨g', o' + k * 11 + 9, none⟩ = some (.slice B3 Bm3 Bc3) := (hbw.cell (p := ⟨g', o' + k * 11 + 9, none⟩) hg').trans (hc' 9 _ rfl)
      have g10 : wr.cell? ⟨g', o' + k * 11 + 10, none⟩ = some (.slice B4 x.fs.length Bc4) := (hbw.cell (p := ⟨g', o' + k * 11 + 10, none⟩) hg').trans (hc' 10 _ rfl)
      have t0 : (0 : Int) ≤ (k : Int) := by omega
      have t1 : (k : Int) < (n : Int) := by omega
      replace hA := Lib.hid hA
      replace hB := Lib.hid hB
      clear hc hc' his his' ag hx
      go_wp2_with fail
      go_still_tail 8, (by kernel_rfl)
      change wpList _ _ _ _ _ wr.drew
      go_wp2_with fail
      refine (EqElem_same x _ _ _ (rElm.agree hA.out (below_agree (Below.refl _ _).drew) (up_lt (Below.refl _ _).drew)) (rElm.agree hB.out (below_agree (Below.refl _ _).drew) (up_lt (Below.refl _ _).drew))).mono ?_
      rintro e1 w1 ⟨rfl, b1⟩
      have d1 := Lib.hid (hbw.drew.trans (b1.mono hbw.drew.size))
      clear b1
      go_wp2_with fail
      exact ⟨⟨k + 1, by omega, by go_num, d1.out⟩, by simp [intOf]; omega⟩
    · obtain rfl : k = n := by omega
      go_wp2_with fail
      go_ret
      exact ⟨rfl, hbw⟩
set_option maxRecDepth 100000 in
theorem EqDatas_same (xs : List M.Dat) (v1 v2 : Value) (w : World) (h1 : Lst rDat w (· < w.heap.size) v1 xs) (h2 : Lst rDat w (· < w.heap.size) v2 xs) :
    Calls Tryz.prog 45 #[v1, v2] w fun e w' => e = .returned (.bool true) ∧ Below w.heap.size w w' := by
  obtain ⟨A, c, rfl, hc1, hc2, hc3⟩ := h1.form
  obtain ⟨B, d, rfl, hd1, hd2, hd3⟩ := h2.form
  unfold maxLen at hc3 hd3
  replace h1 := Lib.hid h1
  replace h2 := Lib.hid h2
  obtain ⟨n, hn⟩ : ∃ n, n = xs.length := ⟨_, rfl⟩
  rw [← hn] at hc1 hc2 hd2 h1 h2 ⊢
  have hne : ((n : Int) != (n : Int)) = false := by simp
  replace hn := Lib.hid hn
  go_enter Tryz.func45, Tryz.ntmps45
  go_wp2_with fail
  go_loopw [5] (fun i w' => ∃ k : Nat, k ≤ n ∧ i = .int .i64 k ∧ Below w.heap.size w w') (fun i _ => n - (intOf i).toNat)
  case atStart => exact ⟨0, by omega, rfl, Below.refl _ _⟩
  case round =>
    obtain ⟨k, hk, rfl, hbw⟩ := hrel
    by_cases hlt : k < n
    · have hx := List.getElem?_eq_getElem (show k < xs.length by rw [← hn.out]; exact hlt)
      obtain ⟨x, hxx⟩ : ∃ x, x = xs[k] := ⟨_, rfl⟩
      rw [← hxx] at hx
      clear hxx
      obtain ⟨g, o, cs, rfl, hg, his, hc⟩ := h1.out.nth hx
      obtain ⟨g', o', cs', rfl, hg', his', hc'⟩ := h2.out.nth hx
      have ag := below_agree hbw
      have hA := rDat.agree his ag (up_lt hbw)
      have hB := rDat.agree his' ag (up_lt hbw)
      obtain ⟨Ah, A1, Am1, Ac1, A2, Am2, Ac2, A3, Am3, Ac3, A4, Ac4, rfl, _, AN1, AN2⟩ := form_dat his
      obtain ⟨Bh, B1, Bm1, Bc1, B2, Bm2, Bc2, B3, Bm3, Bc3, B4, Bc4, rfl, _, BN1, BN2⟩ := form_dat his'
      have f0 : wr.cell? ⟨g, o + k * 11, none⟩ = some (.int .i64 x.me) := (hbw.cell (p := ⟨g, o + k * 11, none⟩) hg).trans (hc 0 _ rfl)
      have f1 : wr.cell? ⟨g, o + k * 11 + 1, none⟩ = some (.int .i64 Ah.op) := (hbw.cell (p := ⟨g, o + k * 11 + 1, none⟩) hg).trans (hc 1 _ rfl)
      have f2 : wr.cell? ⟨g, o + k * 11 + 2, none⟩ = some (.int .i64 Ah.ty) := (hbw.cell (p := ⟨g, o + k * 11 + 2, none⟩) hg).trans (hc 2 _ rfl)
      have f3 : wr.cell? ⟨g, o + k * 11 + 3, none⟩ = some (.int .i64 Ah.ix) := (hbw.cell (p := ⟨g, o + k * 11 + 3, none⟩) hg).trans (hc 3 _ rfl)
      have f4 : wr.cell? ⟨g, o + k * 11 + 4, none⟩ = some (.int .i64 Ah.al) := (hbw.cell (p := ⟨g, o + k * 11 + 4, none⟩) hg).trans (hc 4 _ rfl)
      have f5 : wr.cell? ⟨g, o + k * 11 + 5, none⟩ = some (.int .i64 Ah.ofs) := (hbw.cell (p := ⟨g, o + k * 11 + 5, none⟩) hg).trans (hc 5 _ rfl)
      have f6 : wr.cell? ⟨g, o + k * 11 + 6, none⟩ = some (.int .i64 Ah.val) := (hbw.cell (p := ⟨g, o + k * 11 + 6, none⟩) hg).trans (hc 6 _ rfl)
      have f7 : wr.cell? ⟨g, o + k * 11 + 7, none⟩ = some (.slice A1 Am1 Ac1) := (hbw.cell (p := ⟨g, o + k * 11 + 7, none⟩) hg).trans (hc 7 _ rfl)
      have f8 : wr.cell? ⟨g, o + k * 11 + 8, none⟩ = some (.slice A2 Am2 Ac2) := (hbw.cell (p := ⟨g, o + k * 11 + 8, none⟩) hg).trans (hc 8 _ rfl)
      have f9 : wr.cell? ⟨g, o + k * 11 + 9, none⟩ = some (.slice A3 Am3 Ac3) := (hbw.cell (p := ⟨g, o + k * 11 + 9, none⟩) hg).trans (hc 9 _ rfl)
      have f10 : wr.cell? ⟨g, o + k * 11 + 10, none⟩ = some (.slice A4 x.bs.length Ac4) := (hbw.cell (p := ⟨g, o + k * 11 + 10, none⟩) hg).trans (hc 10 _ rfl)
      have g0 : wr.cell? ⟨g', o' + k * 11, none⟩ = some (.int .i64 x.me) := (hbw.cell (p := ⟨g', o' + k * 11, none⟩) hg').trans (hc' 0 _ rfl)
      have g1 : wr.cell? ⟨g', o' + k * 11 + 1, none⟩ = some (.int .i64 Bh.op) := (hbw.cell (p := ⟨g', o' + k * 11 + 1, none⟩) hg').trans (hc' 1 _ rfl)
      have g2 : wr.cell? ⟨g', o' + k * 11 + 2, none⟩ = some (.int .i64 Bh.ty) := (hbw.cell (p := ⟨g', o' + k * 11 + 2, none⟩) hg').trans (hc' 2 _ rfl)
      have g3 : wr.cell? ⟨g', o' + k * 11 + 3, none⟩ = some (.int .i64 Bh.ix) := (hbw.cell (p := ⟨g', o' + k * 11 + 3, none⟩) hg').trans (hc' 3 _ rfl)
      have g4 : wr.cell? ⟨g', o' + k * 11 + 4, none⟩ = some (.int .i64 Bh.al) := (hbw.cell (p := ⟨g', o' + k * 11 + 4, none⟩) hg').trans (hc' 4 _ rfl)
      have g5 : wr.cell? ⟨g', o' + k * 11 + 5, none⟩ = some (.int .i64 Bh.ofs) := (hbw.cell (p := ⟨g', o' + k * 11 + 5, none⟩) hg').trans (hc' 5 _ rfl)
      have g6 : wr.cell? ⟨g', o' + k * 11 + 6, none⟩ = some (.int .i64 Bh.val) := (hbw.cell (p := ⟨g', o' + k * 11 + 6, none⟩) hg').trans (hc' 6 _ rfl)
      have g7 : wr.cell? ⟨g', o' + k * 11 + 7, none⟩ = some (.slice B1 Bm1 Bc1) := (hbw.cell (p := ⟨g', o' + k * 11 + 7, none⟩) hg').trans (hc' 7 _ rfl)
      have g8 : wr.cell? ⟨g', o' + k * 11 + 8, none⟩ = some (.slice B2 Bm2 Bc2) := (hbw.cell (p := ⟨g', o' + k * 11 + 8, none⟩) hg').trans (hc' 8 _ rfl)
      have g9 : wr.cell? ⟨g', o' + k * 11 + 9, none⟩ = some (.slice B3 Bm3 Bc3) := (hbw.cell (p := ⟨g', o' + k * 11 + 9, none⟩) hg').trans (hc' 9 _ rfl)
      have g10 : wr.cell? ⟨g', o' + k * 11 + 10, none⟩ = some (.slice B4 x.bs.length Bc4) := (hbw.cell (p := ⟨g', o' + k * 11 + 10, none⟩) hg').trans (hc' 10 _ rfl)
      have t0 : (0 : Int) ≤ (k : Int) := by omega
      have t1 : (k : Int) < (n : Int) := by omega
      replace hA := Lib.hid hA
      replace hB := Lib.hid hB
      clear hc hc' his his' ag hx
      go_wp2_with fail
      go_still_tail 8, (by kernel_rfl)
      change wpList _ _ _ _ _ wr.drew
      go_wp2_with fail
      refine (EqData_same x _ _ _ (rDat.agree hA.out (below_agree (Below.refl _ _).drew) (up_lt (Below.refl _ _).drew)) (rDat.agree hB.out (below_agree (Below.refl _ _).drew) (up_lt (Below.refl _ _).drew))).mono ?_
      rintro e1 w1 ⟨rfl, b1⟩
      have d1 := Lib.hid (hbw.drew.trans (b1.mono hbw.drew.size))
      clear b1
      go_wp2_with fail
      exact ⟨⟨k + 1, by omega, by go_num, d1.out⟩, by simp [intOf]; omega⟩
    · obtain rfl : k = n := by omega
      go_wp2_with fail
      go_ret
      exact ⟨rfl, hbw⟩
set_option maxRecDepth 100000 in
theorem EqLimits_same (xs : List M.Lim) (v1 v2 : Value) (w : World) (h1 : Lst rLim w (· < w.heap.size) v1 xs) (h2 : Lst rLim w (· < w.heap.size) v2 xs) :
    Calls Tryz.prog 41 #[v1, v2] w fun e w' => e = .returned (.bool true) ∧ Below w.heap.size w w' := by
  obtain ⟨A, c, rfl, hc1, hc2, hc3⟩ := h1.form
  obtain ⟨B, d, rfl, hd1, hd2, hd3⟩ := h2.form
  unfold maxLen at hc3 hd3
  replace h1 := Lib.hid h1
  replace h2 := Lib.hid h2
  obtain ⟨n, hn⟩ : ∃ n, n = xs.length := ⟨_, rfl⟩
  rw [← hn] at hc1 hc2 hd2 h1 h2 ⊢
  have hne : ((n : Int) != (n : Int)) = false := by simp
  replace hn := Lib.hid hn
  go_enter Tryz.func41, Tryz.ntmps41
  go_wp2_with fail
  go_loopw [5] (fun i w' => ∃ k : Nat, k ≤ n ∧ i = .int .i64 k ∧ Below w.heap.size w w') (fun i _ => n - (intOf i).toNat)
  case atStart => exact ⟨0, by omega, rfl, Below.refl _ _⟩
  case round =>
    obtain ⟨k, hk, rfl, hbw⟩ := hrel
    by_cases hlt : k < n
    · have hx := List.getElem?_eq_getElem (show k < xs.length by rw [← hn.out]; exact hlt)
      obtain ⟨x, hxx⟩ : ∃ x, x = xs[k] := ⟨_, rfl⟩
      rw [← hxx] at hx
      clear hxx
      obtain ⟨g, o, cs, rfl, hg, his, hc⟩ := h1.out.nth hx
      obtain ⟨g', o', cs', rfl, hg', his', hc'⟩ := h2.out.nth hx
      have ag := below_agree hbw
      have hA := rLim.agree his ag (up_lt hbw)
      have hB := rLim.agree his' ag (up_lt hbw)
      obtain ⟨rfl, _, _⟩ := form_lim his
      obtain ⟨rfl, _, _⟩ := form_lim his'
      have f0 : wr.cell? ⟨g, o + k * 2, none⟩ = some (.int .i64 x.mn) := (hbw.cell (p := ⟨g, o + k * 2, none⟩) hg).trans (hc 0 _ rfl)
      have f1 : wr.cell? ⟨g, o + k * 2 + 1, none⟩ = some (.int .i64 x.mx) := (hbw.cell (p := ⟨g, o + k * 2 + 1, none⟩) hg).trans (hc 1 _ rfl)
      have g0 : wr.cell? ⟨g', o' + k * 2, none⟩ = some (.int .i64 x.mn) := (hbw.cell (p := ⟨g', o' + k * 2, none⟩) hg').trans (hc' 0 _ rfl)
      have g1 : wr.cell? ⟨g', o' + k * 2 + 1, none⟩ = some (.int .i64 x.mx) := (hbw.cell (p := ⟨g', o' + k * 2 + 1, none⟩) hg').trans (hc' 1 _ rfl)
      have t0 : (0 : Int) ≤ (k : Int) := by omega
      have t1 : (k : Int) < (n : Int) := by omega
      replace hA := Lib.hid hA
      replace hB := Lib.hid hB
      clear hc hc' his his' ag hx
      go_wp2_with fail
      go_quiet (fail)
      go_wp2
      exact ⟨⟨k + 1, by omega, by go_num, below_drewN hbw _⟩, by simp [intOf]; omega⟩
    · obtain rfl : k = n := by omega
      go_wp2_with fail
      go_ret
      exact ⟨rfl, hbw⟩
set_option maxRecDepth 100000 in
theorem EqImports_same (xs : List M.Imp) (v1 v2 : Value) (w : World) (h1 : Lst rImp w (· < w.heap.size) v1 xs) (h2 : Lst rImp w (· < w.heap.size) v2 xs) :
    Calls Tryz.prog 39 #[v1, v2] w fun e w' => e = .returned (.bool true) ∧ Below w.heap.size w w' := by
  obtain ⟨A, c, rfl, hc1, hc2, hc3⟩ := h1.form
  obtain ⟨B, d, rfl, hd1, hd2, hd3⟩ := h2.form
  unfold maxLen at hc3 hd3
  replace h1 := Lib.hid h1
  replace h2 := Lib.hid h2
  obtain ⟨n, hn⟩ : ∃ n, n = xs.length := ⟨_, rfl⟩
  rw [← hn] at hc1 hc2 hd2 h1 h2 ⊢
  have hne : ((n : Int) != (n : Int)) = false := by simp
  replace hn := Lib.hid hn
  go_enter Tryz.func39, Tryz.ntmps39
  go_wp2_with fail
  go_loopw [5] (fun i w' => ∃ k : Nat, k ≤ n ∧ i = .int .i64 k ∧ Below w.heap.size w w') (fun i _ => n - (intOf i).toNat)
  case atStart => exact ⟨0, by omega, rfl, Below.refl _ _⟩
  case round =>
    obtain ⟨k, hk, rfl, hbw⟩ := hrel
    by_cases hlt : k < n
    · have hx := List.getElem?_eq_getElem (show k < xs.length by rw [← hn.out]; exact hlt)
      obtain ⟨x, hxx⟩ : ∃ x, x = xs[k] := ⟨_, rfl⟩
      rw [← hxx] at hx
      clear hxx
      obtain ⟨g, o, cs, rfl, hg, his, hc⟩ := h1.out.nth hx
      obtain ⟨g', o', cs', rfl, hg', his', hc'⟩ := h2.out.nth hx
      have ag := below_agree hbw
      have hA := rImp.agree his ag (up_lt hbw)
      have hB := rImp.agree his' ag (up_lt hbw)
      obtain rfl := form_imp2 his
      obtain rfl := form_imp2 his'
      have f0 : wr.cell? ⟨g, o + k * 7, none⟩ = some (.string (sOf x.mo)) := (hbw.cell (p := ⟨g, o + k * 7, none⟩) hg).trans (hc 0 _ rfl)
      have f1 : wr.cell? ⟨g, o + k * 7 + 1, none⟩ = some (.string (sOf x.na)) := (hbw.cell (p := ⟨g, o + k * 7 + 1, none⟩) hg).trans (hc 1 _ rfl)
      have f2 : wr.cell? ⟨g, o + k * 7 + 2, none⟩ = some (.int .i64 x.kd) := (hbw.cell (p := ⟨g, o + k * 7 + 2, none⟩) hg).trans (hc 2 _ rfl)
      have f3 : wr.cell? ⟨g, o + k * 7 + 3, none⟩ = some (.int .i64 x.ty) := (hbw.cell (p := ⟨g, o + k * 7 + 3, none⟩) hg).trans (hc 3 _ rfl)
      have f4 : wr.cell? ⟨g, o + k * 7 + 4, none⟩ = some (.bool x.mu) := (hbw.cell (p := ⟨g, o + k * 7 + 4, none⟩) hg).trans (hc 4 _ rfl)
      have f5 : wr.cell? ⟨g, o + k * 7 + 5, none⟩ = some (.int .i64 x.lim.mn) := (hbw.cell (p := ⟨g, o + k * 7 + 5, none⟩) hg).trans (hc 5 _ rfl)
      have f6 : wr.cell? ⟨g, o + k * 7 + 6, none⟩ = some (.int .i64 x.lim.mx) := (hbw.cell (p := ⟨g, o + k * 7 + 6, none⟩) hg).trans (hc 6 _ rfl)
      have g0 : wr.cell? ⟨g', o' + k * 7, none⟩ = some (.string (sOf x.mo)) := (hbw.cell (p := ⟨g', o' + k * 7, none⟩) hg').trans (hc' 0 _ rfl)
      have g1 : wr.cell? ⟨g', o' + k * 7 + 1, none⟩ = some (.string (sOf x.na)) := (hbw.cell (p := ⟨g', o' + k * 7 + 1, none⟩) hg').trans (hc' 1 _ rfl)
      have g2 : wr.cell? ⟨g', o' + k * 7 + 2, none⟩ = some (.int .i64 x.kd) := (hbw.cell (p := ⟨g', o' + k * 7 + 2, none⟩) hg').trans (hc' 2 _ rfl)
      have g3 : wr.cell? ⟨g', o' + k * 7 + 3, none⟩ = some (.int .i64 x.ty) := (hbw.cell (p := ⟨g', o' + k * 7 + 3, none⟩) hg').trans (hc' 3 _ rfl)
      have g4 : wr.cell? ⟨g', o' + k * 7 + 4, none⟩ = some (.bool x.mu) := (hbw.cell (p := ⟨g', o' + k * 7 + 4, none⟩) hg').trans (hc' 4 _ rfl)
      have g5 : wr.cell? ⟨g', o' + k * 7 + 5, none⟩ = some (.int .i64 x.lim.mn) := (hbw.cell (p := ⟨g', o' + k * 7 + 5, none⟩) hg').trans (hc' 5 _ rfl)
      have g6 : wr.cell? ⟨g', o' + k * 7 + 6, none⟩ = some (.int .i64 x.lim.mx) := (hbw.cell (p := ⟨g', o' + k * 7 + 6, none⟩) hg').trans (hc' 6 _ rfl)
      have t0 : (0 : Int) ≤ (k : Int) := by omega
      have t1 : (k : Int) < (n : Int) := by omega
      replace hA := Lib.hid hA
      replace hB := Lib.hid hB
      clear hc hc' his his' ag hx
      go_wp2_with fail
      go_quiet (fail)
      go_wp2
      exact ⟨⟨k + 1, by omega, by go_num, below_drewN hbw _⟩, by simp [intOf]; omega⟩
    · obtain rfl : k = n := by omega
      go_wp2_with fail
      go_ret
      exact ⟨rfl, hbw⟩
set_option maxRecDepth 100000 in
theorem EqExports_same (xs : List M.Exp) (v1 v2 : Value) (w : World) (h1 : Lst rExp w (· < w.heap.size) v1 xs) (h2 : Lst rExp w (· < w.heap.size) v2 xs) :
    Calls Tryz.prog 43 #[v1, v2] w fun e w' => e = .returned (.bool true) ∧ Below w.heap.size w w' := by
  obtain ⟨A, c, rfl, hc1, hc2, hc3⟩ := h1.form
  obtain ⟨B, d, rfl, hd1, hd2, hd3⟩ := h2.form
  unfold maxLen at hc3 hd3
  replace h1 := Lib.hid h1
  replace h2 := Lib.hid h2
  obtain ⟨n, hn⟩ : ∃ n, n = xs.length := ⟨_, rfl⟩
  rw [← hn] at hc1 hc2 hd2 h1 h2 ⊢
  have hne : ((n : Int) != (n : Int)) = false := by simp
  replace hn := Lib.hid hn
  go_enter Tryz.func43, Tryz.ntmps43
  go_wp2_with fail
  go_loopw [5] (fun i w' => ∃ k : Nat, k ≤ n ∧ i = .int .i64 k ∧ Below w.heap.size w w') (fun i _ => n - (intOf i).toNat)
  case atStart => exact ⟨0, by omega, rfl, Below.refl _ _⟩
  case round =>
    obtain ⟨k, hk, rfl, hbw⟩ := hrel
    by_cases hlt : k < n
    · have hx := List.getElem?_eq_getElem (show k < xs.length by rw [← hn.out]; exact hlt)
      obtain ⟨x, hxx⟩ : ∃ x, x = xs[k] := ⟨_, rfl⟩
      rw [← hxx] at hx
      clear hxx
      obtain ⟨g, o, cs, rfl, hg, his, hc⟩ := h1.out.nth hx
      obtain ⟨g', o', cs', rfl, hg', his', hc'⟩ := h2.out.nth hx
      have ag := below_agree hbw
      have hA := rExp.agree his ag (up_lt hbw)
      have hB := rExp.agree his' ag (up_lt hbw)
      obtain rfl := form_exp2 his
      obtain rfl := form_exp2 his'
      have f0 : wr.cell? ⟨g, o + k * 3, none⟩ = some (.string (sOf x.na)) := (hbw.cell (p := ⟨g, o + k * 3, none⟩) hg).trans (hc 0 _ rfl)
      have f1 : wr.cell? ⟨g, o + k * 3 + 1, none⟩ = some (.int .i64 x.kd) := (hbw.cell (p := ⟨g, o + k * 3 + 1, none⟩) hg).trans (hc 1 _ rfl)
      have f2 : wr.cell? ⟨g, o + k * 3 + 2, none⟩ = some (.int .i64 x.ix) := (hbw.cell (p := ⟨g, o + k * 3 + 2, none⟩) hg).trans (hc 2 _ rfl)
      have g0 : wr.cell? ⟨g', o' + k * 3, none⟩ = some (.string (sOf x.na)) := (hbw.cell (p := ⟨g', o' + k * 3, none⟩) hg').trans (hc' 0 _ rfl)
      have g1 : wr.cell? ⟨g', o' + k * 3 + 1, none⟩ = some (.int .i64 x.kd) := (hbw.cell (p := ⟨g', o' + k * 3 + 1, none⟩) hg').trans (hc' 1 _ rfl)
      have g2 : wr.cell? ⟨g', o' + k * 3 + 2, none⟩ = some (.int .i64 x.ix) := (hbw.cell (p := ⟨g', o' + k * 3 + 2, none⟩) hg').trans (hc' 2 _ rfl)
      have t0 : (0 : Int) ≤ (k : Int) := by omega
      have t1 : (k : Int) < (n : Int) := by omega
      replace hA := Lib.hid hA
      replace hB := Lib.hid hB
      clear hc hc' his his' ag hx
      go_wp2_with fail
      go_quiet (fail)
      go_wp2
      exact ⟨⟨k + 1, by omega, by go_num, below_drewN hbw _⟩, by simp [intOf]; omega⟩
    · obtain rfl : k = n := by omega
      go_wp2_with fail
      go_ret
      exact ⟨rfl, hbw⟩
/-- A module's ten cells. -/
structure MTen (w : World) (S : Nat → Prop) (cs : Array Value) (m : M.Mod) : Prop where
  ex : ∃ v0 v1 v2 v3 v4 v5 v6 v8 v9, cs = #[v0, v1, v2, v3, v4, v5, v6, .int .i64 m.start, v8, v9] ∧
    Lst rFT w S v0 m.types ∧ Lst rImp w S v1 m.imports ∧ Lst rFn w S v2 m.funcs ∧ Lst rLim w S v3 m.tables ∧ Lst rLim w S v4 m.memories ∧ Lst rGlo w S v5 m.globals ∧ Lst rExp w S v6 m.exports ∧ Lst rElm w S v8 m.elems ∧ Lst rDat w S v9 m.datas
theorem MIn.ten {w : World} {S : Nat → Prop} {cs : Array Value} {m : M.Mod} (h : MIn w S cs m) : MTen w S cs m := ⟨h.ex⟩
theorem MTen.agree {w w' : World} {S T : Nat → Prop} {cs : Array Value} {m : M.Mod} (h : MTen w S cs m) (ha : Agree S w w') (hT : ∀ k, S k → T k) : MTen w' T cs m := by
  obtain ⟨v0, v1, v2, v3, v4, v5, v6, v8, v9, e, l0, l1, l2, l3, l4, l5, l6, l8, l9⟩ := h.ex
  exact ⟨⟨v0, v1, v2, v3, v4, v5, v6, v8, v9, e, l0.agree ha hT, l1.agree ha hT, l2.agree ha hT, l3.agree ha hT, l4.agree ha hT, l5.agree ha hT, l6.agree ha hT, l8.agree ha hT, l9.agree ha hT⟩⟩
theorem MAt.ten {w : World} {S : Nat → Prop} {cs : Array Value} {m : M.Mod} (h : MAt w S cs m) (hs : cs.size = 10) : MTen w S cs m := by
  obtain ⟨v0, e0, l0⟩ := h.l0
  obtain ⟨v1, e1, l1⟩ := h.l1
  obtain ⟨v2, e2, l2⟩ := h.l2
  obtain ⟨v3, e3, l3⟩ := h.l3
  obtain ⟨v4, e4, l4⟩ := h.l4
  obtain ⟨v5, e5, l5⟩ := h.l5
  obtain ⟨v6, e6, l6⟩ := h.l6
  have e7 := h.l7.1
  obtain ⟨v8, e8, l8⟩ := h.l8
  obtain ⟨v9, e9, l9⟩ := h.l9
  refine ⟨⟨v0, v1, v2, v3, v4, v5, v6, v8, v9, ?_, l0, l1, l2, l3, l4, l5, l6, l8, l9⟩⟩
  apply Array.ext_getElem?
  intro i
  by_cases hi : i < 10
  · have : i = 0 ∨ i = 1 ∨ i = 2 ∨ i = 3 ∨ i = 4 ∨ i = 5 ∨ i = 6 ∨ i = 7 ∨ i = 8 ∨ i = 9 := by omega
    rcases this with rfl | rfl | rfl | rfl | rfl | rfl | rfl | rfl | rfl | rfl
    · rw [e0]; rfl
    · rw [e1]; rfl
    · rw [e2]; rfl
    · rw [e3]; rfl
    · rw [e4]; rfl
    · rw [e5]; rfl
    · rw [e6]; rfl
    · rw [e7]; rfl
    · rw [e8]; rfl
    · rw [e9]; rfl
  · rw [Array.getElem?_eq_none (by omega), Array.getElem?_eq_none (by simp; omega)]
set_option maxRecDepth 100000 in
set_option maxHeartbeats 8000000 in
theorem EqModule_same (m : M.Mod) (c1 c2 : Array Value) (w : World) (h1 : MTen w (· < w.heap.size) c1 m) (h2 : MTen w (· < w.heap.size) c2 m) :
    Calls Tryz.prog 13 #[.agg c1, .agg c2] w fun e w' => e = .returned (.bool true) ∧ Below w.heap.size w w' := by
  obtain ⟨a0, a1, a2, a3, a4, a5, a6, a8, a9, rfl, A0, A1, A2, A3, A4, A5, A6, A8, A9⟩ := h1.ex
  obtain ⟨b0, b1, b2, b3, b4, b5, b6, b8, b9, rfl, B0, B1, B2, B3, B4, B5, B6, B8, B9⟩ := h2.ex
  have ts : (m.start == m.start) = true := by simp
  obtain ⟨x0, xc0, rfl, _⟩ := A0.form
  obtain ⟨y0, yc0, rfl, _⟩ := B0.form
  replace A0 := Lib.hid A0
  replace B0 := Lib.hid B0
  obtain ⟨x1, xc1, rfl, _⟩ := A1.form
  obtain ⟨y1, yc1, rfl, _⟩ := B1.form
  replace A1 := Lib.hid A1
  replace B1 := Lib.hid B1
  obtain ⟨x2, xc2, rfl, _⟩ := A2.form
  obtain ⟨y2, yc2, rfl, _⟩ := B2.form
  replace A2 := Lib.hid A2
  replace B2 := Lib.hid B2
  obtain ⟨x3, xc3, rfl, _⟩ := A3.form
  obtain ⟨y3, yc3, rfl, _⟩ := B3.form
  replace A3 := Lib.hid A3
  replace B3 := Lib.hid B3
  obtain ⟨x4, xc4, rfl, _⟩ := A4.form
  obtain ⟨y4, yc4, rfl, _⟩ := B4.form
  replace A4 := Lib.hid A4
  replace B4 := Lib.hid B4
  obtain ⟨x5, xc5, rfl, _⟩ := A5.form
  obtain ⟨y5, yc5, rfl, _⟩ := B5.form
  replace A5 := Lib.hid A5
  replace B5 := Lib.hid B5
  obtain ⟨x6, xc6, rfl, _⟩ := A6.form
  obtain ⟨y6, yc6, rfl, _⟩ := B6.form
  replace A6 := Lib.hid A6
  replace B6 := Lib.hid B6
  obtain ⟨x8, xc8, rfl, _⟩ := A8.form
  obtain ⟨y8, yc8, rfl, _⟩ := B8.form
  replace A8 := Lib.hid A8
  replace B8 := Lib.hid B8
  obtain ⟨x9, xc9, rfl, _⟩ := A9.form
  obtain ⟨y9, yc9, rfl, _⟩ := B9.form
  replace A9 := Lib.hid A9
  replace B9 := Lib.hid B9
  clear h1 h2
  go_enter Tryz.func13, Tryz.ntmps13
  go_wp2_with fail
  refine (EqFuncTypes_same m.types _ _ _ (A0.out.agree (below_agree (two_below _ _ _ _)) (up_lt (two_below _ _ _ _))) (B0.out.agree (below_agree (two_below _ _ _ _)) (up_lt (two_below _ _ _ _)))).mono ?_
  rintro e0 w1 ⟨rfl, k1⟩
  have D1 := k1
  obtain ⟨d1, f, g⟩ := two_new D1
  have p1 : w1.cell? ⟨w.heap.size, 1, none⟩ = some (.slice x1 m.imports.length xc1) := f 1
  have q1 : w1.cell? ⟨w.heap.size + 1, 1, none⟩ = some (.slice y1 m.imports.length yc1) := g 1
  clear f g k1
  replace d1 := Lib.hid d1
  replace D1 := Lib.hid D1
  go_wp2_with fail
  clear p1 q1
  refine (EqImports_same m.imports _ _ _ (A1.out.agree (below_agree d1.out) (up_lt d1.out)) (B1.out.agree (below_agree d1.out) (up_lt d1.out))).mono ?_
  rintro e1 w2 ⟨rfl, k2⟩
  have D2 := D1.out.trans (k2.mono D1.out.size)
  obtain ⟨d2, f, g⟩ := two_new D2
  have p2 : w2.cell? ⟨w.heap.size, 2, none⟩ = some (.slice x2 m.funcs.length xc2) := f 2
  have q2 : w2.cell? ⟨w.heap.size + 1, 2, none⟩ = some (.slice y2 m.funcs.length yc2) := g 2
  clear f g k2
  replace d2 := Lib.hid d2
  replace D2 := Lib.hid D2
  go_wp2_with fail
  clear p2 q2
  refine (EqFuncs_same m.funcs _ _ _ (A2.out.agree (below_agree d2.out) (up_lt d2.out)) (B2.out.agree (below_agree d2.out) (up_lt d2.out))).mono ?_
  rintro e2 w3 ⟨rfl, k3⟩
  have D3 := D2.out.trans (k3.mono D2.out.size)
  obtain ⟨d3, f, g⟩ := two_new D3
  have p3 : w3.cell? ⟨w.heap.size, 3, none⟩ = some (.slice x3 m.tables.length xc3) := f 3
  have q3 : w3.cell? ⟨w.heap.size + 1, 3, none⟩ = some (.slice y3 m.tables.length yc3) := g 3
  clear f g k3
  replace d3 := Lib.hid d3
  replace D3 := Lib.hid D3
  go_wp2_with fail
  clear p3 q3
  refine (EqLimits_same m.tables _ _ _ (A3.out.agree (below_agree d3.out) (up_lt d3.out)) (B3.out.agree (below_agree d3.out) (up_lt d3.out))).mono ?_
  rintro e3 w4 ⟨rfl, k4⟩
  have D4 := D3.out.trans (k4.mono D3.out.size)
  obtain ⟨d4, f, g⟩ := two_new D4
  have p4 : w4.cell? ⟨w.heap.size, 4, none⟩ = some (.slice x4 m.memories.length xc4) := f 4
  have q4 : w4.cell? ⟨w.heap.size + 1, 4, none⟩ = some (.slice y4 m.memories.length yc4) := g 4
  clear f g k4
  replace d4 := Lib.hid d4
  replace D4 := Lib.hid D4
  go_wp2_with fail
  clear p4 q4
  refine (EqLimits_same m.memories _ _ _ (A4.out.agree (below_agree d4.out) (up_lt d4.out)) (B4.out.agree (below_agree d4.out) (up_lt d4.out))).mono ?_
  rintro e4 w5 ⟨rfl, k5⟩
  have D5 := D4.out.trans (k5.mono D4.out.size)
  obtain ⟨d5, f, g⟩ := two_new D5
  have p5 : w5.cell? ⟨w.heap.size, 5, none⟩ = some (.slice x5 m.globals.length xc5) := f 5
  have q5 : w5.cell? ⟨w.heap.size + 1, 5, none⟩ = some (.slice y5 m.globals.length yc5) := g 5
  clear f g k5
  replace d5 := Lib.hid d5
  replace D5 := Lib.hid D5
  go_wp2_with fail
  clear p5 q5
  refine (EqGlobals_same m.globals _ _ _ (A5.out.agree (below_agree d5.out) (up_lt d5.out)) (B5.out.agree (below_agree d5.out) (up_lt d5.out))).mono ?_
  rintro e5 w6 ⟨rfl, k6⟩
  have D6 := D5.out.trans (k6.mono D5.out.size)
  obtain ⟨d6, f, g⟩ := two_new D6
  have p6 : w6.cell? ⟨w.heap.size, 6, none⟩ = some (.slice x6 m.exports.length xc6) := f 6
  have q6 : w6.cell? ⟨w.heap.size + 1, 6, none⟩ = some (.slice y6 m.exports.length yc6) := g 6
  clear f g k6
  replace d6 := Lib.hid d6
  replace D6 := Lib.hid D6
  go_wp2_with fail
  clear p6 q6
  refine (EqExports_same m.exports _ _ _ (A6.out.agree (below_agree d6.out) (up_lt d6.out)) (B6.out.agree (below_agree d6.out) (up_lt d6.out))).mono ?_
  rintro e6 w7 ⟨rfl, k7⟩
  have D7 := D6.out.trans (k7.mono D6.out.size)
  obtain ⟨d7, f, g⟩ := two_new D7
  have p7 : w7.cell? ⟨w.heap.size, 7, none⟩ = some (.int .i64 m.start) := f 7
  have q7 : w7.cell? ⟨w.heap.size + 1, 7, none⟩ = some (.int .i64 m.start) := g 7
  have p8 : w7.cell? ⟨w.heap.size, 8, none⟩ = some (.slice x8 m.elems.length xc8) := f 8
  have q8 : w7.cell? ⟨w.heap.size + 1, 8, none⟩ = some (.slice y8 m.elems.length yc8) := g 8
  clear f g k7
  replace d7 := Lib.hid d7
  replace D7 := Lib.hid D7
  go_wp2_with fail
  clear p7 q7 p8 q8
  refine (EqElems_same m.elems _ _ _ (A8.out.agree (below_agree d7.out) (up_lt d7.out)) (B8.out.agree (below_agree d7.out) (up_lt d7.out))).mono ?_
  rintro e7 w8 ⟨rfl, k8⟩
  have D8 := D7.out.trans (k8.mono D7.out.size)
  obtain ⟨d8, f, g⟩ := two_new D8
  have p9 : w8.cell? ⟨w.heap.size, 9, none⟩ = some (.slice x9 m.datas.length xc9) := f 9
  have q9 : w8.cell? ⟨w.heap.size + 1, 9, none⟩ = some (.slice y9 m.datas.length yc9) := g 9
  clear f g k8
  replace d8 := Lib.hid d8
  replace D8 := Lib.hid D8
  go_wp2_with fail
  clear p9 q9
  refine (EqDatas_same m.datas _ _ _ (A9.out.agree (below_agree d8.out) (up_lt d8.out)) (B9.out.agree (below_agree d8.out) (up_lt d8.out))).mono ?_
  rintro e8 w9 ⟨rfl, k9⟩
  have D9 := D8.out.trans (k9.mono D8.out.size)
  obtain ⟨d9, f, g⟩ := two_new D9
  clear f g k9
  replace d9 := Lib.hid d9
  replace D9 := Lib.hid D9
  go_wp2_with fail
  go_ret
  exact ⟨rfl, d9.out⟩
end Go.Proofs.YtilaheifccjjeaaGreat
