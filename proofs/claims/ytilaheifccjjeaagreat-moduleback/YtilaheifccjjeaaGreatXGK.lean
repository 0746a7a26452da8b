/-
  The ground of the proofs of this seat, put together: XLoc2, XBody, XList4, XSome, XSecs, XHd, XTop, XEnc, MMathB, XRt. No condition beyond what each text names.
-/
import Derived.ArgAppend
import Derived.Lib.AppendZeros
import Derived.Laws.EntriesVeiled
import Derived.Deep.WholeRow
import Derived.Lib.SlBytesConst
import Derived.Test.YtilaheifccjjeaaGreatXGJ
import Derived.Test.YtilaheifccjjeaaGreatXGB
import Derived.Test.YtilaheifccjjeaaGreatXGA
import Derived.Test.YtilaheifccjjeaaGreatXGC
import Derived.Test.YtilaheifccjjeaaGreatXGD
import Derived.Test.YtilaheifccjjeaaGreatXGE
import Derived.Test.YtilaheifccjjeaaGreatXGF
import Derived.Test.YtilaheifccjjeaaGreatXGG
import Derived.Test.YtilaheifccjjeaaGreatXGH
import Derived.Test.YtilaheifccjjeaaGreatXGI
namespace Go.Proofs.YtilaheifccjjeaaGreat
open Go.RowKit
theorem GAt.later {P : Nat} {w w' : World} {A : Option Addr} {gs : List (Nat × Int)} (h : GAt P w A gs) (b : Wro P w w') : GAt P w' A gs := fun k g hg => by
  obtain ⟨r, e, hc⟩ := h k g hg
  exact ⟨r, e, fun w2 b2 => hc w2 (b.trans b2)⟩
theorem gvals_at : ∀ (gs : List (Nat × Int)) (k : Nat) (g : Nat × Int), gs[k]? = some g → (gvals gs)[k * 2]? = some (.int .i64 (g.1 : Int)) ∧ (gvals gs)[k * 2 + 1]? = some (.int .i64 g.2)
  | [], k, g, h => by simp at h
  | (c, y) :: r, 0, g, h => by
    simp only [List.getElem?_cons_zero, Option.some.injEq] at h
    subst h
    exact ⟨rfl, rfl⟩
  | (c, y) :: r, k + 1, g, h => by
    have := gvals_at r k g (by simpa using h)
    rw [show (k + 1) * 2 = k * 2 + 1 + 1 by omega]
    exact this
/-- The groups that groupsOf made lie where no writer of the text comes. -/
theorem gat_of {B P n : Nat} {w w1 : World} {out : List Nat} {A : Option Addr} {c : Nat} {gs : List (Nat × Int)} (h : MTx B w P out) (b : Below w.heap.size w w1) (own : w1.ownsRow w.heap.size 225 2 (.slice A n c) n (gvals gs)) : GAt P w1 A gs := fun k g hg => by
  obtain ⟨q1, q2⟩ := gvals_at gs k g hg
  rcases own.2 with ⟨e, h0⟩ | ⟨r, cap, cur, e, h1, h2, _⟩
  · have := own.1
    rw [h0] at this
    have e2 : gvals gs = [] := List.length_eq_zero_iff.1 (by omega)
    rw [e2] at q1
    simp at q1
  · injection e with e1 e2 e3
    subst e1
    have hlt := own.lt r rfl
    refine ⟨r, rfl, fun w2 b2 => ?_⟩
    have keep := box_keep h b hlt.1 hlt.2 w2 b2
    have c1 := own.cells (g := r) rfl _ _ q1
    have c2 := own.cells (g := r) rfl _ _ q2
    rw [add_none, Nat.zero_add] at c1 c2
    exact ⟨(keep _).trans c1, (keep _).trans c2⟩
theorem mem_spread : ∀ (gs : List (Nat × Int)) (x : Int), x ∈ M.spread gs → ∃ g ∈ gs, g.2 = x
  | [], _, h => by simp [M.spread] at h
  | (c, y) :: r, x, h => by
    simp only [M.spread, List.mem_append] at h
    rcases h with h | h
    · exact ⟨(c, y), List.mem_cons_self .., (List.eq_of_mem_replicate h).symm⟩
    · obtain ⟨g, h1, h2⟩ := mem_spread r x h
      exact ⟨g, List.mem_cons_of_mem _ h1, h2⟩
theorem runs_le (l : List Int) : (M.runs l).length ≤ l.length := by
  have h1 := M.runs_spread (l.map fun x => (1, x))
  have e : M.spread (l.map fun x => (1, x)) = l := by
    have : ∀ l : List Int, M.spread (l.map fun x => (1, x)) = l := fun l => by
      induction l with
      | nil => rfl
      | cons a t ih => simp [M.spread, ih]
    exact this l
  rw [e, List.length_map] at h1
  exact h1
theorem locals_ok (l : List Int) (h64 : l.length ≤ 64) : (M.inR ((M.runs l).length : Int) ∧ ∀ x ∈ gpairs (M.runs l), cGrp.ok x) ↔ M.cLocals.ok l := by
  have hr := runs_le l
  refine ⟨fun ⟨_, h⟩ => ⟨h64, fun x hx => ?_⟩, fun ⟨_, h⟩ => ⟨by unfold M.inR; omega, fun x hx => ?_⟩⟩
  · rw [← M.spread_runs l] at hx
    obtain ⟨g, h1, rfl⟩ := mem_spread _ _ hx
    exact (h ((g.1 : Int), g.2) (List.mem_map.2 ⟨g, h1, rfl⟩)).2
  · obtain ⟨g, h1, rfl⟩ := List.mem_map.1 hx
    have h2 := M.runs_len l g h1
    have h3 : M.inR (g.1 : Int) := by unfold M.inR; omega
    exact ⟨h3, h _ h2.2.2⟩
set_option maxRecDepth 100000 in
set_option maxHeartbeats 4000000 in
theorem tlocals_any (B : Nat) (w : World) (P : Nat) (out : List Nat) (v : Value) (l : List Int) (h : MTx B w P out) (hl : NS w (· < w.heap.size) v l) :
    Calls Tryz.prog 153 #[.pointer (some ⟨P, 0, none⟩), v] w (WrPost B P out (M.cLocals.ok l) (M.cLocals.wr l) w) := by
  have hg := Lib.hid (groups_any l v w hl)
  obtain ⟨A, c, rfl, f1, f2, f3⟩ := hl.form
  unfold maxLen at f3
  have hle := runs_le l
  have hcnt := Lib.hid (fun g hg => (M.runs_len l g hg).2.1 : ∀ g ∈ M.runs l, g.1 ≤ l.length)
  have hok := Lib.hid (locals_ok l)
  have hwr : M.cLocals.wr l = M.U ((M.runs l).length : Int) ++ M.wTimes cGrp (gpairs (M.runs l)) := by rw [gpairs_wr]; rfl
  rw [hwr]
  clear hl hwr
  replace h := Lib.hid h
  have hbig := Lib.hid (fun hh => hh.1 : M.cLocals.ok l → l.length ≤ 64)
  obtain ⟨gs, hgs⟩ : ∃ gs, gs = M.runs l := ⟨_, rfl⟩
  obtain ⟨C, hC⟩ : ∃ C, C = M.cLocals.ok l := ⟨_, rfl⟩
  obtain ⟨n, hn⟩ : ∃ n, n = l.length := ⟨_, rfl⟩
  unfold GrPost at hg
  rw [← hgs] at hg hle hcnt hok ⊢
  rw [← hC] at hok hbig ⊢
  rw [← hn] at hg hle hcnt hok hbig f1 f2 ⊢
  clear hgs hC hn
  obtain ⟨m, hm⟩ : ∃ m, m = gs.length := ⟨_, rfl⟩
  by_cases h64 : n ≤ 64
  · have hg' := Lib.hid (hg.out h64)
    have hok' := Lib.hid (hok.out h64)
    clear hg hok hbig
    go_enter Tryz.func153, Tryz.ntmps153
    go_wp2_with fail
    refine hg'.out.mono ?_
    rintro e1 w1 ⟨u, rfl, own, bel⟩
    obtain ⟨G, gc, rfl, g1, g2⟩ := x_form own
    unfold maxLen at g2
    have t0 := Lib.hid (h.out.later bel)
    have d0 := Lib.hid (Wro.ofBelow h.out.lt bel)
    have ga := Lib.hid (gat_of h.out bel own)
    clear own bel
    have hcnt' := Lib.hid (fun g hg => Nat.le_trans (hcnt.out g hg) h64 : ∀ g ∈ gs, g.1 ≤ 64)
    clear hcnt
    have hle64 : gs.length ≤ 64 := by omega
    go_wp2_with fail
    refine (tnumb_any B w1 P out (gs.length : Int) t0.out (by omega)).mono ?_
    rintro e2 w2 (⟨ho1, hf1, rfl, t1, b1⟩ | ⟨hn1, rfl, b1⟩)
    · replace t1 := Lib.hid t1
      have ga1 := Lib.hid (ga.out.later b1)
      replace b1 := Lib.hid b1
      go_wp2_with fail
      refine (each_group B w2 P _ G gc gs t1.out ga1.out hle64 g1 (by omega) hcnt'.out).mono ?_
      intro e3 w3 k3
      have this := Lib.hid (((WrPost.then ⟨ho1, hf1⟩ b1.out k3).pre d0.out).iff hok'.out)
      rcases k3 with ⟨_, _, rfl, _⟩ | ⟨_, rfl, _⟩
      all_goals
        go_wp2_with fail
        go_ret
        exact this.out
    · have this := Lib.hid (((WrPost.stop (B := B) (C := ∀ x ∈ gpairs gs, cGrp.ok x) (yb := M.wTimes cGrp (gpairs gs)) hn1 b1).pre d0.out).iff hok'.out)
      go_wp2_with fail
      go_ret
      exact this.out
  · have hno := Lib.hid (WrPost.no (B := B) (P := P) (out := out) (w := w) (ys := M.U (gs.length : Int) ++ M.wTimes cGrp (gpairs gs)) (C := C) (fun hh => h64 (hbig.out hh)))
    have hgt : (64 : Int) < (n : Int) := by omega
    go_enter Tryz.func153, Tryz.ntmps153
    go_wp2_with fail
    go_ret
    exact hno.out
end Go.Proofs.YtilaheifccjjeaaGreat
namespace Go.Proofs.YtilaheifccjjeaaGreat
open Go.RowKit
theorem cBody_ok (lo : List Int) (bo : M.L) : M.cBody.ok (lo, bo) ↔ (M.cLocals.ok lo ∧ M.cExpr.ok bo) ∧ (M.cLocals.wr lo ++ M.cExpr.wr bo).length < 4294967296 := Iff.rfl
theorem cBody_wr (lo : List Int) (bo : M.L) : M.cBody.wr (lo, bo) = M.U ((M.cLocals.wr lo ++ M.cExpr.wr bo).length : Int) ++ (M.cLocals.wr lo ++ M.cExpr.wr bo) := rfl
/-- What stands in the inner text is written to the outer one. -/
theorem stays_inner {B P Q : Nat} {w w2 : World} {out xs : List Nat} {u : Value} (h : MTx B w P out) (b : Below w.heap.size w w2) (hQ : w.heap.size ≤ Q) (own : w2.ownsRow Q 5 1 u xs.length (vals xs)) (hlt : ∀ b ∈ xs, b < 256) : Stays P w2 u xs :=
  Stays.of_own (h.later b) own hlt fun k hk => box_tb h b (Nat.le_trans hQ (own.lt k hk).1)
set_option maxRecDepth 100000 in
set_option maxHeartbeats 4000000 in
theorem mtbody_any (B : Nat) (w : World) (P : Nat) (out : List Nat) (ty : Int) (lo : List Int) (bo : M.L) (A1 A2 : Option Addr) (m1 c1 m2 c2 : Nat) (h : MTx B w P out) (hlo : NS w (· < B) (.slice A1 m1 c1) lo) (hbo : LS w (· < B) (.slice A2 m2 c2) bo) (hs : bo.sz ≤ 24000) :
    Calls Tryz.prog 119 #[.pointer (some ⟨P, 0, none⟩), .agg #[.int .i64 ty, .slice A1 m1 c1, .slice A2 m2 c2]] w (WrPost B P out (M.cBody.ok (lo, bo)) (M.cBody.wr (lo, bo)) w) := by
  rw [cBody_wr]
  have hiff := Lib.hid (cBody_ok lo bo)
  obtain ⟨C, hC⟩ : ∃ C, C = M.cBody.ok (lo, bo) := ⟨_, rfl⟩
  rw [← hC] at hiff ⊢
  clear hC
  obtain ⟨xs, hxs⟩ : ∃ xs, xs = M.cLocals.wr lo ++ M.cExpr.wr bo := ⟨_, rfl⟩
  rw [← hxs] at hiff ⊢
  replace hxs := Lib.hid hxs
  obtain ⟨W0, hW0⟩ : ∃ W0, W0 = w.alloc (.cells #[.int .i64 ty, .slice A1 m1 c1, .slice A2 m2 c2] 64) := ⟨_, rfl⟩
  obtain ⟨W1, hW1⟩ : ∃ W1, W1 = W0.alloc (.cells #[.slice none 0 0] 89) := ⟨_, rfl⟩
  obtain ⟨Q, hQ⟩ : ∃ Q, Q = W0.heap.size := ⟨_, rfl⟩
  have b0 : Below w.heap.size w W0 := by rw [hW0]; exact (Below.refl _ _).alloc (Nat.le_refl _) _
  have hz0 : W0.heap.size = w.heap.size + 1 := by rw [hW0]; simp
  have b1 : Below Q W0 W1 := by rw [hW1, hQ]; exact (Below.refl _ _).alloc (Nat.le_refl _) _
  have hz1 : W1.heap.size = w.heap.size + 2 := by rw [hW1]; simp [hz0]
  have b01 : Below w.heap.size w W1 := b0.trans (b1.mono (by omega))
  have hQw : Q = w.heap.size + 1 := by omega
  have q1 : W1.cell? ⟨w.heap.size, 1, none⟩ = some (.slice A1 m1 c1) := by rw [b1.cell (p := ⟨w.heap.size, 1, none⟩) (by show w.heap.size < Q; omega), hW0]; simp
  have q2 : W1.cell? ⟨w.heap.size, 2, none⟩ = some (.slice A2 m2 c2) := by rw [b1.cell (p := ⟨w.heap.size, 2, none⟩) (by show w.heap.size < Q; omega), hW0]; simp
  have ti : MTx Q W1 Q [] := ⟨⟨.slice none 0 0, by rw [hW1, hQ]; exact heap_alloc_new W0 _, World.ownsRow_nil _ _ _ _⟩, Nat.le_refl _, by simp, fun b hb => by cases hb⟩
  have l1 : NS W1 (· < W1.heap.size) (.slice A1 m1 c1) lo := hlo.agree (below_agree (b01.mono h.nn)) (fun k (hk : k < B) => by have := h.nn; show k < W1.heap.size; omega)
  have lat := Lib.hid (fun w' (b : Below Q W1 w') => LS.agree hbo (below_agree ((b01.trans (b.mono (by omega))).mono h.nn)) (fun k (hk : k < B) => by have := h.nn; have := b.size; show k < w'.heap.size; omega))
  have hmt := Lib.hid (fun w' (b : Below Q W1 w') => (b01.trans (b.mono (by omega)) : Below w.heap.size w w'))
  have hPl := h.lt
  have hloc := Lib.hid (tlocals_any Q W1 Q [] _ lo ti l1)
  replace ti := Lib.hid ti
  replace h := Lib.hid h
  have hnum := Lib.hid hQw
  replace hW0 := Lib.hid hW0
  replace hW1 := Lib.hid hW1
  replace hQ := Lib.hid hQ
  clear b0 b1 b01 hlo hbo l1 hQw
  go_enter Tryz.func119, Tryz.ntmps119
  go_upto_region 1 with fail
  rw [← hW0.out]
  go_upto_region 2 with fail
  rw [← hW1.out, ← hnum.out]
  go_wp2_with fail
  refine hloc.out.mono ?_
  rintro e1 w1 (⟨ho1, hf1, rfl, t1, d1⟩ | ⟨hn1, rfl, d1⟩)
  · have d1b := d1.below ti.out
    have cq2 := (d1b.cell (p := ⟨w.heap.size, 2, none⟩) (by have := hnum.out; show w.heap.size < Q; omega)).trans q2
    have lb := Lib.hid (lat.out w1 d1b)
    replace d1b := Lib.hid d1b
    replace t1 := Lib.hid t1
    replace d1 := Lib.hid d1
    have hh1 := Lib.hid (And.intro ho1 hf1)
    clear ho1 hf1
    replace lat := Lib.hid lat
    clear q1 q2
    go_wp2_with fail
    refine (texpr_any Q w1 Q _ bo _ t1.out lb.out hs).mono ?_
    intro e2 w2 k2
    have k12 := WrPost.then hh1.out d1.out k2
    rw [← hxs.out] at k12
    have hb2 : Below Q W1 w2 := by
      rcases k12 with ⟨_, _, _, _, b⟩ | ⟨_, _, b⟩
      · exact b.below ti.out
      · exact b.below ti.out
    have D2 := hmt.out w2 hb2
    rcases k12 with ⟨ho, hf, rfl, t2, _⟩ | ⟨hn, rfl, _⟩
    · rw [List.nil_append] at t2
      obtain ⟨⟨u, hu1, hu2⟩, _, hlen, hrng⟩ := t2
      have hcu : w2.cell? ⟨Q, 0, none⟩ = some u := by rw [cell_of_row w2 Q 0 _ _ (0, 0) hu1]; rfl
      have st := Lib.hid (stays_inner h.out D2 (by have := hnum.out; omega) hu2 hrng)
      obtain ⟨U, uc, rfl, _⟩ := x_form hu2
      have ht := Lib.hid (h.out.later D2)
      have DW := Lib.hid (Wro.ofBelow hPl D2)
      have hh2 := Lib.hid (And.intro ho hf)
      have hxl : xs.length ≤ 1000000000 := by omega
      clear hu1 hu2 hb2 D2 hrng k2 ho hf hlen
      go_wp2_with fail
      refine (tbytes_any B w2 P out xs _ ht.out st.out hxl).mono ?_
      intro e3 w3 k3
      have this := Lib.hid ((k3.pre DW.out).iff (C := C) ⟨fun _ => hiff.out.2 ⟨hh2.out.1, by omega⟩, fun _ => by unfold M.inR; omega⟩)
      rcases k3 with ⟨_, _, rfl, _⟩ | ⟨_, rfl, _⟩
      all_goals
        go_wp2_with fail
        go_ret
        exact this.out
    · have this : WrPost B P out C (M.U (xs.length : Int) ++ xs) w (.returned (.bool false)) w2 := .inr ⟨fun hh => hn ⟨(hiff.out.1 hh.1).1, by have := hh.2; rw [List.length_append] at this; simp; omega⟩, rfl, Wro.ofBelow hPl D2⟩
      replace this := Lib.hid this
      clear hb2 D2 k2
      go_wp2_with fail
      go_ret
      exact this.out
  · have D1 := hmt.out w1 (d1.below ti.out)
    have this : WrPost B P out C (M.U (xs.length : Int) ++ xs) w (.returned (.bool false)) w1 := .inr ⟨fun hh => hn1 ⟨(hiff.out.1 hh.1).1.1, by have := hh.2; have e := hxs.out; rw [List.length_append, e, List.length_append] at this; simp; omega⟩, rfl, Wro.ofBelow hPl D1⟩
    replace this := Lib.hid this
    clear D1 d1
    go_wp2_with fail
    go_ret
    exact this.out
end Go.Proofs.YtilaheifccjjeaaGreat
namespace Go.Proofs.YtilaheifccjjeaaGreat
open Go.RowKit
/-- A function's locals and body alone, whatever its type; the body is not heavy. -/
def rBd : Rep (List Int × M.L) where
  sz := 3
  is := fun w S p cs => ∃ x : M.Fn, (x.lo, x.bo) = p ∧ rFn.is w S x cs ∧ x.bo.sz ≤ 24000
  len := fun ⟨x, _, h, _⟩ => rFn.len h
  one := fun ⟨x, _, h, _⟩ => rFn.one h
  agree := fun ⟨x, e, h, h2⟩ ha hT => ⟨x, e, rFn.agree h ha hT, h2⟩
def Pre_body (_ : List Int × M.L) : Prop := True
theorem wok_body (B : Nat) (w : World) (P : Nat) (out : List Nat) (x : List Int × M.L) (cs : List Value) (h : MTx B w P out) (his : rBd.is w (· < B) x cs) (_ : Pre_body x) : Calls Tryz.prog 119 #[.pointer (some ⟨P, 0, none⟩), .agg cs.toArray] w (WrPost B P out ((M.cBody).ok x) ((M.cBody).wr x) w) := by
  obtain ⟨y, rfl, his2, hs⟩ := his
  obtain ⟨A1, c1, A2, c2, rfl, h1, h2, h3⟩ := form_fn his2
  exact mtbody_any B w P out y.ty y.lo y.bo A1 A2 _ c1 _ c2 h h2 h3 hs
set_option maxRecDepth 100000 in
set_option maxHeartbeats 4000000 in
theorem each_body (B : Nat) (w : World) (P : Nat) (out : List Nat) (v : Value) (xs : List _) (h : MTx B w P out) (hl : Lst rBd w (· < B) v xs) (hpre : ∀ x ∈ xs, Pre_body x) :
    Calls Tryz.prog 181 #[.pointer (some ⟨P, 0, none⟩), v, .func (.func 119) #[] #[]] w (WrPost B P out (∀ x ∈ xs, (M.cBody).ok x) (M.wTimes M.cBody xs) w) := by
  obtain ⟨A, c, rfl, hn, hc, hm⟩ := hl.form
  unfold maxLen at hm
  replace hl := Lib.hid hl
  replace hpre := Lib.hid hpre
  have rel0 := Lib.hid (ERel.start (c := M.cBody) (n := xs.length) (xs := xs) h)
  replace h := Lib.hid h
  obtain ⟨n, hN⟩ : ∃ n, n = xs.length := ⟨_, rfl⟩
  rw [← hN] at hl hn hc rel0 ⊢
  replace hN := Lib.hid hN
  go_enter Tryz.func181, Tryz.ntmps181
  go_wp2_with fail
  go_loopw [11] (fun i w' => ∃ k : Nat, ERel M.cBody B P n out xs w i w' k) (fun i _ => n - (intOf i).toNat)
  case atStart => exact ⟨0, rel0.out⟩
  case round =>
    clear rel0
    obtain ⟨j, E⟩ := hrel
    have hi := E.hi
    have hk := E.hk
    subst hi
    have bel := E.b.below h.out
    by_cases hjn : j < n
    · obtain ⟨x, hx⟩ : ∃ x, xs[j]? = some x := ⟨_, List.getElem?_eq_getElem (by rw [← hN.out]; exact hjn)⟩
      obtain ⟨g, o, cs, rfl, hgB, his, hcs⟩ := hl.out.nth hx
      have his0 := Lib.hid his
      obtain ⟨y, hyx, his2, hw24⟩ := his
      obtain ⟨A1, c1, A2, c2, rfl, _⟩ := form_fn his2
      replace hyx := Lib.hid hyx
      replace his := his0.out
      clear his0
      have xc0 : wr.cell? ⟨g, o + j * 3, none⟩ = some (.int .i64 y.ty) := (bel.cell (p := ⟨g, _, none⟩) hgB).trans (hcs 0 _ rfl)
      have xc1 : wr.cell? ⟨g, o + j * 3 + 1, none⟩ = some (.slice A1 y.lo.length c1) := (bel.cell (p := ⟨g, _, none⟩) hgB).trans (hcs 1 _ rfl)
      have xc2 : wr.cell? ⟨g, o + j * 3 + 2, none⟩ = some (.slice A2 y.bo.len c2) := (bel.cell (p := ⟨g, _, none⟩) hgB).trans (hcs 2 _ rfl)
      have his' := Lib.hid (rBd.agree his (below_agree bel) (fun _ hk => hk))
      have t0 : (0 : Int) ≤ (j : Int) := by omega
      have t1 : (j : Int) < (n : Int) := by omega
      obtain ⟨W1, hW1⟩ : ∃ W1, W1 = wr.alloc (.cells #[.int .i64 y.ty, .slice A1 y.lo.length c1, .slice A2 y.bo.len c2] 64) := ⟨_, rfl⟩
      replace hW1 := Lib.hid hW1
      have b1 : Below wr.heap.size wr W1 := by rw [hW1.out]; exact (Below.refl _ _).alloc (Nat.le_refl _) _
      have E1 := Lib.hid (E.t.later b1)
      have d1 := Lib.hid (Wro.ofBelow E.t.lt b1)
      have is1 := Lib.hid (rBd.agree his'.out (below_agree (b1.mono E.t.nn)) (fun _ hk => hk))
      have hx' := Lib.hid hx
      have hp := Lib.hid (hpre.out x (List.mem_of_getElem? hx))
      replace E := Lib.hid E
      clear hx his hcs bel b1
      go_upto_region 4 with fail
      rw [← hW1.out]
      have hsz : W1.heap.size = wr.heap.size + 1 := by rw [hW1.out]; simp
      have yc0 : W1.cell? ⟨wr.heap.size, 0, none⟩ = some (.int .i64 y.ty) := by rw [hW1.out]; simp
      have yc1 : W1.cell? ⟨wr.heap.size, 1, none⟩ = some (.slice A1 y.lo.length c1) := by rw [hW1.out]; simp
      have yc2 : W1.cell? ⟨wr.heap.size, 2, none⟩ = some (.slice A2 y.bo.len c2) := by rw [hW1.out]; simp
      go_wp2_with fail
      refine (wok_body B W1 P _ x [.int .i64 y.ty, .slice A1 y.lo.length c1, .slice A2 y.bo.len c2] E1.out is1.out hp.out).mono ?_
      rintro e2 w2 (⟨ho, hf, rfl, t2, b2⟩ | ⟨hno, rfl, b2⟩)
      · have E2 := Lib.hid (E.out.step hjn hx'.out ho t2 (d1.out.trans b2))
        clear b2 t2
        go_wp2_with fail
        exact ⟨⟨j + 1, E2.out⟩, by simp [intOf]; omega⟩
      · have E2 := Lib.hid (E.out.no hx'.out hno (d1.out.trans b2))
        clear b2
        go_wp2_with fail
        go_ret
        exact E2.out
    · obtain rfl : j = n := by omega
      rw [hN.out] at E
      have E2 := Lib.hid E.done
      clear E bel
      go_wp2_with fail
      go_ret
      exact E2.out
set_option maxRecDepth 100000 in
set_option maxHeartbeats 1000000 in
theorem list_w_body (B : Nat) (w : World) (P : Nat) (out : List Nat) (v : Value) (xs : List _) (h : MTx B w P out) (hl : Lst rBd w (· < B) v xs) (hpre : ∀ x ∈ xs, Pre_body x) :
    Calls Tryz.prog 146 #[.pointer (some ⟨P, 0, none⟩), v, .func (.func 119) #[] #[]] w (WrPost B P out ((M.vec M.cBody).ok xs) ((M.vec M.cBody).wr xs) w) := by
  rw [vec_ok, vec_wr]
  obtain ⟨A, c, rfl, hn, hc, hm⟩ := hl.form
  unfold maxLen at hm
  have hlB := Lib.hid (fun w' (b : Wro P w w') => hl.agree (below_agree (b.below h)) (fun _ hk => hk))
  have hpre' := Lib.hid hpre
  replace h := Lib.hid h
  clear hl hpre
  obtain ⟨n, hN⟩ : ∃ n, n = xs.length := ⟨_, rfl⟩
  rw [← hN] at hlB hn hc ⊢
  clear hN
  by_cases h128 : n ≤ 128
  · have hR : M.inR (n : Int) := ⟨by omega, by omega⟩
    replace hR := Lib.hid hR
    go_enter Tryz.func146, Tryz.ntmps146
    go_wp2_with fail
    refine (tnumb_any B w P out n h.out (by omega)).mono ?_
    rintro e1 w1 (⟨_, hf, rfl, t1, b1⟩ | ⟨hno, rfl, b1⟩)
    · replace t1 := Lib.hid t1
      have l1 := Lib.hid (hlB.out w1 b1)
      replace b1 := Lib.hid b1
      go_wp2_with fail
      refine (each_body B w1 P _ _ xs t1.out l1.out hpre'.out).mono ?_
      intro e2 w2 k2
      have this := Lib.hid ((WrPost.then ⟨hR.out, hf⟩ b1.out k2).iff (C := n ≤ 128 ∧ ∀ x ∈ xs, (M.cBody).ok x) ⟨fun hh => ⟨h128, hh.2⟩, fun hh => ⟨hR.out, hh.2⟩⟩)
      rcases k2 with ⟨_, _, rfl, _⟩ | ⟨_, rfl, _⟩
      all_goals
        go_wp2_with fail
        go_ret
        exact this.out
    · have this := Lib.hid ((WrPost.stop (B := B) (C := ∀ x ∈ xs, (M.cBody).ok x) (yb := M.wTimes M.cBody xs) hno b1).iff (C := n ≤ 128 ∧ ∀ x ∈ xs, (M.cBody).ok x) ⟨fun hh => ⟨h128, hh.2⟩, fun hh => ⟨hR.out, hh.2⟩⟩)
      go_wp2_with fail
      go_ret
      exact this.out
  · have hno := Lib.hid (WrPost.no (B := B) (P := P) (out := out) (w := w) (ys := M.U (n : Int) ++ M.wTimes M.cBody xs) (C := n ≤ 128 ∧ ∀ x ∈ xs, (M.cBody).ok x) (fun hh => h128 hh.1))
    have hgt : (128 : Int) < (n : Int) := by omega
    go_enter Tryz.func146, Tryz.ntmps146
    go_wp2_with fail
    go_ret
    exact hno.out
end Go.Proofs.YtilaheifccjjeaaGreat
namespace Go.Proofs.YtilaheifccjjeaaGreat
open Go.RowKit
def wSome {α : Type} (c : M.Codec α) : List α → List Nat
  | [] => []
  | x :: r => (M.vec c).wr (x :: r)
theorem wSome_ne {α : Type} {c : M.Codec α} {xs : List α} (h : xs ≠ []) : wSome c xs = (M.vec c).wr xs := by
  cases xs with
  | nil => exact absurd rfl h
  | cons x r => rfl
theorem WrPost.empty {α : Type} (c : M.Codec α) {B P : Nat} {w : World} {out : List Nat} (h : MTx B w P out) : WrPost B P out ((M.vec c).ok []) (wSome c []) w (.returned (.bool true)) w :=
  .inl ⟨by rw [vec_ok]; exact ⟨by simp, fun x hx => by cases hx⟩, by have := h.len; simpa [wSome] using this, rfl, by simpa [wSome] using h, Wro.refl _ _⟩
set_option maxRecDepth 100000 in
set_option maxHeartbeats 1000000 in
theorem some_w_ft (B : Nat) (w : World) (P : Nat) (out : List Nat) (v : Value) (xs : List _) (h : MTx B w P out) (hl : Lst rFT w (· < B) v xs) (hpre : ∀ x ∈ xs, Pre_ft x) :
    Calls Tryz.prog 104 #[.pointer (some ⟨P, 0, none⟩), v, .func (.func 105) #[] #[]] w (WrPost B P out ((M.vec M.cFT).ok xs) (wSome M.cFT xs) w) := by
  obtain ⟨A, c, rfl, hn, hc, hm⟩ := hl.form
  unfold maxLen at hm
  by_cases hx : xs = []
  · subst hx
    have hyes := Lib.hid (WrPost.empty M.cFT h)
    clear hl hpre h
    simp only [List.length_nil]
    go_enter Tryz.func104, Tryz.ntmps104
    go_wp2_with fail
    go_ret
    exact hyes.out
  · have hlen : 1 ≤ xs.length := List.length_pos_iff.2 hx
    rw [wSome_ne hx]
    have hk := Lib.hid (list_w_ft B w P out _ xs h hl hpre)
    clear hl hpre h hx
    obtain ⟨n, hN⟩ : ∃ n, n = xs.length := ⟨_, rfl⟩
    rw [← hN] at hlen hn hc hk
    rw [← hN]
    clear hN
    have hne : ((n : Int) == 0) = false := by simp; omega
    go_enter Tryz.func104, Tryz.ntmps104
    go_wp2_with fail
    refine hk.out.mono ?_
    intro e1 w1 k1
    have this := Lib.hid k1
    rcases k1 with ⟨_, _, rfl, _⟩ | ⟨_, rfl, _⟩
    all_goals
      go_wp2_with fail
      go_ret
      exact this.out
set_option maxRecDepth 100000 in
set_option maxHeartbeats 1000000 in
theorem some_w_imp (B : Nat) (w : World) (P : Nat) (out : List Nat) (v : Value) (xs : List _) (h : MTx B w P out) (hl : Lst rImp w (· < B) v xs) (hpre : ∀ x ∈ xs, Pre_imp x) :
    Calls Tryz.prog 106 #[.pointer (some ⟨P, 0, none⟩), v, .func (.func 107) #[] #[]] w (WrPost B P out ((M.vec M.cImp).ok xs) (wSome M.cImp xs) w) := by
  obtain ⟨A, c, rfl, hn, hc, hm⟩ := hl.form
  unfold maxLen at hm
  by_cases hx : xs = []
  · subst hx
    have hyes := Lib.hid (WrPost.empty M.cImp h)
    clear hl hpre h
    simp only [List.length_nil]
    go_enter Tryz.func106, Tryz.ntmps106
    go_wp2_with fail
    go_ret
    exact hyes.out
  · have hlen : 1 ≤ xs.length := List.length_pos_iff.2 hx
    rw [wSome_ne hx]
    have hk := Lib.hid (list_w_imp B w P out _ xs h hl hpre)
    clear hl hpre h hx
    obtain ⟨n, hN⟩ : ∃ n, n = xs.length := ⟨_, rfl⟩
    rw [← hN] at hlen hn hc hk
    rw [← hN]
    clear hN
    have hne : ((n : Int) == 0) = false := by simp; omega
    go_enter Tryz.func106, Tryz.ntmps106
    go_wp2_with fail
    refine hk.out.mono ?_
    intro e1 w1 k1
    have this := Lib.hid k1
    rcases k1 with ⟨_, _, rfl, _⟩ | ⟨_, rfl, _⟩
    all_goals
      go_wp2_with fail
      go_ret
      exact this.out
set_option maxRecDepth 100000 in
set_option maxHeartbeats 1000000 in
theorem some_w_head (B : Nat) (w : World) (P : Nat) (out : List Nat) (v : Value) (xs : List _) (h : MTx B w P out) (hl : Lst rHd w (· < B) v xs) (hpre : ∀ x ∈ xs, Pre_head x) :
    Calls Tryz.prog 108 #[.pointer (some ⟨P, 0, none⟩), v, .func (.func 109) #[] #[]] w (WrPost B P out ((M.vec M.cNum).ok xs) (wSome M.cNum xs) w) := by
  obtain ⟨A, c, rfl, hn, hc, hm⟩ := hl.form
  unfold maxLen at hm
  by_cases hx : xs = []
  · subst hx
    have hyes := Lib.hid (WrPost.empty M.cNum h)
    clear hl hpre h
    simp only [List.length_nil]
    go_enter Tryz.func108, Tryz.ntmps108
    go_wp2_with fail
    go_ret
    exact hyes.out
  · have hlen : 1 ≤ xs.length := List.length_pos_iff.2 hx
    rw [wSome_ne hx]
    have hk := Lib.hid (list_w_head B w P out _ xs h hl hpre)
    clear hl hpre h hx
    obtain ⟨n, hN⟩ : ∃ n, n = xs.length := ⟨_, rfl⟩
    rw [← hN] at hlen hn hc hk
    rw [← hN]
    clear hN
    have hne : ((n : Int) == 0) = false := by simp; omega
    go_enter Tryz.func108, Tryz.ntmps108
    go_wp2_with fail
    refine hk.out.mono ?_
    intro e1 w1 k1
    have this := Lib.hid k1
    rcases k1 with ⟨_, _, rfl, _⟩ | ⟨_, rfl, _⟩
    all_goals
      go_wp2_with fail
      go_ret
      exact this.out
set_option maxRecDepth 100000 in
set_option maxHeartbeats 1000000 in
theorem some_w_tab (B : Nat) (w : World) (P : Nat) (out : List Nat) (v : Value) (xs : List _) (h : MTx B w P out) (hl : Lst rLim w (· < B) v xs) (hpre : ∀ x ∈ xs, Pre_tab x) :
    Calls Tryz.prog 110 #[.pointer (some ⟨P, 0, none⟩), v, .func (.func 111) #[] #[]] w (WrPost B P out ((M.vec M.cTab).ok xs) (wSome M.cTab xs) w) := by
  obtain ⟨A, c, rfl, hn, hc, hm⟩ := hl.form
  unfold maxLen at hm
  by_cases hx : xs = []
  · subst hx
    have hyes := Lib.hid (WrPost.empty M.cTab h)
    clear hl hpre h
    simp only [List.length_nil]
    go_enter Tryz.func110, Tryz.ntmps110
    go_wp2_with fail
    go_ret
    exact hyes.out
  · have hlen : 1 ≤ xs.length := List.length_pos_iff.2 hx
    rw [wSome_ne hx]
    have hk := Lib.hid (list_w_tab B w P out _ xs h hl hpre)
    clear hl hpre h hx
    obtain ⟨n, hN⟩ : ∃ n, n = xs.length := ⟨_, rfl⟩
    rw [← hN] at hlen hn hc hk
    rw [← hN]
    clear hN
    have hne : ((n : Int) == 0) = false := by simp; omega
    go_enter Tryz.func110, Tryz.ntmps110
    go_wp2_with fail
    refine hk.out.mono ?_
    intro e1 w1 k1
    have this := Lib.hid k1
    rcases k1 with ⟨_, _, rfl, _⟩ | ⟨_, rfl, _⟩
    all_goals
      go_wp2_with fail
      go_ret
      exact this.out
set_option maxRecDepth 100000 in
set_option maxHeartbeats 1000000 in
theorem some_w_lim (B : Nat) (w : World) (P : Nat) (out : List Nat) (v : Value) (xs : List _) (h : MTx B w P out) (hl : Lst rLim w (· < B) v xs) (hpre : ∀ x ∈ xs, Pre_lim x) :
    Calls Tryz.prog 110 #[.pointer (some ⟨P, 0, none⟩), v, .func (.func 112) #[] #[]] w (WrPost B P out ((M.vec M.cLim).ok xs) (wSome M.cLim xs) w) := by
  obtain ⟨A, c, rfl, hn, hc, hm⟩ := hl.form
  unfold maxLen at hm
  by_cases hx : xs = []
  · subst hx
    have hyes := Lib.hid (WrPost.empty M.cLim h)
    clear hl hpre h
    simp only [List.length_nil]
    go_enter Tryz.func110, Tryz.ntmps110
    go_wp2_with fail
    go_ret
    exact hyes.out
  · have hlen : 1 ≤ xs.length := List.length_pos_iff.2 hx
    rw [wSome_ne hx]
    have hk := Lib.hid (list_w_lim B w P out _ xs h hl hpre)
    clear hl hpre h hx
    obtain ⟨n, hN⟩ : ∃ n, n = xs.length := ⟨_, rfl⟩
    rw [← hN] at hlen hn hc hk
    rw [← hN]
    clear hN
    have hne : ((n : Int) == 0) = false := by simp; omega
    go_enter Tryz.func110, Tryz.ntmps110
    go_wp2_with fail
    refine hk.out.mono ?_
    intro e1 w1 k1
    have this := Lib.hid k1
    rcases k1 with ⟨_, _, rfl, _⟩ | ⟨_, rfl, _⟩
    all_goals
      go_wp2_with fail
      go_ret
      exact this.out
set_option maxRecDepth 100000 in
set_option maxHeartbeats 1000000 in
theorem some_w_glo (B : Nat) (w : World) (P : Nat) (out : List Nat) (v : Value) (xs : List _) (h : MTx B w P out) (hl : Lst rGlo w (· < B) v xs) (hpre : ∀ x ∈ xs, Pre_glo x) :
    Calls Tryz.prog 113 #[.pointer (some ⟨P, 0, none⟩), v, .func (.func 114) #[] #[]] w (WrPost B P out ((M.vec M.cGlo).ok xs) (wSome M.cGlo xs) w) := by
  obtain ⟨A, c, rfl, hn, hc, hm⟩ := hl.form
  unfold maxLen at hm
  by_cases hx : xs = []
  · subst hx
    have hyes := Lib.hid (WrPost.empty M.cGlo h)
    clear hl hpre h
    simp only [List.length_nil]
    go_enter Tryz.func113, Tryz.ntmps113
    go_wp2_with fail
    go_ret
    exact hyes.out
  · have hlen : 1 ≤ xs.length := List.length_pos_iff.2 hx
    rw [wSome_ne hx]
    have hk := Lib.hid (list_w_glo B w P out _ xs h hl hpre)
    clear hl hpre h hx
    obtain ⟨n, hN⟩ : ∃ n, n = xs.length := ⟨_, rfl⟩
    rw [← hN] at hlen hn hc hk
    rw [← hN]
    clear hN
    have hne : ((n : Int) == 0) = false := by simp; omega
    go_enter Tryz.func113, Tryz.ntmps113
    go_wp2_with fail
    refine hk.out.mono ?_
    intro e1 w1 k1
    have this := Lib.hid k1
    rcases k1 with ⟨_, _, rfl, _⟩ | ⟨_, rfl, _⟩
    all_goals
      go_wp2_with fail
      go_ret
      exact this.out
set_option maxRecDepth 100000 in
set_option maxHeartbeats 1000000 in
theorem some_w_exp (B : Nat) (w : World) (P : Nat) (out : List Nat) (v : Value) (xs : List _) (h : MTx B w P out) (hl : Lst rExp w (· < B) v xs) (hpre : ∀ x ∈ xs, Pre_exp x) :
    Calls Tryz.prog 115 #[.pointer (some ⟨P, 0, none⟩), v, .func (.func 116) #[] #[]] w (WrPost B P out ((M.vec M.cExp).ok xs) (wSome M.cExp xs) w) := by
  obtain ⟨A, c, rfl, hn, hc, hm⟩ := hl.form
  unfold maxLen at hm
  by_cases hx : xs = []
  · subst hx
    have hyes := Lib.hid (WrPost.empty M.cExp h)
    clear hl hpre h
    simp only [List.length_nil]
    go_enter Tryz.func115, Tryz.ntmps115
    go_wp2_with fail
    go_ret
    exact hyes.out
  · have hlen : 1 ≤ xs.length := List.length_pos_iff.2 hx
    rw [wSome_ne hx]
    have hk := Lib.hid (list_w_exp B w P out _ xs h hl hpre)
    clear hl hpre h hx
    obtain ⟨n, hN⟩ : ∃ n, n = xs.length := ⟨_, rfl⟩
    rw [← hN] at hlen hn hc hk
    rw [← hN]
    clear hN
    have hne : ((n : Int) == 0) = false := by simp; omega
    go_enter Tryz.func115, Tryz.ntmps115
    go_wp2_with fail
    refine hk.out.mono ?_
    intro e1 w1 k1
    have this := Lib.hid k1
    rcases k1 with ⟨_, _, rfl, _⟩ | ⟨_, rfl, _⟩
    all_goals
      go_wp2_with fail
      go_ret
      exact this.out
set_option maxRecDepth 100000 in
set_option maxHeartbeats 1000000 in
theorem some_w_elm (B : Nat) (w : World) (P : Nat) (out : List Nat) (v : Value) (xs : List _) (h : MTx B w P out) (hl : Lst rElm w (· < B) v xs) (hpre : ∀ x ∈ xs, Pre_elm x) :
    Calls Tryz.prog 117 #[.pointer (some ⟨P, 0, none⟩), v, .func (.func 118) #[] #[]] w (WrPost B P out ((M.vec M.cElm).ok xs) (wSome M.cElm xs) w) := by
  obtain ⟨A, c, rfl, hn, hc, hm⟩ := hl.form
  unfold maxLen at hm
  by_cases hx : xs = []
  · subst hx
    have hyes := Lib.hid (WrPost.empty M.cElm h)
    clear hl hpre h
    simp only [List.length_nil]
    go_enter Tryz.func117, Tryz.ntmps117
    go_wp2_with fail
    go_ret
    exact hyes.out
  · have hlen : 1 ≤ xs.length := List.length_pos_iff.2 hx
    rw [wSome_ne hx]
    have hk := Lib.hid (list_w_elm B w P out _ xs h hl hpre)
    clear hl hpre h hx
    obtain ⟨n, hN⟩ : ∃ n, n = xs.length := ⟨_, rfl⟩
    rw [← hN] at hlen hn hc hk
    rw [← hN]
    clear hN
    have hne : ((n : Int) == 0) = false := by simp; omega
    go_enter Tryz.func117, Tryz.ntmps117
    go_wp2_with fail
    refine hk.out.mono ?_
    intro e1 w1 k1
    have this := Lib.hid k1
    rcases k1 with ⟨_, _, rfl, _⟩ | ⟨_, rfl, _⟩
    all_goals
      go_wp2_with fail
      go_ret
      exact this.out
set_option maxRecDepth 100000 in
set_option maxHeartbeats 1000000 in
theorem some_w_body (B : Nat) (w : World) (P : Nat) (out : List Nat) (v : Value) (xs : List _) (h : MTx B w P out) (hl : Lst rBd w (· < B) v xs) (hpre : ∀ x ∈ xs, Pre_body x) :
    Calls Tryz.prog 108 #[.pointer (some ⟨P, 0, none⟩), v, .func (.func 119) #[] #[]] w (WrPost B P out ((M.vec M.cBody).ok xs) (wSome M.cBody xs) w) := by
  obtain ⟨A, c, rfl, hn, hc, hm⟩ := hl.form
  unfold maxLen at hm
  by_cases hx : xs = []
  · subst hx
    have hyes := Lib.hid (WrPost.empty M.cBody h)
    clear hl hpre h
    simp only [List.length_nil]
    go_enter Tryz.func108, Tryz.ntmps108
    go_wp2_with fail
    go_ret
    exact hyes.out
  · have hlen : 1 ≤ xs.length := List.length_pos_iff.2 hx
    rw [wSome_ne hx]
    have hk := Lib.hid (list_w_body B w P out _ xs h hl hpre)
    clear hl hpre h hx
    obtain ⟨n, hN⟩ : ∃ n, n = xs.length := ⟨_, rfl⟩
    rw [← hN] at hlen hn hc hk
    rw [← hN]
    clear hN
    have hne : ((n : Int) == 0) = false := by simp; omega
    go_enter Tryz.func108, Tryz.ntmps108
    go_wp2_with fail
    refine hk.out.mono ?_
    intro e1 w1 k1
    have this := Lib.hid k1
    rcases k1 with ⟨_, _, rfl, _⟩ | ⟨_, rfl, _⟩
    all_goals
      go_wp2_with fail
      go_ret
      exact this.out
set_option maxRecDepth 100000 in
set_option maxHeartbeats 1000000 in
theorem some_w_dat (B : Nat) (w : World) (P : Nat) (out : List Nat) (v : Value) (xs : List _) (h : MTx B w P out) (hl : Lst rDat w (· < B) v xs) (hpre : ∀ x ∈ xs, Pre_dat x) :
    Calls Tryz.prog 120 #[.pointer (some ⟨P, 0, none⟩), v, .func (.func 121) #[] #[]] w (WrPost B P out ((M.vec M.cDat).ok xs) (wSome M.cDat xs) w) := by
  obtain ⟨A, c, rfl, hn, hc, hm⟩ := hl.form
  unfold maxLen at hm
  by_cases hx : xs = []
  · subst hx
    have hyes := Lib.hid (WrPost.empty M.cDat h)
    clear hl hpre h
    simp only [List.length_nil]
    go_enter Tryz.func120, Tryz.ntmps120
    go_wp2_with fail
    go_ret
    exact hyes.out
  · have hlen : 1 ≤ xs.length := List.length_pos_iff.2 hx
    rw [wSome_ne hx]
    have hk := Lib.hid (list_w_dat B w P out _ xs h hl hpre)
    clear hl hpre h hx
    obtain ⟨n, hN⟩ : ∃ n, n = xs.length := ⟨_, rfl⟩
    rw [← hN] at hlen hn hc hk
    rw [← hN]
    clear hN
    have hne : ((n : Int) == 0) = false := by simp; omega
    go_enter Tryz.func120, Tryz.ntmps120
    go_wp2_with fail
    refine hk.out.mono ?_
    intro e1 w1 k1
    have this := Lib.hid k1
    rcases k1 with ⟨_, _, rfl, _⟩ | ⟨_, rfl, _⟩
    all_goals
      go_wp2_with fail
      go_ret
      exact this.out
end Go.Proofs.YtilaheifccjjeaaGreat
namespace Go.Proofs.YtilaheifccjjeaaGreat
open Go.RowKit
def wStart (x : Int) : List Nat := if x = -1 then [] else M.U x
set_option maxRecDepth 100000 in
set_option maxHeartbeats 1000000 in
theorem sec_start (B : Nat) (w : World) (P : Nat) (out : List Nat) (D : Nat) (x : Int) (h : MTx B w P out) (hv : w.cell? ⟨D, 7, none⟩ = some (.int .i64 x)) (hx : -9223372036854775808 ≤ x ∧ x ≤ 9223372036854775807) :
    Calls Tryz.prog 88 #[.pointer (some ⟨P, 0, none⟩), .pointer (some ⟨D, 0, none⟩)] w (WrPost B P out (x = -1 ∨ M.inR x) (wStart x) w) := by
  by_cases hm : x = -1
  · subst hm
    have hyes : WrPost B P out ((-1 : Int) = -1 ∨ M.inR (-1)) (wStart (-1)) w (.returned (.bool true)) w := .inl ⟨.inl rfl, by have := h.len; simpa [wStart] using this, rfl, by simpa [wStart] using h, Wro.refl _ _⟩
    replace hyes := Lib.hid hyes
    clear h
    go_enter Tryz.func88, Tryz.ntmps88
    go_wp2_with fail
    go_ret
    exact hyes.out.iff ⟨fun _ => trivial, fun _ => .inl trivial⟩
  · have hk := Lib.hid (tnumb_any B w P out x h hx)
    have hw : wStart x = M.U x := by unfold wStart; rw [if_neg hm]
    rw [hw]
    clear h hw
    have hmb : (x == -1) = false := by rw [beq_eq_false_iff_ne]; exact hm
    have hm' := Lib.hid hm
    go_enter Tryz.func88, Tryz.ntmps88
    go_wp2_with fail
    refine hk.out.mono ?_
    intro e1 w1 k1
    have this := Lib.hid (k1.iff (C := x = -1 ∨ M.inR x) ⟨fun hh => .inr hh, fun hh => hh.resolve_left hm'.out⟩)
    rcases k1 with ⟨_, _, rfl, _⟩ | ⟨_, rfl, _⟩
    all_goals
      go_wp2_with fail
      go_ret
      exact this.out
set_option maxRecDepth 100000 in
set_option maxHeartbeats 1000000 in
theorem sec_types (B : Nat) (w : World) (P : Nat) (out : List Nat) (D : Nat) (v : Value) (xs : List _) (h : MTx B w P out) (hv : w.cell? ⟨D, 0, none⟩ = some v) (hl : Lst rFT w (· < B) v xs) (hpre : ∀ x ∈ xs, Pre_ft x) :
    Calls Tryz.prog 81 #[.pointer (some ⟨P, 0, none⟩), .pointer (some ⟨D, 0, none⟩)] w (WrPost B P out ((M.vec M.cFT).ok xs) (wSome M.cFT xs) w) := by
  have hk := Lib.hid (some_w_ft B w P out v xs h hl hpre)
  obtain ⟨A, c, rfl, _⟩ := hl.form
  clear hl hpre h
  go_enter Tryz.func81, Tryz.ntmps81
  go_wp2_with fail
  refine hk.out.mono ?_
  intro e1 w1 k1
  have this := Lib.hid k1
  rcases k1 with ⟨_, _, rfl, _⟩ | ⟨_, rfl, _⟩
  all_goals
    go_wp2_with fail
    go_ret
    exact this.out
set_option maxRecDepth 100000 in
set_option maxHeartbeats 1000000 in
theorem sec_imports (B : Nat) (w : World) (P : Nat) (out : List Nat) (D : Nat) (v : Value) (xs : List _) (h : MTx B w P out) (hv : w.cell? ⟨D, 1, none⟩ = some v) (hl : Lst rImp w (· < B) v xs) (hpre : ∀ x ∈ xs, Pre_imp x) :
    Calls Tryz.prog 82 #[.pointer (some ⟨P, 0, none⟩), .pointer (some ⟨D, 0, none⟩)] w (WrPost B P out ((M.vec M.cImp).ok xs) (wSome M.cImp xs) w) := by
  have hk := Lib.hid (some_w_imp B w P out v xs h hl hpre)
  obtain ⟨A, c, rfl, _⟩ := hl.form
  clear hl hpre h
  go_enter Tryz.func82, Tryz.ntmps82
  go_wp2_with fail
  refine hk.out.mono ?_
  intro e1 w1 k1
  have this := Lib.hid k1
  rcases k1 with ⟨_, _, rfl, _⟩ | ⟨_, rfl, _⟩
  all_goals
    go_wp2_with fail
    go_ret
    exact this.out
set_option maxRecDepth 100000 in
set_option maxHeartbeats 1000000 in
theorem sec_funcHeads (B : Nat) (w : World) (P : Nat) (out : List Nat) (D : Nat) (v : Value) (xs : List _) (h : MTx B w P out) (hv : w.cell? ⟨D, 2, none⟩ = some v) (hl : Lst rHd w (· < B) v xs) (hpre : ∀ x ∈ xs, Pre_head x) :
    Calls Tryz.prog 83 #[.pointer (some ⟨P, 0, none⟩), .pointer (some ⟨D, 0, none⟩)] w (WrPost B P out ((M.vec M.cNum).ok xs) (wSome M.cNum xs) w) := by
  have hk := Lib.hid (some_w_head B w P out v xs h hl hpre)
  obtain ⟨A, c, rfl, _⟩ := hl.form
  clear hl hpre h
  go_enter Tryz.func83, Tryz.ntmps83
  go_wp2_with fail
  refine hk.out.mono ?_
  intro e1 w1 k1
  have this := Lib.hid k1
  rcases k1 with ⟨_, _, rfl, _⟩ | ⟨_, rfl, _⟩
  all_goals
    go_wp2_with fail
    go_ret
    exact this.out
set_option maxRecDepth 100000 in
set_option maxHeartbeats 1000000 in
theorem sec_tables (B : Nat) (w : World) (P : Nat) (out : List Nat) (D : Nat) (v : Value) (xs : List _) (h : MTx B w P out) (hv : w.cell? ⟨D, 3, none⟩ = some v) (hl : Lst rLim w (· < B) v xs) (hpre : ∀ x ∈ xs, Pre_tab x) :
    Calls Tryz.prog 84 #[.pointer (some ⟨P, 0, none⟩), .pointer (some ⟨D, 0, none⟩)] w (WrPost B P out ((M.vec M.cTab).ok xs) (wSome M.cTab xs) w) := by
  have hk := Lib.hid (some_w_tab B w P out v xs h hl hpre)
  obtain ⟨A, c, rfl, _⟩ := hl.form
  clear hl hpre h
  go_enter Tryz.func84, Tryz.ntmps84
  go_wp2_with fail
  refine hk.out.mono ?_
  intro e1 w1 k1
  have this := Lib.hid k1
  rcases k1 with ⟨_, _, rfl, _⟩ | ⟨_, rfl, _⟩
  all_goals
    go_wp2_with fail
    go_ret
    exact this.out
set_option maxRecDepth 100000 in
set_option maxHeartbeats 1000000 in
theorem sec_memories (B : Nat) (w : World) (P : Nat) (out : List Nat) (D : Nat) (v : Value) (xs : List _) (h : MTx B w P out) (hv : w.cell? ⟨D, 4, none⟩ = some v) (hl : Lst rLim w (· < B) v xs) (hpre : ∀ x ∈ xs, Pre_lim x) :
    Calls Tryz.prog 85 #[.pointer (some ⟨P, 0, none⟩), .pointer (some ⟨D, 0, none⟩)] w (WrPost B P out ((M.vec M.cLim).ok xs) (wSome M.cLim xs) w) := by
  have hk := Lib.hid (some_w_lim B w P out v xs h hl hpre)
  obtain ⟨A, c, rfl, _⟩ := hl.form
  clear hl hpre h
  go_enter Tryz.func85, Tryz.ntmps85
  go_wp2_with fail
  refine hk.out.mono ?_
  intro e1 w1 k1
  have this := Lib.hid k1
  rcases k1 with ⟨_, _, rfl, _⟩ | ⟨_, rfl, _⟩
  all_goals
    go_wp2_with fail
    go_ret
    exact this.out
set_option maxRecDepth 100000 in
set_option maxHeartbeats 1000000 in
theorem sec_globals (B : Nat) (w : World) (P : Nat) (out : List Nat) (D : Nat) (v : Value) (xs : List _) (h : MTx B w P out) (hv : w.cell? ⟨D, 5, none⟩ = some v) (hl : Lst rGlo w (· < B) v xs) (hpre : ∀ x ∈ xs, Pre_glo x) :
    Calls Tryz.prog 86 #[.pointer (some ⟨P, 0, none⟩), .pointer (some ⟨D, 0, none⟩)] w (WrPost B P out ((M.vec M.cGlo).ok xs) (wSome M.cGlo xs) w) := by
  have hk := Lib.hid (some_w_glo B w P out v xs h hl hpre)
  obtain ⟨A, c, rfl, _⟩ := hl.form
  clear hl hpre h
  go_enter Tryz.func86, Tryz.ntmps86
  go_wp2_with fail
  refine hk.out.mono ?_
  intro e1 w1 k1
  have this := Lib.hid k1
  rcases k1 with ⟨_, _, rfl, _⟩ | ⟨_, rfl, _⟩
  all_goals
    go_wp2_with fail
    go_ret
    exact this.out
set_option maxRecDepth 100000 in
set_option maxHeartbeats 1000000 in
theorem sec_exports (B : Nat) (w : World) (P : Nat) (out : List Nat) (D : Nat) (v : Value) (xs : List _) (h : MTx B w P out) (hv : w.cell? ⟨D, 6, none⟩ = some v) (hl : Lst rExp w (· < B) v xs) (hpre : ∀ x ∈ xs, Pre_exp x) :
    Calls Tryz.prog 87 #[.pointer (some ⟨P, 0, none⟩), .pointer (some ⟨D, 0, none⟩)] w (WrPost B P out ((M.vec M.cExp).ok xs) (wSome M.cExp xs) w) := by
  have hk := Lib.hid (some_w_exp B w P out v xs h hl hpre)
  obtain ⟨A, c, rfl, _⟩ := hl.form
  clear hl hpre h
  go_enter Tryz.func87, Tryz.ntmps87
  go_wp2_with fail
  refine hk.out.mono ?_
  intro e1 w1 k1
  have this := Lib.hid k1
  rcases k1 with ⟨_, _, rfl, _⟩ | ⟨_, rfl, _⟩
  all_goals
    go_wp2_with fail
    go_ret
    exact this.out
set_option maxRecDepth 100000 in
set_option maxHeartbeats 1000000 in
theorem sec_elems (B : Nat) (w : World) (P : Nat) (out : List Nat) (D : Nat) (v : Value) (xs : List _) (h : MTx B w P out) (hv : w.cell? ⟨D, 8, none⟩ = some v) (hl : Lst rElm w (· < B) v xs) (hpre : ∀ x ∈ xs, Pre_elm x) :
    Calls Tryz.prog 89 #[.pointer (some ⟨P, 0, none⟩), .pointer (some ⟨D, 0, none⟩)] w (WrPost B P out ((M.vec M.cElm).ok xs) (wSome M.cElm xs) w) := by
  have hk := Lib.hid (some_w_elm B w P out v xs h hl hpre)
  obtain ⟨A, c, rfl, _⟩ := hl.form
  clear hl hpre h
  go_enter Tryz.func89, Tryz.ntmps89
  go_wp2_with fail
  refine hk.out.mono ?_
  intro e1 w1 k1
  have this := Lib.hid k1
  rcases k1 with ⟨_, _, rfl, _⟩ | ⟨_, rfl, _⟩
  all_goals
    go_wp2_with fail
    go_ret
    exact this.out
set_option maxRecDepth 100000 in
set_option maxHeartbeats 1000000 in
theorem sec_funcBodies (B : Nat) (w : World) (P : Nat) (out : List Nat) (D : Nat) (v : Value) (xs : List _) (h : MTx B w P out) (hv : w.cell? ⟨D, 2, none⟩ = some v) (hl : Lst rBd w (· < B) v xs) (hpre : ∀ x ∈ xs, Pre_body x) :
    Calls Tryz.prog 90 #[.pointer (some ⟨P, 0, none⟩), .pointer (some ⟨D, 0, none⟩)] w (WrPost B P out ((M.vec M.cBody).ok xs) (wSome M.cBody xs) w) := by
  have hk := Lib.hid (some_w_body B w P out v xs h hl hpre)
  obtain ⟨A, c, rfl, _⟩ := hl.form
  clear hl hpre h
  go_enter Tryz.func90, Tryz.ntmps90
  go_wp2_with fail
  refine hk.out.mono ?_
  intro e1 w1 k1
  have this := Lib.hid k1
  rcases k1 with ⟨_, _, rfl, _⟩ | ⟨_, rfl, _⟩
  all_goals
    go_wp2_with fail
    go_ret
    exact this.out
set_option maxRecDepth 100000 in
set_option maxHeartbeats 1000000 in
theorem sec_datas (B : Nat) (w : World) (P : Nat) (out : List Nat) (D : Nat) (v : Value) (xs : List _) (h : MTx B w P out) (hv : w.cell? ⟨D, 9, none⟩ = some v) (hl : Lst rDat w (· < B) v xs) (hpre : ∀ x ∈ xs, Pre_dat x) :
    Calls Tryz.prog 91 #[.pointer (some ⟨P, 0, none⟩), .pointer (some ⟨D, 0, none⟩)] w (WrPost B P out ((M.vec M.cDat).ok xs) (wSome M.cDat xs) w) := by
  have hk := Lib.hid (some_w_dat B w P out v xs h hl hpre)
  obtain ⟨A, c, rfl, _⟩ := hl.form
  clear hl hpre h
  go_enter Tryz.func91, Tryz.ntmps91
  go_wp2_with fail
  refine hk.out.mono ?_
  intro e1 w1 k1
  have this := Lib.hid k1
  rcases k1 with ⟨_, _, rfl, _⟩ | ⟨_, rfl, _⟩
  all_goals
    go_wp2_with fail
    go_ret
    exact this.out
end Go.Proofs.YtilaheifccjjeaaGreat
namespace Go.Proofs.YtilaheifccjjeaaGreat
open Go.RowKit
def mhead : List Nat := [0, 97, 115, 109, 1, 0, 0, 0]
def mheadV : Array Value := #[.int .u8 0, .int .u8 97, .int .u8 115, .int .u8 109, .int .u8 1, .int .u8 0, .int .u8 0, .int .u8 0]
theorem mhead_cell (k : Nat) (hk : k < 8) : mheadV[k]? = some (.int .u8 ((mhead.getD k 0 : Nat) : Int)) ∧ mhead.getD k 0 < 256 := by
  rcases (show k = 0 ∨ k = 1 ∨ k = 2 ∨ k = 3 ∨ k = 4 ∨ k = 5 ∨ k = 6 ∨ k = 7 by omega) with rfl | rfl | rfl | rfl | rfl | rfl | rfl | rfl
  all_goals exact ⟨rfl, by decide⟩
/-- The text holds the header alone. -/
structure MHd (B : Nat) (w : World) (P : Nat) : Prop where
  ex : ∃ r, w.heap[P]? = some (.cells #[.slice (some ⟨r, 0, none⟩) 8 8] 89 (0, 0)) ∧ w.heap[r]? = some (.cells mheadV 5 (8, 9)) ∧ B ≤ r
  hB : B ≤ P
/-- A text: of any bytes, or of the header alone. -/
def MTy (B : Nat) (w : World) (P : Nat) (out : List Nat) : Prop := MTx B w P out ∨ (MHd B w P ∧ out = mhead)
section
variable {B P : Nat} {w w' : World} {out : List Nat}
theorem MHd.lt (h : MHd B w P) : P < w.heap.size := by
  obtain ⟨r, h1, _⟩ := h.ex
  exact (Array.getElem?_eq_some_iff.1 h1).1
theorem MHd.later (h : MHd B w P) (hb : Below w.heap.size w w') : MHd B w' P := by
  obtain ⟨r, h1, h2, h3⟩ := h.ex
  exact ⟨⟨r, (hb.block P h.lt).trans h1, (hb.block r (Array.getElem?_eq_some_iff.1 h2).1).trans h2, h3⟩, h.hB⟩
theorem MHd.tb (h : MHd B w P) (k : Nat) (hk : TB w P k) : B ≤ k ∧ k < w.heap.size := by
  obtain ⟨r, h1, h2, h3⟩ := h.ex
  rcases hk with rfl | ⟨u, h4, h5⟩
  · exact ⟨h.hB, h.lt⟩
  · rw [cell_of_row w P 0 _ _ (0, 0) h1] at h4
    cases h4
    cases h5
    exact ⟨h3, (Array.getElem?_eq_some_iff.1 h2).1⟩
theorem MTy.lt (h : MTy B w P out) : P < w.heap.size := h.elim (fun h => h.lt) (fun h => h.1.lt)
theorem MTy.nn (h : MTy B w P out) : B ≤ w.heap.size := h.elim (fun h => h.nn) (fun h => by have := h.1.lt; have := h.1.hB; omega)
theorem MTy.later (h : MTy B w P out) (hb : Below w.heap.size w w') : MTy B w' P out := h.elim (fun h => .inl (h.later hb)) (fun h => .inr ⟨h.1.later hb, h.2⟩)
theorem MTy.tb (h : MTy B w P out) (k : Nat) (hk : TB w P k) : B ≤ k ∧ k < w.heap.size := h.elim (fun h => h.tb k hk) (fun h => h.1.tb k hk)
theorem MTy.len (h : MTy B w P out) : out.length ≤ 65536 := h.elim (fun h => h.len) (fun h => by rw [h.2]; decide)
theorem MTy.below (t : MTy B w P out) (h : Wro P w w') : Below B w w' :=
  ⟨h.kb.os, h.kb.tape, h.kb.output, h.kb.size, fun k hk => h.kb.block k (by have := t.nn; omega) (fun h2 => by have := (t.tb k h2).1; omega)⟩
theorem boxy_tb {g : Nat} {W0 : World} (h : MTy B w P out) (b0 : Below w.heap.size w W0) (hg : w.heap.size ≤ g) : ¬ TB W0 P g := fun e => by
  rcases e with e | ⟨v, h3, h4⟩
  · have := h.lt; omega
  · have := (h.tb _ (.inr ⟨v, (b0.cell (p := ⟨P, 0, none⟩) h.lt).symm.trans h3, h4⟩)).2
    omega
theorem staysy_inner {Q : Nat} {w2 : World} {xs : List Nat} {u : Value} (h : MTy B w P out) (b : Below w.heap.size w w2) (hQ : w.heap.size ≤ Q) (own : w2.ownsRow Q 5 1 u xs.length (vals xs)) (hlt : ∀ b ∈ xs, b < 256) : Stays P w2 u xs := fun w' h' =>
  own_BS (x_agree own fun k hk => h'.kb.block k (own.lt k hk).2 (boxy_tb h b (Nat.le_trans hQ (own.lt k hk).1))) hlt
end
theorem troom_hd (B : Nat) (w : World) (P : Nat) (h : MHd B w P) :
    Calls Tryz.prog 92 #[.pointer (some ⟨P, 0, none⟩)] w fun e w' => e = .returned (.int .i64 65528) ∧ w' = w := by
  obtain ⟨r, h1, _⟩ := h.ex
  have c0 : w.cell? ⟨P, 0, none⟩ = some (.slice (some ⟨r, 0, none⟩) 8 8) := by rw [cell_of_row w P 0 _ _ (0, 0) h1]; rfl
  clear h1 h
  go_enter Tryz.func92, Tryz.ntmps92
  go_wp2_with fail
  go_ret
  exact ⟨rfl, rfl⟩
set_option maxRecDepth 100000 in
theorem tput_hd (B : Nat) (w : World) (P : Nat) (x : Nat) (ad : Addr) (h : MHd B w P) (hx : x < 256) (hu : w.cell? ad = some (.int .u8 (x : Int))) :
    Calls Tryz.prog 64 #[.pointer (some ⟨P, 0, none⟩), .slice (some ad) 1 1] w (WrPost B P mhead True [x] w) := by
  obtain ⟨i0, hi0, hz0, hz1, hz2⟩ := info_parts u8_info
  have hP := h.lt
  have hB := h.hB
  obtain ⟨r, h1, h2, h3⟩ := id h.ex
  have c0 : w.cell? ⟨P, 0, none⟩ = some (.slice (some ⟨r, 0, none⟩) 8 8) := by rw [cell_of_row w P 0 _ _ (0, 0) h1]; rfl
  obtain ⟨v2, w2, hrun, own2, gr2⟩ := run_append_arg_grows (P := Tryz.prog) w 33 33 5 i0 (.int .u8 0) 1 1 Tryz.underlying33 hi0 hz0 hz1 hz2 rfl (by decide) ⟨r, 0, none⟩ 8 8 (vals mhead) rfl (fun j u hj => by
    have hj8 : j < 8 := by
      have := (List.getElem?_eq_some_iff.1 hj).1
      simpa [vals, mhead] using this
    rw [add_none, Nat.zero_add, cell_of_row w r j _ _ _ h2, (mhead_cell j hj8).1, ← hj, getD_vals _ _ (by simpa [mhead] using hj8)]) ad 1 1 (vals [x]) rfl (fun j u hj => by
    have : j = 0 := by
      have := (List.getElem?_eq_some_iff.1 hj).1
      simpa [vals] using this
    subst this
    have e : ad.add 0 = ad := by unfold Addr.add; simp
    rw [e, hu, ← hj]
    rfl) (by omega) (by unfold maxLen; omega) (by omega)
  obtain ⟨A2, c2, rfl, _, _⟩ := x_form own2
  have q1 : w2.heap[P]? = some (.cells #[.slice (some ⟨r, 0, none⟩) 8 8] 89 (0, 0)) := (gr2.block P hP (by simp)).trans h1
  have q2 : w2.cell? ⟨P, 0, none⟩ = some (.slice (some ⟨r, 0, none⟩) 8 8) := by rw [cell_of_row w2 P 0 _ _ (0, 0) q1]; rfl
  have q3 : w2.frozen? ⟨P, 0, none⟩ = false := frozen_of_row w2 P 0 _ _ q1
  have hfin : WrPost B P mhead True [x] w (.returned (.bool true)) (w2.setCell ⟨P, 0, none⟩ (.slice A2 (8 + 1) c2)) := by
    have own3 : w2.ownsRow w.heap.size 5 1 (.slice A2 (8 + 1) c2) (8 + 1) (vals (mhead ++ [x])) := by
      have := own2
      rwa [← vals_append] at this
    refine .inl ⟨trivial, by simp [mhead], rfl, ⟨⟨.slice A2 (8 + 1) c2, ?_, ?_⟩, hB, by simp [mhead], fun b hb => ?_⟩, ?_⟩
    · rw [heap_setCell_same _ P 0 _ _ _ q1]; rfl
    · have own4 : w2.ownsRow B 5 1 (.slice A2 (8 + 1) c2) (8 + 1) (vals (mhead ++ [x])) := by
        refine ⟨own3.1, ?_⟩
        rcases own3.2 with hn | ⟨g, cap, cur, e, hg, rest⟩
        · exact .inl hn
        · exact .inr ⟨g, cap, cur, e, by omega, rest⟩
      exact x_agree own4 fun k hk => Below.heap_setCell _ _ _ _ (fun e => by
        subst e
        have := (own3.lt _ hk).1
        omega)
    · rcases List.mem_append.1 hb with hb | hb
      · exact (show ∀ b ∈ mhead, b < 256 by decide) b hb
      · simp at hb; omega
    · refine ⟨Kb.setCell (p := ⟨P, 0, none⟩) ⟨gr2.os, gr2.tape, gr2.output, gr2.size, fun k hk hn => gr2.block k hk (by simp)⟩ (.inl rfl) _, fun k hk => ?_⟩
      rcases hk with hk | ⟨v9, hv9, hk⟩
      · exact .inl (.inl hk)
      · rw [World.cell?_setCell_same _ _ _ q2] at hv9
        injection hv9 with hv9
        subst hv9
        exact .inr (own3.lt _ hk).1
  replace hfin := Lib.hid hfin
  replace h := Lib.hid h
  clear h1 h2 own2 gr2 q1
  go_enter Tryz.func64, Tryz.ntmps64
  go_wp2_with (first
    | (go_at_call 92; refine (troom_hd B _ P h.out).mono ?_; rintro er wr ⟨rfl, rfl⟩)
    | (at_builtin; refine Lib.wpList_append_run _ rfl _ _ _ _ rfl _ _ rfl rfl _ w2 hrun ?_))
  go_ret
  exact hfin.out
end Go.Proofs.YtilaheifccjjeaaGreat
namespace Go.Proofs.YtilaheifccjjeaaGreat
open Go.RowKit
namespace M
/-- A section's bytes: none for nothing. -/
def sb (id : Nat) (ys : List Nat) : List Nat := if ys = [] then [] else id :: (U (ys.length : Int) ++ ys)
/-- The bytes of n sections from id on. -/
def topYs (ysf : Nat → List Nat) : Nat → Nat → List Nat
  | 0, _ => []
  | n + 1, id => sb id (ysf id) ++ topYs ysf n (id + 1)
/-- May these be written? -/
def topOk (okf : Nat → Prop) (ysf : Nat → List Nat) : Nat → Nat → Prop
  | 0, _ => True
  | n + 1, id => (okf id ∧ (ysf id).length ≤ 65536) ∧ topOk okf ysf n (id + 1)
end M
def topTab : Array Value := #[.nilFunc, .func (.func 81) #[] #[], .func (.func 82) #[] #[], .func (.func 83) #[] #[], .func (.func 84) #[] #[], .func (.func 85) #[] #[], .func (.func 86) #[] #[], .func (.func 87) #[] #[], .func (.func 88) #[] #[], .func (.func 89) #[] #[], .func (.func 90) #[] #[], .func (.func 91) #[] #[]]
theorem topTab_at (id : Nat) (h1 : 1 ≤ id) (h2 : id ≤ 11) : ∃ f, topTab[id]? = some (.func (.func f) #[] #[]) ∧ ∀ (args : Array Value) (w : World), Sem.run Tryz.prog (callFunc f args) w = Result.ok (Next.enter f args) w := by
  rcases (show id = 1 ∨ id = 2 ∨ id = 3 ∨ id = 4 ∨ id = 5 ∨ id = 6 ∨ id = 7 ∨ id = 8 ∨ id = 9 ∨ id = 10 ∨ id = 11 by omega) with rfl | rfl | rfl | rfl | rfl | rfl | rfl | rfl | rfl | rfl | rfl
  · exact ⟨_, rfl, Tryz.call81⟩
  · exact ⟨_, rfl, Tryz.call82⟩
  · exact ⟨_, rfl, Tryz.call83⟩
  · exact ⟨_, rfl, Tryz.call84⟩
  · exact ⟨_, rfl, Tryz.call85⟩
  · exact ⟨_, rfl, Tryz.call86⟩
  · exact ⟨_, rfl, Tryz.call87⟩
  · exact ⟨_, rfl, Tryz.call88⟩
  · exact ⟨_, rfl, Tryz.call89⟩
  · exact ⟨_, rfl, Tryz.call90⟩
  · exact ⟨_, rfl, Tryz.call91⟩
def topZ : Array Value := Array.replicate 12 .nilFunc
theorem zero_top (w : World) : (zeroValue 124).run Tryz.prog w = .ok (.agg topZ) w := by kernel_rfl
theorem top_info : (Tryz.prog.info? 124).map (·.size) = some topTab.size := by kernel_rfl
theorem top_under : Tryz.prog.underlying 124 = some (.array 12 123) := by kernel_rfl
theorem top_one : topTab.all (·.oneCell') = true := by kernel_rfl
theorem topList_buildAs {P : Program} {ops : Array Oper} {rest : List Oper} {o : Oper} {a : Act} {w : World} {Q : Exit → Act → World → Prop} (hg : o.guard = none) (t : TypeId) (parts : Array (Nat × Operand)) (ho : o.op = .build t parts) (cells : Array Value)
    (hc : P.built t (parts.map fun (i, x) => (i, a.eval x)).toList = some cells)
    (h : wpList P ops Q rest (a.put o.dst (.agg cells)) w) : wpList P ops Q (o :: rest) a w :=
  wpList_build hg t parts ho (by rw [hc]; rfl) (by rw [hc]; exact h)
theorem topList_storeNew {P : Program} {ops : Array Oper} {rest : List Oper} {o : Oper} {a : Act} {w : World} {Q : Exit → Act → World → Prop} (hgd : o.guard = none) (ty : TypeId) (x y : Operand) (ho : o.op = .store ty x y)
    (c c' : Array Value) (hx : a.eval x = .pointer (some ⟨w.heap.size, 0, none⟩)) (hy : a.eval y = .agg c') (hi : (P.info? ty).map (·.size) = some c'.size)
    (hold : c.size = c'.size) (h1 : c'.all (·.oneCell') = true)
    (h : wpList P ops Q rest (a.put o.dst undef) (w.alloc (.cells c' ty))) : wpList P ops Q (o :: rest) a (w.alloc (.cells c ty)) :=
  wpList_store_row hgd ty x y ho w.heap.size c' hx hy ty c (heap_alloc_last w _) hi hold h1 (by rw [World.setRow_alloc_new]; exact h)
set_option maxRecDepth 100000 in
theorem sectionWriters_any (w : World) : Calls Tryz.prog 63 #[] w fun e w' => e = .returned (.agg topTab) ∧ Below w.heap.size w w' := by
  have hz := zero_top
  go_enter Tryz.func63, Tryz.ntmps63
  go_wp2_with (first | (refine topList_buildAs rfl 124 _ rfl topTab (by kernel_rfl) ?_) | (refine topList_storeNew rfl 124 _ _ rfl topZ topTab rfl rfl top_info (by kernel_rfl) top_one ?_))
  refine bodyPost_ret (results_cell_row rfl _ _ w.heap.size _ topTab _ _ rfl (heap_alloc_last w _) top_under rfl top_info) rfl ?_
  exact ⟨rfl, (Below.refl _ _).alloc (Nat.le_refl _) _⟩
/-- What a writer answers of a text that may hold the header alone. -/
def WrPostY (B P : Nat) (out : List Nat) (ok : Prop) (ys : List Nat) (w : World) (e : Ending) (w' : World) : Prop :=
  (ok ∧ out.length + ys.length ≤ 65536 ∧ e = .returned (.bool true) ∧ MTy B w' P (out ++ ys) ∧ Wro P w w') ∨
  (¬ (ok ∧ out.length + ys.length ≤ 65536) ∧ e = .returned (.bool false) ∧ Wro P w w')
/-- What each section's writer answers, into a text of its own. -/
def SecsOk (B D : Nat) (okf : Nat → Prop) (ysf : Nat → List Nat) (w : World) : Prop := ∀ id, 1 ≤ id → id ≤ 11 → ∀ f, topTab[id]? = some (.func (.func f) #[] #[]) → ∀ (w' : World) (Q : Nat), Below B w w' → B ≤ Q → MTx Q w' Q [] → Calls Tryz.prog f #[.pointer (some ⟨Q, 0, none⟩), .pointer (some ⟨D, 0, none⟩)] w' (WrPost Q Q [] (okf id) (ysf id) w')
/-- What the loop over the sections keeps up. -/
def TopRel (B P rb : Nat) (okf : Nat → Prop) (ysf : Nat → List Nat) (out : List Nat) (w : World) (s6 : Value) (w' : World) : Prop :=
  ∃ (id : Nat) (zs : List Nat), (1 ≤ id ∧ id ≤ 12) ∧ s6 = .int .i64 id ∧ MTy B w' P (out ++ zs) ∧ Wro P w w' ∧ zs ++ M.topYs ysf (12 - id) id = M.topYs ysf 11 1 ∧ (M.topOk okf ysf 11 1 ↔ M.topOk okf ysf (12 - id) id) ∧ w'.heap[rb]? = some (.cells topTab 124 (0, 0))
theorem topYs_step (ysf : Nat → List Nat) (id : Nat) (h : id ≤ 11) : M.topYs ysf (12 - id) id = M.sb id (ysf id) ++ M.topYs ysf (12 - (id + 1)) (id + 1) := by
  rw [show 12 - id = (12 - (id + 1)) + 1 by omega]; rfl
theorem topOk_step (okf : Nat → Prop) (ysf : Nat → List Nat) (id : Nat) (h : id ≤ 11) : M.topOk okf ysf (12 - id) id ↔ (okf id ∧ (ysf id).length ≤ 65536) ∧ M.topOk okf ysf (12 - (id + 1)) (id + 1) := by
  rw [show 12 - id = (12 - (id + 1)) + 1 by omega]; exact Iff.rfl
theorem tb_typ {B P g : Nat} {w : World} {out : List Nat} (h : MTy B w P out) (hg : w.heap[g]? = some (.cells topTab 124 (0, 0))) : ¬ TB w P g := fun e => by
  rcases h with h | ⟨h, _⟩
  · obtain ⟨v, h1, h2⟩ := h.ex
    rcases e with rfl | ⟨u, h3, h4⟩
    · rw [h1] at hg
      injection hg with hg
      injection hg with _ hg
      exact absurd hg (by decide)
    · have h5 : w.cell? ⟨P, 0, none⟩ = some v := by rw [cell_of_row w P 0 _ _ (0, 0) h1]; rfl
      rw [h5] at h3
      injection h3 with h3
      subst h3
      obtain ⟨cur, hc⟩ := x_obj h2 h4
      rw [hc] at hg
      injection hg with hg
      injection hg with _ hg
      exact absurd hg (by decide)
  · obtain ⟨r, h1, h2, _⟩ := h.ex
    rcases e with rfl | ⟨u, h3, h4⟩
    · rw [h1] at hg
      injection hg with hg
      injection hg with _ hg
      exact absurd hg (by decide)
    · rw [cell_of_row w P 0 _ _ (0, 0) h1] at h3
      cases h3
      cases h4
      rw [h2] at hg
      injection hg with hg
      injection hg with _ hg
      exact absurd hg (by decide)
theorem topLen {ysf : Nat → List Nat} {id : Nat} {zs T : List Nat} (h : id ≤ 11) (hz : zs ++ M.topYs ysf (12 - id) id = T) (hy : ysf id ≠ []) : zs.length + (1 + (M.U ((ysf id).length : Int) ++ ysf id).length) ≤ T.length := by
  rw [← hz, topYs_step ysf id h]
  unfold M.sb
  rw [if_neg hy]
  simp only [List.length_append, List.length_cons]
  omega
set_option maxRecDepth 100000 in
set_option maxHeartbeats 4000000 in
theorem wsections_any (B : Nat) (w : World) (P D : Nat) (out : List Nat) (okf : Nat → Prop) (ysf : Nat → List Nat) (h : MTy B w P out) (hs : SecsOk B D okf ysf w) :
    Calls Tryz.prog 37 #[.pointer (some ⟨P, 0, none⟩), .pointer (some ⟨D, 0, none⟩)] w (WrPostY B P out (M.topOk okf ysf 11 1) (M.topYs ysf 11 1) w) := by
  have hz := zero_top
  have hPl := h.lt
  have hBw := h.nn
  replace h := Lib.hid h
  replace hs := Lib.hid hs
  go_enter Tryz.func37, Tryz.ntmps37
  go_wp2_with fail
  refine (sectionWriters_any _).mono ?_
  rintro e0 w0 ⟨rfl, b0⟩
  have b1 : Below w.heap.size w (w0.alloc (.cells topTab 124)) := b0.alloc b0.size _
  have rel0 := Lib.hid (show TopRel B P w0.heap.size okf ysf out w (.int .i64 1) (w0.alloc (.cells topTab 124)) from
    ⟨1, [], by omega, rfl, by rw [List.append_nil]; exact h.out.later b1, Wro.ofBelow hPl b1, rfl, Iff.rfl, heap_alloc_new w0 _⟩)
  clear b0 b1
  go_wp2_with (refine topList_storeNew rfl 124 _ _ rfl topZ topTab rfl rfl top_info (by kernel_rfl) top_one ?_)
  obtain ⟨rb, hrb⟩ : ∃ rb, rb = w0.heap.size := ⟨_, rfl⟩
  rw [← hrb] at rel0 ⊢
  clear hrb hz
  go_loopw [6] (TopRel B P rb okf ysf out w) (fun i _ => 12 - (intOf i).toNat)
  case atStart => exact rel0.out
  case round =>
    clear rel0
    obtain ⟨id, zs, hid, rfl, ht, hw, hz, hok, htab⟩ := hrel
    by_cases hlt : id ≤ 11
    · obtain ⟨f, hf, hcall⟩ := topTab_at id hid.1 hlt
      have hbw := h.out.below hw
      have hcf : wr.cell? ⟨rb, id, none⟩ = some (.func (.func f) #[] #[]) := by rw [cell_of_row wr rb id _ _ (0, 0) htab]; exact hf
      have hrbl : rb < wr.heap.size := (Array.getElem?_eq_some_iff.1 htab).1
      have hPr := ht.lt
      have hBr : B ≤ wr.heap.size := ht.nn
      obtain ⟨W1, hW1⟩ : ∃ W1, W1 = wr.alloc (.cells #[.slice none 0 0] 89) := ⟨_, rfl⟩
      have b1 : Below wr.heap.size wr W1 := by rw [hW1]; exact (Below.refl _ _).alloc (Nat.le_refl _) _
      have ti : MTx wr.heap.size W1 wr.heap.size [] := ⟨⟨.slice none 0 0, by rw [hW1]; exact heap_alloc_new wr _, World.ownsRow_nil _ _ _ _⟩, Nat.le_refl _, by simp, fun b hb => by cases hb⟩
      have hcf1 : W1.cell? ⟨rb, id, none⟩ = some (.func (.func f) #[] #[]) := (b1.cell (p := ⟨rb, id, none⟩) hrbl).trans hcf
      have hC := Lib.hid (hs.out id hid.1 hlt f hf W1 wr.heap.size (hbw.trans (b1.mono hBr)) hBr ti)
      obtain ⟨Q, hQ⟩ : ∃ Q, Q = wr.heap.size := ⟨_, rfl⟩
      have hz1 : Q < W1.heap.size := by rw [hW1, hQ]; simp
      rw [← hQ] at ti hC
      obtain ⟨ys, hys⟩ : ∃ ys, ys = ysf id := ⟨_, rfl⟩
      have hlen0 := topLen (ysf := ysf) hlt hz
      have hzs := topYs_step ysf id hlt
      have hoks := hok.trans (topOk_step okf ysf id hlt)
      rw [← hys] at hlen0 hzs hoks hC
      have t0 : (1 : Int) ≤ (id : Int) := by omega
      have t1 : (id : Int) < 12 := by omega
      have t2 : (id : Int) % 256 = (id : Int) := by omega
      replace ht := Lib.hid ht
      replace hw := Lib.hid hw
      replace hz := Lib.hid hz
      replace hzs := Lib.hid hzs
      replace hoks := Lib.hid hoks
      replace hlen0 := Lib.hid hlen0
      replace htab := Lib.hid htab
      replace hW1 := Lib.hid hW1
      replace b1 := Lib.hid b1
      replace ti := Lib.hid ti
      replace hys := Lib.hid hys
      replace hQ := Lib.hid hQ
      clear hok hf hbw hcf
      go_upto_region 6 with fail
      rw [← hW1.out, ← hQ.out]
      go_wp2_with fail
      refine hC.out.mono ?_
      rintro e1 w1 (⟨ho1, hf1, rfl, t1', d1⟩ | ⟨hn1, rfl, d1⟩)
      · have d1b := d1.below ti.out
        have D1 : Below wr.heap.size wr w1 := b1.out.trans (by rw [← hQ.out]; exact d1b)
        rw [List.nil_append] at t1'
        obtain ⟨⟨u, hu1, hu2⟩, _, hlen, hrng⟩ := t1'
        have hcu : w1.cell? ⟨Q, 0, none⟩ = some u := by rw [cell_of_row w1 Q 0 _ _ (0, 0) hu1]; rfl
        have hQl : Q < w1.heap.size := (Array.getElem?_eq_some_iff.1 hu1).1
        have htab1 : w1.heap[rb]? = some (.cells topTab 124 (0, 0)) := (D1.block rb hrbl).trans htab.out
        have ht1 := ht.out.later D1
        have st := staysy_inner ht.out D1 (by rw [hQ.out]; exact Nat.le_refl _) hu2 hrng
        obtain ⟨U, uc, rfl, _, _⟩ := x_form hu2
        have V1 : Wro P w w1 := hw.out.trans (Wro.ofBelow hPr D1)
        have hP1 : P < w1.heap.size := ht1.lt
        clear d1 d1b hu1 hu2 hrng
        by_cases hy0 : ys = []
        · as_aux_lemma =>
          have hrel : TopRel B P rb okf ysf out w (.int .i64 ((id : Int) + 1)) w1 :=
            ⟨id + 1, zs, by omega, by go_num, ht1, V1, by rw [← hz.out, hzs.out, hy0]; rfl, hoks.out.trans ⟨fun h => h.2, fun h => ⟨⟨ho1, hlen⟩, h⟩⟩, htab1⟩
          rw [hy0] at hcu
          simp only [List.length_nil] at hcu
          replace hrel := Lib.hid hrel
          replace hy0 := Lib.hid hy0
          clear ho1 hf1 ht1 htab1 V1 st D1
          go_wp2_with fail
          exact ⟨hrel.out, by simp [intOf]; omega⟩
        · have hlen1 := hlen0.out hy0
          have hm1 : 0 < ys.length := List.length_pos_iff.2 hy0
          have hsb : M.sb id ys = id :: (M.U (ys.length : Int) ++ ys) := by unfold M.sb; rw [if_neg hy0]
          have b2 : Below w1.heap.size w1 (w1.alloc (.cells #[.int .u8 (id : Int)] 5)) := (Below.refl _ _).alloc (Nat.le_refl _) _
          have t2 := ht1.later b2
          have hone := one_BS w1 id (id : Int) rfl (by omega)
          have hput : Calls Tryz.prog 64 #[.pointer (some ⟨P, 0, none⟩), .slice (some ⟨w1.heap.size, 0, none⟩) 1 1] (w1.alloc (.cells #[.int .u8 (id : Int)] 5)) (WrPost B P (out ++ zs) True [id] (w1.alloc (.cells #[.int .u8 (id : Int)] 5))) := by
            rcases t2 with t2 | ⟨t2, e2⟩
            · exact tput_any B _ P (out ++ zs) [id] _ t2 hone (by simp)
            · rw [e2]
              exact tput_hd B _ P id ⟨w1.heap.size, 0, none⟩ t2 (by omega) (by simp)
          replace hput := Lib.hid hput
          have D2 : Below wr.heap.size wr (w1.alloc (.cells #[.int .u8 (id : Int)] 5)) := D1.trans (b2.mono D1.size)
          have hnQ := boxy_tb ht.out D2 (show wr.heap.size ≤ Q by rw [hQ.out]; exact Nat.le_refl _)
          have hcu2 : (w1.alloc (.cells #[.int .u8 (id : Int)] 5)).cell? ⟨Q, 0, none⟩ = some (.slice U ys.length uc) := (b2.cell (p := ⟨Q, 0, none⟩) hQl).trans hcu
          have htab2 : (w1.alloc (.cells #[.int .u8 (id : Int)] 5)).heap[rb]? = some (.cells topTab 124 (0, 0)) := (b2.block rb (Nat.lt_of_lt_of_le hrbl D1.size)).trans htab1
          have hrb2 := tb_typ t2 htab2
          have V2 : Wro P w1 (w1.alloc (.cells #[.int .u8 (id : Int)] 5)) := Wro.ofBelow hP1 b2
          have hQ2 : Q < (w1.alloc (.cells #[.int .u8 (id : Int)] 5)).heap.size := by simp; omega
          have hr2 : rb < (w1.alloc (.cells #[.int .u8 (id : Int)] 5)).heap.size := (Array.getElem?_eq_some_iff.1 htab2).1
          obtain ⟨m, hm⟩ : ∃ m, m = ys.length := ⟨_, rfl⟩
          rw [← hm] at hm1 hcu hcu2
          have hml : m ≤ 65536 := by omega
          have tm : decide ((0 : Int) < (m : Int)) = true := by simp; omega
          replace hm := Lib.hid hm
          replace ho1 := Lib.hid ho1
          replace hsb := Lib.hid hsb
          replace hlen1 := Lib.hid hlen1
          replace V1 := Lib.hid V1
          replace V2 := Lib.hid V2
          replace st := Lib.hid st
          replace hnQ := Lib.hid hnQ
          replace hrb2 := Lib.hid hrb2
          replace htab2 := Lib.hid htab2
          replace hcu2 := Lib.hid hcu2
          replace hlen := Lib.hid hlen
          replace hy0 := Lib.hid hy0
          clear D1 D2 b2 t2 hone htab1 ht1 hf1
          go_wp2_with fail
          refine hput.out.mono ?_
          rintro e2 w2 (⟨_, hf2, rfl, t3, d2⟩ | ⟨hn2, rfl, d2⟩)
          · have hcu3 : w2.cell? ⟨Q, 0, none⟩ = some (.slice U m uc) := (World.cell?_of_block (d2.kb.block Q hQ2 hnQ.out)).trans hcu2.out
            have htab3 := (d2.kb.block rb hr2 hrb2.out).trans htab2.out
            have V3 := V2.out.trans d2
            have hbytes := Lib.hid (tbytes_any B w2 P (out ++ zs ++ [id]) ys _ t3 (st.out.next V3) (by have := hm.out; omega))
            rw [← hm.out] at hbytes
            have hrb3 := tb_typ (.inl t3) htab3
            have hr3 : rb < w2.heap.size := (Array.getElem?_eq_some_iff.1 htab3).1
            have V4 := Lib.hid (V1.out.trans V3)
            replace htab3 := Lib.hid htab3
            replace hrb3 := Lib.hid hrb3
            clear V3 t3 d2 hf2
            go_wp2_with fail
            refine hbytes.out.mono ?_
            rintro e3 w3 (⟨_, _, rfl, t4, d4⟩ | ⟨hn4, rfl, d4⟩)
            · have hrel : TopRel B P rb okf ysf out w (.int .i64 ((id : Int) + 1)) w3 := by
                refine ⟨id + 1, zs ++ (id :: (M.U (ys.length : Int) ++ ys)), by omega, by go_num, ?_, V4.out.trans d4, by rw [← hz.out, hzs.out, hsb.out, List.append_assoc], hoks.out.trans ⟨fun h => h.2, fun h => ⟨⟨ho1.out, hlen.out⟩, h⟩⟩, (d4.kb.block rb hr3 hrb3.out).trans htab3.out⟩
                have e : out ++ (zs ++ (id :: (M.U (ys.length : Int) ++ ys))) = out ++ zs ++ [id] ++ (M.U (m : Int) ++ ys) := by rw [hm.out]; simp
                rw [e]
                exact .inl t4
              replace hrel := Lib.hid hrel
              clear t4 d4
              go_wp2_with fail
              exact ⟨hrel.out, by simp [intOf]; omega⟩
            · have hfin : WrPostY B P out (M.topOk okf ysf 11 1) (M.topYs ysf 11 1) w (.returned (.bool false)) w3 := .inr ⟨fun hh => hn4 ⟨by unfold M.inR; omega, by
                have h1 := hh.2
                have h2 := hlen1.out
                rw [← hm.out] at h2
                simp only [List.length_append, List.length_cons, List.length_nil] at h1 h2 ⊢
                omega⟩, rfl, V4.out.trans d4⟩
              replace hfin := Lib.hid hfin
              clear d4 hn4
              go_wp2_with fail
              go_ret
              exact hfin.out
          · have hfin : WrPostY B P out (M.topOk okf ysf 11 1) (M.topYs ysf 11 1) w (.returned (.bool false)) w2 := .inr ⟨fun hh => hn2 ⟨trivial, by
              have h1 := hh.2
              have h2 := hlen1.out
              simp only [List.length_append, List.length_cons, List.length_nil] at h1 h2 ⊢
              omega⟩, rfl, V1.out.trans (V2.out.trans d2)⟩
            replace hfin := Lib.hid hfin
            clear d2 hn2
            go_wp2_with fail
            go_ret
            exact hfin.out
      · have D1 : Below wr.heap.size wr w1 := b1.out.trans (by rw [← hQ.out]; exact d1.below ti.out)
        have hfin : WrPostY B P out (M.topOk okf ysf 11 1) (M.topYs ysf 11 1) w (.returned (.bool false)) w1 := .inr ⟨fun hh => hn1 (by
          have h1 := (hoks.out.1 hh.1).1
          exact ⟨h1.1, by simpa using h1.2⟩), rfl, hw.out.trans (Wro.ofBelow hPr D1)⟩
        replace hfin := Lib.hid hfin
        clear d1 D1 hn1
        go_wp2_with fail
        go_ret
        exact hfin.out
    · obtain rfl : id = 12 := by omega
      have hzz : zs = M.topYs ysf 11 1 := by rw [← hz]; show zs = zs ++ []; simp
      have hfin : WrPostY B P out (M.topOk okf ysf 11 1) (M.topYs ysf 11 1) w (.returned (.bool true)) wr := .inl ⟨hok.2 trivial, by have := ht.len; rw [hzz, List.length_append] at this; exact this, rfl, by rw [← hzz]; exact ht, hw⟩
      replace hfin := Lib.hid hfin
      clear ht hw hz hok htab hzz
      go_wp2_with fail
      go_ret
      exact hfin.out
end Go.Proofs.YtilaheifccjjeaaGreat
namespace Go.Proofs.YtilaheifccjjeaaGreat
open Go.RowKit
/-- A module's ten cells, all that they lead to in blocks of S. -/
structure MIn (w : World) (S : Nat → Prop) (cs : Array Value) (m : M.Mod) : Prop where
  ex : ∃ v0 v1 v2 v3 v4 v5 v6 v8 v9, cs = #[v0, v1, v2, v3, v4, v5, v6, .int .i64 m.start, v8, v9] ∧
    Lst rFT w S v0 m.types ∧ Lst rImp w S v1 m.imports ∧ Lst rFn w S v2 m.funcs ∧ Lst rLim w S v3 m.tables ∧ Lst rLim w S v4 m.memories ∧ Lst rGlo w S v5 m.globals ∧ Lst rExp w S v6 m.exports ∧ Lst rElm w S v8 m.elems ∧ Lst rDat w S v9 m.datas
  hs : -9223372036854775808 ≤ m.start ∧ m.start ≤ 9223372036854775807
  pFT : ∀ x ∈ m.types, Pre_ft x
  pGlo : ∀ x ∈ m.globals, Pre_glo x
  pElm : ∀ x ∈ m.elems, Pre_elm x
  pDat : ∀ x ∈ m.datas, Pre_dat x
  pFn : ∀ x ∈ m.funcs, x.bo.sz ≤ 24000
/-- May a section be written, and its bytes? -/
def okM (m : M.Mod) (id : Nat) : Prop := match id with
  | 1 => (M.vec M.cFT).ok m.types
  | 2 => (M.vec M.cImp).ok m.imports
  | 3 => (M.vec M.cNum).ok (m.funcs.map (·.ty))
  | 4 => (M.vec M.cTab).ok m.tables
  | 5 => (M.vec M.cLim).ok m.memories
  | 6 => (M.vec M.cGlo).ok m.globals
  | 7 => (M.vec M.cExp).ok m.exports
  | 8 => m.start = -1 ∨ M.inR m.start
  | 9 => (M.vec M.cElm).ok m.elems
  | 10 => (M.vec M.cBody).ok (m.funcs.map fun f => (f.lo, f.bo))
  | _ => (M.vec M.cDat).ok m.datas
def ysM (m : M.Mod) (id : Nat) : List Nat := match id with
  | 1 => wSome M.cFT m.types
  | 2 => wSome M.cImp m.imports
  | 3 => wSome M.cNum (m.funcs.map (·.ty))
  | 4 => wSome M.cTab m.tables
  | 5 => wSome M.cLim m.memories
  | 6 => wSome M.cGlo m.globals
  | 7 => wSome M.cExp m.exports
  | 8 => wStart m.start
  | 9 => wSome M.cElm m.elems
  | 10 => wSome M.cBody (m.funcs.map fun f => (f.lo, f.bo))
  | _ => wSome M.cDat m.datas
theorem row_mapP {α β : Type} {R : Rep α} {Q : Rep β} {w : World} {S : Nat → Prop} (f : α → β) {p : α → Prop} (hf : ∀ x cs, p x → R.is w S x cs → Q.is w S (f x) cs) : ∀ {xs : List α} {cs : List Value}, (∀ x ∈ xs, p x) → RowOf R w S xs cs → RowOf Q w S (xs.map f) cs
  | [], _, _, h => h
  | x :: t, _, hp, ⟨c, d, e, h1, h2⟩ => ⟨c, d, e, hf x c (hp x (List.mem_cons_self ..)) h1, row_mapP f hf (fun y hy => hp y (List.mem_cons_of_mem _ hy)) h2⟩
theorem lst_mapP {α β : Type} {R : Rep α} {Q : Rep β} {w : World} {S : Nat → Prop} {v : Value} {xs : List α} (f : α → β) {p : α → Prop} (hp : ∀ x ∈ xs, p x) (hf : ∀ x cs, p x → R.is w S x cs → Q.is w S (f x) cs) (h : Lst R w S v xs) : Lst Q w S v (xs.map f) := by
  obtain ⟨A, c, e, h1, h2⟩ := h
  refine ⟨A, c, by rw [List.length_map]; exact e, by rw [List.length_map]; exact h1, ?_⟩
  rcases h2 with h2 | ⟨g, o, cs, q1, q2, q3, q4⟩
  · exact .inl (by rw [h2]; rfl)
  · exact .inr ⟨g, o, cs, q1, q2, row_mapP f hf hp q3, q4⟩
theorem secs_ok (B D : Nat) (w : World) (cs : Array Value) (m : M.Mod) (hD : w.heap[D]? = some (.cells cs 32 (0, 0))) (hDB : D < B) (h : MIn w (· < B) cs m) : SecsOk B D (okM m) (ysM m) w := by
  intro id h1 h2 f hf w' Q hb hBQ ht
  obtain ⟨v0, v1, v2, v3, v4, v5, v6, v8, v9, rfl, l0, l1, l2, l3, l4, l5, l6, l8, l9⟩ := h.ex
  have hD' : w'.heap[D]? = some (.cells #[v0, v1, v2, v3, v4, v5, v6, .int .i64 m.start, v8, v9] 32 (0, 0)) := (hb.block D hDB).trans hD
  have hc := fun j => cell_of_row w' D j _ _ (0, 0) hD'
  have hT : ∀ k, k < B → k < Q := fun k hk => by omega
  have ag := below_agree hb
  rcases (show id = 1 ∨ id = 2 ∨ id = 3 ∨ id = 4 ∨ id = 5 ∨ id = 6 ∨ id = 7 ∨ id = 8 ∨ id = 9 ∨ id = 10 ∨ id = 11 by omega) with rfl | rfl | rfl | rfl | rfl | rfl | rfl | rfl | rfl | rfl | rfl
  all_goals
    simp [topTab] at hf
    subst hf
  · exact sec_types Q w' Q [] D v0 m.types ht (by rw [hc]; rfl) (l0.agree ag hT) h.pFT
  · exact sec_imports Q w' Q [] D v1 m.imports ht (by rw [hc]; rfl) (l1.agree ag hT) (fun _ _ => trivial)
  · exact sec_funcHeads Q w' Q [] D v2 _ ht (by rw [hc]; rfl) (lst_map (R := rFn) (Q := rHd) (fun f : M.Fn => f.ty) (fun x cs hx => ⟨x, rfl, hx⟩) (l2.agree ag hT)) (fun _ _ => trivial)
  · exact sec_tables Q w' Q [] D v3 m.tables ht (by rw [hc]; rfl) (l3.agree ag hT) (fun _ _ => trivial)
  · exact sec_memories Q w' Q [] D v4 m.memories ht (by rw [hc]; rfl) (l4.agree ag hT) (fun _ _ => trivial)
  · exact sec_globals Q w' Q [] D v5 m.globals ht (by rw [hc]; rfl) (l5.agree ag hT) h.pGlo
  · exact sec_exports Q w' Q [] D v6 m.exports ht (by rw [hc]; rfl) (l6.agree ag hT) (fun _ _ => trivial)
  · exact sec_start Q w' Q [] D m.start ht (by rw [hc]; rfl) h.hs
  · exact sec_elems Q w' Q [] D v8 m.elems ht (by rw [hc]; rfl) (l8.agree ag hT) h.pElm
  · exact sec_funcBodies Q w' Q [] D v2 _ ht (by rw [hc]; rfl) (lst_mapP (R := rFn) (Q := rBd) (p := fun x => x.bo.sz ≤ 24000) (fun f : M.Fn => (f.lo, f.bo)) h.pFn (fun x cs hp hx => ⟨x, rfl, hx, hp⟩) (l2.agree ag hT)) (fun _ _ => trivial)
  · exact sec_datas Q w' Q [] D v9 m.datas ht (by rw [hc]; rfl) (l9.agree ag hT) h.pDat
/-- What Encode answers. -/
def EncMPost (m : M.Mod) (w : World) (e : Ending) (w' : World) : Prop :=
  ((M.topOk (okM m) (ysM m) 11 1 ∧ 8 + (M.topYs (ysM m) 11 1).length ≤ 65536) ∧ (∃ A c, e = .returned (.tuple #[.slice A (mhead ++ M.topYs (ysM m) 11 1).length c, .int .i64 0]) ∧ BS w' w'.heap.size (.slice A (mhead ++ M.topYs (ysM m) 11 1).length c) (mhead ++ M.topYs (ysM m) 11 1)) ∧ Below w.heap.size w w') ∨
  (¬ (M.topOk (okM m) (ysM m) 11 1 ∧ 8 + (M.topYs (ysM m) 11 1).length ≤ 65536) ∧ e = .returned (.tuple #[.slice none 0 0, .int .i64 100]) ∧ Below w.heap.size w w')
theorem MTy.bytes {B P : Nat} {w : World} {out : List Nat} (h : MTy B w P out) : ∃ A c, w.cell? ⟨P, 0, none⟩ = some (.slice A out.length c) ∧ BS w w.heap.size (.slice A out.length c) out := by
  rcases h with h | ⟨h, rfl⟩
  · obtain ⟨v, h1, h2⟩ := h.ex
    have hb := own_BS h2 h.rng
    obtain ⟨A, c, rfl, _⟩ := x_form h2
    exact ⟨A, c, by rw [cell_of_row w P 0 _ _ (0, 0) h1]; rfl, hb⟩
  · obtain ⟨r, h1, h2, _⟩ := h.ex
    refine ⟨some ⟨r, 0, none⟩, 8, by rw [cell_of_row w P 0 _ _ (0, 0) h1]; rfl, ⟨_, 8, rfl, by decide, by unfold maxLen; omega, fun i hi => ?_⟩⟩
    have hi8 : i < 8 := by simpa [mhead] using hi
    exact ⟨_, rfl, (Array.getElem?_eq_some_iff.1 h2).1, (mhead_cell i hi8).2, by rw [add_none, Nat.zero_add, cell_of_row w r i _ _ _ h2, (mhead_cell i hi8).1]⟩
theorem MIn.agree {w w' : World} {S T : Nat → Prop} {cs : Array Value} {m : M.Mod} (h : MIn w S cs m) (ha : Agree S w w') (hT : ∀ k, S k → T k) : MIn w' T cs m := by
  obtain ⟨v0, v1, v2, v3, v4, v5, v6, v8, v9, e, l0, l1, l2, l3, l4, l5, l6, l8, l9⟩ := h.ex
  exact ⟨⟨v0, v1, v2, v3, v4, v5, v6, v8, v9, e, l0.agree ha hT, l1.agree ha hT, l2.agree ha hT, l3.agree ha hT, l4.agree ha hT, l5.agree ha hT, l6.agree ha hT, l8.agree ha hT, l9.agree ha hT⟩, h.hs, h.pFT, h.pGlo, h.pElm, h.pDat, h.pFn⟩
set_option maxRecDepth 100000 in
set_option maxHeartbeats 2000000 in
theorem Encode_any (w : World) (cs : Array Value) (m : M.Mod) (h : MIn w (· < w.heap.size) cs m) :
    Calls Tryz.prog 10 #[.agg cs] w (EncMPost m w) := by
  obtain ⟨v0, v1, v2, v3, v4, v5, v6, v8, v9, e, l0, l1, l2, l3, l4, l5, l6, l8, l9⟩ := h.ex
  obtain ⟨A0, c0, rfl, _⟩ := l0.form
  obtain ⟨A1, c1, rfl, _⟩ := l1.form
  obtain ⟨A2, c2, rfl, _⟩ := l2.form
  obtain ⟨A3, c3, rfl, _⟩ := l3.form
  obtain ⟨A4, c4, rfl, _⟩ := l4.form
  obtain ⟨A5, c5, rfl, _⟩ := l5.form
  obtain ⟨A6, c6, rfl, _⟩ := l6.form
  obtain ⟨A8, c8, rfl, _⟩ := l8.form
  obtain ⟨A9, c9, rfl, _⟩ := l9.form
  clear l0 l1 l2 l3 l4 l5 l6 l8 l9
  have he : Value.agg cs = .agg #[.slice A0 m.types.length c0, .slice A1 m.imports.length c1, .slice A2 m.funcs.length c2, .slice A3 m.tables.length c3, .slice A4 m.memories.length c4, .slice A5 m.globals.length c5, .slice A6 m.exports.length c6, .int .i64 m.start, .slice A8 m.elems.length c8, .slice A9 m.datas.length c9] := by rw [e]
  have key : ∀ W2 : World, W2 = ((w.alloc (.cells cs 32)).alloc (.cells mheadV 5 (8, 9))).alloc (.cells #[.slice (some ⟨w.heap.size + 1, 0, none⟩) 8 8] 89) →
      Calls Tryz.prog 37 #[.pointer (some ⟨w.heap.size + 1 + 1, 0, none⟩), .pointer (some ⟨w.heap.size, 0, none⟩)] W2 (WrPostY (w.heap.size + 1) (w.heap.size + 1 + 1) mhead (M.topOk (okM m) (ysM m) 11 1) (M.topYs (ysM m) 11 1) W2) ∧ Below w.heap.size w W2 ∧ MTy (w.heap.size + 1) W2 (w.heap.size + 1 + 1) mhead := by
    rintro W2 rfl
    have b1 : Below w.heap.size w (w.alloc (.cells cs 32)) := (Below.refl _ _).alloc (Nat.le_refl _) _
    have b2 := b1.alloc b1.size (.cells mheadV 5 (8, 9))
    have b3 := b2.alloc b2.size (.cells #[.slice (some ⟨w.heap.size + 1, 0, none⟩) 8 8] 89)
    have e1 : (w.alloc (.cells cs 32)).heap.size = w.heap.size + 1 := by simp
    have e2 : ((w.alloc (.cells cs 32)).alloc (.cells mheadV 5 (8, 9))).heap.size = w.heap.size + 1 + 1 := by simp
    have hD : (((w.alloc (.cells cs 32)).alloc (.cells mheadV 5 (8, 9))).alloc (.cells #[.slice (some ⟨w.heap.size + 1, 0, none⟩) 8 8] 89)).heap[w.heap.size]? = some (.cells cs 32 (0, 0)) := by
      rw [Below.heap_alloc _ _ _ (by simp; omega), Below.heap_alloc _ _ _ (by simp)]; exact heap_alloc_new w _
    have hh : MHd (w.heap.size + 1) (((w.alloc (.cells cs 32)).alloc (.cells mheadV 5 (8, 9))).alloc (.cells #[.slice (some ⟨w.heap.size + 1, 0, none⟩) 8 8] 89)) (w.heap.size + 1 + 1) := by
      refine ⟨⟨w.heap.size + 1, ?_, ?_, Nat.le_refl _⟩, by omega⟩
      · rw [← e2]; exact heap_alloc_new _ _
      · rw [Below.heap_alloc _ _ _ (by simp), ← e1]; exact heap_alloc_new _ _
    refine ⟨wsections_any _ _ _ _ _ _ _ (.inr ⟨hh, rfl⟩) (secs_ok _ _ _ cs m hD (by omega) (h.agree (below_agree b3) (fun k (hk : k < w.heap.size) => by show k < _; omega))), b3, .inr ⟨hh, rfl⟩⟩
  have hcv : ∀ W : World, (convert 33 33 (.slice (some ⟨W.heap.size, 0, none⟩) 8 8)).run Tryz.prog (W.alloc (.cells #[.int .u8 0, .int .u8 97, .int .u8 115, .int .u8 109, .int .u8 1, .int .u8 0, .int .u8 0, .int .u8 0] 5)) = .ok (.slice (some ⟨W.heap.size, 0, none⟩) 8 8) (W.alloc (.cells mheadV 5 (8, 9))) := fun W =>
    Lib.run_convert_bytes_const W 33 5 mheadV 8 8 Tryz.underlying33 Tryz.underlying5
  have hcv1 := hcv (w.alloc (.cells cs 32))
  replace key := Lib.hid key
  rw [he]
  rw [e] at key hcv1
  have esz : ∀ (o : Obj), (w.alloc o).heap.size = w.heap.size + 1 := fun o => by simp
  rw [esz] at hcv1
  clear h he e hcv esz
  go_enter Tryz.func10, Tryz.ntmps10
  go_wp2_with fail
  obtain ⟨k1, k2, k3⟩ := key.out _ rfl
  clear key hcv1
  refine k1.mono ?_
  clear k1
  rintro e1 w1 (⟨ho, hlen, rfl, ht, d⟩ | ⟨hn, rfl, d⟩)
  · have D := k2.trans ((k3.below d).mono (Nat.le_succ _))
    obtain ⟨A, c, hc, hb⟩ := ht.bytes
    have hfin : EncMPost m w (.returned (.tuple #[.slice A (mhead ++ M.topYs (ysM m) 11 1).length c, .int .i64 0])) w1 := .inl ⟨⟨ho, hlen⟩, ⟨A, c, rfl, hb⟩, D⟩
    obtain ⟨n, hn⟩ : ∃ n, n = (mhead ++ M.topYs (ysM m) 11 1).length := ⟨_, rfl⟩
    rw [← hn] at hc hfin
    replace hfin := Lib.hid hfin
    clear ho hlen ht d hb D k2 k3 hn
    go_wp2_with fail
    go_ret2
    exact hfin.out
  · have D := k2.trans ((k3.below d).mono (Nat.le_succ _))
    have hfin : EncMPost m w (.returned (.tuple #[.slice none 0 0, .int .i64 100])) w1 := .inr ⟨hn, rfl, D⟩
    replace hfin := Lib.hid hfin
    clear hn d D k2 k3
    go_wp2_with fail
    go_ret2
    exact hfin.out
end Go.Proofs.YtilaheifccjjeaaGreat
namespace Go.Proofs.YtilaheifccjjeaaGreat.M
/-- What section 3 has of a function. -/
def cHead : Codec Fn := cMapP cNum (fun t => ⟨t, [], .nil⟩) (fun y => y.ty) (fun y => y.lo = [] ∧ y.bo = .nil) (fun _ _ => rfl) (fun y _ h => by cases y; simp only at h; rw [h.1, h.2]) (fun _ _ => ⟨rfl, rfl⟩)
/-- What section 10 has of a function. -/
def cFnB : Codec Fn := cMapP cBody (fun x => ⟨0, x.1, x.2⟩) (fun y => (y.lo, y.bo)) (fun y => y.ty = 0) (fun _ _ => rfl) (fun y _ h => by cases y; simp only at h; rw [h]) (fun _ _ => rfl)
/-- A module of which some sections have been read. -/
structure Dm where
  m : Mod
  bodies : List Fn
def dm0 : Dm := ⟨mod0, []⟩
/-- A section, by its id: what is known behind it, and what it has left. -/
def sect (id : Nat) (d : Dm) (bs : List Nat) : Option (Dm × List Nat) :=
  match id with
  | 0 => (cName.rd bs).bind fun _ => some (d, [])
  | 1 => ((vec cFT).rd bs).bind fun x => some (⟨{ d.m with types := x.1 }, d.bodies⟩, x.2)
  | 2 => ((vec cImp).rd bs).bind fun x => some (⟨{ d.m with imports := x.1 }, d.bodies⟩, x.2)
  | 3 => ((vec cHead).rd bs).bind fun x => some (⟨{ d.m with funcs := x.1 }, d.bodies⟩, x.2)
  | 4 => ((vec cTab).rd bs).bind fun x => some (⟨{ d.m with tables := x.1 }, d.bodies⟩, x.2)
  | 5 => ((vec cLim).rd bs).bind fun x => some (⟨{ d.m with memories := x.1 }, d.bodies⟩, x.2)
  | 6 => ((vec cGlo).rd bs).bind fun x => some (⟨{ d.m with globals := x.1 }, d.bodies⟩, x.2)
  | 7 => ((vec cExp).rd bs).bind fun x => some (⟨{ d.m with exports := x.1 }, d.bodies⟩, x.2)
  | 8 => (num bs).bind fun x => some (⟨{ d.m with start := x.1 }, d.bodies⟩, x.2)
  | 9 => ((vec cElm).rd bs).bind fun x => some (⟨{ d.m with elems := x.1 }, d.bodies⟩, x.2)
  | 10 => ((vec cFnB).rd bs).bind fun x => some (⟨d.m, x.1⟩, x.2)
  | 11 => ((vec cDat).rd bs).bind fun x => some (⟨{ d.m with datas := x.1 }, d.bodies⟩, x.2)
  | _ => none
/-- A section of so many bytes, all used. -/
def sectS (id : Nat) (d : Dm) (bs : List Nat) : Option (Dm × List Nat) := (cPiece.rd bs).bind fun p => (sect id d p.1).bind fun q => match q.2 with | [] => some (q.1, p.2) | _ => none
def sects : Nat → Nat → Dm → List Nat → Option Dm
  | _, _, d, [] => some d
  | 0, _, _, _ :: _ => none
  | n + 1, last, d, b :: r => if 12 ≤ b ∨ (b ≠ 0 ∧ b ≤ last) then none else (sectS b d r).bind fun q => sects n (max last b) q.1 q.2
def joinM : List Fn → List Fn → List Fn
  | f :: fs, b :: bs => ⟨f.ty, b.lo, b.bo⟩ :: joinM fs bs
  | _, _ => []
def joined (d : Dm) : Option Mod := if d.bodies.length = d.m.funcs.length then some { d.m with funcs := joinM d.m.funcs d.bodies } else none
/-- A module's bytes. -/
def rdModule (bs : List Nat) : Option Mod := if 65536 < bs.length then none else (rdHead header bs).bind fun r => (sects r.length 0 dm0 r).bind joined
theorem sectS_short {id : Nat} {d : Dm} {bs r : List Nat} {e : Dm} (h : sectS id d bs = some (e, r)) : r.length ≤ bs.length := by
  obtain ⟨⟨x, r1⟩, h1, h2⟩ := Option.bind_eq_some_iff.1 h
  obtain ⟨⟨e2, r2⟩, h3, h4⟩ := Option.bind_eq_some_iff.1 h2
  unfold cPiece at h1
  simp only at h1
  obtain ⟨⟨v, r5⟩, h5, h6⟩ := Option.bind_eq_some_iff.1 h1
  have h7 := (num_short h5).2.2
  simp only at h6
  cases r2 with
  | nil =>
    obtain ⟨rfl, rfl⟩ : e2 = e ∧ r1 = r := by simpa using h4
    split at h6
    · cases h6; rw [List.length_drop]; omega
    · cases h6
  | cons => cases h4
theorem sects_fuel : ∀ (n m last : Nat) (d : Dm) (bs : List Nat), bs.length ≤ n → bs.length ≤ m → sects n last d bs = sects m last d bs
  | n, m, last, d, [], _, _ => by cases n <;> cases m <;> rfl
  | 0, m, last, d, b :: r, h, _ => by simp at h
  | n + 1, 0, last, d, b :: r, _, h => by simp at h
  | n + 1, m + 1, last, d, b :: r, h1, h2 => by
    simp only [List.length_cons] at h1 h2
    simp only [sects]
    split
    · rfl
    · cases hs : sectS b d r with
      | none => rfl
      | some q =>
        have := sectS_short (e := q.1) (r := q.2) hs
        simp only [Option.bind_some]
        exact sects_fuel n m _ _ _ (by omega) (by omega)
/-- A group of locals. -/
def grp (acc : List Int) (bs : List Nat) : Option (List Int × List Nat) := (num bs).bind fun c => (cVal.rd c.2).bind fun v => if c.1 ≤ 64 - (acc.length : Int) then some (acc ++ List.replicate c.1.toNat v.1, v.2) else none
theorem groups_grp (n : Nat) (acc : List Int) (bs : List Nat) : rGroups (n + 1) acc bs = (grp acc bs).bind fun p => rGroups n p.1 p.2 := by
  simp only [rGroups, grp, Option.bind_assoc]
  congr 1
  funext c
  congr 1
  funext v
  split <;> rfl
end Go.Proofs.YtilaheifccjjeaaGreat.M
namespace Go.Proofs.YtilaheifccjjeaaGreat
namespace M
theorem rdHead_some : ∀ {t bs r : List Nat}, rdHead t bs = some r → bs = t ++ r
  | [], bs, r, h => by cases h; rfl
  | x :: t, [], r, h => by cases h
  | x :: t, b :: s, r, h => by
    unfold rdHead at h
    split at h
    · rename_i e; rw [rdHead_some h, e]; rfl
    · cases h
theorem rdModule_head {bs : List Nat} {m : Mod} (h : rdModule bs = some m) : ∃ r, bs = header ++ r := by
  unfold rdModule at h
  split at h
  · cases h
  · obtain ⟨r, h1, _⟩ := Option.bind_eq_some_iff.1 h
    exact ⟨r, rdHead_some h1⟩
/-- Bytes that begin otherwise are no module. -/
theorem rdModule_other {bs : List Nat} {k : Nat} (hk : k < 8) (h : bs[k]? ≠ header[k]?) : rdModule bs = none := by
  cases e : rdModule bs with
  | none => rfl
  | some m =>
    obtain ⟨r, hr⟩ := rdModule_head e
    refine absurd ?_ h
    rw [hr, List.getElem?_append_left (by simpa [header] using hk)]
theorem rdModule_short {bs : List Nat} (h : bs.length < 8) : rdModule bs = none := by
  cases e : rdModule bs with
  | none => rfl
  | some m =>
    obtain ⟨r, hr⟩ := rdModule_head e
    rw [hr, List.length_append] at h
    have : header.length = 8 := rfl
    omega
def hd3 (f : Fn) : Fn := ⟨f.ty, [], .nil⟩
def bd10 (f : Fn) : Fn := ⟨0, f.lo, f.bo⟩
/-- What is known of a module ahead of section k. -/
def part (m : Mod) (k : Nat) : Dm :=
  ⟨⟨if 1 < k then m.types else [], if 2 < k then m.imports else [], if 3 < k then m.funcs.map hd3 else [], if 4 < k then m.tables else [], if 5 < k then m.memories else [], if 6 < k then m.globals else [], if 7 < k then m.exports else [], if 8 < k then m.start else -1, if 9 < k then m.elems else [], if 11 < k then m.datas else []⟩, if 10 < k then m.funcs.map bd10 else []⟩
theorem vec_map {α β γ : Type} (a : Codec α) (b : Codec β) (f : γ → α) (g : γ → β) (h : ∀ x, b.wr (g x) = a.wr (f x)) (xs : List γ) : (vec b).wr (xs.map g) = (vec a).wr (xs.map f) := by
  show U _ ++ wTimes b _ = U _ ++ wTimes a _
  have h1 : ∀ xs : List γ, wTimes b (xs.map g) = wTimes a (xs.map f) := fun xs => by
    induction xs with
    | nil => rfl
    | cons x t ih => simp only [List.map_cons, wTimes, h, ih]
  rw [h1, List.length_map, List.length_map]
end M
end Go.Proofs.YtilaheifccjjeaaGreat
