/-
  Whether one instruction may be, as the page tells it, kind by kind; condition: the instruction lies in memory that was there at the call.
-/
import Derived.Test.YtjapcalndolamaaChk3
import Derived.Test.YtjapcalndolamaaSlots
import Derived.Test.YtjapcalndolamaaMayMath
import Derived.Deep.DeepCutAuto
import Derived.Deep.CutBlock
import Derived.Deep.Light
namespace Go.Proofs.Ytjapcalndolamaa
open Go.RowKit
theorem in_any (v : Int) (w : World) : Calls Try.prog 53 #[.int .i64 v] w fun e w' => e = .returned (.bool (decide (M.inR v))) ∧ w = w' := by
  by_cases h1 : 0 ≤ v
  · by_cases h2 : v < 4294967296
    · have hd := Lib.hid (show decide (M.inR v) = true by simp [M.inR, h1, h2])
      go_enter Try.func53, Try.ntmps53
      go_wp2
      go_ret
      exact ⟨by rw [hd.out]; rfl, rfl⟩
    · have hd := Lib.hid (show decide (M.inR v) = false by rw [decide_eq_false_iff_not]; unfold M.inR; omega)
      go_enter Try.func53, Try.ntmps53
      go_wp2
      go_ret
      exact ⟨by rw [hd.out]; first | rfl | exact ret_bool (by simp; omega), rfl⟩
  · have hd := Lib.hid (show decide (M.inR v) = false by rw [decide_eq_false_iff_not]; unfold M.inR; omega)
    go_enter Try.func53, Try.ntmps53
    go_wp2
    go_ret
    exact ⟨by rw [hd.out]; rfl, rfl⟩
theorem in_yes (v : Int) (w : World) (h : M.inR v) : Calls Try.prog 53 #[.int .i64 v] w fun e w' => e = .returned (.bool true) ∧ w = w' :=
  (in_any v w).mono fun _ _ ⟨a, b⟩ => ⟨by rw [a]; simp [h], b⟩
theorem in_no (v : Int) (w : World) (h : ¬ M.inR v) : Calls Try.prog 53 #[.int .i64 v] w fun e w' => e = .returned (.bool false) ∧ w = w' :=
  (in_any v w).mono fun _ _ ⟨a, b⟩ => ⟨by rw [a]; simp [h], b⟩
theorem shape_k (op : Int) (k : Nat) (w : World) (h : M.kind op = k) : Calls Try.prog 52 #[.int .i64 op] w fun e w' => e = .returned (.int .i64 (k : Nat)) ∧ w = w' :=
  (shape_any op w).mono fun _ _ ⟨a, b⟩ => ⟨by rw [a, h], b⟩
def MayOk (N : Nat) : Prop := ∀ (l : M.L) (v : Value) (d : Nat) (w : World), l.sz < N → LB w v l → d ≤ 40 → Calls Try.prog 18 #[v, .int .i64 d] w (RPost (M.ok d l) w)
theorem shape_b (op : Int) (k : Nat) (w : World) (h : M.kind op = k) : Calls Try.prog 52 #[.int .i64 op] w fun e w' => e = .returned (.int .i64 (k : Nat)) ∧ Below w.heap.size w w' :=
  (shape_k op k w h).mono fun _ _ ⟨a, b⟩ => ⟨a, by rw [← b]; exact Below.refl _ _⟩
theorem in_any_b (v : Int) (w : World) : Calls Try.prog 53 #[.int .i64 v] w fun e w' => e = .returned (.bool (decide (M.inR v))) ∧ Below w.heap.size w w' :=
  (in_any v w).mono fun _ _ ⟨a, b⟩ => ⟨a, by rw [← b]; exact Below.refl _ _⟩
theorem in_yes_b (v : Int) (w : World) (h : M.inR v) : Calls Try.prog 53 #[.int .i64 v] w fun e w' => e = .returned (.bool true) ∧ Below w.heap.size w w' :=
  (in_yes v w h).mono fun _ _ ⟨a, b⟩ => ⟨a, by rw [← b]; exact Below.refl _ _⟩
/-- What x and y hold behind the first call. -/
structure XY (w w1 : World) (h : M.Hd) (vL vB vE : Value) : Prop where
  x : ItemAt w1 w.heap.size 0 h vL vB vE
  y : ItemAt w1 (w.heap.size + 1) 0 (M.hd0 h.op) (.slice none 0 0) (.slice none 0 0) (.slice none 0 0)
  fz : ∀ j, w1.frozen? ⟨w.heap.size + 1, j, none⟩ = false
  below : Below w.heap.size w w1
  size : w.heap.size + 1 < w1.heap.size
theorem xy_of {w w1 : World} {h : M.Hd} {vL vB vE : Value} {X Y : Array Value} {t : TypeId} (hb : Below ((w.alloc (.cells X t)).alloc (.cells Y t)).heap.size ((w.alloc (.cells X t)).alloc (.cells Y t)) w1)
    (hX : X = #[.int .i64 h.op, .int .i64 h.ty, .int .i64 h.ix, .int .i64 h.al, .int .i64 h.ofs, .int .i64 h.val, vL, vB, vE]) (hY : Y = #[.int .i64 h.op, .int .i64 0, .int .i64 0, .int .i64 0, .int .i64 0, .int .i64 0, .slice none 0 0, .slice none 0 0, .slice none 0 0]) : XY w w1 h vL vB vE := by
  obtain ⟨d, f, g⟩ := two_new hb
  subst hX hY
  exact ⟨⟨f 0, f 1, f 2, f 3, f 4, f 5, f 6, f 7, f 8⟩, ⟨g 0, g 1, g 2, g 3, g 4, g 5, g 6, g 7, g 8⟩, fun j => by rw [hb.frozen (p := ⟨w.heap.size + 1, j, none⟩) (by simp)]; simp, d, by have := hb.size; simp at this; omega⟩
theorem op_facts {op : Int} {k : Nat} (hk : M.kind op = k) (h2 : k ≠ 2 := by decide) : op ≠ 4 := by
  intro h; subst h; exact h2 (by rw [← hk]; decide)
theorem two_below' (w : World) : Below w.heap.size w w := Below.refl _ _
theorem may_below (w : World) (x y : Array Value) (s t : TypeId) : Below w.heap.size w ((w.alloc (.cells x s)).alloc (.cells y t)) := ((Below.refl _ _).alloc (Nat.le_refl _) _).alloc (by simp) _
theorem results_one {P : Program} {fn : Func} {n : Nat} {tmps : Array Value} {w : World} (h : fn.results = #[.tmp n]) : (results fn tmps).run P w = .ok (tmps.getD n undef) w := by
  simp [results, h, go_sem]
theorem ItemAt.other {w : World} {g o : Nat} {h : M.Hd} {vL vB vE : Value} (hi : ItemAt w g o h vL vB vE) {p : Addr} (hp : g ≠ p.block) (u : Value) : ItemAt (w.setCell p u) g o h vL vB vE :=
  hi.agree (Below.heap_setCell w p u g hp)
theorem set_same {w : World} {g j : Nat} {u v : Value} (h : w.cell? ⟨g, j, none⟩ = some u) : (w.setCell ⟨g, j, none⟩ v).cell? ⟨g, j, none⟩ = some v := World.cell?_setCell_same _ _ _ h
theorem set_off {w : World} {g i j : Nat} {v : Value} (h : i ≠ j) : (w.setCell ⟨g, i, none⟩ v).cell? ⟨g, j, none⟩ = w.cell? ⟨g, j, none⟩ := World.cell?_setCell_other _ _ _ _ (by intro e; cases e; exact h rfl)
theorem ItemAt.set1 {w : World} {g : Nat} {h : M.Hd} {vL vB vE : Value} (hi : ItemAt w g 0 h vL vB vE) (u : Int) : ItemAt (w.setCell ⟨g, 1, none⟩ (.int .i64 u)) g 0 { h with ty := u } vL vB vE := by
  obtain ⟨c0, c1, c2, c3, c4, c5, c6, c7, c8⟩ := hi
  exact ⟨(set_off (by decide)).trans c0, set_same c1, (set_off (by decide)).trans c2, (set_off (by decide)).trans c3, (set_off (by decide)).trans c4, (set_off (by decide)).trans c5, (set_off (by decide)).trans c6, (set_off (by decide)).trans c7, (set_off (by decide)).trans c8⟩
theorem ItemAt.set2 {w : World} {g : Nat} {h : M.Hd} {vL vB vE : Value} (hi : ItemAt w g 0 h vL vB vE) (u : Int) : ItemAt (w.setCell ⟨g, 2, none⟩ (.int .i64 u)) g 0 { h with ix := u } vL vB vE := by
  obtain ⟨c0, c1, c2, c3, c4, c5, c6, c7, c8⟩ := hi
  exact ⟨(set_off (by decide)).trans c0, (set_off (by decide)).trans c1, set_same c2, (set_off (by decide)).trans c3, (set_off (by decide)).trans c4, (set_off (by decide)).trans c5, (set_off (by decide)).trans c6, (set_off (by decide)).trans c7, (set_off (by decide)).trans c8⟩
theorem ItemAt.set3 {w : World} {g : Nat} {h : M.Hd} {vL vB vE : Value} (hi : ItemAt w g 0 h vL vB vE) (u : Int) : ItemAt (w.setCell ⟨g, 3, none⟩ (.int .i64 u)) g 0 { h with al := u } vL vB vE := by
  obtain ⟨c0, c1, c2, c3, c4, c5, c6, c7, c8⟩ := hi
  exact ⟨(set_off (by decide)).trans c0, (set_off (by decide)).trans c1, (set_off (by decide)).trans c2, set_same c3, (set_off (by decide)).trans c4, (set_off (by decide)).trans c5, (set_off (by decide)).trans c6, (set_off (by decide)).trans c7, (set_off (by decide)).trans c8⟩
theorem ItemAt.set4 {w : World} {g : Nat} {h : M.Hd} {vL vB vE : Value} (hi : ItemAt w g 0 h vL vB vE) (u : Int) : ItemAt (w.setCell ⟨g, 4, none⟩ (.int .i64 u)) g 0 { h with ofs := u } vL vB vE := by
  obtain ⟨c0, c1, c2, c3, c4, c5, c6, c7, c8⟩ := hi
  exact ⟨(set_off (by decide)).trans c0, (set_off (by decide)).trans c1, (set_off (by decide)).trans c2, (set_off (by decide)).trans c3, set_same c4, (set_off (by decide)).trans c5, (set_off (by decide)).trans c6, (set_off (by decide)).trans c7, (set_off (by decide)).trans c8⟩
theorem ItemAt.set5 {w : World} {g : Nat} {h : M.Hd} {vL vB vE : Value} (hi : ItemAt w g 0 h vL vB vE) (u : Int) : ItemAt (w.setCell ⟨g, 5, none⟩ (.int .i64 u)) g 0 { h with val := u } vL vB vE := by
  obtain ⟨c0, c1, c2, c3, c4, c5, c6, c7, c8⟩ := hi
  exact ⟨(set_off (by decide)).trans c0, (set_off (by decide)).trans c1, (set_off (by decide)).trans c2, (set_off (by decide)).trans c3, (set_off (by decide)).trans c4, set_same c5, (set_off (by decide)).trans c6, (set_off (by decide)).trans c7, (set_off (by decide)).trans c8⟩
theorem ItemAt.set6 {w : World} {g : Nat} {h : M.Hd} {vL vB vE : Value} (hi : ItemAt w g 0 h vL vB vE) (u : Value) : ItemAt (w.setCell ⟨g, 6, none⟩ u) g 0 h u vB vE := by
  obtain ⟨c0, c1, c2, c3, c4, c5, c6, c7, c8⟩ := hi
  exact ⟨(set_off (by decide)).trans c0, (set_off (by decide)).trans c1, (set_off (by decide)).trans c2, (set_off (by decide)).trans c3, (set_off (by decide)).trans c4, (set_off (by decide)).trans c5, set_same c6, (set_off (by decide)).trans c7, (set_off (by decide)).trans c8⟩
theorem ItemAt.set7 {w : World} {g : Nat} {h : M.Hd} {vL vB vE : Value} (hi : ItemAt w g 0 h vL vB vE) (u : Value) : ItemAt (w.setCell ⟨g, 7, none⟩ u) g 0 h vL u vE := by
  obtain ⟨c0, c1, c2, c3, c4, c5, c6, c7, c8⟩ := hi
  exact ⟨(set_off (by decide)).trans c0, (set_off (by decide)).trans c1, (set_off (by decide)).trans c2, (set_off (by decide)).trans c3, (set_off (by decide)).trans c4, (set_off (by decide)).trans c5, (set_off (by decide)).trans c6, set_same c7, (set_off (by decide)).trans c8⟩
theorem ItemAt.set8 {w : World} {g : Nat} {h : M.Hd} {vL vB vE : Value} (hi : ItemAt w g 0 h vL vB vE) (u : Value) : ItemAt (w.setCell ⟨g, 8, none⟩ u) g 0 h vL vB u := by
  obtain ⟨c0, c1, c2, c3, c4, c5, c6, c7, c8⟩ := hi
  exact ⟨(set_off (by decide)).trans c0, (set_off (by decide)).trans c1, (set_off (by decide)).trans c2, (set_off (by decide)).trans c3, (set_off (by decide)).trans c4, (set_off (by decide)).trans c5, (set_off (by decide)).trans c6, (set_off (by decide)).trans c7, set_same c8⟩
/-- What the ways through the switch have in common behind it. -/
def MayRel (w0 : World) (d : Nat) (h : M.Hd) (b e : M.L) (vL vB vE : Value) (ok : Value) (w' : World) : Prop :=
  ∃ (t : Bool) (y : M.Hd) (nl nb ne : Nat) (AL AB AE : Option Addr) (cL cB cE : Nat), ok = .bool t ∧ ItemAt w' w0.heap.size 0 h vL vB vE ∧ ItemAt w' (w0.heap.size + 1) 0 y (.slice AL nl cL) (.slice AB nb cB) (.slice AE ne cE) ∧ Below w0.heap.size w0 w' ∧
    ((t = true ∧ h.op = y.op ∧ h.ty = y.ty ∧ h.ix = y.ix ∧ h.al = y.al ∧ h.ofs = y.ofs ∧ h.val = y.val ∧ h.labels.length = nl ∧ b.len = nb ∧ e.len = ne) ↔ okI d h b e)
/-- What the loop over the labels keeps up. -/
def TabRel (w0 : World) (h : M.Hd) (vL vB vE : Value) (ok i : Value) (w' : World) : Prop :=
  ∃ (k : Nat) (r : Bool), k ≤ h.labels.length ∧ i = .int .i64 k ∧ ok = .bool r ∧ (r = true ↔ (M.inR h.ix ∧ ∀ j, j < k → M.inR (h.labels.getD j 0))) ∧ ItemAt w' w0.heap.size 0 h vL vB vE ∧ ItemAt w' (w0.heap.size + 1) 0 { M.hd0 h.op with ix := h.ix } vL (.slice none 0 0) (.slice none 0 0) ∧ Below w0.heap.size w0 w' ∧ w0.heap.size + 1 < w'.heap.size
set_option maxRecDepth 100000 in
set_option maxHeartbeats 8000000 in
theorem may_any (N : Nat) (ih : MayOk N) (h : M.Hd) (b e : M.L) (vL vB vE : Value) (d : Nat) (w : World) (hbN : b.sz < N) (heN : e.sz < N) (hR : Rng h) (h1 : NB w vL h.labels) (h2 : LB w vB b) (h3 : LB w vE e) (hd : d ≤ 40) :
    Calls Try.prog 30 #[.agg #[.int .i64 h.op, .int .i64 h.ty, .int .i64 h.ix, .int .i64 h.al, .int .i64 h.ofs, .int .i64 h.val, vL, vB, vE], .int .i64 d] w (RPost (okI d h b e) w) := by
  obtain ⟨AL, cL, rfl, hLen⟩ := h1.form
  replace hLen := Lib.hid hLen
  obtain ⟨AB, cB, rfl, _⟩ := h2.form
  obtain ⟨AE, cE, rfl, _⟩ := h3.form
  replace hR := Lib.hid hR
  replace h1 := Lib.hid h1
  replace h2 := Lib.hid h2
  replace h3 := Lib.hid h3
  replace ih := Lib.hid ih
  obtain ⟨k, hk⟩ : ∃ k, M.kind h.op = k := ⟨_, rfl⟩
  replace hk := Lib.hid hk
  go_enter Try.func30, Try.ntmps30
  go_upto_region 3 with fail
  go_upto_block 0 with ((go_at_call 52; refine (shape_b _ k _ hk.out).mono ?_; rintro e1 w1 ⟨rfl, b1⟩))
  go_cut [6] (fun ok w' => MayRel w d h b e (.slice AL h.labels.length cL) (.slice AB b.len cB) (.slice AE e.len cE) ok w')
  case first =>
    obtain ⟨hx, hy, fz, bel, zz⟩ := xy_of (h := h) b1 rfl rfl
    clear b1
    have HX := Lib.hid hx
    have HY := Lib.hid hy
    obtain ⟨x0, x1, x2, x3, x4, x5, x6, x7, x8⟩ := hx
    obtain ⟨y0, y1, y2, y3, y4, y5, y6, y7, y8⟩ := hy
    simp only [Nat.zero_add] at x0 x1 x2 x3 x4 x5 x6 x7 x8 y0 y1 y2 y3 y4 y5 y6 y7 y8
    clear y0
    replace bel := Lib.hid bel
    have hkc := M.kind_cases h.op
    rw [hk.out] at hkc
    rcases hkc with rfl | rfl | rfl | rfl | rfl | rfl | rfl | rfl | rfl | rfl
    · -- none
      clear y1 y2 y3 y4 y5 y6 y7 y8 fz
      go_wp2_with fail
      go_ret
      exact .no rfl (fun hp => M.flat_to hk.out hp.1) bel.out
    · -- plain
      clear y1 y2 y3 y4 y5 y6 y7 y8 fz
      go_wp2_with fail
      go_meet
      case rel =>
        refine ⟨true, M.hd0 h.op, 0, 0, 0, none, none, none, 0, 0, 0, rfl, HX.out, HY.out, bel.out, ?_⟩
        rw [← I1 d h b e (.inl hk.out)]
        simp [M.hd0]
    · -- block
      have f1 := fz 1
      have f7 := fz 7
      have f8 := fz 8
      clear y2 y3 y4 y5 y6 fz
      simp only [M.hd0] at y1 y7 y8
      cases d with
      | zero =>
        have dz : (((0 : Nat) : Int) == 0) = true := rfl
        go_wp2_with fail
        go_ret
        refine .no rfl (fun hp => ?_) bel.out
        have := (hp.2.1 hk.out).1
        omega
      | succ d =>
        have dz : (((d + 1 : Nat) : Int) == 0) = false := by rw [beq_eq_false_iff_ne]; omega
        have dz' : ((d : Int) + 1 == 0) = false := by rw [beq_eq_false_iff_ne]; omega
        have X1 := Lib.hid ((HX.out.other (p := ⟨w.heap.size + 1, 1, none⟩) (by show w.heap.size ≠ w.heap.size + 1; omega) (.int .i64 h.ty)).other (p := ⟨w.heap.size + 1, 7, none⟩) (by show w.heap.size ≠ w.heap.size + 1; omega) (.slice AB b.len cB))
        have Y1 := Lib.hid ((HY.out.set1 h.ty).set7 (.slice AB b.len cB))
        have bel1 := Lib.hid ((bel.out.setCell (p := ⟨w.heap.size + 1, 1, none⟩) (by show _ ≤ w.heap.size + 1; omega) (.int .i64 h.ty)).setCell (p := ⟨w.heap.size + 1, 7, none⟩) (by show _ ≤ w.heap.size + 1; omega) (.slice AB b.len cB))
        by_cases ty : M.tyOk h.ty
        · have hty := ty
          have hcs : ((h.ty == 64) = true) ∨ ((h.ty == 64) = false ∧ (h.ty == 127) = true) ∨ ((h.ty == 64) = false ∧ (h.ty == 127) = false ∧ (h.ty == 126) = true) := by
            rcases hty with e | e | e
            · rw [e]; exact .inl rfl
            · rw [e]; exact .inr (.inl ⟨rfl, rfl⟩)
            · rw [e]; exact .inr (.inr ⟨rfl, rfl, rfl⟩)
          clear hty
          replace ty := Lib.hid ty
          rcases hcs with q1 | ⟨q1, q2⟩ | ⟨q1, q2, q3⟩
          all_goals
            go_wp2_with fail
            refine (ih.out b _ d _ hbN (h2.out.later bel1.out) (by omega)).mono ?_
            rintro e1 w2 ⟨r, rfl, hr, b2⟩
            have X2 := X1.out.agree (b2.block _ (by simp; omega))
            have Y2 := Y1.out.agree (b2.block _ (by simp; omega))
            have bel2 := Lib.hid (bel1.out.trans (b2.mono (by simp; omega)))
            have z2 : w.heap.size + 1 < w2.heap.size := by have := b2.size; simp at this; omega
            have f8' : w2.frozen? ⟨w.heap.size + 1, 8, none⟩ = false := by rw [b2.frozen (p := ⟨w.heap.size + 1, 8, none⟩) (by simp; omega)]; simpa using f8
            clear b2 x0 x1 x2 x3 x4 x5 x6 x7 x8 y1 y7 y8 f1 f7 f8
            have x0 := X2.c0
            have x8 := X2.c8
            have y8 := Y2.c8
            simp only [Nat.zero_add] at x0 x8 y8
            replace X2 := Lib.hid X2
            replace Y2 := Lib.hid Y2
            replace hr := Lib.hid hr
            by_cases h4 : h.op = 4
            · have h4' : (h.op == 4) = true := by rw [h4]; rfl
              replace h4 := Lib.hid h4
              have X3 := Lib.hid (X2.out.other (p := ⟨w.heap.size + 1, 8, none⟩) (by show w.heap.size ≠ w.heap.size + 1; omega) (.slice AE e.len cE))
              have Y3 := Lib.hid (Y2.out.set8 (.slice AE e.len cE))
              have bel3 := Lib.hid (bel2.out.setCell (p := ⟨w.heap.size + 1, 8, none⟩) (by show _ ≤ w.heap.size + 1; omega) (.slice AE e.len cE))
              cases r with
              | false =>
                go_wp2_with fail
                go_meet
                case rel =>
                  refine ⟨false, { M.hd0 h.op with ty := h.ty }, 0, b.len, e.len, none, AB, AE, 0, cB, cE, rfl, X3.out, Y3.out, bel3.out, ?_⟩
                  rw [← I2 (d + 1) h b e hk.out]
                  have hno : ¬ M.ok d b := fun hp => by have := hr.out.2 hp; cases this
                  simp [hno]
              | true =>
                go_wp2_with fail
                refine (ih.out e _ d _ heN (h3.out.later bel3.out) (by omega)).mono ?_
                rintro e3 w3 ⟨r3, rfl, hr3, b3⟩
                have X4 := Lib.hid (X3.out.agree (b3.block _ (by simp; omega)))
                have Y4 := Lib.hid (Y3.out.agree (b3.block _ (by simp; omega)))
                have bel4 := Lib.hid (bel3.out.trans (b3.mono (by simp; omega)))
                clear b3
                replace hr3 := Lib.hid hr3
                go_wp2_with fail
                go_meet
                case rel =>
                  refine ⟨r3, { M.hd0 h.op with ty := h.ty }, 0, b.len, e.len, none, AB, AE, 0, cB, cE, rfl, X4.out, Y4.out, bel4.out, ?_⟩
                  rw [← I2 (d + 1) h b e hk.out, hr3.out]
                  have hyb : M.ok d b := hr.out.1 (by simp)
                  simp [M.hd0, hyb, ty.out, h4.out]
            · have h4' : (h.op == 4) = false := by rw [beq_eq_false_iff_ne]; exact h4
              replace h4 := Lib.hid h4
              go_wp2_with fail
              go_meet
              case rel =>
                refine ⟨r, { M.hd0 h.op with ty := h.ty }, 0, b.len, 0, none, AB, none, 0, cB, 0, rfl, X2.out, Y2.out, bel2.out, ?_⟩
                rw [← I2 (d + 1) h b e hk.out, hr.out]
                have h4o := h4.out
                simp [M.hd0, ty.out, h4o]
                intro _
                constructor
                · rintro ⟨a2, a3, a4, a5, a6, a7⟩; exact ⟨a7, a2, a3, a4, a5, a6⟩
                · rintro ⟨a7, a2, a3, a4, a5, a6⟩; exact ⟨a2, a3, a4, a5, a6, a7⟩
        · have q1 : (h.ty == 64) = false := by rw [beq_eq_false_iff_ne]; intro e; exact ty (.inl e)
          have q2 : (h.ty == 127) = false := by rw [beq_eq_false_iff_ne]; intro e; exact ty (.inr (.inl e))
          have q3 : (h.ty == 126) = false := by rw [beq_eq_false_iff_ne]; intro e; exact ty (.inr (.inr e))
          have hno := Lib.hid (show ¬ okI (d + 1) h b e from fun hp => ty ((I2 (d + 1) h b e hk.out).2 hp).2.1)
          replace ty := Lib.hid ty
          by_cases h4 : h.op = 4
          · have h4' : (h.op == 4) = true := by rw [h4]; rfl
            replace h4 := Lib.hid h4
            have X3 := Lib.hid (X1.out.other (p := ⟨w.heap.size + 1, 8, none⟩) (by show w.heap.size ≠ w.heap.size + 1; omega) (.slice AE e.len cE))
            have Y3 := Lib.hid (Y1.out.set8 (.slice AE e.len cE))
            have bel3 := Lib.hid (bel1.out.setCell (p := ⟨w.heap.size + 1, 8, none⟩) (by show _ ≤ w.heap.size + 1; omega) (.slice AE e.len cE))
            go_wp2_with fail
            go_meet
            case rel =>
              exact ⟨false, _, 0, b.len, e.len, none, AB, AE, 0, cB, cE, rfl, X3.out, Y3.out, bel3.out, ⟨fun hp => (by have := hp.1; cases this), fun hp => absurd hp hno.out⟩⟩
          · have h4' : (h.op == 4) = false := by rw [beq_eq_false_iff_ne]; exact h4
            replace h4 := Lib.hid h4
            go_wp2_with fail
            go_meet
            case rel =>
              exact ⟨false, _, 0, b.len, 0, none, AB, none, 0, cB, 0, rfl, X1.out, Y1.out, bel1.out, ⟨fun hp => (by have := hp.1; cases this), fun hp => absurd hp hno.out⟩⟩
    · -- index
      have f2 := fz 2
      clear y1 y2 y3 y4 y5 y6 y7 y8 fz
      obtain ⟨t, ht⟩ : ∃ t, t = decide (M.inR h.ix) := ⟨_, rfl⟩
      replace ht := Lib.hid ht
      replace y2 := HY.out.c2
      simp only [Nat.zero_add, M.hd0] at y2
      go_wp2_with fail
      refine (in_any_b _ _).mono ?_
      rintro e1 w2 ⟨rfl, b2⟩
      rw [← ht.out]
      have X2 := Lib.hid ((HX.out.other (p := ⟨w.heap.size + 1, 2, none⟩) (by show w.heap.size ≠ w.heap.size + 1; omega) (.int .i64 h.ix)).agree (b2.block _ (by simp; omega)))
      have Y2 := Lib.hid ((HY.out.set2 h.ix).agree (b2.block _ (by simp; omega)))
      have bel2 := Lib.hid ((bel.out.setCell (p := ⟨w.heap.size + 1, 2, none⟩) (by show _ ≤ w.heap.size + 1; omega) (.int .i64 h.ix)).trans (b2.mono (by simp; omega)))
      clear b2
      go_wp2_with fail
      go_meet
      case rel =>
        refine ⟨t, { M.hd0 h.op with ix := h.ix }, 0, 0, 0, none, none, none, 0, 0, 0, rfl, X2.out, Y2.out, bel2.out, ?_⟩
        rw [← I3 d h b e (.inl hk.out), ht.out]
        simp [M.hd0]
    · -- table
      have f2 := fz 2
      have f6 := fz 6
      clear y1 y3 y4 y5 y7 y8 fz
      simp only [M.hd0] at y2 y6
      obtain ⟨t, ht⟩ : ∃ t, t = decide (M.inR h.ix) := ⟨_, rfl⟩
      replace ht := Lib.hid ht
      go_wp2_with fail
      refine (in_any_b _ _).mono ?_
      rintro e1 w2 ⟨rfl, b2⟩
      rw [← ht.out]
      have X2 := Lib.hid (((HX.out.other (p := ⟨w.heap.size + 1, 2, none⟩) (by show w.heap.size ≠ w.heap.size + 1; omega) (.int .i64 h.ix)).other (p := ⟨w.heap.size + 1, 6, none⟩) (by show w.heap.size ≠ w.heap.size + 1; omega) (.slice AL h.labels.length cL)).agree (b2.block _ (by simp; omega)))
      have Y2 := Lib.hid (((HY.out.set2 h.ix).set6 (.slice AL h.labels.length cL)).agree (b2.block _ (by simp; omega)))
      have bel2 := Lib.hid (((bel.out.setCell (p := ⟨w.heap.size + 1, 2, none⟩) (by show _ ≤ w.heap.size + 1; omega) (.int .i64 h.ix)).setCell (p := ⟨w.heap.size + 1, 6, none⟩) (by show _ ≤ w.heap.size + 1; omega) (.slice AL h.labels.length cL)).trans (b2.mono (by simp; omega)))
      have z2 : w.heap.size + 1 < w2.heap.size := by have := b2.size; simp at this; omega
      clear b2 x0 x1 x2 x3 x4 x5 x6 x7 x8 y2 y6 f2 f6 HX HY bel zz
      obtain ⟨hn1, hn2, hn3⟩ := hLen.out
      unfold maxLen at hn3
      go_wp2_with fail
      go_loopw [6, 7] (fun ok i w' => TabRel w h (.slice AL h.labels.length cL) (.slice AB b.len cB) (.slice AE e.len cE) ok i w') (fun _ i _ => h.labels.length - (intOf i).toNat)
      case atStart => exact ⟨0, t, by omega, rfl, rfl, by rw [ht.out]; simp, X2.out, Y2.out, bel2.out, z2⟩
      case round =>
        obtain ⟨j, r, hj, rfl, rfl, hr, X3, Y3, bel3, z3⟩ := hrel
        have x6 := X3.c6
        simp only [Nat.zero_add] at x6
        replace hr := Lib.hid hr
        replace X3 := Lib.hid X3
        replace Y3 := Lib.hid Y3
        by_cases hlt : j < h.labels.length
        · obtain ⟨A', c', e', _, hat⟩ := h1.out.later bel3
          injection e' with e'1 _ e'3
          subst e'1
          subst e'3
          obtain ⟨ad, rfl, _, _, q⟩ := hat j hlt
          clear hat
          obtain ⟨x, hx⟩ : ∃ x, x = h.labels.getD j 0 := ⟨_, rfl⟩
          rw [← hx] at q
          replace hx := Lib.hid hx
          replace bel3 := Lib.hid bel3
          have u0 : (0 : Int) ≤ (j : Int) := by omega
          have u1 : (j : Int) < (h.labels.length : Int) := by omega
          cases r with
          | false =>
            go_wp2_with fail
            refine ⟨⟨j + 1, false, by omega, by go_num, rfl, ?_, X3.out, Y3.out, bel3.out, z3⟩, by simp [intOf]; omega⟩
            constructor
            · intro hf; cases hf
            · intro ⟨a1, a2⟩
              exact hr.out.2 ⟨a1, fun i hi => a2 i (by omega)⟩
          | true =>
            obtain ⟨s, hs⟩ : ∃ s, s = decide (M.inR x) := ⟨_, rfl⟩
            replace hs := Lib.hid hs
            go_wp2_with fail
            refine (in_any_b _ _).mono ?_
            rintro e3 w3 ⟨rfl, b3⟩
            rw [← hs.out]
            have X4 := Lib.hid (X3.out.agree (b3.block _ (by omega)))
            have Y4 := Lib.hid (Y3.out.agree (b3.block _ (by omega)))
            have bel4 := Lib.hid (bel3.out.trans (b3.mono (by omega)))
            have z4 : w.heap.size + 1 < w3.heap.size := Nat.lt_of_lt_of_le z3 b3.size
            clear b3
            go_wp2_with fail
            refine ⟨⟨j + 1, s, by omega, by go_num, rfl, ?_, X4.out, Y4.out, bel4.out, z4⟩, by simp [intOf]; omega⟩
            rw [hs.out, decide_eq_true_iff]
            have hr' := hr.out.1 (by simp)
            constructor
            · intro hx'
              refine ⟨hr'.1, fun i hi => ?_⟩
              by_cases e : i = j
              · subst e; rw [← hx.out]; exact hx'
              · exact hr'.2 i (by omega)
            · intro ⟨a1, a2⟩
              rw [hx.out]
              exact a2 j (by omega)
        · replace bel3 := Lib.hid bel3
          go_wp2_with fail
          go_meet
          case rel =>
            refine ⟨r, { M.hd0 h.op with ix := h.ix }, h.labels.length, 0, 0, AL, none, none, cL, 0, 0, rfl, X3.out, Y3.out, bel3.out, ?_⟩
            rw [← I4 d h b e hk.out]
            have hr2 : r = true ↔ (M.inR h.ix ∧ ∀ x ∈ h.labels, M.inR x) := by
              rw [hr.out]
              exact ⟨fun ⟨a1, a2⟩ => ⟨a1, mem_of_all (fun i hi => a2 i (by omega))⟩, fun ⟨a1, a2⟩ => ⟨a1, fun i hi => a2 _ (getD_mem (by omega))⟩⟩
            rw [hr2]
            simp [M.hd0, and_assoc]
    · -- called
      have f2 := fz 2
      clear y1 y2 y3 y4 y5 y6 y7 y8 fz
      obtain ⟨t, ht⟩ : ∃ t, t = decide (M.inR h.ix) := ⟨_, rfl⟩
      replace ht := Lib.hid ht
      replace y2 := HY.out.c2
      simp only [Nat.zero_add, M.hd0] at y2
      go_wp2_with fail
      refine (in_any_b _ _).mono ?_
      rintro e1 w2 ⟨rfl, b2⟩
      rw [← ht.out]
      have X2 := Lib.hid ((HX.out.other (p := ⟨w.heap.size + 1, 2, none⟩) (by show w.heap.size ≠ w.heap.size + 1; omega) (.int .i64 h.ix)).agree (b2.block _ (by simp; omega)))
      have Y2 := Lib.hid ((HY.out.set2 h.ix).agree (b2.block _ (by simp; omega)))
      have bel2 := Lib.hid ((bel.out.setCell (p := ⟨w.heap.size + 1, 2, none⟩) (by show _ ≤ w.heap.size + 1; omega) (.int .i64 h.ix)).trans (b2.mono (by simp; omega)))
      clear b2
      go_wp2_with fail
      go_meet
      case rel =>
        refine ⟨t, { M.hd0 h.op with ix := h.ix }, 0, 0, 0, none, none, none, 0, 0, 0, rfl, X2.out, Y2.out, bel2.out, ?_⟩
        rw [← I3 d h b e (.inr hk.out), ht.out]
        simp [M.hd0]
    · -- access
      have f3 := fz 3
      have f4 := fz 4
      clear y1 y2 y5 y6 y7 y8 fz
      simp only [M.hd0] at y3 y4
      obtain ⟨t, ht⟩ : ∃ t, t = decide (M.inR h.al) := ⟨_, rfl⟩
      replace ht := Lib.hid ht
      go_wp2_with fail
      refine (in_any_b _ _).mono ?_
      rintro e1 w2 ⟨rfl, b2⟩
      rw [← ht.out]
      have X2 := ((HX.out.other (p := ⟨w.heap.size + 1, 3, none⟩) (by show w.heap.size ≠ w.heap.size + 1; omega) (.int .i64 h.al)).other (p := ⟨w.heap.size + 1, 4, none⟩) (by show w.heap.size ≠ w.heap.size + 1; omega) (.int .i64 h.ofs)).agree (b2.block _ (by simp; omega))
      have Y2 := Lib.hid (((HY.out.set3 h.al).set4 h.ofs).agree (b2.block _ (by simp; omega)))
      have bel2 := Lib.hid (((bel.out.setCell (p := ⟨w.heap.size + 1, 3, none⟩) (by show _ ≤ w.heap.size + 1; omega) (.int .i64 h.al)).setCell (p := ⟨w.heap.size + 1, 4, none⟩) (by show _ ≤ w.heap.size + 1; omega) (.int .i64 h.ofs)).trans (b2.mono (by simp; omega)))
      have z2 : w.heap.size + 1 < w2.heap.size := by have := b2.size; simp at this; omega
      have x4' := X2.c4
      simp only [Nat.zero_add] at x4'
      replace X2 := Lib.hid X2
      clear b2 x0 x1 x2 x3 x4 x5 x6 x7 x8 y3 y4 f3 f4
      cases t with
      | false =>
        go_wp2_with fail
        go_meet
        case rel =>
          refine ⟨false, { M.hd0 h.op with al := h.al, ofs := h.ofs }, 0, 0, 0, none, none, none, 0, 0, 0, rfl, X2.out, Y2.out, bel2.out, ?_⟩
          rw [← I6 d h b e hk.out]
          have hna : ¬ M.inR h.al := by have := ht.out; simpa using this
          simp [hna]
      | true =>
        obtain ⟨r, hr⟩ : ∃ r, r = decide (M.inR h.ofs) := ⟨_, rfl⟩
        replace hr := Lib.hid hr
        go_wp2_with fail
        refine (in_any_b _ _).mono ?_
        rintro e3 w3 ⟨rfl, b3⟩
        rw [← hr.out]
        have X3 := Lib.hid (X2.out.agree (b3.block _ (by omega)))
        have Y3 := Lib.hid (Y2.out.agree (b3.block _ (by omega)))
        have bel3 := Lib.hid (bel2.out.trans (b3.mono (by omega)))
        clear b3
        go_wp2_with fail
        go_meet
        case rel =>
          refine ⟨r, { M.hd0 h.op with al := h.al, ofs := h.ofs }, 0, 0, 0, none, none, none, 0, 0, 0, rfl, X3.out, Y3.out, bel3.out, ?_⟩
          rw [← I6 d h b e hk.out, hr.out]
          have hya : M.inR h.al := by have := ht.out; simpa using this
          simp [M.hd0, hya]
    · -- size
      clear y1 y2 y3 y4 y5 y6 y7 y8 fz
      go_wp2_with fail
      go_meet
      case rel =>
        refine ⟨true, M.hd0 h.op, 0, 0, 0, none, none, none, 0, 0, 0, rfl, HX.out, HY.out, bel.out, ?_⟩
        rw [← I1 d h b e (.inr hk.out)]
        simp [M.hd0]
    · -- small
      have f5 := fz 5
      clear y1 y2 y3 y4 y6 y7 y8 fz
      simp only [M.hd0] at y5
      have X2 := Lib.hid (HX.out.other (p := ⟨w.heap.size + 1, 5, none⟩) (by show w.heap.size ≠ w.heap.size + 1; omega) (.int .i64 h.val))
      have Y2 := Lib.hid (HY.out.set5 h.val)
      have bel2 := Lib.hid (bel.out.setCell (p := ⟨w.heap.size + 1, 5, none⟩) (by show _ ≤ w.heap.size + 1; omega) (.int .i64 h.val))
      by_cases v1 : -2147483648 ≤ h.val
      · have v1' : decide (-2147483648 ≤ h.val) = true := by simpa using v1
        go_wp2_with fail
        go_meet
        case rel =>
          refine ⟨_, { M.hd0 h.op with val := h.val }, 0, 0, 0, none, none, none, 0, 0, 0, rfl, X2.out, Y2.out, bel2.out, ?_⟩
          rw [← I8 d h b e hk.out]
          simp [M.hd0, v1]
      · have v1' : decide (-2147483648 ≤ h.val) = false := by simpa using v1
        go_wp2_with fail
        go_meet
        case rel =>
          refine ⟨_, { M.hd0 h.op with val := h.val }, 0, 0, 0, none, none, none, 0, 0, 0, rfl, X2.out, Y2.out, bel2.out, ?_⟩
          rw [← I8 d h b e hk.out]
          simp [M.hd0]
          omega
    · -- great
      have f5 := fz 5
      clear y1 y2 y3 y4 y6 y7 y8 fz
      simp only [M.hd0] at y5
      have X2 := Lib.hid (HX.out.other (p := ⟨w.heap.size + 1, 5, none⟩) (by show w.heap.size ≠ w.heap.size + 1; omega) (.int .i64 h.val))
      have Y2 := Lib.hid (HY.out.set5 h.val)
      have bel2 := Lib.hid (bel.out.setCell (p := ⟨w.heap.size + 1, 5, none⟩) (by show _ ≤ w.heap.size + 1; omega) (.int .i64 h.val))
      go_wp2_with fail
      go_meet
      case rel =>
        refine ⟨true, { M.hd0 h.op with val := h.val }, 0, 0, 0, none, none, none, 0, 0, 0, rfl, X2.out, Y2.out, bel2.out, ?_⟩
        rw [← I9 d h b e hk.out hR.out]
        simp [M.hd0]
  case rest =>
    obtain ⟨t, y, nl, nb, ne, AL', AB', AE', cL', cB', cE', rfl, hx, hy, bel, hiff⟩ := hcut
    obtain ⟨x0, x1, x2, x3, x4, x5, x6, x7, x8⟩ := hx
    obtain ⟨y0, y1, y2, y3, y4, y5, y6, y7, y8⟩ := hy
    obtain ⟨yop, yty, yix, yal, yofs, yval, ylab⟩ := y
    simp only [Nat.zero_add] at x0 x1 x2 x3 x4 x5 x6 x7 x8 y0 y1 y2 y3 y4 y5 y6 y7 y8
    clear b1
    replace bel := Lib.hid bel
    replace hiff := Lib.hid hiff
    go_upto_region 36 with fail
    refine via_frame (fun a => Fr 200 w.heap.size (w.heap.size + 1) 6 t a) ?_ ?_
    · exact ⟨rfl, rfl, rfl, rfl, rfl⟩
    intro a hF
    refine wp_region_lit ?_
    refine step_val (wanted_none rfl) (run_move rfl) ?_
    rw [hF.ok]
    have F0 : Fr 200 w.heap.size (w.heap.size + 1) 130 t (a.put (some 130) (.bool t)) := ⟨by rw [size_put]; exact hF.size, hF.defers, by rw [eval_put_ne _ _ _ _ (by decide)]; exact hF.px, by rw [eval_put_ne _ _ _ _ (by decide)]; exact hF.py, eval_put_same _ _ _ (by rw [hF.size]; decide)⟩
    show wpList _ _ _ _ (a.put (some 130) (.bool t)) _
    generalize a.put (some 130) (.bool t) = a0 at F0 ⊢
    refine cmp_int F0 131 1 0 3 3 _ _ rfl rfl rfl rfl rfl rfl rfl rfl rfl rfl rfl rfl rfl rfl rfl rfl rfl rfl rfl rfl rfl rfl (by decide) (by decide) (by decide) (by decide) (.inl rfl) x0 y0 fun a1 F1 => ?_
    refine cmp_int F1 138 8 1 3 3 _ _ rfl rfl rfl rfl rfl rfl rfl rfl rfl rfl rfl rfl rfl rfl rfl rfl rfl rfl rfl rfl rfl rfl (by decide) (by decide) (by decide) (by decide) (.inl rfl) x1 y1 fun a2 F2 => ?_
    refine cmp_int F2 145 15 2 3 3 _ _ rfl rfl rfl rfl rfl rfl rfl rfl rfl rfl rfl rfl rfl rfl rfl rfl rfl rfl rfl rfl rfl rfl (by decide) (by decide) (by decide) (by decide) (.inl rfl) x2 y2 fun a3 F3 => ?_
    refine cmp_int F3 152 22 3 3 3 _ _ rfl rfl rfl rfl rfl rfl rfl rfl rfl rfl rfl rfl rfl rfl rfl rfl rfl rfl rfl rfl rfl rfl (by decide) (by decide) (by decide) (by decide) (.inl rfl) x3 y3 fun a4 F4 => ?_
    refine cmp_int F4 159 29 4 3 3 _ _ rfl rfl rfl rfl rfl rfl rfl rfl rfl rfl rfl rfl rfl rfl rfl rfl rfl rfl rfl rfl rfl rfl (by decide) (by decide) (by decide) (by decide) (.inl rfl) x4 y4 fun a5 F5 => ?_
    refine cmp_int F5 166 36 5 2 2 _ _ rfl rfl rfl rfl rfl rfl rfl rfl rfl rfl rfl rfl rfl rfl rfl rfl rfl rfl rfl rfl rfl rfl (by decide) (by decide) (by decide) (by decide) (.inr rfl) x5 y5 fun a6 F6 => ?_
    refine cmp_len F6 173 43 6 46 3 _ _ _ _ _ _ rfl rfl rfl rfl rfl rfl rfl rfl rfl rfl rfl rfl rfl rfl rfl rfl rfl rfl rfl rfl rfl rfl rfl rfl rfl rfl rfl rfl (by decide) (by decide) (by decide) (by decide) (.inl rfl) x6 y6 fun a7 F7 => ?_
    refine cmp_len F7 182 52 7 23 3 _ _ _ _ _ _ rfl rfl rfl rfl rfl rfl rfl rfl rfl rfl rfl rfl rfl rfl rfl rfl rfl rfl rfl rfl rfl rfl rfl rfl rfl rfl rfl rfl (by decide) (by decide) (by decide) (by decide) (.inr rfl) x7 y7 fun a8 F8 => ?_
    refine cmp_len F8 191 61 8 23 3 _ _ _ _ _ _ rfl rfl rfl rfl rfl rfl rfl rfl rfl rfl rfl rfl rfl rfl rfl rfl rfl rfl rfl rfl rfl rfl rfl rfl rfl rfl rfl rfl (by decide) (by decide) (by decide) (by decide) (.inr rfl) x8 y8 fun a9 F9 => ?_
    refine step_val (wanted_none rfl) (run_assign rfl) (wpList_nil ?_)
    rw [F9.ok]
    have F4 : (a9.put (some 4) (.bool (t && (h.op == yop) && (h.ty == yty) && (h.ix == yix) && (h.al == yal) && (h.ofs == yofs) && (h.val == yval) && ((h.labels.length : Int) == (nl : Int)) && ((b.len : Int) == (nb : Int)) && ((e.len : Int) == (ne : Int))))).eval (.tmp 4) = .bool (t && (h.op == yop) && (h.ty == yty) && (h.ix == yix) && (h.al == yal) && (h.ofs == yofs) && (h.val == yval) && ((h.labels.length : Int) == (nl : Int)) && ((b.len : Int) == (nb : Int)) && ((e.len : Int) == (ne : Int))) := eval_put_same _ _ _ (by rw [F9.size]; decide)
    show Exit.then _ _ Exit.normal (a9.put (some 4) _) _
    have D4 := (show (a9.put (some 4) (.bool (t && (h.op == yop) && (h.ty == yty) && (h.ix == yix) && (h.al == yal) && (h.ofs == yofs) && (h.val == yval) && ((h.labels.length : Int) == (nl : Int)) && ((b.len : Int) == (nb : Int)) && ((e.len : Int) == (ne : Int))))).defers = [] from F9.defers)
    generalize a9.put (some 4) _ = az at F4 D4 ⊢
    replace F4 := Lib.hid F4
    go_wp2_with fail
    refine bodyPost_ret (v := .bool (t && (h.op == yop) && (h.ty == yty) && (h.ix == yix) && (h.al == yal) && (h.ofs == yofs) && (h.val == yval) && ((h.labels.length : Int) == (nl : Int)) && ((b.len : Int) == (nb : Int)) && ((e.len : Int) == (ne : Int)))) ?_ D4 ⟨_, rfl, ?_, bel.out⟩
    · rw [results_one Try.results30]; exact congrArg (Result.ok · wc) F4.out
    simp only [Bool.and_eq_true, beq_iff_eq, Int.natCast_inj]
    rw [← hiff.out]
    simp only [and_assoc]
end Go.Proofs.Ytjapcalndolamaa
