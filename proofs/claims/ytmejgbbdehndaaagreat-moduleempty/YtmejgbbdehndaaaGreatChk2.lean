/-
  What the program's functions answer that ask whether instructions may be (Check and what it calls); condition: the instructions lie in memory that was there at the call.
-/
import Derived.Test.YtmejgbbdehndaaaGreatChk
namespace Go.Proofs.YtmejgbbdehndaaaGreat
open Go.RowKit
def valOk (h : M.Hd) : Prop := h.op = 65 → (-2147483648 ≤ h.val ∧ h.val < 2147483648)
def RangeP (h : M.Hd) : Prop := (∀ x ∈ h.labels, M.inR x) ∧ M.inR h.ix ∧ M.inR h.al ∧ M.inR h.ofs ∧ valOk h
def RPost (P : Prop) (w : World) (e : Ending) (w' : World) : Prop := ∃ r : Bool, e = .returned (.bool r) ∧ (r = true ↔ P) ∧ Below w.heap.size w w'
theorem RPost.yes {P : Prop} {w w' : World} {e : Ending} (he : e = .returned (.bool true)) (h : P) (hb : Below w.heap.size w w') : RPost P w e w' := ⟨true, he, by simp [h], hb⟩
theorem RPost.no {P : Prop} {w w' : World} {e : Ending} (he : e = .returned (.bool false)) (h : ¬ P) (hb : Below w.heap.size w w') : RPost P w e w' := ⟨false, he, by simp [h], hb⟩
theorem width_w (op W : Int) (w : World) (hW : widthOf op = W) : Calls Tryz.prog 265 #[.int .i64 op] w fun e w' => e = .returned (.int .i64 W) ∧ w' = w := (width_any op w).mono fun _ _ ⟨a, b⟩ => ⟨by rw [a, hW], b.symm⟩
theorem isNumber_yes (v : Int) (w : World) (h : M.inR v) : Calls Tryz.prog 264 #[.int .i64 v] w fun e w' => e = .returned (.bool true) ∧ w = w' :=
  (isNumber_any v w (by unfold M.inR at h; omega)).mono fun _ _ ⟨a, b⟩ => ⟨by rw [a]; simp [h], b⟩
theorem isNumber_no (v : Int) (w : World) (hr : -9223372036854775808 ≤ v ∧ v ≤ 9223372036854775807) (h : ¬ M.inR v) : Calls Tryz.prog 264 #[.int .i64 v] w fun e w' => e = .returned (.bool false) ∧ w = w' :=
  (isNumber_any v w hr).mono fun _ _ ⟨a, b⟩ => ⟨by rw [a]; simp [h], b⟩
/-- What is left of a number behind its lowest 31 or 63 bits. -/
def beyond (h : M.Hd) : Int := if h.op = 65 then h.val / 2147483648 else h.val / 9223372036854775808
theorem beyond_ok (h : M.Hd) (hR : Rng h) : (beyond h = 0 ∨ beyond h = -1) ↔ valOk h := by
  unfold beyond valOk
  have := hR.r5
  split <;> omega
theorem mem_of_all {xs : List Int} {P : Int → Prop} (h : ∀ i, i < xs.length → P (xs.getD i 0)) : ∀ x ∈ xs, P x := by
  intro x hx
  obtain ⟨i, hi, rfl⟩ := List.getElem_of_mem hx
  have := h i hi
  rwa [List.getD_eq_getElem?_getD, List.getElem?_eq_getElem hi] at this
theorem getD_mem {xs : List Int} {i : Nat} (h : i < xs.length) : xs.getD i 0 ∈ xs := by
  rw [List.getD_eq_getElem?_getD, List.getElem?_eq_getElem h]
  exact List.getElem_mem h
set_option maxRecDepth 100000 in
set_option maxHeartbeats 1000000 in
theorem inRange_any (g o : Nat) (h : M.Hd) (vL vB vE : Value) (w : World) (hi : ItemAt w g o h vL vB vE) (hR : Rng h) (hL : NB w vL h.labels) :
    Calls Tryz.prog 242 #[.pointer (some ⟨g, o, none⟩)] w (RPost (RangeP h) w) := by
  obtain ⟨A, c, rfl, ⟨n1, n2, n3⟩, hL⟩ := hL
  unfold maxLen at n3
  replace hL := Lib.hid hL
  have hB := Lib.hid (beyond_ok h hR)
  obtain ⟨r0, r1, r2, r3, r4, r5⟩ := hR
  obtain ⟨c0, c1, c2, c3, c4, c5, c6, c7, c8⟩ := hi
  clear c1 c7 c8 r0 r1
  go_enter Tryz.func242, Tryz.ntmps242
  go_wp2_with fail
  go_loop [4, 11] (fun _ i => ∃ k : Nat, k ≤ h.labels.length ∧ i = .int .i64 k ∧ ∀ j, j < k → M.inR (h.labels.getD j 0)) (fun _ i => h.labels.length - (intOf i).toNat)
  case atStart => exact ⟨0, by omega, rfl, fun j hj => by omega⟩
  case round =>
    obtain ⟨k, hk, rfl, ha⟩ := hrel
    replace ha := Lib.hid ha
    by_cases hlt : k < h.labels.length
    · obtain ⟨ad, rfl, _, hr, q⟩ := hL.out k hlt
      obtain ⟨x, hx⟩ : ∃ x, x = h.labels.getD k 0 := ⟨_, rfl⟩
      rw [← hx] at q hr
      by_cases hn : M.inR x
      · replace hx := Lib.hid hx
        replace hn := Lib.hid hn
        go_wp2_with (go_at_call 264; refine (isNumber_yes _ _ hn.out).mono ?_; rintro e w' ⟨rfl, rfl⟩)
        refine ⟨⟨k + 1, by omega, by go_num, fun j hj => ?_⟩, by simp [intOf]; omega⟩
        by_cases e : j = k
        · subst e; rw [← hx.out]; exact hn.out
        · exact ha.out j (by omega)
      · have hno := Lib.hid (show ¬ RangeP h from fun hp => hn (by rw [hx]; exact hp.1 _ (getD_mem hlt)))
        clear hx
        replace hn := Lib.hid hn
        go_wp2_with (go_at_call 264; refine (isNumber_no _ _ hr hn.out).mono ?_; rintro e w' ⟨rfl, rfl⟩)
        go_ret
        exact .no rfl hno.out (Below.refl _ _)
    · have hall := Lib.hid (mem_of_all (xs := h.labels) (P := M.inR) (fun i hi => ha.out i (by omega)))
      obtain ⟨y, hy⟩ : ∃ y, y = beyond h := ⟨_, rfl⟩
      have hBy := Lib.hid (show (y = 0 ∨ y = -1) ↔ valOk h by rw [hy]; exact hB.out)
      by_cases hop : h.op = 65
      all_goals
        first
          | (have hw := Lib.hid (show widthOf h.op = 32 by unfold widthOf; rw [if_pos hop]); have hy' := Lib.hid (show h.val / 2147483648 = y by rw [hy]; unfold beyond; rw [if_pos hop]))
          | (have hw := Lib.hid (show widthOf h.op = 64 by unfold widthOf; rw [if_neg hop]); have hy' := Lib.hid (show h.val / 9223372036854775808 = y by rw [hy]; unfold beyond; rw [if_neg hop]))
        clear hop hy
        go_wp2_with fail
        go_quiet ((go_at_call 265; exact Calls.quiet_of_same (width_w _ _ _ hw.out)))
        rw [hy'.out]
        clear hy'
        have hbd := Lib.hid (below_drewN (Below.refl w.heap.size w) nq)
        by_cases hix : M.inR h.ix
        · replace hix := Lib.hid hix
          go_wp2_with fail
          refine (isNumber_yes _ _ hix.out).mono ?_
          rintro e1 w1 ⟨rfl, rfl⟩
          by_cases hal : M.inR h.al
          · replace hal := Lib.hid hal
            go_wp2_with fail
            refine (isNumber_yes _ _ hal.out).mono ?_
            rintro e1 w1 ⟨rfl, rfl⟩
            by_cases hof : M.inR h.ofs
            · replace hof := Lib.hid hof
              go_wp2_with fail
              refine (isNumber_yes _ _ hof.out).mono ?_
              rintro e1 w1 ⟨rfl, rfl⟩
              by_cases y0 : y = 0
              · subst y0
                go_wp2_with fail
                go_ret
                exact .yes rfl ⟨hall.out, hix.out, hal.out, hof.out, hBy.out.1 (by simp)⟩ hbd.out
              · have y0' : (y == 0) = false := by rw [beq_eq_false_iff_ne]; exact y0
                by_cases y1 : y = -1
                · subst y1
                  go_wp2_with fail
                  go_ret
                  exact .yes rfl ⟨hall.out, hix.out, hal.out, hof.out, hBy.out.1 (by simp)⟩ hbd.out
                · have y1' : (y == -1) = false := by rw [beq_eq_false_iff_ne]; exact y1
                  have hno := Lib.hid (show ¬ RangeP h from fun hp => by have := hBy.out.2 hp.2.2.2.2; omega)
                  clear y0 y1
                  go_wp2_with fail
                  go_ret
                  exact .no rfl hno.out hbd.out
            · replace hof := Lib.hid hof
              go_wp2_with fail
              refine (isNumber_no _ _ r4 hof.out).mono ?_
              rintro e1 w1 ⟨rfl, rfl⟩
              go_wp2_with fail
              go_ret
              exact .no rfl (fun hp => hof.out hp.2.2.2.1) hbd.out
          · replace hal := Lib.hid hal
            go_wp2_with fail
            refine (isNumber_no _ _ r3 hal.out).mono ?_
            rintro e1 w1 ⟨rfl, rfl⟩
            go_wp2_with fail
            go_ret
            exact .no rfl (fun hp => hal.out hp.2.2.1) hbd.out
        · replace hix := Lib.hid hix
          go_wp2_with fail
          refine (isNumber_no _ _ r2 hix.out).mono ?_
          rintro e1 w1 ⟨rfl, rfl⟩
          go_wp2_with fail
          go_ret
          exact .no rfl (fun hp => hix.out hp.2.1) hbd.out
/-- Whether one instruction may be, with so many blocks still to come. -/
def okI (d : Nat) (h : M.Hd) (b e : M.L) : Prop := M.flat h ∧ (M.kind h.op = 2 → 0 < d ∧ M.ok (d - 1) b ∧ M.ok (d - 1) e) ∧ (M.kind h.op ≠ 2 → b = .nil) ∧ (h.op ≠ 4 → e = .nil)
theorem ok_cons (d : Nat) (h : M.Hd) (b e r : M.L) : M.ok d (.cons h b e r) ↔ okI d h b e ∧ M.ok d r :=
  ⟨fun ⟨a, b, c, d, e⟩ => ⟨⟨a, b, c, d⟩, e⟩, fun ⟨⟨a, b, c, d⟩, e⟩ => ⟨a, b, c, d, e⟩⟩
/-- Something is there that the byte does not have. -/
def overB (h : M.Hd) (b e : M.L) : Bool := bits .andNot .u64 (fillOf h b e : Nat) (M.mask h.op : Nat) != 0
theorem over_0 : ∀ t0 t1 t2 t3 t4 t6 t7 t8 : Bool, (bits .andNot .u64 (fill t0 t1 t2 t3 t4 t6 t7 t8 : Nat) ((0 : Nat) : Int) != 0) = (t0 || t1 || t2 || t3 || t4 || t6 || t7 || t8) := by decide +kernel
theorem over_641 : ∀ t0 t1 t2 t3 t4 t6 t7 t8 : Bool, (bits .andNot .u64 (fill t0 t1 t2 t3 t4 t6 t7 t8 : Nat) ((641 : Nat) : Int) != 0) = (t1 || t2 || t3 || t4 || t6 || t8) := by decide +kernel
theorem over_897 : ∀ t0 t1 t2 t3 t4 t6 t7 t8 : Bool, (bits .andNot .u64 (fill t0 t1 t2 t3 t4 t6 t7 t8 : Nat) ((897 : Nat) : Int) != 0) = (t1 || t2 || t3 || t4 || t6) := by decide +kernel
theorem over_4 : ∀ t0 t1 t2 t3 t4 t6 t7 t8 : Bool, (bits .andNot .u64 (fill t0 t1 t2 t3 t4 t6 t7 t8 : Nat) ((4 : Nat) : Int) != 0) = (t0 || t1 || t3 || t4 || t6 || t7 || t8) := by decide +kernel
theorem over_6 : ∀ t0 t1 t2 t3 t4 t6 t7 t8 : Bool, (bits .andNot .u64 (fill t0 t1 t2 t3 t4 t6 t7 t8 : Nat) ((6 : Nat) : Int) != 0) = (t0 || t3 || t4 || t6 || t7 || t8) := by decide +kernel
theorem over_36 : ∀ t0 t1 t2 t3 t4 t6 t7 t8 : Bool, (bits .andNot .u64 (fill t0 t1 t2 t3 t4 t6 t7 t8 : Nat) ((36 : Nat) : Int) != 0) = (t0 || t1 || t3 || t4 || t6 || t7 || t8) := by decide +kernel
theorem over_24 : ∀ t0 t1 t2 t3 t4 t6 t7 t8 : Bool, (bits .andNot .u64 (fill t0 t1 t2 t3 t4 t6 t7 t8 : Nat) ((24 : Nat) : Int) != 0) = (t0 || t1 || t2 || t6 || t7 || t8) := by decide +kernel
theorem over_32 : ∀ t0 t1 t2 t3 t4 t6 t7 t8 : Bool, (bits .andNot .u64 (fill t0 t1 t2 t3 t4 t6 t7 t8 : Nat) ((32 : Nat) : Int) != 0) = (t0 || t1 || t2 || t3 || t4 || t6 || t7 || t8) := by decide +kernel
theorem over_64 : ∀ t0 t1 t2 t3 t4 t6 t7 t8 : Bool, (bits .andNot .u64 (fill t0 t1 t2 t3 t4 t6 t7 t8 : Nat) ((64 : Nat) : Int) != 0) = (t0 || t1 || t2 || t3 || t4 || t7 || t8) := by decide +kernel
theorem len_pos (l : M.L) : decide (0 < l.len) = false ↔ l = .nil := by
  cases l with
  | nil => simp [M.L.len]
  | cons => simp [M.L.len]
theorem labels_pos (l : List Int) : decide (0 < l.length) = false ↔ l = [] := by cases l <;> simp
theorem hd_eq {h : M.Hd} {op ty ix al ofs val : Int} {labels : List Int} (h1 : h.op = op) (h2 : h.ty = ty) (h3 : h.ix = ix) (h4 : h.al = al) (h5 : h.ofs = ofs) (h6 : h.val = val) (h7 : h.labels = labels) : h = ⟨op, ty, ix, al, ofs, val, labels⟩ := by
  cases h; simp_all
/-- The two ways to say that an instruction's own things may be. -/
theorem may_iff (h : M.Hd) (b e : M.L) (hR : Rng h) (hk : M.kind h.op ≠ 0) :
    (overB h b e = false ∧ RangeP h ∧ (M.kind h.op = 2 → M.tyOk h.ty)) ↔ (M.flat h ∧ (M.kind h.op ≠ 2 → b = .nil) ∧ (h.op ≠ 4 → e = .nil)) := by
  have h65 := M.kind_small h.op
  have h24 := M.kind_block h.op
  have h5 := hR.r5
  unfold RangeP valOk overB fillOf
  obtain ⟨op, ty, ix, al, ofs, val, labels⟩ := h
  simp only at *
  have z0 : M.inR 0 := by unfold M.inR; omega
  rcases M.kind_cases op with k | k | k | k | k | k | k | k | k | k
  · exact absurd k hk
  all_goals
    rw [M.mask_of k]
    unfold M.flat
    simp only
    rw [k]
  all_goals simp only [M.maskK, M.flatK]
  case inr.inr.inl =>
    by_cases h4 : op = 4
    · rw [if_pos h4, over_897]
      simp only [M.hd0, M.Hd.mk.injEq, Bool.or_eq_false_iff, bne_eq_false_iff_eq, labels_pos]
      constructor
      · rintro ⟨⟨⟨⟨⟨a1, a2⟩, a3⟩, a4⟩, a5⟩, _, a6⟩
        exact ⟨⟨⟨trivial, trivial, a2, a3, a4, a5, a1⟩, a6 trivial⟩, fun h => absurd rfl h, fun h => absurd h4 h⟩
      · rintro ⟨⟨⟨_, _, a2, a3, a4, a5, a1⟩, a6⟩, _, _⟩
        subst a1 a2 a3 a4 a5
        exact ⟨⟨⟨⟨⟨rfl, rfl⟩, rfl⟩, rfl⟩, rfl⟩, ⟨fun x hx => by simp at hx, z0, z0, z0, fun _ => by omega⟩, fun _ => a6⟩
    · rw [if_neg h4, over_641]
      simp only [M.hd0, M.Hd.mk.injEq, Bool.or_eq_false_iff, bne_eq_false_iff_eq, labels_pos, len_pos]
      constructor
      · rintro ⟨⟨⟨⟨⟨⟨a1, a2⟩, a3⟩, a4⟩, a5⟩, a7⟩, _, a6⟩
        exact ⟨⟨⟨trivial, trivial, a2, a3, a4, a5, a1⟩, a6 trivial⟩, fun h => absurd rfl h, fun _ => a7⟩
      · rintro ⟨⟨⟨_, _, a2, a3, a4, a5, a1⟩, a6⟩, _, a7⟩
        subst a1 a2 a3 a4 a5
        exact ⟨⟨⟨⟨⟨⟨rfl, rfl⟩, rfl⟩, rfl⟩, rfl⟩, a7 h4⟩, ⟨fun x hx => by simp at hx, z0, z0, z0, fun _ => by omega⟩, fun _ => a6⟩
  all_goals
    have n4 : op ≠ 4 := by omega
    have n65 : op = 65 ↔ M.kind op = 8 := h65.symm
    rw [k] at n65
    first | rw [over_0] | rw [over_4] | rw [over_6] | rw [over_36] | rw [over_24] | rw [over_32] | rw [over_64]
    simp only [M.hd0, M.Hd.mk.injEq, Bool.or_eq_false_iff, bne_eq_false_iff_eq, labels_pos, len_pos]
    constructor
    · intro hh
      simp_all <;> omega
    · intro hh
      simp_all
end Go.Proofs.YtmejgbbdehndaaaGreat
