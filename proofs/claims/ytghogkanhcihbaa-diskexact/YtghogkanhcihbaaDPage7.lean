/-
  What the page's Flush leaves, and whether an image and troubles may be; condition: the page's disk was made by the call.
-/
import Derived.Test.YtghogkanhcihbaaDPage6
namespace Go.Proofs.Ytghogkanhcihbaa
open Go.RowKit
section
variable {B g ps cs pe ce : Nat} {vt : Value} {ss es : List Value} {ts : List Int} {n : Nat} {S E : List Nat} {off : Bool} {k : Int}
theorem pFlush_off (w : World) (k' : Int) (h : PAt w B g ps cs pe ce vt ss es ts n S E true k) (hk : 0 ≤ k ∧ k < 1000000) (hk' : k' = k + 1) :
    Calls Try.prog 15 #[Mp g] w (PWPost w B g ps cs pe ce vt ts n S E true k' 103) := by
  replace h := Lib.hid h
  replace hk' := Lib.hid hk'
  go_enter Try.func15, Try.ntmps15
  go_wp2_with fail
  refine (pStroke_off w h.out.raw hk hk'.out).mono ?_
  rintro e1 w1 ⟨rfl, r1, b1⟩
  obtain ⟨h1, b1'⟩ := h.out.stroke r1 b1
  replace h1 := Lib.hid h1
  replace b1' := Lib.hid b1'
  clear r1 b1
  go_wp2_with fail
  refine (done_any true _).mono ?_
  rintro e2 w2 ⟨rfl, rfl⟩
  go_wp2_with fail
  go_ret
  exact ⟨rfl, ⟨_, _, h1.out⟩, b1'.out⟩
/-- A safe sector turned into the seen one. -/
theorem PRaw.setS {w : World} (h : PRaw w B g (.slice (some ⟨ps, 0, none⟩) n cs) (.slice (some ⟨pe, 0, none⟩) n ce) vt ss es ts n n off k) (j : Nat) (u : Value) (hj : j < n) :
    PRaw (w.setCell ⟨ps, j, none⟩ u) B g (.slice (some ⟨ps, 0, none⟩) n cs) (.slice (some ⟨pe, 0, none⟩) n ce) vt (ss.set j u) es ts n n off k ∧ But (PXX g ps pe) w (w.setCell ⟨ps, j, none⟩ u) := by
  have hb := But.setCell w ps j u
  exact ⟨⟨obj_but h.obj hb (fun e => h.gs (by rw [e]; rfl)), h.ge, own_set h.rs j _ hj, own_but h.re hb (fun z e e2 => h.ap ps rfl (by rw [e, e2])), own_but h.rt hb (fun z e e2 => h.st z e (by rw [e2]; rfl)), h.ap⟩, hb.mono fun _ _ e => .inr (.inl e)⟩
theorem PRaw.drewN {w : World} {vs ve : Value} {n1 n2 : Nat} (h : PRaw w B g vs ve vt ss es ts n1 n2 off k) (m : Nat) : PRaw (w.drewN m) B g vs ve vt ss es ts n1 n2 off k := h.later (below_drewN' _ _)
set_option maxRecDepth 100000 in
theorem pFlush_on (w : World) (S' : List Nat) (k' c : Int) (off' : Bool) (h : PAt w B g ps cs pe ce vt ss es ts n S E false k) (hn : n ≤ 16384) (hk : 0 ≤ k ∧ k < 1000000) (hk' : k' = k + 1) (ho : off' = ts.any (· == k')) (hts : ts.length ≤ 1000000) (hc : c = if off' then 103 else 0) (hS : S' = if off' then S else E) :
    Calls Try.prog 15 #[Mp g] w (PWPost w B g ps cs pe ce vt ts n S' E off' k' c) := by
  obtain ⟨⟨cap3, cap4⟩, cap1, cap2⟩ := h.cap
  unfold maxLen at cap2 cap4
  replace h := Lib.hid h
  replace hk' := Lib.hid hk'
  replace ho := Lib.hid ho
  cases off' with
  | true =>
    simp only [if_true] at hc hS
    subst hc
    subst hS
    go_enter Try.func15, Try.ntmps15
    go_wp2_with fail
    refine (pStroke_on w true h.out.raw hk hk'.out ho.out hts).mono ?_
    rintro e1 w1 ⟨rfl, r1, b1⟩
    obtain ⟨h1, b1'⟩ := h.out.stroke r1 b1
    replace h1 := Lib.hid h1
    replace b1' := Lib.hid b1'
    clear r1 b1
    go_wp2_with fail
    refine (done_any true _).mono ?_
    rintro e2 w2 ⟨rfl, rfl⟩
    go_wp2_with fail
    go_ret
    exact ⟨rfl, ⟨_, _, h1.out⟩, b1'.out⟩
  | false =>
    simp only [Bool.false_eq_true, if_false] at hc hS
    subst hc
    subst hS
    go_enter Try.func15, Try.ntmps15
    go_wp2_with fail
    refine (pStroke_on w false h.out.raw hk hk'.out ho.out hts).mono ?_
    rintro e1 w1 ⟨rfl, r1, b1⟩
    obtain ⟨h1, b1'⟩ := h.out.stroke r1 b1
    have hsE := Lib.hid (fun (w' : World) (hb : But (PXX g ps pe) w1 w') => h1.sE.but hb (fun r c bs hr _ e => h1.raw.sec_ne hr ((PAt.px (cs := cs) (ce := ce) (n := n) r).2 e)))
    have hraw := Lib.hid h1.raw
    have hesl := Lib.hid (show es.length = n by have := h1.raw.re.1; omega)
    replace b1' := Lib.hid b1'
    clear r1 b1 h1
    go_wp2_with fail
    go_loopw [5] (fun i w' => ∃ (j : Nat) (qs : List Value), j ≤ n ∧ i = .int .i64 j ∧ (∀ i, i < j → qs[i]? = es[i]?) ∧ PRaw w' B g (.slice (some ⟨ps, 0, none⟩) n cs) (.slice (some ⟨pe, 0, none⟩) n ce) vt qs es ts n n false k' ∧ But (PXX g ps pe) w1 w') (fun i _ => n - (intOf i).toNat)
    case atStart => exact ⟨0, ss, by omega, rfl, fun i hi => by omega, hraw.out, But.refl _ _⟩
    case round =>
      clear hraw
      obtain ⟨j, qs, hj, rfl, hq, hP, hb⟩ := hrel
      have d0 := hP.c0
      have d1 := hP.c1
      by_cases hlt : j < n
      · have hqn : j < qs.length := by have := hP.rs.1; omega
        obtain ⟨r, c, y0, _, _⟩ := hsE.out wr hb j hlt
        have y1 := hP.re.cells (g := pe) rfl j _ y0
        rw [add_none, Nat.zero_add] at y1
        have y2 := hP.rs.cells (g := ps) rfl j _ (List.getElem?_eq_getElem hqn)
        rw [add_none, Nat.zero_add] at y2
        have f2 : wr.frozen? ⟨ps, j, none⟩ = false := by
          obtain ⟨cur, hc⟩ := own_objT hP.rs (q := ps) rfl
          exact frozen_of_row wr ps j cur _ hc
        have hnext : ∀ i, i < j + 1 → (qs.set j (.slice (some ⟨r, 0, none⟩) 64 c))[i]? = es[i]? := fun i hi => by
          by_cases e : i = j
          · subst e; rw [List.getElem?_set_self (by omega), y0]
          · rw [List.getElem?_set_ne (Ne.symm e)]; exact hq i (by omega)
        obtain ⟨z, hz⟩ : ∃ z, z = qs[j] := ⟨_, rfl⟩
        rw [← hz] at y2
        have t0 : (0 : Int) ≤ (j : Int) := by omega
        have t1 : (j : Int) < (n : Int) := by omega
        obtain ⟨P2, b2⟩ := (hP.later (w' := wr.drew) (below_drewN' wr 1)).setS j (.slice (some ⟨r, 0, none⟩) 64 c) hlt
        have b3 := Lib.hid (hb.trans ((But.ofBelow (below_drewN' wr 1)).trans b2))
        replace P2 := Lib.hid P2
        replace hnext := Lib.hid hnext
        clear hz hq y0 hqn b2
        replace hP := Lib.hid hP
        replace hb := Lib.hid hb
        go_wp2_with fail
        go_still_tail 13, (by kernel_rfl)
        change wpList _ _ _ _ _ wr.drew
        go_wp2_with fail
        exact ⟨⟨j + 1, _, by omega, by go_num, hnext.out, P2.out, b3.out⟩, by simp [intOf]; omega⟩
      · obtain rfl : j = n := by omega
        have hqe : qs = es := by
          have l1 := hP.rs.1
          have l2 := hesl.out
          apply List.ext_getElem?
          intro i
          by_cases hi : i < j
          · exact hq i hi
          · rw [List.getElem?_eq_none (by omega), List.getElem?_eq_none (by omega)]
        subst hqe
        have hfin := Lib.hid (show PAt wr B g ps cs pe ce vt qs qs ts j S' S' false k' from ⟨hP, hsE.out wr hb, hsE.out wr hb⟩)
        have hbf := Lib.hid (b1'.out.trans hb)
        clear hP hb hq
        go_wp2_with fail
        refine (done_any false _).mono ?_
        rintro e2 w2 ⟨rfl, rfl⟩
        go_wp2_with fail
        go_ret
        exact ⟨rfl, ⟨_, _, hfin.out⟩, hbf.out⟩
end
theorem May_form (w : World) (A : Option Addr) (c : Nat) (bs : List Nat) (vt : Value) (hc : bs.length ≤ 4503599627370496) (hb : M.image bs = false) :
    Calls Try.prog 9 #[.slice A bs.length c, vt] w fun e w' => e = .returned (.bool false) ∧ w = w' := by
  unfold M.image at hb
  obtain ⟨n, hN⟩ : ∃ n, n = bs.length := ⟨_, rfl⟩
  rw [← hN] at hb hc ⊢
  clear hN
  have hcase : n = 0 ∨ (n ≠ 0 ∧ n % 64 ≠ 0) ∨ (n ≠ 0 ∧ n % 64 = 0 ∧ 16384 < n / 64) := by simp at hb; omega
  clear hb
  rcases hcase with rfl | ⟨h1, h2⟩ | ⟨h1, h2, h3⟩
  · go_enter Try.func9, Try.ntmps9
    go_wp2_with fail
    go_ret
    exact ⟨rfl, rfl⟩
  · have q1 : ((n : Int) == 0) = false := by simp; omega
    have q2 : ((n : Int) % 64 != 0) = true := by simp; omega
    go_enter Try.func9, Try.ntmps9
    go_wp2_with fail
    go_ret
    exact ⟨rfl, rfl⟩
  · have q1 : ((n : Int) == 0) = false := by simp; omega
    have q2 : ((n : Int) % 64 != 0) = false := by simp; omega
    go_enter Try.func9, Try.ntmps9
    go_wp2_with fail
    go_ret
    exact ⟨rfl, rfl⟩
end Go.Proofs.Ytghogkanhcihbaa
