/-
  What the page's Write and Flush leave; condition: the page's disk was made by the call.
-/
import Derived.Test.YtghogkanhcihbaaDPage5
import Derived.Deep.RegionHeld3
namespace Go.Proofs.Ytghogkanhcihbaa
open Go.RowKit
/-- A cell of a row of one's own is written. -/
theorem own_set {w : World} {b e r n c : Nat} {xs : List Value} (h : w.ownsRow b e 1 (.slice (some ⟨r, 0, none⟩) n c) n xs) (i : Nat) (u : Value) (hi : i < n) : (w.setCell ⟨r, i, none⟩ u).ownsRow b e 1 (.slice (some ⟨r, 0, none⟩) n c) n (xs.set i u) := by
  obtain ⟨r', cur, e', h1, h2, h3, h4, h5, h6⟩ := own_at h (by omega)
  cases e'
  refine ⟨by rw [List.length_set]; exact h.1, .inr ⟨r, c, cur.setIfInBounds i u, rfl, h1, heap_setCell_same w r i cur _ _ h2, h4, h5, by simpa using h3, ?_⟩⟩
  rw [h6, Array.toList_setIfInBounds, List.take_set]
section
variable {B g ps cs pe ce : Nat} {vt : Value} {ss es : List Value} {ts : List Int} {n : Nat} {S E : List Nat} {off : Bool} {k : Int}
theorem PAt.raws {w : World} (h : PAt w B g ps cs pe ce vt ss es ts n S E off k) : g ≠ ps ∧ g ≠ pe ∧ ps ≠ pe :=
  ⟨fun e => h.raw.gs (by rw [e]; rfl), fun e => h.raw.gn (by rw [e]; rfl), fun e => h.raw.ap ps rfl (by rw [e]; rfl)⟩
/-- A sector written among the seen ones. -/
theorem PAt.setE {w : World} {E' : List Nat} (h : PAt w B g ps cs pe ce vt ss es ts n S E off k) (j r c : Nat) (hj : j < n) (hr : RowAt w r c (M.sec E' j)) (hB : B ≤ r) (hE : ∀ i, i < n → i ≠ j → M.sec E' i = M.sec E i) :
    PAt (w.setCell ⟨pe, j, none⟩ (.slice (some ⟨r, 0, none⟩) 64 c)) B g ps cs pe ce vt ss (es.set j (.slice (some ⟨r, 0, none⟩) 64 c)) ts n S E' off k ∧ But (PXX g ps pe) w (w.setCell ⟨pe, j, none⟩ (.slice (some ⟨r, 0, none⟩) 64 c)) := by
  have hb := But.setCell w pe j (.slice (some ⟨r, 0, none⟩) 64 c)
  obtain ⟨n1, n2, n3⟩ := h.raws
  have hne : ∀ r' c' bs, RowAt w r' c' bs → ¬ r' = pe := fun r' c' bs hr' e => h.raw.sec_ne hr' ((PAt.px (cs := cs) (ce := ce) (n := n) r').2 (.inr (.inr e)))
  have hle : es.length = n := by have := h.raw.re.1; omega
  refine ⟨⟨⟨obj_but h.raw.obj hb (fun e => n2 e), h.raw.ge, own_but h.raw.rs hb (fun z e e2 => n3 (by cases e; exact e2)), own_set h.raw.re j _ hj, own_but h.raw.rt hb (fun z e e2 => h.raw.et z e (by rw [e2]; rfl)), h.raw.ap⟩, h.sS.but hb (fun r' c' bs hr' _ => hne r' c' bs hr'), fun i hi => ?_⟩, hb.mono fun _ _ e => .inr (.inr e)⟩
  by_cases e : i = j
  · subst e
    exact ⟨r, c, by rw [List.getElem?_set_self (by omega)], hr.but hb (hne r c _ hr), hB⟩
  · obtain ⟨r1, c1, h1, h2, h3⟩ := h.sE i hi
    exact ⟨r1, c1, by rw [List.getElem?_set_ne (Ne.symm e)]; exact h1, by rw [hE i hi e]; exact h2.but hb (hne r1 c1 _ h2), h3⟩
theorem PAt.stroke {w w' : World} {off' : Bool} {k' : Int} (h : PAt w B g ps cs pe ce vt ss es ts n S E off k) (hr : PRaw w' B g (.slice (some ⟨ps, 0, none⟩) n cs) (.slice (some ⟨pe, 0, none⟩) n ce) vt ss es ts n n off' k') (hb : But (· = g) w w') : PAt w' B g ps cs pe ce vt ss es ts n S E off' k' ∧ But (PXX g ps pe) w w' :=
  ⟨⟨hr, h.sS.but hb (fun r c bs hr' _ e => h.raw.sec_ne hr' (.inl e)), h.sE.but hb (fun r c bs hr' _ e => h.raw.sec_ne hr' (.inl e))⟩, hb.mono fun _ _ e => .inl e⟩
/-- What a stroke leaves of the page's disk, and what it tells. -/
def PWPost (w : World) (B g ps cs pe ce : Nat) (vt : Value) (ts : List Int) (n : Nat) (S E : List Nat) (off : Bool) (k c : Int) (e : Ending) (w' : World) : Prop :=
  e = .returned (.int .i64 c) ∧ (∃ ss es, PAt w' B g ps cs pe ce vt ss es ts n S E off k) ∧ But (PXX g ps pe) w w'
/-- What a Write leaves of the page's disk: the seen sectors are as they were, or new. -/
def PWPost2 (w : World) (B g ps cs pe ce : Nat) (vt : Value) (ss es : List Value) (ts : List Int) (n : Nat) (S E : List Nat) (off : Bool) (k c : Int) (e : Ending) (w' : World) : Prop :=
  e = .returned (.int .i64 c) ∧ (∃ es', PAt w' B g ps cs pe ce vt ss es' ts n S E off k ∧ ∀ (i : Nat) (u : Value), es'[i]? = some u → es[i]? = some u ∨ ∃ r c, u = .slice (some ⟨r, 0, none⟩) 64 c ∧ w.heap.size ≤ r) ∧ But (PXX g ps pe) w w'
theorem pWrite_off (w : World) (i : Int) (j : Nat) (u : Value) (xs : List Nat) (k' : Int) (h : PAt w B g ps cs pe ce vt ss es ts n S E true k) (hu : BS w w.heap.size u xs) (hi : i = (j : Nat)) (hj : j < n) (hx : xs.length = 64) (hk : 0 ≤ k ∧ k < 1000000) (hk' : k' = k + 1) :
    Calls Try.prog 23 #[Mp g, .int .i64 i, u] w (PWPost2 w B g ps cs pe ce vt ss es ts n S E true k' 103) := by
  subst hi
  obtain ⟨U, d, rfl, u1, u2, _⟩ := hu
  rw [hx] at u1 ⊢
  clear hx
  have c1 := h.raw.c1
  have t0 : (0 : Int) ≤ (j : Int) := by omega
  have t1 : (j : Int) < (n : Int) := by omega
  replace h := Lib.hid h
  replace hk' := Lib.hid hk'
  go_enter Try.func23, Try.ntmps23
  go_wp2_with fail
  refine (pStroke_off w h.out.raw hk hk'.out).mono ?_
  rintro e1 w1 ⟨rfl, r1, b1⟩
  obtain ⟨h1, b1'⟩ := h.out.stroke r1 b1
  replace h1 := Lib.hid h1
  replace b1' := Lib.hid b1'
  clear r1 b1
  go_wp2_with fail
  refine (done_any true _).mono ?_
  rintro e2 w2 ⟨rfl, rfl⟩
  go_wp2_with fail
  go_ret
  exact ⟨rfl, ⟨_, h1.out, fun _ _ e => .inl e⟩, b1'.out⟩
set_option maxRecDepth 100000 in
theorem pWrite_on (w : World) (i : Int) (j rU cU : Nat) (xs E' : List Nat) (k' c : Int) (off' : Bool) (h : PAt w B g ps cs pe ce vt ss es ts n S E false k) (hB : B ≤ w.heap.size) (hu : RowAt w rU cU xs) (hi : i = (j : Nat)) (hj : j < n) (hx : xs.length = 64) (hk : 0 ≤ k ∧ k < 1000000) (hk' : k' = k + 1) (hlE : E.length = n * 64) (hE : E' = M.lay E (j * 64) xs)
    (ho : off' = ts.any (· == k')) (hts : ts.length ≤ 1000000) (hc : c = if off' then 103 else 0) :
    Calls Try.prog 23 #[Mp g, .int .i64 i, .slice (some ⟨rU, 0, none⟩) 64 cU] w (PWPost2 w B g ps cs pe ce vt ss es ts n S E' off' k' c) := by
  subst hi
  have hsec : M.sec E' j = xs := by rw [hE]; exact M.sec_lay_same hx (by omega)
  have hoth : ∀ i, i < n → i ≠ j → M.sec E' i = M.sec E i := fun i _ e => by rw [hE]; exact M.sec_lay_other hx (by omega) e
  have hx2 := Lib.hid hx
  obtain ⟨u1, u2⟩ := hu.le
  rw [hx] at u1
  unfold maxLen at u2
  clear hx hE
  have c1 := h.raw.c1
  obtain ⟨_, cap1, cap2⟩ := h.cap
  unfold maxLen at cap2
  have t0 : (0 : Int) ≤ (j : Int) := by omega
  have t1 : (j : Int) < (n : Int) := by omega
  replace h := Lib.hid h
  replace hk' := Lib.hid hk'
  replace ho := Lib.hid ho
  replace hc := Lib.hid hc
  replace hu := Lib.hid hu
  replace hsec := Lib.hid hsec
  replace hoth := Lib.hid hoth
  go_enter Try.func23, Try.ntmps23
  go_wp2_with fail
  refine (pStroke_on w off' h.out.raw hk hk'.out ho.out hts).mono ?_
  rintro e1 w1 ⟨rfl, r1, b1⟩
  obtain ⟨h1, b1'⟩ := h.out.stroke r1 b1
  have hu1 := (hu.out.but b1 (fun e => h.out.raw.sec_ne hu.out (.inl e))).all (n := 64) hx2.out.symm
  have d1 := h1.raw.c1
  have hl1 := h1.lt g (.inl rfl)
  have hl2 := h1.lt pe (.inr (.inr rfl))
  obtain ⟨ro, co, y1, _⟩ := h1.secE j hj
  have f1 : w1.frozen? ⟨pe, j, none⟩ = false := by
    obtain ⟨cur, hc⟩ := own_objT h1.raw.re (q := pe) rfl
    exact frozen_of_row w1 pe j cur _ hc
  have hB1 : B ≤ w1.heap.size := Nat.le_trans hB b1.size
  have hz1 := Lib.hid b1.size
  have hgp : g ≠ pe := h1.raws.2.1
  replace h1 := Lib.hid h1
  replace b1' := Lib.hid b1'
  replace hu1 := Lib.hid hu1
  clear r1 b1
  go_wp2_with fail
  go_region_held3 (fun w' => w'.cell? ⟨g, 1, none⟩ = some (.slice (some ⟨pe, 0, none⟩) n ce))
    (first | exact d1 | assumption | exact (b3.cell (p := ⟨g, 1, none⟩) (by exact hl1)).trans d1 | exact (World.cell?_of_block (Below.heap_setCell _ _ _ _ hgp)).trans ((b3.cell (p := ⟨g, 1, none⟩) (by exact hl1)).trans d1))
    (first | (go_at_call 6; refine (CopyBytes_row _ xs _ (by rw [hx2.out]; omega) (by rw [hx2.out]; omega) (hu1.out.later ((Below.refl _ _).drew))).mono ?_; rintro e3 w3 ⟨r3, c3, rfl, q3, g3, b3⟩; rw [hx2.out]; replace b3 : Below w1.heap.size w1 w3 := ((Below.refl _ _).drew).trans b3; have y3 := (b3.cell (p := ⟨pe, j, none⟩) (by exact hl2)).trans y1; have f3 := (b3.frozen (p := ⟨pe, j, none⟩) (by exact hl2)).trans f1; replace q3 := Lib.hid q3; replace g3 : w1.heap.size ≤ r3 := g3; replace g3 := Lib.hid g3))
  have h3 := h1.out.later b3
  obtain ⟨h4, b4⟩ := h3.setE (E' := E') j r3 c3 hj (by rw [hsec.out]; exact q3.out) (Nat.le_trans hB1 g3.out) hoth.out
  have b5 := Lib.hid (b1'.out.trans ((But.ofBelow b3).trans b4))
  replace h4 := Lib.hid h4
  clear h3 b4
  replace b3 := Lib.hid b3
  go_wp2_with fail
  refine (done_any off' _).mono ?_
  rintro e2 w2 ⟨rfl, rfl⟩
  rw [← hc.out]
  go_wp2_with fail
  go_ret
  refine ⟨rfl, ⟨_, h4.out, fun i u hu => ?_⟩, b5.out⟩
  by_cases e : i = j
  · subst e
    refine .inr ⟨r3, c3, ?_, Nat.le_trans hz1.out g3.out⟩
    by_cases hl : i < es.length
    · rw [List.getElem?_set_self hl] at hu
      injection hu with hu
      exact hu.symm
    · rw [List.getElem?_eq_none (by rw [List.length_set]; omega)] at hu
      cases hu
  · rw [List.getElem?_set_ne (Ne.symm e)] at hu
    exact .inl hu
end
end Go.Proofs.Ytghogkanhcihbaa
