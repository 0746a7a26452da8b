/-
  What the program's readers of one part of an instruction answer: the part is read into the instruction, or there is none; condition: the place and the instruction lie in memory that was there at the call.
-/
import Derived.Test.YtmejgbbdehndaaaGreatOwn
namespace Go.Proofs.YtmejgbbdehndaaaGreat
open Go.RowKit
theorem off_ne {w : World} {g i j : Nat} {v : Value} (h : i ≠ j) : (w.setCell ⟨g, i, none⟩ v).cell? ⟨g, j, none⟩ = w.cell? ⟨g, j, none⟩ := World.cell?_setCell_other _ _ _ _ (by intro e; cases e; exact h rfl)
theorem ItemAt.put0 {w : World} {g o : Nat} {h : M.Hd} {vL vB vE : Value} (hi : ItemAt w g o h vL vB vE) (u : Int) : ItemAt (w.setCell ⟨g, o, none⟩ (.int .i64 u)) g o { h with op := u } vL vB vE := by
  obtain ⟨c0, c1, c2, c3, c4, c5, c6, c7, c8⟩ := hi
  exact ⟨World.cell?_setCell_same _ _ _ c0, (off_ne (by omega)).trans c1, (off_ne (by omega)).trans c2, (off_ne (by omega)).trans c3, (off_ne (by omega)).trans c4, (off_ne (by omega)).trans c5, (off_ne (by omega)).trans c6, (off_ne (by omega)).trans c7, (off_ne (by omega)).trans c8⟩
theorem ItemAt.put1 {w : World} {g o : Nat} {h : M.Hd} {vL vB vE : Value} (hi : ItemAt w g o h vL vB vE) (u : Int) : ItemAt (w.setCell ⟨g, o + 1, none⟩ (.int .i64 u)) g o { h with ty := u } vL vB vE := by
  obtain ⟨c0, c1, c2, c3, c4, c5, c6, c7, c8⟩ := hi
  exact ⟨(off_ne (by omega)).trans c0, World.cell?_setCell_same _ _ _ c1, (off_ne (by omega)).trans c2, (off_ne (by omega)).trans c3, (off_ne (by omega)).trans c4, (off_ne (by omega)).trans c5, (off_ne (by omega)).trans c6, (off_ne (by omega)).trans c7, (off_ne (by omega)).trans c8⟩
theorem ItemAt.put2 {w : World} {g o : Nat} {h : M.Hd} {vL vB vE : Value} (hi : ItemAt w g o h vL vB vE) (u : Int) : ItemAt (w.setCell ⟨g, o + 2, none⟩ (.int .i64 u)) g o { h with ix := u } vL vB vE := by
  obtain ⟨c0, c1, c2, c3, c4, c5, c6, c7, c8⟩ := hi
  exact ⟨(off_ne (by omega)).trans c0, (off_ne (by omega)).trans c1, World.cell?_setCell_same _ _ _ c2, (off_ne (by omega)).trans c3, (off_ne (by omega)).trans c4, (off_ne (by omega)).trans c5, (off_ne (by omega)).trans c6, (off_ne (by omega)).trans c7, (off_ne (by omega)).trans c8⟩
theorem ItemAt.put3 {w : World} {g o : Nat} {h : M.Hd} {vL vB vE : Value} (hi : ItemAt w g o h vL vB vE) (u : Int) : ItemAt (w.setCell ⟨g, o + 3, none⟩ (.int .i64 u)) g o { h with al := u } vL vB vE := by
  obtain ⟨c0, c1, c2, c3, c4, c5, c6, c7, c8⟩ := hi
  exact ⟨(off_ne (by omega)).trans c0, (off_ne (by omega)).trans c1, (off_ne (by omega)).trans c2, World.cell?_setCell_same _ _ _ c3, (off_ne (by omega)).trans c4, (off_ne (by omega)).trans c5, (off_ne (by omega)).trans c6, (off_ne (by omega)).trans c7, (off_ne (by omega)).trans c8⟩
theorem ItemAt.put4 {w : World} {g o : Nat} {h : M.Hd} {vL vB vE : Value} (hi : ItemAt w g o h vL vB vE) (u : Int) : ItemAt (w.setCell ⟨g, o + 4, none⟩ (.int .i64 u)) g o { h with ofs := u } vL vB vE := by
  obtain ⟨c0, c1, c2, c3, c4, c5, c6, c7, c8⟩ := hi
  exact ⟨(off_ne (by omega)).trans c0, (off_ne (by omega)).trans c1, (off_ne (by omega)).trans c2, (off_ne (by omega)).trans c3, World.cell?_setCell_same _ _ _ c4, (off_ne (by omega)).trans c5, (off_ne (by omega)).trans c6, (off_ne (by omega)).trans c7, (off_ne (by omega)).trans c8⟩
theorem ItemAt.put5 {w : World} {g o : Nat} {h : M.Hd} {vL vB vE : Value} (hi : ItemAt w g o h vL vB vE) (u : Int) : ItemAt (w.setCell ⟨g, o + 5, none⟩ (.int .i64 u)) g o { h with val := u } vL vB vE := by
  obtain ⟨c0, c1, c2, c3, c4, c5, c6, c7, c8⟩ := hi
  exact ⟨(off_ne (by omega)).trans c0, (off_ne (by omega)).trans c1, (off_ne (by omega)).trans c2, (off_ne (by omega)).trans c3, (off_ne (by omega)).trans c4, World.cell?_setCell_same _ _ _ c5, (off_ne (by omega)).trans c6, (off_ne (by omega)).trans c7, (off_ne (by omega)).trans c8⟩
theorem ItemAt.put6 {w : World} {g o : Nat} {h : M.Hd} {vL vB vE : Value} (hi : ItemAt w g o h vL vB vE) (u : Value) : ItemAt (w.setCell ⟨g, o + 6, none⟩ u) g o h u vB vE := by
  obtain ⟨c0, c1, c2, c3, c4, c5, c6, c7, c8⟩ := hi
  exact ⟨(off_ne (by omega)).trans c0, (off_ne (by omega)).trans c1, (off_ne (by omega)).trans c2, (off_ne (by omega)).trans c3, (off_ne (by omega)).trans c4, (off_ne (by omega)).trans c5, World.cell?_setCell_same _ _ _ c6, (off_ne (by omega)).trans c7, (off_ne (by omega)).trans c8⟩
theorem ItemAt.put7 {w : World} {g o : Nat} {h : M.Hd} {vL vB vE : Value} (hi : ItemAt w g o h vL vB vE) (u : Value) : ItemAt (w.setCell ⟨g, o + 7, none⟩ u) g o h vL u vE := by
  obtain ⟨c0, c1, c2, c3, c4, c5, c6, c7, c8⟩ := hi
  exact ⟨(off_ne (by omega)).trans c0, (off_ne (by omega)).trans c1, (off_ne (by omega)).trans c2, (off_ne (by omega)).trans c3, (off_ne (by omega)).trans c4, (off_ne (by omega)).trans c5, (off_ne (by omega)).trans c6, World.cell?_setCell_same _ _ _ c7, (off_ne (by omega)).trans c8⟩
theorem ItemAt.put8 {w : World} {g o : Nat} {h : M.Hd} {vL vB vE : Value} (hi : ItemAt w g o h vL vB vE) (u : Value) : ItemAt (w.setCell ⟨g, o + 8, none⟩ u) g o h vL vB u := by
  obtain ⟨c0, c1, c2, c3, c4, c5, c6, c7, c8⟩ := hi
  exact ⟨(off_ne (by omega)).trans c0, (off_ne (by omega)).trans c1, (off_ne (by omega)).trans c2, (off_ne (by omega)).trans c3, (off_ne (by omega)).trans c4, (off_ne (by omega)).trans c5, (off_ne (by omega)).trans c6, (off_ne (by omega)).trans c7, World.cell?_setCell_same _ _ _ c8⟩
theorem ItemAt.far {w : World} {g o : Nat} {h : M.Hd} {vL vB vE : Value} (hi : ItemAt w g o h vL vB vE) {p : Addr} (hp : g ≠ p.block) (u : Value) : ItemAt (w.setCell p u) g o h vL vB vE :=
  hi.agree (Below.heap_setCell w p u g hp)
/-- The blocks that were made since. -/
def Since (base : Nat) (w : World) : Nat → Prop := fun k => base ≤ k ∧ k < w.heap.size
/-- Where reading an instruction's parts has come to. -/
structure RS (P : Nat) (A : Option Addr) (c : Nat) (bs : List Nat) (d g o base : Nat) (s : M.Stt) (w : World) (p : Nat) (vL vB vE : Value) : Prop where
  place : PlaceAt w P A c bs p d
  rest : s.r = bs.drop p
  item : ItemAt w g o s.h vL vB vE
  blk : ∃ cur, Blk w g cur
  apart : P < g
  old : P < base ∧ g < base ∧ base ≤ w.heap.size
  rng : Rng s.h
  own : OwnN w (Since base w) vL s.h.labels
  ownB : OwnL w (Since base w) vB s.b
  ownE : OwnL w (Since base w) vE s.e
/-- What a reader leaves. -/
def RdPost (P : Nat) (A : Option Addr) (c : Nat) (bs : List Nat) (d g o base : Nat) (w : World) (res : Option M.Stt) (e : Ending) (w' : World) : Prop :=
  (∃ s' p' vL vB vE, res = some s' ∧ e = .returned (.bool true) ∧ RS P A c bs d g o base s' w' p' vL vB vE ∧ Step P g o w w') ∨
  (res = none ∧ e = .returned (.bool false) ∧ (∃ p', PlaceAt w' P A c bs p' d) ∧ Step P g o w w')
theorem Since.agree {P g base : Nat} {w w' : World} (h : Kb (fun k => k = P ∨ k = g) w w') (h1 : P < base) (h2 : g < base) : Agree (Since base w) w w' := fun k hk => h.block k hk.2 (by have := hk.1; omega)
theorem Since.mono {base : Nat} {w w' : World} (h : w.heap.size ≤ w'.heap.size) : ∀ k, Since base w k → Since base w' k := fun _ hk => ⟨hk.1, Nat.lt_of_lt_of_le hk.2 h⟩
/-- Behind a step the rest stands as it stood. -/
theorem RS.step {P : Nat} {A : Option Addr} {c : Nat} {bs : List Nat} {d g o base : Nat} {s s' : M.Stt} {w w' : World} {p p' : Nat} {vL vB vE : Value} (h : RS P A c bs d g o base s w p vL vB vE) (hs : Step P g o w w')
    (hp : PlaceAt w' P A c bs p' d) (hr : s'.r = bs.drop p') (hi : ItemAt w' g o s'.h vL vB vE) (hR : Rng s'.h) (hl : s'.h.labels = s.h.labels) (hb : s'.b = s.b) (he : s'.e = s.e) : RS P A c bs d g o base s' w' p' vL vB vE := by
  obtain ⟨cur, hc⟩ := h.blk
  obtain ⟨cur', hc', _⟩ := hs.blk cur hc
  have ha := Since.agree hs.kb h.old.1 h.old.2.1
  have hm := Since.mono (base := base) hs.kb.size
  exact ⟨hp, hr, hi, ⟨cur', hc'⟩, h.apart, ⟨h.old.1, h.old.2.1, Nat.le_trans h.old.2.2 hs.kb.size⟩, hR, by rw [hl]; exact h.own.agree ha hm, by rw [hb]; exact h.ownB.agree ha hm, by rw [he]; exact h.ownE.agree ha hm⟩
theorem RS.lt {P : Nat} {A : Option Addr} {c : Nat} {bs : List Nat} {d g o base : Nat} {s : M.Stt} {w : World} {p : Nat} {vL vB vE : Value} (h : RS P A c bs d g o base s w p vL vB vE) : g < w.heap.size := Nat.lt_of_lt_of_le h.old.2.1 h.old.2.2
/-- A number is read into a cell of the instruction. -/
theorem RS.num {P : Nat} {A : Option Addr} {c : Nat} {bs : List Nat} {d g o base : Nat} {s : M.Stt} {w w1 : World} {p q j : Nat} {vL vB vE : Value} {v : Int} (h : RS P A c bs d g o base s w p vL vB vE) (hb : Below w.heap.size w w1) (hq : q ≤ bs.length) (hj : j < 9) :
    Step P g o w ((w1.setCell ⟨g, o + j, none⟩ (.int .i64 v)).setCell ⟨P, 1, none⟩ (.int .i64 (q : Nat))) ∧ PlaceAt ((w1.setCell ⟨g, o + j, none⟩ (.int .i64 v)).setCell ⟨P, 1, none⟩ (.int .i64 (q : Nat))) P A c bs q d ∧
      (∀ h' : M.Hd, ItemAt (w1.setCell ⟨g, o + j, none⟩ (.int .i64 v)) g o h' vL vB vE → ItemAt ((w1.setCell ⟨g, o + j, none⟩ (.int .i64 v)).setCell ⟨P, 1, none⟩ (.int .i64 (q : Nat))) g o h' vL vB vE) ∧ ItemAt w1 g o s.h vL vB vE := by
  have hPg := h.apart
  have hgP : g ≠ P := by omega
  have hPs : P < w.heap.size := Nat.lt_of_lt_of_le h.old.1 h.old.2.2
  have s1 : Step P g o w w1 := Step.of_kb (.of_below hb) h.lt hgP
  have s2 : Step P g o w1 (w1.setCell ⟨g, o + j, none⟩ (.int .i64 v)) := Step.set w1 j _ hj
  have s3 : Step P g o (w1.setCell ⟨g, o + j, none⟩ (.int .i64 v)) ((w1.setCell ⟨g, o + j, none⟩ (.int .i64 v)).setCell ⟨P, 1, none⟩ (.int .i64 (q : Nat))) :=
    Step.of_kb (Kb.setCell (T := (· = P)) (Kb.refl _ _) (p := ⟨P, 1, none⟩) rfl _) (by simpa using Nat.lt_of_lt_of_le h.lt hb.size) hgP
  refine ⟨(s1.trans s2).trans s3, ?_, fun h' hi => hi.far (p := ⟨P, 1, none⟩) hgP _, h.item.agree (hb.block g h.lt)⟩
  have p1 : PlaceAt w1 P A c bs p d := h.place.agree (fun k hk => hb.block k (by omega)) hb.size
  have p2 : PlaceAt (w1.setCell ⟨g, o + j, none⟩ (.int .i64 v)) P A c bs p d := p1.agree (fun k hk => Below.heap_setCell _ _ _ _ (by show k ≠ g; omega)) (by simp)
  exact p2.move q hq

theorem index_any (P : Nat) (ad : Addr) (c : Nat) (bs : List Nat) (d g o base : Nat) (sub : M.Rd) (s : M.Stt) (w : World) (p : Nat) (vL vB vE : Value) (h : RS P (some ad) c bs d g o base s w p vL vB vE) :
    Calls Tryz.prog 249 #[.pointer (some ⟨P, 0, none⟩), .pointer (some ⟨g, o, none⟩)] w (RdPost P (some ad) c bs d g o base w (M.rdPart sub 2 s)) := by
  have h0 := Lib.hid h
  have hc := h.item.c2
  obtain ⟨cur, hcur⟩ := h.blk
  have hf := hcur.frozen (o + 2)
  have hPg := h.apart
  have hr := h.rest
  have hpl := Lib.hid h.place
  clear h hcur
  cases hn : M.num (bs.drop p) with
  | none =>
    have hres := Lib.hid (show M.rdPart sub 2 s = none by simp only [M.rdPart, hr, hn]; rfl)
    replace hn := Lib.hid hn
    replace hr := Lib.hid hr
    go_enter Tryz.func249, Tryz.ntmps249
    go_wp2_with fail
    refine (number_no _ P ad c bs p d _ hpl.out hn.out).mono ?_
    rintro e1 w1 ⟨rfl, b1⟩
    replace b1 := Lib.hid b1
    go_wp2_with fail
    go_ret
    exact .inr ⟨hres.out, rfl, ⟨p, hpl.out.agree (fun k hk => b1.out.block k (by have := hpl.out.size; omega)) b1.out.size⟩, Step.of_kb (.of_below b1.out) h0.out.lt (by omega)⟩
  | some x =>
    obtain ⟨v, r⟩ := x
    have hres := Lib.hid (show M.rdPart sub 2 s = some { s with r := r, h := { s.h with ix := v } } by simp only [M.rdPart, hr, hn]; rfl)
    have hv := Lib.hid (M.num_short hn).1
    replace hn := Lib.hid hn
    replace hr := Lib.hid hr
    go_enter Tryz.func249, Tryz.ntmps249
    go_wp2_with fail
    refine (number_yes _ P (some ad) c bs p d g (o + 2) _ v r hpl.out (by omega) hc hf hn.out).mono ?_
    rintro e1 w2 ⟨rfl, q, w1, hq, hrq, b1, rfl⟩
    obtain ⟨st, pl, it, it1⟩ := h0.out.num (j := 2) (v := v) b1 hq (by decide)
    replace hrq := Lib.hid hrq
    replace st := Lib.hid st
    replace pl := Lib.hid pl
    have it2 := Lib.hid (it _ (it1.put2 v))
    clear it it1 b1
    go_wp2_with fail
    go_ret
    have hR := h0.out.rng
    have hv' := hv.out
    unfold M.inR at hv'
    exact .inl ⟨_, q, vL, vB, vE, hres.out, rfl, h0.out.step st.out pl.out hrq.out it2.out ⟨hR.r0, hR.r1, by simp only; omega, hR.r3, hR.r4, hR.r5⟩ rfl rfl rfl, st.out⟩
theorem align_any (P : Nat) (ad : Addr) (c : Nat) (bs : List Nat) (d g o base : Nat) (sub : M.Rd) (s : M.Stt) (w : World) (p : Nat) (vL vB vE : Value) (h : RS P (some ad) c bs d g o base s w p vL vB vE) :
    Calls Tryz.prog 250 #[.pointer (some ⟨P, 0, none⟩), .pointer (some ⟨g, o, none⟩)] w (RdPost P (some ad) c bs d g o base w (M.rdPart sub 3 s)) := by
  have h0 := Lib.hid h
  have hc := h.item.c3
  obtain ⟨cur, hcur⟩ := h.blk
  have hf := hcur.frozen (o + 3)
  have hPg := h.apart
  have hr := h.rest
  have hpl := Lib.hid h.place
  clear h hcur
  cases hn : M.num (bs.drop p) with
  | none =>
    have hres := Lib.hid (show M.rdPart sub 3 s = none by simp only [M.rdPart, hr, hn]; rfl)
    replace hn := Lib.hid hn
    replace hr := Lib.hid hr
    go_enter Tryz.func250, Tryz.ntmps250
    go_wp2_with fail
    refine (number_no _ P ad c bs p d _ hpl.out hn.out).mono ?_
    rintro e1 w1 ⟨rfl, b1⟩
    replace b1 := Lib.hid b1
    go_wp2_with fail
    go_ret
    exact .inr ⟨hres.out, rfl, ⟨p, hpl.out.agree (fun k hk => b1.out.block k (by have := hpl.out.size; omega)) b1.out.size⟩, Step.of_kb (.of_below b1.out) h0.out.lt (by omega)⟩
  | some x =>
    obtain ⟨v, r⟩ := x
    have hres := Lib.hid (show M.rdPart sub 3 s = some { s with r := r, h := { s.h with al := v } } by simp only [M.rdPart, hr, hn]; rfl)
    have hv := Lib.hid (M.num_short hn).1
    replace hn := Lib.hid hn
    replace hr := Lib.hid hr
    go_enter Tryz.func250, Tryz.ntmps250
    go_wp2_with fail
    refine (number_yes _ P (some ad) c bs p d g (o + 3) _ v r hpl.out (by omega) hc hf hn.out).mono ?_
    rintro e1 w2 ⟨rfl, q, w1, hq, hrq, b1, rfl⟩
    obtain ⟨st, pl, it, it1⟩ := h0.out.num (j := 3) (v := v) b1 hq (by decide)
    replace hrq := Lib.hid hrq
    replace st := Lib.hid st
    replace pl := Lib.hid pl
    have it2 := Lib.hid (it _ (it1.put3 v))
    clear it it1 b1
    go_wp2_with fail
    go_ret
    have hR := h0.out.rng
    have hv' := hv.out
    unfold M.inR at hv'
    exact .inl ⟨_, q, vL, vB, vE, hres.out, rfl, h0.out.step st.out pl.out hrq.out it2.out ⟨hR.r0, hR.r1, hR.r2, by simp only; omega, hR.r4, hR.r5⟩ rfl rfl rfl, st.out⟩
theorem offset_any (P : Nat) (ad : Addr) (c : Nat) (bs : List Nat) (d g o base : Nat) (sub : M.Rd) (s : M.Stt) (w : World) (p : Nat) (vL vB vE : Value) (h : RS P (some ad) c bs d g o base s w p vL vB vE) :
    Calls Tryz.prog 251 #[.pointer (some ⟨P, 0, none⟩), .pointer (some ⟨g, o, none⟩)] w (RdPost P (some ad) c bs d g o base w (M.rdPart sub 4 s)) := by
  have h0 := Lib.hid h
  have hc := h.item.c4
  obtain ⟨cur, hcur⟩ := h.blk
  have hf := hcur.frozen (o + 4)
  have hPg := h.apart
  have hr := h.rest
  have hpl := Lib.hid h.place
  clear h hcur
  cases hn : M.num (bs.drop p) with
  | none =>
    have hres := Lib.hid (show M.rdPart sub 4 s = none by simp only [M.rdPart, hr, hn]; rfl)
    replace hn := Lib.hid hn
    replace hr := Lib.hid hr
    go_enter Tryz.func251, Tryz.ntmps251
    go_wp2_with fail
    refine (number_no _ P ad c bs p d _ hpl.out hn.out).mono ?_
    rintro e1 w1 ⟨rfl, b1⟩
    replace b1 := Lib.hid b1
    go_wp2_with fail
    go_ret
    exact .inr ⟨hres.out, rfl, ⟨p, hpl.out.agree (fun k hk => b1.out.block k (by have := hpl.out.size; omega)) b1.out.size⟩, Step.of_kb (.of_below b1.out) h0.out.lt (by omega)⟩
  | some x =>
    obtain ⟨v, r⟩ := x
    have hres := Lib.hid (show M.rdPart sub 4 s = some { s with r := r, h := { s.h with ofs := v } } by simp only [M.rdPart, hr, hn]; rfl)
    have hv := Lib.hid (M.num_short hn).1
    replace hn := Lib.hid hn
    replace hr := Lib.hid hr
    go_enter Tryz.func251, Tryz.ntmps251
    go_wp2_with fail
    refine (number_yes _ P (some ad) c bs p d g (o + 4) _ v r hpl.out (by omega) hc hf hn.out).mono ?_
    rintro e1 w2 ⟨rfl, q, w1, hq, hrq, b1, rfl⟩
    obtain ⟨st, pl, it, it1⟩ := h0.out.num (j := 4) (v := v) b1 hq (by decide)
    replace hrq := Lib.hid hrq
    replace st := Lib.hid st
    replace pl := Lib.hid pl
    have it2 := Lib.hid (it _ (it1.put4 v))
    clear it it1 b1
    go_wp2_with fail
    go_ret
    have hR := h0.out.rng
    have hv' := hv.out
    unfold M.inR at hv'
    exact .inl ⟨_, q, vL, vB, vE, hres.out, rfl, h0.out.step st.out pl.out hrq.out it2.out ⟨hR.r0, hR.r1, hR.r2, hR.r3, by simp only; omega, hR.r5⟩ rfl rfl rfl, st.out⟩
theorem nought_any (P : Nat) (ad : Addr) (c : Nat) (bs : List Nat) (d g o base : Nat) (sub : M.Rd) (s : M.Stt) (w : World) (p : Nat) (vL vB vE : Value) (h : RS P (some ad) c bs d g o base s w p vL vB vE) :
    Calls Tryz.prog 252 #[.pointer (some ⟨P, 0, none⟩), .pointer (some ⟨g, o, none⟩)] w (RdPost P (some ad) c bs d g o base w (M.rdPart sub 5 s)) := by
  have h0 := Lib.hid h
  have hPg := h.apart
  have hr := h.rest
  have hpl := Lib.hid h.place
  clear h
  replace hr := Lib.hid hr
  go_enter Tryz.func252, Tryz.ntmps252
  go_wp2_with fail
  refine (fixed_any _ P (some ad) c bs p d 0 hpl.out (by omega)).mono ?_
  rintro e1 w1 (⟨hb, rfl, pl, kb⟩ | ⟨hb, rfl, pl, kb⟩)
  · replace hb := Lib.hid hb
    replace pl := Lib.hid pl
    replace kb := Lib.hid kb
    go_wp2_with fail
    go_ret
    have hd := (nextB_lt hb.out).2
    have st : Step P g o w w1 := Step.of_kb kb.out h0.out.lt (by omega)
    have hres : M.rdPart sub 5 s = some { s with r := bs.drop (p + 1) } := by simp only [M.rdPart, hr.out, hd, M.zeroB, if_true]; rfl
    exact .inl ⟨_, p + 1, vL, vB, vE, hres, rfl, h0.out.step st pl.out rfl (h0.out.item.agree (kb.out.block g h0.out.lt (by omega))) h0.out.rng rfl rfl rfl, st⟩
  · replace hb := Lib.hid hb
    replace pl := Lib.hid pl
    replace kb := Lib.hid kb
    go_wp2_with fail
    go_ret
    have st : Step P g o w w1 := Step.of_kb kb.out h0.out.lt (by omega)
    have hres : M.rdPart sub 5 s = none := by
      simp only [M.rdPart, hr.out]
      have hb' := hb.out
      unfold nextB at hb'
      cases hd : bs.drop p with
      | nil => rfl
      | cons y t =>
        rw [hd] at hb'
        have : ¬ y = 0 := fun e => by subst e; simp at hb'
        simp only [M.zeroB, if_neg this]; rfl
    exact .inr ⟨hres, rfl, ⟨p, pl.out⟩, st⟩
theorem end_any (P : Nat) (ad : Addr) (c : Nat) (bs : List Nat) (d g o base : Nat) (sub : M.Rd) (s : M.Stt) (w : World) (p : Nat) (vL vB vE : Value) (h : RS P (some ad) c bs d g o base s w p vL vB vE) :
    Calls Tryz.prog 256 #[.pointer (some ⟨P, 0, none⟩), .pointer (some ⟨g, o, none⟩)] w (RdPost P (some ad) c bs d g o base w (M.rdPart sub 9 s)) := by
  have h0 := Lib.hid h
  have hPg := h.apart
  have hr := h.rest
  have hpl := Lib.hid h.place
  clear h
  replace hr := Lib.hid hr
  go_enter Tryz.func256, Tryz.ntmps256
  go_wp2_with fail
  refine (fixed_any _ P (some ad) c bs p d 11 hpl.out (by omega)).mono ?_
  rintro e1 w1 (⟨hb, rfl, pl, kb⟩ | ⟨hb, rfl, pl, kb⟩)
  · replace hb := Lib.hid hb
    replace pl := Lib.hid pl
    replace kb := Lib.hid kb
    go_wp2_with fail
    go_ret
    have hd := (nextB_lt hb.out).2
    have st : Step P g o w w1 := Step.of_kb kb.out h0.out.lt (by omega)
    have hres : M.rdPart sub 9 s = some { s with r := bs.drop (p + 1) } := by simp only [M.rdPart, hr.out, hd, M.endB, if_true]; rfl
    exact .inl ⟨_, p + 1, vL, vB, vE, hres, rfl, h0.out.step st pl.out rfl (h0.out.item.agree (kb.out.block g h0.out.lt (by omega))) h0.out.rng rfl rfl rfl, st⟩
  · replace hb := Lib.hid hb
    replace pl := Lib.hid pl
    replace kb := Lib.hid kb
    go_wp2_with fail
    go_ret
    have st : Step P g o w w1 := Step.of_kb kb.out h0.out.lt (by omega)
    have hres : M.rdPart sub 9 s = none := by
      simp only [M.rdPart, hr.out]
      have hb' := hb.out
      unfold nextB at hb'
      cases hd : bs.drop p with
      | nil => rfl
      | cons y t =>
        rw [hd] at hb'
        have : ¬ y = 11 := fun e => by subst e; simp at hb'
        simp only [M.endB, if_neg this]; rfl
    exact .inr ⟨hres, rfl, ⟨p, pl.out⟩, st⟩
set_option maxRecDepth 100000 in
theorem blockType_any (P : Nat) (ad : Addr) (c : Nat) (bs : List Nat) (d g o base : Nat) (sub : M.Rd) (s : M.Stt) (w : World) (p : Nat) (vL vB vE : Value) (h : RS P (some ad) c bs d g o base s w p vL vB vE) :
    Calls Tryz.prog 247 #[.pointer (some ⟨P, 0, none⟩), .pointer (some ⟨g, o, none⟩)] w (RdPost P (some ad) c bs d g o base w (M.rdPart sub 0 s)) := by
  have h0 := Lib.hid h
  have hc1 := h.item.c1
  obtain ⟨cur, hcur⟩ := h.blk
  have hf := hcur.frozen (o + 1)
  have hPg := h.apart
  have hr := h.rest
  have hpl := Lib.hid h.place
  have hglt := h.lt
  clear hcur
  obtain ⟨c0, c1, c2, c3, c4, c5, c6, c7, c8, c9, c10, c11, c12, f1, f2, le, cap, small, deep, bytes, size⟩ := h.place
  clear c2 c3 c4 c5 c6 c7 c8 c9 c10 c11 c12 f2 bytes
  obtain ⟨cap1, cap2⟩ := cap
  unfold maxLen at cap2
  clear h
  by_cases hp : p < bs.length
  · obtain ⟨ad', y, ea, hd, hy, q⟩ := hpl.out.byte hp
    injection ea with ea
    subst ea
    rw [hd] at hr
    replace hr := Lib.hid hr
    replace hd := Lib.hid hd
    have t0 : (0 : Int) ≤ (p : Int) := by omega
    have t1 : (p : Int) < (bs.length : Int) := by omega
    have t2 : ((p : Int) == (bs.length : Int)) = false := by rw [beq_eq_false_iff_ne]; omega
    have t3 : (p == bs.length) = false := by rw [beq_eq_false_iff_ne]; omega
    by_cases ty : M.tyOk (y : Int)
    · have hres := Lib.hid (show M.rdPart sub 0 s = some { s with r := bs.drop (p + 1), h := { s.h with ty := (y : Int) } } by simp only [M.rdPart, hr.out, if_pos ty])
      replace ty := Lib.hid ty
      go_enter Tryz.func247, Tryz.ntmps247
      go_wp2_with fail
      go_quiet ((go_at_call 244; exact Calls.quiet_of_same ((isType_yes _ _ ty.out).mono fun _ _ ⟨a, b⟩ => ⟨a, b.symm⟩)))
      go_wp2_with fail
      have hbd := Lib.hid (below_drewN (Below.refl w.heap.size w) nq)
      replace hc1 : (w.drewN nq).cell? ⟨g, o + 1, none⟩ = some (.int .i64 s.h.ty) := hc1
      replace hf : (w.drewN nq).frozen? ⟨g, o + 1, none⟩ = false := hf
      replace c1 : (w.drewN nq).cell? ⟨P, 1, none⟩ = some (.int .i64 (p : Nat)) := c1
      replace c0 : (w.drewN nq).cell? ⟨P, 0, none⟩ = some (.slice (some ad) bs.length c) := c0
      replace q : (w.drewN nq).cell? (ad.add p) = some (.int .u8 (y : Nat)) := q
      replace f1 : (w.drewN nq).frozen? ⟨P, 1, none⟩ = false := f1
      have hgP : ¬ g = P := by omega
      generalize w.drewN nq = w1 at hc1 hf c1 f1 c0 q hbd ⊢
      go_still_tail 14, (by kernel_rfl)
      change wpList _ _ _ _ _ w1.drew
      replace hbd := Lib.hid hbd.out.drew
      replace hc1 : w1.drew.cell? ⟨g, o + 1, none⟩ = some (.int .i64 s.h.ty) := hc1
      replace hf : w1.drew.frozen? ⟨g, o + 1, none⟩ = false := hf
      replace c1 : w1.drew.cell? ⟨P, 1, none⟩ = some (.int .i64 (p : Nat)) := c1
      replace f1 : w1.drew.frozen? ⟨P, 1, none⟩ = false := f1
      clear c0 q
      generalize w1.drew = w2 at hc1 hf c1 f1 hbd ⊢
      go_wp2_with fail
      go_ret
      obtain ⟨st, pl, it, it1⟩ := h0.out.num (j := 1) (v := (y : Int)) (q := p + 1) hbd.out (by omega) (by decide)
      have hR := h0.out.rng
      exact .inl ⟨_, p + 1, vL, vB, vE, hres.out, rfl, h0.out.step st pl rfl (it _ (it1.put1 _)) ⟨hR.r0, by simp only; omega, hR.r2, hR.r3, hR.r4, hR.r5⟩ rfl rfl rfl, st⟩
    · have hres := Lib.hid (show M.rdPart sub 0 s = none by simp only [M.rdPart, hr.out, if_neg ty])
      replace ty := Lib.hid ty
      go_enter Tryz.func247, Tryz.ntmps247
      go_wp2_with fail
      go_quiet ((go_at_call 244; exact Calls.quiet_of_same ((isType_no _ _ ty.out).mono fun _ _ ⟨a, b⟩ => ⟨a, b.symm⟩)))
      go_wp2_with fail
      go_ret
      exact .inr ⟨hres.out, rfl, ⟨p, drewN_place hpl.out nq⟩, Step.of_kb (.of_below (below_drewN (Below.refl _ _) _)) hglt (by omega)⟩
  · have hd : bs.drop p = [] := List.drop_eq_nil_of_le (by omega)
    rw [hd] at hr
    have hres := Lib.hid (show M.rdPart sub 0 s = none by simp only [M.rdPart, hr])
    have t2 : ((p : Int) == (bs.length : Int)) = true := by rw [beq_iff_eq]; omega
    have t3 : (p == bs.length) = true := by rw [beq_iff_eq]; omega
    clear hd hr
    go_enter Tryz.func247, Tryz.ntmps247
    go_wp2_with fail
    go_quiet (fail)
    go_wp2_with fail
    go_ret
    exact .inr ⟨hres.out, rfl, ⟨p, drewN_place hpl.out nq⟩, Step.of_kb (.of_below (below_drewN (Below.refl _ _) _)) hglt (by omega)⟩
end Go.Proofs.YtmejgbbdehndaaaGreat
