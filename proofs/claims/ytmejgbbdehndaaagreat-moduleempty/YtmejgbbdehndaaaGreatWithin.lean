/-
  What the program's readers of a block's instructions answer, given what its reader of a list answers one block deeper; condition: the place and the instruction lie in memory that was there at the call.
-/
import Derived.Test.YtmejgbbdehndaaaGreatReadV
namespace Go.Proofs.YtmejgbbdehndaaaGreat
open Go.RowKit
/-- What the reader of a list leaves. -/
def ListPost (P : Nat) (ad : Addr) (c : Nat) (bs : List Nat) (d p : Nat) (w : World) (e : Ending) (w' : World) : Prop :=
  (∃ l r v q, M.dec (40 - d) (bs.drop p) = some (l, r) ∧ e = .returned (.tuple #[v, .bool true]) ∧ PlaceAt w' P (some ad) c bs q d ∧ r = bs.drop q ∧ OwnL w' (Since w.heap.size w') v l ∧ Kb (· = P) w w') ∨
  (M.dec (40 - d) (bs.drop p) = none ∧ e = .returned (.tuple #[.slice none 0 0, .bool false]) ∧ (∃ q, PlaceAt w' P (some ad) c bs q d) ∧ Kb (· = P) w w')
def ListOk (d : Nat) : Prop := ∀ (P : Nat) (ad : Addr) (c : Nat) (bs : List Nat) (p : Nat) (w : World), PlaceAt w P (some ad) c bs p d →
  Calls Tryz.prog 236 #[.pointer (some ⟨P, 0, none⟩)] w (ListPost P ad c bs d p w)
/-- What reading a block's instructions leaves. -/
def WithinPost (P : Nat) (ad : Addr) (c : Nat) (bs : List Nat) (d p g j : Nat) (w : World) (e : Ending) (w' : World) : Prop :=
  (∃ l r v q w3, M.subOf (40 - d) (bs.drop p) = some (l, r) ∧ e = .returned (.bool true) ∧ PlaceAt w3 P (some ad) c bs q d ∧ r = bs.drop q ∧ OwnL w3 (Since w.heap.size w3) v l ∧ Kb (· = P) w w3 ∧ w' = w3.setCell ⟨g, j, none⟩ v) ∨
  (M.subOf (40 - d) (bs.drop p) = none ∧ e = .returned (.bool false) ∧ ∃ q w3, PlaceAt w3 P (some ad) c bs q d ∧ Kb (· = P) w w3 ∧ (w' = w3 ∨ w' = w3.setCell ⟨g, j, none⟩ (.slice none 0 0)))
theorem own_slice {w : World} {S : Nat → Prop} {v : Value} {l : M.L} (h : OwnL w S v l) : ∃ A n c, v = .slice A n c := by
  obtain ⟨xs, h1, _⟩ := h
  rcases h1.2 with ⟨rfl, _⟩ | ⟨g, cap, cur, rfl, _⟩
  · exact ⟨_, _, _, rfl⟩
  · exact ⟨_, _, _, rfl⟩
set_option maxRecDepth 100000 in
theorem within_any (P : Nat) (ad : Addr) (c : Nat) (bs : List Nat) (d p g j : Nat) (u : Value) (w : World) (ih : d < 40 → ListOk (d + 1)) (h : PlaceAt w P (some ad) c bs p d) (hPg : P < g) (hu : w.cell? ⟨g, j, none⟩ = some u) (hf : w.frozen? ⟨g, j, none⟩ = false) :
    Calls Tryz.prog 268 #[.pointer (some ⟨P, 0, none⟩), .pointer (some ⟨g, j, none⟩)] w (WithinPost P ad c bs d p g j w) := by
  have hglt : g < w.heap.size := World.block_lt_of_cell? w ⟨g, j, none⟩ hu
  have hpl := Lib.hid h
  have c2 := h.c2
  have f2 := h.f2
  have hd := h.deep
  have hPs := h.size
  have hgP : ¬ g = P := by omega
  clear h
  by_cases h40 : d = 40
  · have t1 : ((d : Int) == 40) = true := by rw [beq_iff_eq]; omega
    have hs := Lib.hid (show M.subOf (40 - d) (bs.drop p) = none by rw [h40]; rfl)
    replace h40 := Lib.hid h40
    go_enter Tryz.func268, Tryz.ntmps268
    go_wp2_with fail
    go_ret
    exact .inr ⟨hs.out, rfl, p, w, hpl.out, Kb.refl _ _, .inl rfl⟩
  · have t1 : ((d : Int) == 40) = false := by rw [beq_eq_false_iff_ne]; omega
    have hs := Lib.hid (show M.subOf (40 - d) = M.dec (40 - (d + 1)) by rw [show 40 - d = (40 - (d + 1)) + 1 by omega]; rfl)
    have hih := Lib.hid (ih (by omega))
    clear ih
    go_enter Tryz.func268, Tryz.ntmps268
    go_wp2_with fail
    have pl1 := hpl.out.depth (d + 1) (by omega)
    rw [Int.natCast_add] at pl1
    refine (hih.out P ad c bs p _ pl1).mono ?_
    have k1 : Kb (· = P) w (w.setCell ⟨P, 2, none⟩ (.int .i64 ((d : Int) + 1))) := Kb.setCell (T := (· = P)) (Kb.refl _ _) (p := ⟨P, 2, none⟩) rfl _
    rintro e1 w2 (⟨l, r, v, q, hdec, rfl, pl2, hr, hown, kb⟩ | ⟨hdec, rfl, ⟨q, pl2⟩, kb⟩)
    · have k2 := k1.trans kb
      have hu2 : w2.cell? ⟨g, j, none⟩ = some u := by rw [World.cell?_of_block (w := w) (k2.block g hglt hgP)]; exact hu
      have hf2 : w2.frozen? ⟨g, j, none⟩ = false := by rw [World.frozen?_of_block (w := w) (k2.block g hglt hgP)]; exact hf
      have c22 := pl2.c2
      have f22 := pl2.f2
      rw [Int.natCast_add] at c22
      obtain ⟨A, n, cc, rfl⟩ := own_slice hown
      have pl3 := Lib.hid (pl2.depth d (by omega))
      have k3 := Lib.hid (Kb.setCell (T := (· = P)) k2 (p := ⟨P, 2, none⟩) rfl (.int .i64 (d : Nat)))
      have hP2 : P < w.heap.size := hPs
      have hown3 : OwnL (w2.setCell ⟨P, 2, none⟩ (.int .i64 (d : Nat))) (Since w.heap.size (w2.setCell ⟨P, 2, none⟩ (.int .i64 (d : Nat)))) (.slice A n cc) l :=
        hown.agree (fun k hk => Below.heap_setCell _ _ _ _ (by have := hk.1; simp at this; show k ≠ P; omega)) (fun k hk => ⟨by have := hk.1; simpa using this, by simpa using hk.2⟩)
      replace hown3 := Lib.hid hown3
      clear hown kb k1 hu hf c2 f2 pl1
      replace pl2 := Lib.hid pl2
      replace k2 := Lib.hid k2
      replace hdec := Lib.hid hdec
      replace hr := Lib.hid hr
      go_wp2_with fail
      go_ret
      exact .inl ⟨l, r, _, q, _, by rw [hs.out]; exact hdec.out, rfl, pl3.out, hr.out, hown3.out, k3.out, rfl⟩
    · have k2 := k1.trans kb
      have hu2 : w2.cell? ⟨g, j, none⟩ = some u := by rw [World.cell?_of_block (w := w) (k2.block g hglt hgP)]; exact hu
      have hf2 : w2.frozen? ⟨g, j, none⟩ = false := by rw [World.frozen?_of_block (w := w) (k2.block g hglt hgP)]; exact hf
      have c22 := pl2.c2
      have f22 := pl2.f2
      rw [Int.natCast_add] at c22
      have pl3 := Lib.hid (pl2.depth d (by omega))
      have k3 := Lib.hid (Kb.setCell (T := (· = P)) k2 (p := ⟨P, 2, none⟩) rfl (.int .i64 (d : Nat)))
      clear kb k1 hu hf c2 f2 pl1
      replace pl2 := Lib.hid pl2
      replace k2 := Lib.hid k2
      replace hdec := Lib.hid hdec
      go_wp2_with fail
      go_ret
      exact .inr ⟨by rw [hs.out]; exact hdec.out, rfl, q, _, pl3.out, k3.out, .inr rfl⟩
/-- A block's instructions have been read into the body, or behind else. -/
theorem RS.inner {P : Nat} {ad : Addr} {c : Nat} {bs : List Nat} {d g o base : Nat} {s : M.Stt} {w w3 : World} {p q j : Nat} {vL vB vE v : Value} {l : M.L} (h : RS P (some ad) c bs d g o base s w p vL vB vE) (hj : j < 9) (pl : PlaceAt w3 P (some ad) c bs q d) (kb : Kb (· = P) w w3) (hown : OwnL w3 (Since w.heap.size w3) v l) :
    Step P g o w (w3.setCell ⟨g, o + j, none⟩ v) ∧ PlaceAt (w3.setCell ⟨g, o + j, none⟩ v) P (some ad) c bs q d ∧ ItemAt w3 g o s.h vL vB vE ∧ OwnL (w3.setCell ⟨g, o + j, none⟩ v) (Since base (w3.setCell ⟨g, o + j, none⟩ v)) v l := by
  have hPg := h.apart
  have hgP : g ≠ P := by omega
  have s1 : Step P g o w w3 := Step.of_kb kb h.lt hgP
  refine ⟨s1.trans (Step.set w3 j _ hj), pl.agree (fun k hk => Below.heap_setCell _ _ _ _ (by show k ≠ g; omega)) (by simp), h.item.agree (kb.block g h.lt hgP), ?_⟩
  have h1 := h.old
  have h2 := h.lt
  exact hown.agree (fun k hk => Below.heap_setCell _ _ _ _ (by have := hk.1; show k ≠ g; omega)) (fun k hk => ⟨by have := hk.1; omega, by simpa using hk.2⟩)
set_option maxRecDepth 100000 in
theorem body_any (P : Nat) (ad : Addr) (c : Nat) (bs : List Nat) (d g o base : Nat) (s : M.Stt) (w : World) (p : Nat) (vL vB vE : Value) (ih : d < 40 → ListOk (d + 1)) (h : RS P (some ad) c bs d g o base s w p vL vB vE) :
    Calls Tryz.prog 254 #[.pointer (some ⟨P, 0, none⟩), .pointer (some ⟨g, o, none⟩)] w (RdPost P (some ad) c bs d g o base w (M.rdPart (M.subOf (40 - d)) 7 s)) := by
  have h0 := Lib.hid h
  have hc := h.item.c7
  obtain ⟨cur, hcur⟩ := h.blk
  have hf := hcur.frozen (o + 7)
  have hPg := h.apart
  have hr := Lib.hid h.rest
  have hpl := Lib.hid h.place
  replace ih := Lib.hid ih
  clear h hcur
  go_enter Tryz.func254, Tryz.ntmps254
  go_wp2_with fail
  refine (within_any P ad c bs d p g (o + 7) _ _ ih.out hpl.out hPg hc hf).mono ?_
  rintro e1 w1 (⟨l, r, v, q, w3, hsub, rfl, pl, hrq, hown, kb, rfl⟩ | ⟨hsub, rfl, q, w3, pl, kb, hw⟩)
  · obtain ⟨st, pl2, it, own2⟩ := h0.out.inner (j := 7) (by decide) pl kb hown
    have hres := Lib.hid (show M.rdPart (M.subOf (40 - d)) 7 s = some { s with r := r, b := l } by simp only [M.rdPart, hr.out, hsub]; rfl)
    have it2 := Lib.hid (it.put7 v)
    replace st := Lib.hid st
    replace pl2 := Lib.hid pl2
    replace own2 := Lib.hid own2
    replace hrq := Lib.hid hrq
    clear it hown pl kb hsub
    go_wp2_with fail
    go_ret
    have ha := Since.agree st.out.kb h0.out.old.1 h0.out.old.2.1
    have hm := Since.mono (base := base) st.out.kb.size
    obtain ⟨cur, hcur⟩ := h0.out.blk
    obtain ⟨cur', hc', _⟩ := st.out.blk cur hcur
    exact .inl ⟨_, q, vL, v, vE, hres.out, rfl, ⟨pl2.out, hrq.out, it2.out, ⟨cur', hc'⟩, h0.out.apart, ⟨h0.out.old.1, h0.out.old.2.1, Nat.le_trans h0.out.old.2.2 st.out.kb.size⟩, h0.out.rng, h0.out.own.agree ha hm, own2.out, h0.out.ownE.agree ha hm⟩, st.out⟩
  · have hres := Lib.hid (show M.rdPart (M.subOf (40 - d)) 7 s = none by simp only [M.rdPart, hr.out, hsub]; rfl)
    have s1 : Step P g o w w3 := Step.of_kb kb h0.out.lt (by omega)
    have hfin := Lib.hid (show (∃ p', PlaceAt w1 P (some ad) c bs p' d) ∧ Step P g o w w1 by
      rcases hw with rfl | rfl
      · exact ⟨⟨q, pl⟩, s1⟩
      · exact ⟨⟨q, pl.agree (fun k hk => Below.heap_setCell _ _ _ _ (by show k ≠ g; omega)) (by simp)⟩, s1.trans (Step.set w3 7 _ (by decide))⟩)
    clear hw pl kb hsub s1
    go_wp2_with fail
    go_ret
    exact .inr ⟨hres.out, rfl, hfin.out.1, hfin.out.2⟩
set_option maxRecDepth 100000 in
theorem otherwise_any (P : Nat) (ad : Addr) (c : Nat) (bs : List Nat) (d g o base : Nat) (s : M.Stt) (w : World) (p : Nat) (vL vB vE : Value) (ih : d < 40 → ListOk (d + 1)) (h : RS P (some ad) c bs d g o base s w p vL vB vE) :
    Calls Tryz.prog 255 #[.pointer (some ⟨P, 0, none⟩), .pointer (some ⟨g, o, none⟩)] w (RdPost P (some ad) c bs d g o base w (M.rdPart (M.subOf (40 - d)) 8 s)) := by
  have h0 := Lib.hid h
  have hPg := h.apart
  have hr := Lib.hid h.rest
  have hpl := Lib.hid h.place
  have hglt := h.lt
  replace ih := Lib.hid ih
  clear h
  go_enter Tryz.func255, Tryz.ntmps255
  go_wp2_with fail
  refine (fixed_any _ P (some ad) c bs p d 5 hpl.out (by omega)).mono ?_
  rintro e1 w1 (⟨hb, rfl, pl, kb⟩ | ⟨hb, rfl, pl, kb⟩)
  · have hd := (nextB_lt hb).2
    have st1 : Step P g o w w1 := Step.of_kb kb hglt (by omega)
    have h1 : RS P (some ad) c bs d g o base { s with r := bs.drop (p + 1) } w1 (p + 1) vL vB vE := h0.out.step st1 pl rfl (h0.out.item.agree (kb.block g hglt (by omega))) h0.out.rng rfl rfl rfl
    have hc := h1.item.c8
    obtain ⟨cur, hcur⟩ := h1.blk
    have hf := hcur.frozen (o + 8)
    have hrd := Lib.hid (show M.rdPart (M.subOf (40 - d)) 8 s = (M.subOf (40 - d) (bs.drop (p + 1))).bind fun x => some { s with r := x.2, e := x.1 } by simp only [M.rdPart, hr.out, hd, if_true])
    replace st1 := Lib.hid st1
    replace h1 := Lib.hid h1
    replace pl := Lib.hid pl
    clear hcur kb hb hd
    go_wp2_with fail
    refine (within_any P ad c bs d (p + 1) g (o + 8) _ _ ih.out pl.out hPg hc hf).mono ?_
    rintro e1 w2 (⟨l, r, v, q, w3, hsub, rfl, pl3, hrq, hown, kb3, rfl⟩ | ⟨hsub, rfl, q, w3, pl3, kb3, hw⟩)
    · obtain ⟨st, pl2, it, own2⟩ := h1.out.inner (j := 8) (by decide) pl3 kb3 hown
      have hres := Lib.hid (show M.rdPart (M.subOf (40 - d)) 8 s = some { s with r := r, e := l } by rw [hrd.out, hsub]; rfl)
      have it2 := Lib.hid (it.put8 v)
      replace st := Lib.hid st
      replace pl2 := Lib.hid pl2
      replace own2 := Lib.hid own2
      replace hrq := Lib.hid hrq
      clear it hown pl3 kb3 hsub
      go_wp2_with fail
      go_ret
      have ha := Since.agree st.out.kb h1.out.old.1 h1.out.old.2.1
      have hm := Since.mono (base := base) st.out.kb.size
      obtain ⟨cur, hcur⟩ := h1.out.blk
      obtain ⟨cur', hc', _⟩ := st.out.blk cur hcur
      exact .inl ⟨_, q, vL, vB, v, hres.out, rfl, ⟨pl2.out, hrq.out, it2.out, ⟨cur', hc'⟩, h1.out.apart, ⟨h1.out.old.1, h1.out.old.2.1, Nat.le_trans h1.out.old.2.2 st.out.kb.size⟩, h1.out.rng, h1.out.own.agree ha hm, h1.out.ownB.agree ha hm, own2.out⟩, st1.out.trans st.out⟩
    · have hres := Lib.hid (show M.rdPart (M.subOf (40 - d)) 8 s = none by rw [hrd.out, hsub]; rfl)
      have s1 : Step P g o w1 w3 := Step.of_kb kb3 h1.out.lt (by omega)
      have hfin := Lib.hid (show (∃ p', PlaceAt w2 P (some ad) c bs p' d) ∧ Step P g o w w2 by
        rcases hw with rfl | rfl
        · exact ⟨⟨q, pl3⟩, st1.out.trans s1⟩
        · exact ⟨⟨q, pl3.agree (fun k hk => Below.heap_setCell _ _ _ _ (by show k ≠ g; omega)) (by simp)⟩, st1.out.trans (s1.trans (Step.set w3 8 _ (by decide)))⟩)
      clear hw pl3 kb3 hsub s1
      go_wp2_with fail
      go_ret
      exact .inr ⟨hres.out, rfl, hfin.out.1, hfin.out.2⟩
  · have st1 := Lib.hid (show Step P g o w w1 from Step.of_kb kb hglt (by omega))
    have it1 := Lib.hid (h0.out.item.agree (kb.block g hglt (by omega)))
    have hres := Lib.hid (show M.rdPart (M.subOf (40 - d)) 8 s = some s by
      simp only [M.rdPart, hr.out]
      unfold nextB at hb
      cases hd : bs.drop p with
      | nil => rfl
      | cons y t =>
        rw [hd] at hb
        have : ¬ y = 5 := fun e => by subst e; simp at hb
        simp only [if_neg this])
    replace pl := Lib.hid pl
    clear kb hb
    go_wp2_with fail
    go_ret
    exact .inl ⟨s, p, vL, vB, vE, hres.out, rfl, h0.out.step st1.out pl.out hr.out it1.out h0.out.rng rfl rfl rfl, st1.out⟩
end Go.Proofs.YtmejgbbdehndaaaGreat
