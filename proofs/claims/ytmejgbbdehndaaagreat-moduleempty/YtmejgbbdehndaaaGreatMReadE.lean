/-
  What the program's readers of bytes and names answer; condition: the place lies in memory that was there at the call, what is read into in other memory.
-/
import Derived.Test.YtmejgbbdehndaaaGreatMRead
import Derived.Test.YtmejgbbdehndaaaGreatMReadD
import Derived.Test.YtmejgbbdehndaaaGreatCatB
import Derived.Laws.BytesString
namespace Go.Proofs.YtmejgbbdehndaaaGreat
open Go.RowKit
theorem str_ints (x : List Nat) : ∀ s : ByteArray, (x.map fun b : Nat => (b : Int)).foldl (fun r n => r.push (UInt8.ofNat n.toNat)) s = x.foldl (fun r n => r.push (UInt8.ofNat n)) s := by
  induction x with
  | nil => intro s; rfl
  | cons a t ih => intro s; simp only [List.map_cons, List.foldl_cons, Int.toNat_natCast]; exact ih _
theorem run_str (w : World) (A : Option Addr) (c : Nat) (x : List Nat) (h : Bytes w w.heap.size A x.length (M.bf x)) : (convert 33 9 (.slice A x.length c)).run Tryz.prog w = .ok (str x) w := by
  rw [run_convert_bytes_string w 33 9 5 A x.length c Tryz.underlying33 Tryz.underlying5 Tryz.underlying9]
  rcases A with _ | ad
  · have hx : x = [] := by
      cases x with
      | nil => rfl
      | cons a b => obtain ⟨_, e, _⟩ := h 0 (by simp); cases e
    subst hx
    rfl
  · have hl : (loadCells ad x.length).run Tryz.prog w = .ok ((x.map fun b : Nat => (b : Int)).map (Value.int .u8)).toArray w := by
      have := run_loadCells_list (P := Tryz.prog) w ad (vals x) (fun j u hu => by
        have hj : j < x.length := by
          have := (List.getElem?_eq_some_iff.1 hu).1
          rwa [vals_length] at this
        obtain ⟨ad', e, _, _, hc⟩ := h j hj
        injection e with e
        subst e
        rw [hc, ← hu, getD_vals _ _ hj]
        rfl)
      rw [vals_length] at this
      rw [this]
      simp [vals]
    rw [run_bytesToString w ad x.length c _ hl, str_ints]
    rfl
theorem BSS.of_own {w : World} {S : Nat → Prop} {b : Nat} {v : Value} {x : List Nat} (h : w.ownsRow b 5 1 v x.length (vals x)) (hb : ∀ g, v.ownBlock = some g → S g) (hn : x.length ≤ 100000) (hlt : ∀ y ∈ x, y < 256) : BSS w S v x := by
  rcases h.2 with ⟨rfl, h0⟩ | ⟨g, cap, cur, rfl, _, hc, hn', hm, _⟩
  · exact ⟨none, 0, by rw [h0], ⟨by omega, by omega, by unfold maxLen; omega⟩, fun i hi => by omega⟩
  · refine ⟨_, _, rfl, ⟨by omega, hn', hm⟩, fun i hi => ⟨⟨g, 0, none⟩, rfl, hb g rfl, hlt _ ?_, ?_⟩⟩
    · rw [List.getD_eq_getElem?_getD, List.getElem?_eq_getElem hi]; exact List.getElem_mem hi
    · exact h.cells (g := g) rfl i _ (getD_vals x i hi)
theorem bytes_lt {w : World} {B : Nat} {A : Option Addr} {x : List Nat} (h : Bytes w B A x.length (M.bf x)) : ∀ b ∈ x, b < 256 := by
  intro b hb
  obtain ⟨i, hi, rfl⟩ := List.getElem_of_mem hb
  obtain ⟨_, _, _, h4, _⟩ := h i hi
  simpa [M.bf, List.getD_eq_getElem?_getD, List.getElem?_eq_getElem hi] using h4
set_option maxRecDepth 100000 in
set_option maxHeartbeats 4000000 in
theorem mname_ok (u : Value) : MdOk 157 rStr [u] M.cName.rd := by
  intro B P g j t cur bs w h hg hz hne hB
  have hv := Lib.hid (show M.cName.rd bs = (M.cPiece.rd bs).bind fun q => if M.isText q.1 then some q else none from rfl)
  have hPl := h.lt
  have hPlo := h.lo
  have hgl := lt_row hg
  have ha := Lib.hid (h.alloc (.cells #[.slice none 0 0] 33))
  have hPg : ¬ P = g := fun e => hne e.symm
  replace hg := Lib.hid hg
  replace hz := Lib.hid hz
  clear h
  go_enter Tryz.func157, Tryz.ntmps157
  go_wp2_with fail
  refine (mpiece_any B P w.heap.size 0 33 #[.slice none 0 0] (.slice none 0 0) bs _ ha.out (heap_alloc_new w _) rfl (by omega) (by omega)).mono ?_
  rintro e1 w1 (⟨x, r1, A, c, hrd, rfl, p1, c1, hc, hbx, hxl, fr⟩ | ⟨hrd, rfl, kb⟩)
  · rw [hrd] at hv
    simp only [Option.bind_some] at hv
    have kb := kb_new fr.kb
    have hs1 : w.heap.size < w1.heap.size := by have := fr.kb.size; simp at this; omega
    have hg1 : w1.heap[g]? = some (.cells cur t (0, 0)) := by rw [kb.block g hgl hne]; exact hg.out
    have hbs := Lib.hid (show BS w1 w1.heap.size (.slice A x.length c) x from ⟨A, c, rfl, hc.1, hc.2, hbx.below (Below.refl _ _) (by omega)⟩)
    replace hg1 := Lib.hid hg1
    replace kb := Lib.hid kb
    replace p1 := Lib.hid p1
    replace hc := Lib.hid hc
    replace hxl := Lib.hid hxl
    replace hbx := Lib.hid hbx
    clear fr
    cases ht : M.isText x with
    | false =>
      rw [ht] at hv
      have hno := Lib.hid (show ∀ ps, ¬ Utf.M.Text x ps from fun ps hp => by rw [(M.isText_iff x).2 ⟨ps, hp⟩] at ht; cases ht)
      replace ht := Lib.hid ht
      go_wp2_with fail
      refine (Utf.Check_no _ x _ hbs.out hno.out).mono ?_
      rintro e2 w2 ⟨rfl, b2⟩
      have kb2 := Lib.hid ((kb_g (g := g) kb.out).trans (.of_below b2))
      clear b2
      go_wp2_with fail
      go_ret
      exact .inr ⟨by rw [hv.out]; rfl, rfl, kb2.out⟩
    | true =>
      rw [ht] at hv
      obtain ⟨ps, hps⟩ := (M.isText_iff x).1 ht
      replace hps := Lib.hid hps
      replace ht := Lib.hid ht
      go_wp2_with fail
      refine (Utf.Check_yes _ x ps _ hbs.out hps.out).mono ?_
      rintro e2 w2 ⟨rfl, b2⟩
      have hs2 := b2.size
      have kb2 := kb.out.trans (.of_below b2)
      have p2 := p1.out.later b2
      have c2 : w2.cell? ⟨w.heap.size, 0, none⟩ = some (.slice A x.length c) := (b2.cell (p := ⟨w.heap.size, 0, none⟩) hs1).trans c1
      have hg2 : w2.heap[g]? = some (.cells cur t (0, 0)) := by rw [b2.block g (by omega)]; exact hg1.out
      have cj : w2.cell? ⟨g, j, none⟩ = some u := (cell_row hg2 j).trans (hz.out 0 u rfl)
      have fj := frozen_row hg2 j
      have hst : (convert 33 9 (.slice A x.length c)).run Tryz.prog w2 = .ok (str x) w2 := run_str w2 A c x ((hbx.out.below (b2.mono (by omega)) (Nat.le_refl _)).below (Below.refl _ _) (by omega))
      obtain ⟨s, hs⟩ : ∃ s, .string s = str x := ⟨_, rfl⟩
      rw [← hs] at hst
      have fin := Lib.hid (show MdPost rStr M.cName.rd B P g j bs w (.returned (.bool true)) (w2.setCell ⟨g, j, none⟩ (.string s)) by
        rw [hs]
        refine .inl ⟨x, r1, [str x], by rw [hv.out]; rfl, rfl, p2.set hne hB _, ⟨rfl, bytes_lt hbx.out, by have := hxl.out; omega⟩, fun i v hi => ?_, (Fr.of_kb kb2 hgl hne).trans (Fr.set w2 j _ (Nat.le_refl _) (by show j < j + 1; omega))⟩
        cases i with
        | zero => cases hi; exact World.cell?_setCell_same _ _ _ cj
        | succ i => cases hi)
      clear b2 kb2 p2 hg2 hs c1
      go_wp2_with fail
      go_ret
      exact fin.out
  · rw [hrd] at hv
    replace kb := Lib.hid (kb_new kb)
    go_wp2_with fail
    go_ret
    exact .inr ⟨hv.out, rfl, kb_g kb.out⟩
set_option maxRecDepth 100000 in
set_option maxHeartbeats 4000000 in
theorem mbytes_ok (u : Value) : MdOk 202 rBytes [u] M.cPiece.rd := by
  intro B P g j t cur bs w h hg hz hne hB
  have hPl := h.lt
  have hPlo := h.lo
  have hgl := lt_row hg
  have ha := Lib.hid (h.alloc (.cells #[.slice none 0 0] 33))
  have hPg : ¬ P = g := fun e => hne e.symm
  replace hg := Lib.hid hg
  replace hz := Lib.hid hz
  clear h
  go_enter Tryz.func202, Tryz.ntmps202
  go_wp2_with fail
  refine (mpiece_any B P w.heap.size 0 33 #[.slice none 0 0] (.slice none 0 0) bs _ ha.out (heap_alloc_new w _) rfl (by omega) (by omega)).mono ?_
  rintro e1 w1 (⟨x, r1, A, c, hrd, rfl, p1, c1, hc, hbx, hxl, fr⟩ | ⟨hrd, rfl, kb⟩)
  · have kb := kb_new fr.kb
    have hs1 : w.heap.size < w1.heap.size := by have := fr.kb.size; simp at this; omega
    have hg1 : w1.heap[g]? = some (.cells cur t (0, 0)) := by rw [kb.block g hgl hne]; exact hg.out
    have hbs := Lib.hid (show BS w1 w1.heap.size (.slice A x.length c) x from ⟨A, c, rfl, hc.1, hc.2, hbx.below (Below.refl _ _) (by omega)⟩)
    have fin := Lib.hid (show ∀ v' w', w'.ownsRow w1.heap.size 5 1 v' ([] ++ x).length (vals ([] ++ x)) → w1.grownBy w' none → w'.cell? ⟨g, j, none⟩ = some u ∧ w'.frozen? ⟨g, j, none⟩ = false ∧ MdPost rBytes M.cPiece.rd B P g j bs w (.returned (.bool true)) (w'.setCell ⟨g, j, none⟩ v') from by
      intro v' w' hown hgr
      rw [List.nil_append] at hown
      have hsw := hgr.size
      have b2 : Below w1.heap.size w1 w' := ⟨hgr.os, hgr.tape, hgr.output, hgr.size, fun k hk => hgr.block k hk (by simp)⟩
      have p2 := p1.later b2
      have hg2 : w'.heap[g]? = some (.cells cur t (0, 0)) := by rw [b2.block g (by omega)]; exact hg1
      have cj : w'.cell? ⟨g, j, none⟩ = some u := (cell_row hg2 j).trans (hz.out 0 u rfl)
      have hbl := fun k hk => hown.lt k hk
      refine ⟨cj, frozen_row hg2 j, .inl ⟨x, r1, [v'], hrd, rfl, p2.set hne hB _, ⟨v', rfl, BSS.of_own (ownsRow_agree hown fun k hk => Below.heap_setCell _ _ _ _ (by show k ≠ g; have := (hbl k hk).1; omega)) (fun k hk => ⟨by have := (hbl k hk).1; omega, by simpa using (hbl k hk).2⟩) (by omega) (bytes_lt hbx)⟩, fun i v hi => ?_, ((Fr.of_kb kb hgl hne).trans (Fr.of_below b2 (by omega) hne)).trans (Fr.set w' j _ (Nat.le_refl _) (by show j < j + 1; omega))⟩⟩
      cases i with
      | zero => cases hi; exact World.cell?_setCell_same _ _ _ cj
      | succ i => cases hi)
    have hxl' := hxl
    clear fr p1 hg1 kb hrd hbx
    replace hc := Lib.hid hc
    replace hxl := Lib.hid hxl
    clear hxl'
    go_wp2_with (first | (at_builtin; refine wpList_cat rfl _ _ rfl w1.heap.size (.slice none 0 0) (.slice A x.length c) [] x rfl (World.ownsRow_nil _ _ _ _) rfl hbs.out (by have := hxl.out; simp; omega) (Nat.le_refl _) ?_; intro v' w' hown hgr; obtain ⟨q1, q2, q3⟩ := fin.out v' w' hown hgr; replace q3 := Lib.hid q3; obtain ⟨A', n', c', rfl⟩ : ∃ A' n' c', v' = .slice A' n' c' := (by rcases hown.2 with ⟨rfl, _⟩ | ⟨g', cap, cu, rfl, _⟩ <;> exact ⟨_, _, _, rfl⟩); clear hown hgr))
    go_ret
    exact q3.out
  · replace kb := Lib.hid (kb_new kb)
    replace hrd := Lib.hid hrd
    go_wp2_with fail
    go_ret
    exact .inr ⟨hrd.out, rfl, kb_g kb.out⟩
end Go.Proofs.YtmejgbbdehndaaaGreat
