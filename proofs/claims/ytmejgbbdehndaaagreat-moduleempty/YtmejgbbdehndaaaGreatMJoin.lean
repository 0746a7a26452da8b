/-
  What the program answers that puts together what sections 3 and 10 have of each function; condition: the draft lies in memory that was there at the call.
-/
import Derived.Test.YtmejgbbdehndaaaGreatMSect3
import Derived.BigRegion
namespace Go.Proofs.YtmejgbbdehndaaaGreat
open Go.RowKit
theorem RowOf.split {α : Type} {R : Rep α} {w : World} {S : Nat → Prop} : ∀ {xs ys : List α} {cs : List Value}, RowOf R w S (xs ++ ys) cs → ∃ c d, cs = c ++ d ∧ RowOf R w S xs c ∧ RowOf R w S ys d
  | [], ys, cs, h => ⟨[], cs, rfl, rfl, h⟩
  | x :: t, ys, cs, ⟨c, d, h1, h2, h3⟩ => by
    obtain ⟨c1, d1, q1, q2, q3⟩ := h3.split
    exact ⟨c ++ c1, d1, by rw [h1, q1, List.append_assoc], ⟨c, c1, rfl, h2, q2⟩, q3⟩
theorem RowOf.app {α : Type} {R : Rep α} {w : World} {S : Nat → Prop} {ys : List α} {ds : List Value} (hy : RowOf R w S ys ds) : ∀ {xs : List α} {cs : List Value}, RowOf R w S xs cs → RowOf R w S (xs ++ ys) (cs ++ ds)
  | [], _, h => by
    have h : _ = [] := h
    subst h
    exact hy
  | _ :: _, _, ⟨c1, d1, h1, h2, h3⟩ => ⟨c1, d1 ++ ds, by rw [h1, List.append_assoc], h2, RowOf.app hy h3⟩
theorem RowOf.len {α : Type} {R : Rep α} {w : World} {S : Nat → Prop} : ∀ {xs : List α} {cs : List Value}, RowOf R w S xs cs → cs.length = xs.length * R.sz
  | [], _, h => by
    have h : _ = [] := h
    subst h
    simp
  | x :: t, _, ⟨c1, d1, h1, h2, h3⟩ => by rw [h1, List.length_append, R.len h2, h3.len, List.length_cons, Nat.succ_mul]; omega
/-- Two cells of a row of one's own have been written. -/
theorem own_two {w : World} {ty n k g cap : Nat} {pre post : List Value} {a l b l' b' : Value} (h : w.ownsRow 0 ty 3 (.slice (some ⟨g, 0, none⟩) n cap) n (pre ++ [a, l, b] ++ post)) (hp : pre.length = k * 3) :
    ((w.setCell ⟨g, k * 3 + 1, none⟩ l').setCell ⟨g, k * 3 + 2, none⟩ b').ownsRow 0 ty 3 (.slice (some ⟨g, 0, none⟩) n cap) n (pre ++ [a, l', b'] ++ post) := by
  rcases h.2 with ⟨e, _⟩ | ⟨g', cap', cur, e, hb, hgg, h1, h2, h3, h4⟩
  · cases e
  · cases e
    have hlen : (pre ++ [a, l', b'] ++ post).length = n * 3 := by have := h.1; simp at this ⊢; omega
    refine ⟨hlen, .inr ⟨g, cap, _, rfl, hb, row_set (row_set hgg l') b', h1, h2, by simpa using h3, ?_⟩⟩
    apply List.ext_getElem?
    intro i
    have h5 : (cur.toList.take (n * 3))[i]? = (pre ++ [a, l, b] ++ post)[i]? := by rw [h4]
    rw [List.getElem?_take] at h5 ⊢
    by_cases hi : i < n * 3
    · rw [if_pos hi] at h5 ⊢
      have hcs : i < cur.size := by rw [h3]; have := Nat.mul_le_mul_right 3 h1; omega
      rw [Array.getElem?_toList] at h5 ⊢
      rw [Array.getElem?_setIfInBounds, Array.getElem?_setIfInBounds]
      by_cases i1 : k * 3 + 2 = i
      · rw [if_pos i1, if_pos (by simp; omega)]
        rw [List.append_assoc, List.getElem?_append_right (by omega), List.getElem?_append_left (by simp; omega)]
        have : i - pre.length = 2 := by omega
        rw [this]; rfl
      · rw [if_neg i1]
        by_cases i2 : k * 3 + 1 = i
        · rw [if_pos i2, if_pos (by omega)]
          rw [List.append_assoc, List.getElem?_append_right (by omega), List.getElem?_append_left (by simp; omega)]
          have : i - pre.length = 1 := by omega
          rw [this]; rfl
        · rw [if_neg i2, h5]
          simp only [List.append_assoc]
          by_cases i3 : i < pre.length
          · rw [List.getElem?_append_left i3, List.getElem?_append_left i3]
          · have e1 := List.getElem?_append_right (l₁ := pre) (l₂ := [a, l, b] ++ post) (i := i) (by omega)
            have e2 := List.getElem?_append_right (l₁ := pre) (l₂ := [a, l', b'] ++ post) (i := i) (by omega)
            rw [e1, e2]
            by_cases i4 : i - pre.length < 3
            · have : i - pre.length = 0 := by omega
              rw [this]; rfl
            · have e3 := List.getElem?_append_right (l₁ := [a, l, b]) (l₂ := post) (i := i - pre.length) (by simp; omega)
              have e4 := List.getElem?_append_right (l₁ := [a, l', b']) (l₂ := post) (i := i - pre.length) (by simp; omega)
              rw [e3, e4]
              rfl
    · rw [if_neg hi, List.getElem?_eq_none (by rw [hlen]; omega)]
/-- Functions, the first k of them with their bodies. -/
def mixK (fs bs : List M.Fn) (k : Nat) : List M.Fn := (M.joinM fs bs).take k ++ fs.drop k
theorem joinM_len : ∀ (fs bs : List M.Fn), bs.length = fs.length → (M.joinM fs bs).length = fs.length
  | [], [], _ => rfl
  | f :: fs, b :: bs, h => by simp [M.joinM, joinM_len fs bs (by simpa using h)]
  | [], _ :: _, h => by simp at h
  | _ :: _, [], h => by simp at h
theorem joinM_nth : ∀ (fs bs : List M.Fn) (k : Nat) (f b : M.Fn), fs[k]? = some f → bs[k]? = some b → (M.joinM fs bs)[k]? = some ⟨f.ty, b.lo, b.bo⟩
  | f :: fs, b :: bs, 0, f', b', h1, h2 => by
    obtain rfl : f = f' := by simpa using h1
    obtain rfl : b = b' := by simpa using h2
    rfl
  | f :: fs, b :: bs, k + 1, f', b', h1, h2 => joinM_nth fs bs k f' b' (by simpa using h1) (by simpa using h2)
  | [], _, _, _, _, h1, _ => by simp at h1
  | _ :: _, [], _, _, _, _, h2 => by simp at h2
theorem mixK_step {fs bs : List M.Fn} {k : Nat} {f b : M.Fn} (hl : bs.length = fs.length) (h1 : fs[k]? = some f) (h2 : bs[k]? = some b) :
    mixK fs bs k = (M.joinM fs bs).take k ++ [f] ++ fs.drop (k + 1) ∧ mixK fs bs (k + 1) = (M.joinM fs bs).take k ++ [⟨f.ty, b.lo, b.bo⟩] ++ fs.drop (k + 1) := by
  have hk : k < fs.length := (List.getElem?_eq_some_iff.1 h1).1
  have hj := joinM_nth fs bs k f b h1 h2
  constructor
  · unfold mixK
    rw [List.drop_eq_getElem_cons hk]
    have : fs[k] = f := by rw [List.getElem?_eq_getElem hk] at h1; simpa using h1
    rw [this]; simp
  · unfold mixK
    have hk2 : k < (M.joinM fs bs).length := (List.getElem?_eq_some_iff.1 hj).1
    have : (M.joinM fs bs)[k] = ⟨f.ty, b.lo, b.bo⟩ := by rw [List.getElem?_eq_getElem hk2] at hj; simpa using hj
    rw [← this, List.take_append_getElem hk2]
/-- What the loop of join keeps up. -/
def JRel (T : Nat → Prop) (fs bs : List M.Fn) (gF cap ty : Nat) (w : World) (i : Value) (w' : World) : Prop :=
  ∃ (k : Nat) (cc : List Value), k ≤ fs.length ∧ i = .int .i64 (k : Nat) ∧ w'.ownsRow 0 ty 3 (.slice (some ⟨gF, 0, none⟩) fs.length cap) fs.length cc ∧ RowOf rFn w' T (mixK fs bs k) cc ∧ Kb (· = gF) w w'
def JPost (T : Nat → Prop) (D last : Nat) (d : M.Dm) (cur : Array Value) (w : World) (e : Ending) (w' : World) : Prop :=
  (d.bodies.length = d.m.funcs.length ∧ e = .returned (.bool true) ∧ w'.heap[D]? = w.heap[D]? ∧ (∀ k, T k → w'.heap[k]? = w.heap[k]?) ∧ (∃ v, cur[2]? = some v ∧ Lst rFn w' (fun k => T k ∨ v.ownBlock = some k) v (M.joinM d.m.funcs d.bodies) ∧ ∀ g, v.ownBlock = some g → g < w'.heap.size) ∧ Below (D + 1) w w') ∨
  (¬ d.bodies.length = d.m.funcs.length ∧ e = .returned (.bool false) ∧ Below w.heap.size w w')
theorem lst_cur {w : World} {S : Nat → Prop} {cur : Array Value} {x : List M.Fn} (h : FAt w S cur 10 (rLst rFn) x) : ∃ v, cur[10]? = some v ∧ Lst rFn w S v x := by
  obtain ⟨v, h1, h2⟩ := h
  exact ⟨v, h1, rLst.lst h2⟩
set_option maxRecDepth 100000 in
set_option maxHeartbeats 8000000 in
theorem join_any (D last : Nat) (d : M.Dm) (cur : Array Value) (T : Nat → Prop) (w : World) (hD : Dst w T D last d cur) (hTD : ¬ T D) (hT : ∀ k, T k → k < w.heap.size) :
    Calls Tryz.prog 74 #[.pointer (some ⟨D, 0, none⟩)] w (JPost T D last d cur w) := by
  obtain ⟨v, ty, cc, hc2, own, hl2, hro, hsep⟩ := hD.f2
  obtain ⟨vb, hc10, lb⟩ := lst_cur hD.f10
  have hDl := lt_row hD.row
  have c2 : w.cell? ⟨D, 2, none⟩ = some v := (cell_row hD.row 2).trans hc2
  have c10 : w.cell? ⟨D, 10, none⟩ = some vb := (cell_row hD.row 10).trans hc10
  obtain ⟨Ab, cb, rfl, hb1, hb2, hb3⟩ := lb.form
  replace lb := Lib.hid lb
  replace hro := Lib.hid hro
  replace hD := Lib.hid hD
  obtain ⟨fs, hfs⟩ : ∃ fs, fs = d.m.funcs := ⟨_, rfl⟩
  obtain ⟨bs, hbs⟩ : ∃ bs, bs = d.bodies := ⟨_, rfl⟩
  unfold maxLen at hb3
  rw [← hfs] at own hl2 hro
  rw [← hbs] at lb c10 hb1 hb2
  replace hb3 := Lib.hid hb3
  replace hb1 := Lib.hid hb1
  obtain ⟨Av, cv, hvs⟩ : ∃ A c, v = .slice A fs.length c := by
    rcases own.2 with ⟨rfl, h0⟩ | ⟨g', cap, cu, rfl, _⟩
    · exact ⟨none, 0, by rw [h0]⟩
    · exact ⟨_, _, rfl⟩
  replace hfs := Lib.hid hfs
  replace hbs := Lib.hid hbs
  by_cases heq : bs.length = fs.length
  · have t1 : ((fs.length : Int) != (fs.length : Int)) = false := by simp
    rw [heq] at c10
    rcases own.2 with ⟨rfl, h0⟩ | ⟨gF, cap, cu, rfl, _, hgF, hcap, hcapm, _⟩
    · have hf0 : fs = [] := List.eq_nil_of_length_eq_zero h0
      have fin := Lib.hid (show ∀ W, Same w W → JPost T D last d cur w (.returned (.bool true)) W from fun W s => .inl ⟨by rw [← hfs.out, ← hbs.out]; exact heq, rfl, by rw [s.heap], fun k _ => by rw [s.heap], ⟨_, hc2, by rw [← hfs.out, hf0]; exact Lst.nil _ _ _, fun g hg => by cases hg⟩, ⟨s.os, s.tape, s.output, by rw [s.heap]; exact Nat.le_refl _, fun k _ => by rw [s.heap]⟩⟩)
      rw [h0] at c10
      replace own := Lib.hid own
      replace hsep := Lib.hid hsep
      replace heq := Lib.hid heq
      replace h0 := Lib.hid h0
      clear hvs t1
      go_enter Tryz.func74, Tryz.ntmps74
      go_wp2_with fail
      go_quiet (fail)
      go_wp2_with fail
      go_loopw [22] (fun i w' => i = .int .i64 0 ∧ w' = w.drewN nq) (fun _ _ => 0)
      case atStart => exact ⟨rfl, rfl⟩
      case round =>
        obtain ⟨rfl, rfl⟩ := hrel
        go_wp2_with fail
        go_ret
        exact fin.out _ ⟨rfl, rfl, rfl, rfl⟩
    · clear hvs
      obtain ⟨hTF, hFD'⟩ := hsep gF rfl
      have hFD : gF ≠ D := by omega
      have hFl := (own.lt gF rfl).2
      have rel0 := Lib.hid (show ∀ W, Same w W → JRel T fs bs gF cap ty w (.int .i64 ((0 : Nat) : Int)) W from fun W s => ⟨0, cc, by omega, rfl, ownsRow_agree own (fun _ _ => by rw [s.heap]), by
        have := hro.out
        unfold mixK
        simp only [List.take_zero, List.nil_append, List.drop_zero]
        exact this.agree (fun k hk => hk.elim) (fun k hk => hk.elim), ⟨s.os, s.tape, s.output, by rw [s.heap]; exact Nat.le_refl _, fun k _ _ => by rw [s.heap]⟩⟩)
      replace own := Lib.hid own
      replace hsep := Lib.hid hsep
      replace hgF := Lib.hid hgF
      replace hcapm := Lib.hid hcapm
      have heqH := Lib.hid heq
      go_enter Tryz.func74, Tryz.ntmps74
      go_wp2_with fail
      go_quiet (fail)
      go_wp2_with fail
      have rel1 := Lib.hid (rel0.out (w.drewN nq) ⟨rfl, rfl, rfl, rfl⟩)
      clear rel0
      generalize w.drewN nq = W at rel1 ⊢
      go_loopw [22] (fun i w' => JRel T fs bs gF cap ty w i w') (fun i _ => fs.length - (intOf i).toNat)
      case atStart => exact rel1.out
      case round =>
        obtain ⟨k, cc2, hk, rfl, own2, hro2, kb⟩ := hrel
        clear rel1
        have hws := kb.size
        have d2 : wr.cell? ⟨D, 2, none⟩ = some (.slice (some ⟨gF, 0, none⟩) fs.length cap) := (World.cell?_of_block (w := w) (kb.block D hDl (by omega))).trans c2
        by_cases hlt : k < fs.length
        · obtain ⟨f, hf⟩ : ∃ f, fs[k]? = some f := ⟨fs[k], List.getElem?_eq_getElem hlt⟩
          obtain ⟨b, hb⟩ : ∃ b, bs[k]? = some b := ⟨bs[k]'(by omega), List.getElem?_eq_getElem (by omega)⟩
          obtain ⟨gb, ob, cs, rfl, hTb, his, hcs⟩ := lb.out.nth hb
          obtain ⟨ca, cb', rfl, ⟨cd, ce, rfl, ⟨rfl, hr0⟩, ⟨vL, rfl, hL⟩⟩, ⟨vB, rfl, hB⟩⟩ := his
          have hbne : gb ≠ gF := fun e => hTF (e ▸ hTb)
          have same : wr.heap[gb]? = w.heap[gb]? := kb.block gb (hT gb hTb) hbne
          have k0 : wr.cell? ⟨gb, ob + k * 3, none⟩ = some (.int .i64 b.ty) := (World.cell?_of_block (w := w) same).trans (hcs 0 _ rfl)
          have k1 : wr.cell? ⟨gb, ob + k * 3 + 1, none⟩ = some vL := (World.cell?_of_block (w := w) same).trans (hcs 1 _ rfl)
          have k2 : wr.cell? ⟨gb, ob + k * 3 + 2, none⟩ = some vB := (World.cell?_of_block (w := w) same).trans (hcs 2 _ rfl)
          obtain ⟨AL, cL, rfl, _⟩ := hL.form
          obtain ⟨AB, cB, rfl, _⟩ := hB.form
          obtain ⟨e1, e2⟩ := mixK_step heqH.out hf hb
          rw [e1] at hro2
          obtain ⟨pf, post, rfl, hrA, hrC⟩ := hro2.split
          obtain ⟨pre, cf, rfl, hrP, hrF⟩ := hrA.split
          obtain ⟨c1, d1, rfl, hif, hd1⟩ := hrF
          have hd1 : d1 = [] := hd1
          subst hd1
          obtain ⟨ca2, cb2, rfl, ⟨cd2, ce2, rfl, ⟨rfl, hf0⟩, ⟨lv, rfl, _⟩⟩, ⟨bv, rfl, _⟩⟩ := hif
          have hpl : pre.length = k * 3 := by
            have := hrP.len
            rw [this, List.length_take, joinM_len fs bs heqH.out, Nat.min_eq_left (by omega)]
            rfl
          simp only [List.append_nil, List.cons_append, List.nil_append, List.append_assoc] at own2
          have hcell := fun i u hu => own2.cells (g := gF) rfl i u hu
          have z1 : wr.cell? ⟨gF, k * 3 + 1, none⟩ = some lv := by
            have := hcell (k * 3 + 1) lv (by rw [List.getElem?_append_right (by omega), hpl, Nat.add_sub_cancel_left]; rfl)
            rwa [add_none, Nat.zero_add] at this
          have z2 : wr.cell? ⟨gF, k * 3 + 2, none⟩ = some bv := by
            have := hcell (k * 3 + 2) bv (by rw [List.getElem?_append_right (by omega), hpl, Nat.add_sub_cancel_left]; rfl)
            rwa [add_none, Nat.zero_add] at this
          obtain ⟨cu2, hgu⟩ : ∃ cu2, wr.heap[gF]? = some (.cells cu2 ty (0, 0)) := by
            rcases own2.2 with ⟨e, _⟩ | ⟨g', cap', cu', e, _, hg', _⟩
            · cases e
            · cases e; exact ⟨cu', hg'⟩
          have y1 := frozen_row hgu (k * 3 + 1)
          have y2 := frozen_row hgu (k * 3 + 2)
          have hFr : gF < wr.heap.size := lt_row hgu
          have fin := Lib.hid (show JRel T fs bs gF cap ty w (.int .i64 ((k : Int) + 1)) (((wr.setCell ⟨gF, k * 3 + 1, none⟩ (.slice AL b.lo.length cL)).setCell ⟨gF, k * 3 + 2, none⟩ (.slice AB b.bo.len cB)).alloc (.cells #[.int .i64 b.ty, .slice AL b.lo.length cL, .slice AB b.bo.len cB] 64)).drew from by
            have oth : ∀ m, m ≠ gF → m < wr.heap.size → (((wr.setCell ⟨gF, k * 3 + 1, none⟩ (.slice AL b.lo.length cL)).setCell ⟨gF, k * 3 + 2, none⟩ (.slice AB b.bo.len cB)).alloc (.cells #[.int .i64 b.ty, .slice AL b.lo.length cL, .slice AB b.bo.len cB] 64)).drew.heap[m]? = wr.heap[m]? := fun m h1 h2 => by
              show (((wr.setCell _ _).setCell _ _).alloc _).heap[m]? = _
              rw [Below.heap_alloc _ _ _ (by simpa using h2), Below.heap_setCell _ _ _ _ (by show m ≠ gF; exact h1), Below.heap_setCell _ _ _ _ (by show m ≠ gF; exact h1)]
            have agT : Agree T wr (((wr.setCell ⟨gF, k * 3 + 1, none⟩ (.slice AL b.lo.length cL)).setCell ⟨gF, k * 3 + 2, none⟩ (.slice AB b.bo.len cB)).alloc (.cells #[.int .i64 b.ty, .slice AL b.lo.length cL, .slice AB b.bo.len cB] 64)).drew := fun m hm => oth m (fun e => hTF (e ▸ hm)) (by have := hT m hm; omega)
            have agW : Agree T w (((wr.setCell ⟨gF, k * 3 + 1, none⟩ (.slice AL b.lo.length cL)).setCell ⟨gF, k * 3 + 2, none⟩ (.slice AB b.bo.len cB)).alloc (.cells #[.int .i64 b.ty, .slice AL b.lo.length cL, .slice AB b.bo.len cB] 64)).drew := fun m hm => (agT m hm).trans (kb.block m (hT m hm) (fun e => hTF (e ▸ hm)))
            refine ⟨k + 1, pre ++ [.int .i64 f.ty, .slice AL b.lo.length cL, .slice AB b.bo.len cB] ++ post, by omega, by rw [Int.natCast_add]; rfl, ?_, ?_, ?_⟩
            · have o2 := own_two (k := k) (pre := pre) (post := post) (a := .int .i64 f.ty) (l := lv) (b := bv) (l' := .slice AL b.lo.length cL) (b' := .slice AB b.bo.len cB) (by rw [List.append_assoc]; exact own2) hpl
              exact ownsRow_agree (o2.alloc (.cells #[.int .i64 b.ty, .slice AL b.lo.length cL, .slice AB b.bo.len cB] 64)) (fun _ _ => rfl)
            · rw [e2]
              refine RowOf.app (hrC.agree agT (fun _ h => h)) (RowOf.app ?_ (hrP.agree agT (fun _ h => h)))
              exact ⟨[.int .i64 f.ty, .slice AL b.lo.length cL, .slice AB b.bo.len cB], [], rfl, ⟨[.int .i64 f.ty, .slice AL b.lo.length cL], [.slice AB b.bo.len cB], rfl, ⟨[.int .i64 f.ty], [.slice AL b.lo.length cL], rfl, ⟨rfl, hf0⟩, ⟨_, rfl, hL.agree agW (fun _ h => h)⟩⟩, ⟨_, rfl, hB.agree agW (fun _ h => h)⟩⟩, rfl⟩
            · exact ⟨kb.os, kb.tape, kb.output, by show w.heap.size ≤ (((wr.setCell _ _).setCell _ _).alloc _).heap.size; simp; omega, fun m hm hn => (oth m hn (by omega)).trans (kb.block m hm hn)⟩)
          clear hro2 hrA hrC hrP own2 hcell e1 e2 hgu hL hB hcs same lb
          have tlt : decide ((k : Int) < (fs.length : Int)) = true := by simp; omega
          have t5 : (0 : Int) ≤ (k : Int) := by omega
          have t6 : (k : Int) < (fs.length : Int) := by omega
          have t7 : (k : Int) < (bs.length : Int) := by omega
          have hDF : ¬ D = gF := fun e => hFD e.symm
          have hXF : ¬ wr.heap.size = gF := by omega
          have hFX : ¬ gF = wr.heap.size := by omega
          have hDX : ¬ D = wr.heap.size := by omega
          have hDr : D < wr.heap.size := by omega
          go_wp2_with fail
          go_region
          go_wp2_with fail
          exact ⟨fin.out, by simp [intOf]; omega⟩
        · have hkn : k = fs.length := by omega
          have tlt : decide ((k : Int) < (fs.length : Int)) = false := by simp; omega
          have fin := Lib.hid (show JPost T D last d cur w (.returned (.bool true)) wr from by
            refine .inl ⟨by rw [← hfs.out, ← hbs.out]; exact heqH.out, rfl, kb.block D hDl (by omega), fun k hk => kb.block k (hT k hk) (fun e => hTF (e ▸ hk)), ⟨_, hc2, ?_, fun g hg => (own2.lt g hg).2⟩, ⟨kb.os, kb.tape, kb.output, kb.size, fun k hk => kb.block k (by omega) (by omega)⟩⟩
            have hm : mixK fs bs k = M.joinM fs bs := by
              unfold mixK
              rw [hkn, List.drop_length, List.append_nil]
              exact List.take_of_length_le (by rw [joinM_len fs bs heqH.out]; exact Nat.le_refl _)
            rw [hm] at hro2
            rw [← hfs.out, ← hbs.out]
            have hjl := joinM_len fs bs heqH.out
            refine Lst.of_row (b := 0) (t := ty) (cs := cc2) (by rw [hjl]; exact own2) (fun g hg => .inr hg) (by omega) (hro2.agree (fun _ _ => rfl) (fun _ h => .inl h)))
          replace hkn := Lib.hid hkn
          clear own2 hro2 kb
          go_wp2_with fail
          go_ret
          exact fin.out
  · have t1 : ((bs.length : Int) != (fs.length : Int)) = true := by simp; omega
    subst hvs
    replace own := Lib.hid own
    replace hsep := Lib.hid hsep
    replace heq := Lib.hid heq
    go_enter Tryz.func74, Tryz.ntmps74
    go_wp2_with fail
    go_quiet (fail)
    go_wp2_with fail
    go_ret
    exact .inr ⟨by rw [← hfs.out, ← hbs.out]; exact heq.out, rfl, below_drewN (Below.refl _ _) _⟩
end Go.Proofs.YtmejgbbdehndaaaGreat
