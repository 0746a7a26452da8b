/-
  What the program's reader of labels answers; condition: the place and the instruction lie in memory that was there at the call.
-/
import Derived.Test.YtjapcalndolamaaAfterNum
import Derived.Deep.RegionLaw
namespace Go.Proofs.Ytjapcalndolamaa
open Go.RowKit
theorem int_info : (Try.prog.info? 3).map (fun i => (i.zero, i.size, i.bytes)) = some (some (.int .i64 0), 1, 8) := by kernel_rfl
/-- A row that is new since w has grown. -/
theorem Step.grown {P g o : Nat} {w w3 w5 : World} {ob : Obj} {row : Option Nat} (st : Step P g o w w3) (hg : g < w.heap.size) (hgr : (w3.alloc ob).grownBy w5 row) (hrow : ∀ k, row = some k → w.heap.size ≤ k) : Step P g o w w5 := by
  have hs := st.kb.size
  have same : ∀ k, k < w.heap.size → w5.heap[k]? = w3.heap[k]? := fun k hk => by
    rw [hgr.block k (by simp; omega) (fun e => by have := hrow k e.symm; omega)]
    exact Below.heap_alloc _ _ _ (by omega)
  refine ⟨⟨hgr.os.trans st.kb.os, hgr.tape.trans st.kb.tape, hgr.output.trans st.kb.output, by have := hgr.size; simp at this; omega, fun k hk ht => (same k hk).trans (st.kb.block k hk ht)⟩, fun cur hc => ?_⟩
  obtain ⟨cur', h1, h2, h3⟩ := st.blk cur hc
  exact ⟨cur', by unfold Blk at *; rw [same g hg]; exact h1, h2, h3⟩
theorem grown_drew {w w' : World} {row : Option Nat} (h : w.drew.grownBy w' row) : w.grownBy w' row := ⟨h.os, h.tape, h.output, h.size, h.block⟩
/-- What the loop over the labels keeps up. -/
def LabRel (P : Nat) (ad : Addr) (c : Nat) (bs : List Nat) (d g o base : Nat) (s : M.Stt) (m : Nat) (r0 : List Nat) (w : World) (i : Value) (w' : World) : Prop :=
  ∃ (j q : Nat) (done : List Int) (vL : Value), j ≤ m ∧ i = .int .i64 (j : Nat) ∧ RS P (some ad) c bs d g o base ⟨bs.drop q, { s.h with labels := done }, .nil, .nil⟩ w' q vL (.slice none 0 0) (.slice none 0 0) ∧ Step P g o w w' ∧ done.length = j ∧ j ≤ q ∧
    M.nums m r0 = (M.nums (m - j) (bs.drop q)).bind (fun t => some (done ++ t.1, t.2)) ∧ (∀ k, vL.ownBlock = some k → w.heap.size ≤ k)
theorem lab_put {P : Nat} {ad : Addr} {c : Nat} {bs : List Nat} {d g o base q : Nat} {h : M.Hd} {done : List Int} {x : Int} {w w3 w5 : World} {ob : Obj} {vL' : Value} {gg cap : Nat} (hglt : g < w.heap.size) (hbase : base ≤ w.heap.size)
    (rs : RS P (some ad) c bs d g o base ⟨bs.drop q, { h with labels := done }, .nil, .nil⟩ w3 q vL' (.slice none 0 0) (.slice none 0 0)) (st : Step P g o w w3) (hx : M.inR x) (hlen : done.length + 1 ≤ 100000)
    (hown : w5.ownsRow 0 3 1 (.slice (some ⟨gg, 0, none⟩) (done.length + 1) cap) (done.length + 1) (nvals done ++ [.int .i64 x])) (hgr : (w3.alloc ob).grownBy w5 vL'.ownBlock) (hat : vL'.ownBlock = some gg ∨ gg = w3.heap.size + 1) (hlt : gg < w5.heap.size) (hrow : ∀ k, vL'.ownBlock = some k → w.heap.size ≤ k) :
    RS P (some ad) c bs d g o base ⟨bs.drop q, { h with labels := done ++ [x] }, .nil, .nil⟩ (w5.setCell ⟨g, o + 6, none⟩ (.slice (some ⟨gg, 0, none⟩) (done.length + 1) cap)) q (.slice (some ⟨gg, 0, none⟩) (done.length + 1) cap) (.slice none 0 0) (.slice none 0 0) ∧
      Step P g o w (w5.setCell ⟨g, o + 6, none⟩ (.slice (some ⟨gg, 0, none⟩) (done.length + 1) cap)) ∧ w.heap.size ≤ gg := by
  have hs := st.kb.size
  have hPg := rs.apart
  have hgg : w.heap.size ≤ gg := by
    rcases hat with h9 | h9
    · exact hrow gg h9
    · omega
  have s5 : Step P g o w w5 := st.grown hglt hgr hrow
  have s6 : Step P g o w (w5.setCell ⟨g, o + 6, none⟩ (.slice (some ⟨gg, 0, none⟩) (done.length + 1) cap)) := s5.trans (Step.set w5 6 _ (by decide))
  have same : ∀ k, k < w.heap.size → w5.heap[k]? = w3.heap[k]? := fun k hk => by
    rw [hgr.block k (by simp; omega) (fun e => by have := hrow k e.symm; omega)]
    exact Below.heap_alloc _ _ _ (by omega)
  have hw5 : w3.heap.size ≤ w5.heap.size := by have := hgr.size; simp at this; omega
  have p5 : PlaceAt w5 P (some ad) c bs q d := rs.place.agree (fun k hk => same k (by omega)) hw5
  have p6 : PlaceAt (w5.setCell ⟨g, o + 6, none⟩ (.slice (some ⟨gg, 0, none⟩) (done.length + 1) cap)) P (some ad) c bs q d := p5.agree (fun k hk => Below.heap_setCell _ _ _ _ (by show k ≠ g; omega)) (by simp)
  have i5 : ItemAt w5 g o { h with labels := done } vL' (.slice none 0 0) (.slice none 0 0) := rs.item.agree (same g hglt)
  have i6 := i5.put6 (.slice (some ⟨gg, 0, none⟩) (done.length + 1) cap)
  obtain ⟨c0, c1, c2, c3, c4, c5, c6, c7, c8⟩ := i6
  obtain ⟨cur, hcur⟩ := rs.blk
  have hb5 : Blk w5 g cur := by unfold Blk at *; rw [same g hglt]; exact hcur
  refine ⟨⟨p6, rfl, ⟨c0, c1, c2, c3, c4, c5, c6, c7, c8⟩, ⟨_, heap_setCell_row hb5 _⟩, hPg, ⟨rs.old.1, rs.old.2.1, by simp; omega⟩, ⟨rs.rng.r0, rs.rng.r1, rs.rng.r2, rs.rng.r3, rs.rng.r4, rs.rng.r5⟩, ⟨?_, ?_, by simpa using hlen, ?_⟩, OwnL.nil _ _, OwnL.nil _ _⟩, s6, hgg⟩
  · have e1 : nvals (done ++ [x]) = nvals done ++ [.int .i64 x] := by simp [nvals]
    have e2 : (done ++ [x]).length = done.length + 1 := by simp
    simp only [e1, e2]
    exact ownsRow_agree hown fun k hk => Below.heap_setCell _ _ _ _ (by have hk : gg = k := by simpa [Value.ownBlock] using hk
                                                                        show k ≠ g; omega)
  · intro k hk
    have hk : gg = k := by simpa [Value.ownBlock] using hk
    subst hk
    exact ⟨by omega, by simpa using hlt⟩
  · intro y hy
    rcases List.mem_append.1 hy with hy | hy
    · exact rs.own.rng y hy
    · have : y = x := by simpa using hy
      subst this
      unfold M.inR at hx
      omega
set_option maxRecDepth 100000 in
set_option maxHeartbeats 4000000 in
theorem labels_any : LabelsOk := by
  intro P ad c bs d g o base sub s w p vL vB vE h hlab hnil
  obtain ⟨rfl, rfl, rfl, hsb, hse⟩ := hnil
  obtain ⟨i0, hi0, hz0, hz1, hz2⟩ := info_parts int_info
  have h0 := Lib.hid h
  have hPg := h.apart
  have hr := Lib.hid h.rest
  have hpl := Lib.hid h.place
  have hglt := h.lt
  have hbase := h.old.2.2
  have hPs := h.place.size
  have hsm := h.place.small
  replace hlab := Lib.hid hlab
  replace hsb := Lib.hid hsb
  replace hse := Lib.hid hse
  clear h
  have pl1 : PlaceAt (w.alloc (.cells #[.int .i64 0] 3)) P (some ad) c bs p d := hpl.out.agree (fun k hk => Below.heap_alloc _ _ _ (by omega)) (by simp)
  cases hn : M.num (bs.drop p) with
  | none =>
    have hres := Lib.hid (show M.rdPart sub 1 s = none by simp only [M.rdPart, hr.out, hn]; rfl)
    replace hn := Lib.hid hn
    replace pl1 := Lib.hid pl1
    go_enter Try.func38, Try.ntmps38
    go_wp2_with fail
    refine (number_no _ P ad c bs p d _ pl1.out hn.out).mono ?_
    rintro e1 w1 ⟨rfl, b1⟩
    have b2 := Lib.hid (((Below.refl w.heap.size w).alloc (Nat.le_refl _) (.cells #[.int .i64 0] 3)).trans (b1.mono (by simp)))
    clear b1
    go_wp2_with fail
    go_ret
    exact .inr ⟨hres.out, rfl, ⟨p, hpl.out.agree (fun k hk => b2.out.block k (by omega)) b2.out.size⟩, Step.of_kb (.of_below b2.out) hglt (by omega)⟩
  | some x =>
    obtain ⟨v, r⟩ := x
    have hv := (M.num_short hn).1
    unfold M.inR at hv
    obtain ⟨v0, v1⟩ := hv
    obtain ⟨m, rfl⟩ := Int.eq_ofNat_of_zero_le v0
    have hres := Lib.hid (show M.rdPart sub 1 s = (M.nums m r).bind fun t => some { s with r := t.2, h := { s.h with labels := t.1 } } by simp only [M.rdPart, hr.out, hn]; rfl)
    replace hn := Lib.hid hn
    replace pl1 := Lib.hid pl1
    go_enter Try.func38, Try.ntmps38
    go_wp2_with fail
    refine (number_yes _ P (some ad) c bs p d w.heap.size 0 (.int .i64 0) m r pl1.out (by omega) (by simp) (by simp) hn.out).mono ?_
    rintro e1 w2 ⟨rfl, q, w1, hq, hrq, b1, hw2⟩
    obtain ⟨_, st2, rs2, cC, _⟩ := after_num h0.out b1 hq hrq hw2
    have rel0 := Lib.hid (show LabRel P ad c bs d g o base s m r w (.int .i64 (0 : Nat)) w2 from ⟨0, q, [], _, by omega, rfl, by
      have e : (⟨bs.drop q, { s.h with labels := [] }, .nil, .nil⟩ : M.Stt) = { s with r := r } := by
        have h1 := hsb.out
        have h2 := hse.out
        have h3 := hlab.out
        cases s with
        | mk a hh b e =>
          cases hh
          simp only at h1 h2 h3
          subst h1 h2 h3 hrq
          rfl
      rw [e]; exact rs2, st2, rfl, by omega, by rw [hrq]; cases M.nums m (bs.drop q) <;> rfl, fun k hk => by cases hk⟩)
    clear b1 hw2 pl1 rs2 st2 hrq
    go_wp2_with fail
    go_loopw [6, 11] (fun _ i w' => LabRel P ad c bs d g o base s m r w i w') (fun _ i _ => m - (intOf i).toNat)
    case atStart => exact rel0.out
    case round =>
      obtain ⟨j, q', done, vL', hj, rfl, rs, st, hdl, hjq, hnums, hrow⟩ := hrel
      have RSr := Lib.hid rs
      replace st := Lib.hid st
      replace hnums := Lib.hid hnums
      replace hrow := Lib.hid hrow
      have hwr : w.heap.size ≤ wr.heap.size := st.out.kb.size
      clear rel0 rs
      by_cases hlt : j < m
      · have pl5 : PlaceAt (wr.alloc (.cells #[.int .i64 0] 3)) P (some ad) c bs q' d := RSr.out.place.agree (fun k hk => Below.heap_alloc _ _ _ (by omega)) (by simp)
        replace pl5 := Lib.hid pl5
        have hwP : wr.heap.size ≠ P := by omega
        cases hx : M.num (bs.drop q') with
        | none =>
          have hnone := Lib.hid (show M.rdPart sub 1 s = none by
            rw [hres.out, hnums.out, show m - j = (m - (j + 1)) + 1 by omega, M.nums, hx]; rfl)
          replace hx := Lib.hid hx
          go_wp2_with fail
          refine (number_no _ P ad c bs q' d _ pl5.out hx.out).mono ?_
          rintro e1 w3 ⟨rfl, b3⟩
          have b4 := Lib.hid (((Below.refl wr.heap.size wr).alloc (Nat.le_refl _) (.cells #[.int .i64 0] 3)).trans (b3.mono (by simp)))
          clear b3
          go_wp2_with fail
          go_ret
          exact .inr ⟨hnone.out, rfl, ⟨q', RSr.out.place.agree (fun k hk => b4.out.block k (by omega)) b4.out.size⟩, st.out.trans (Step.of_kb (.of_below b4.out) (by omega) (by omega))⟩
        | some xr =>
          obtain ⟨x, r2⟩ := xr
          have hxr := Lib.hid (M.num_short hx).1
          have hsh := (M.num_short hx).2.2
          have hnums2 := Lib.hid (show M.nums m r = (M.nums (m - (j + 1)) r2).bind (fun t => some ((done ++ [x]) ++ t.1, t.2)) by
            rw [hnums.out, show m - j = (m - (j + 1)) + 1 by omega, M.nums, hx]
            simp only [Option.bind_some, Option.bind_assoc]
            congr 1
            funext t
            simp)
          replace hx := Lib.hid hx
          go_wp2_with fail
          refine (number_yes _ P (some ad) c bs q' d wr.heap.size 0 (.int .i64 0) x r2 pl5.out hwP (by simp) (by simp) hx.out).mono ?_
          rintro e1 w3 ⟨rfl, q2, w4, hq2, hrq2, b4, hw3⟩
          obtain ⟨_, st3, rs3, cD, hDl⟩ := after_num RSr.out b4 hq2 hrq2 hw3
          have hq2q : j + 1 ≤ q2 := by
            rw [hrq2] at hsh
            simp only [List.length_drop] at hsh
            omega
          have c6 : w3.cell? ⟨g, o + 6, none⟩ = some vL' := rs3.item.c6
          obtain ⟨cur3, hcur3⟩ := rs3.blk
          have f6 : w3.frozen? ⟨g, o + 6, none⟩ = false := hcur3.frozen _
          have own := Lib.hid (show w3.ownsRow 0 3 1 vL' done.length (nvals done) from rs3.own.row)
          have hgl : g < w3.heap.size := rs3.lt
          have hne : ∀ k, vL'.ownBlock = some k → k ≠ g := fun k hk => by have := hrow.out k hk; omega
          replace hne := Lib.hid hne
          subst hrq2
          have st3' := Lib.hid (st.out.trans st3)
          have rs3' := Lib.hid (show RS P (some ad) c bs d g o base ⟨bs.drop q2, { s.h with labels := done }, .nil, .nil⟩ w3 q2 vL' (.slice none 0 0) (.slice none 0 0) from rs3)
          have fin := Lib.hid (fun gg cap w5 ob hown hgr hat hlt5 => lab_put (gg := gg) (cap := cap) (w5 := w5) (ob := ob) hglt hbase rs3'.out st3'.out hxr.out (by omega) hown hgr hat hlt5 hrow.out)
          clear b4 hw3 rs3 st3 hcur3 pl5 hsh
          go_wp2_with fail
          go_region_law (refine step_append_lies _ (by rfl) _ _ _ (by rfl) 0 3 i0 _ 1 8 Try.underlying46 hi0 hz0 hz1 hz2 rfl (by omega) vL' done.length (nvals done) (by rfl) (by first | exact own.out.alloc _ | exact ownsRow_agree (own.out.alloc (.cells #[.int .i64 x] 3)) (fun _ _ => rfl)) ⟨w3.heap.size, 0, none⟩ 1 1 [.int .i64 x] (by rfl) (by rfl) (World.news_of_block (cs := #[.int .i64 x]) (t := 3) (fr := (0, 0)) (heap_alloc_new w3 _)) (by simp [Value.oneCell']) (by omega) (by unfold maxLen; omega) (by omega) (by omega) (w3.heap.size + 1) (by simp) ?_; intro gg cap w5 hown5 hgrow5 hat5 hlt5; have hb5 : w5.heap[g]? = w3.heap[g]? := (hgrow5.block g (by simp; omega) (fun e => (hne.out g e.symm) rfl)).trans (Below.heap_alloc w3 (.cells #[.int .i64 x] 3) g hgl); have c65 : w5.cell? ⟨g, o + 6, none⟩ = some vL' := (World.cell?_of_block (w := w3) hb5).trans c6; have f65 : w5.frozen? ⟨g, o + 6, none⟩ = false := (World.frozen?_of_block (w := w3) hb5).trans f6; clear hb5)
          all_goals go_wp2_with fail
          all_goals (
            have F := fin.out gg cap w5 (.cells #[.int .i64 x] 3) hown5 (grown_drew hgrow5) hat5 hlt5
            rw [hdl] at F
            exact ⟨⟨j + 1, q2, done ++ [x], _, by omega, by go_num, F.1, F.2.1, by simp [hdl], hq2q, hnums2.out, fun k hk => by
              have hk : gg = k := by simpa [Value.ownBlock] using hk
              have := F.2.2; omega⟩, by simp [intOf]; omega⟩)
      · have hjm : j = m := by omega
        have hsome := Lib.hid (show M.rdPart sub 1 s = some ⟨bs.drop q', { s.h with labels := done }, .nil, .nil⟩ by
          rw [hres.out, hnums.out, hjm, Nat.sub_self, M.nums, Option.bind_some, Option.bind_some, List.append_nil, hsb.out, hse.out])
        replace hjm := Lib.hid hjm
        have tlt : decide ((j : Int) < (m : Int)) = false := by simp; omega
        go_wp2_with fail
        go_ret
        exact .inl ⟨_, q', vL', _, _, hsome.out, rfl, RSr.out, st.out⟩
end Go.Proofs.Ytjapcalndolamaa
