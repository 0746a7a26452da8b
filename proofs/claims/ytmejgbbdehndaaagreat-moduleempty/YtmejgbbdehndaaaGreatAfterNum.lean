/-
  What stands behind reading a number into a new cell; no condition beyond the state of reading.
-/
import Derived.Test.YtmejgbbdehndaaaGreatInstr
import Derived.Deep.RegionLaw
import Derived.Test.YtmejgbbdehndaaaGreatPlace
import Derived.Test.YtmejgbbdehndaaaGreatListR
namespace Go.Proofs.YtmejgbbdehndaaaGreat
open Go.RowKit
theorem after_num {P : Nat} {ad : Addr} {c : Nat} {bs : List Nat} {d p q g o base : Nat} {s : M.Stt} {w w1 w2 : World} {vL vB vE : Value} {x : Int} {r : List Nat} (h : RS P (some ad) c bs d g o base s w p vL vB vE)
    (b1 : Below (w.alloc (.cells #[.int .i64 0] 3)).heap.size (w.alloc (.cells #[.int .i64 0] 3)) w1) (hq : q ≤ bs.length) (hr : r = bs.drop q) (hw2 : w2 = (w1.setCell ⟨w.heap.size, 0, none⟩ (.int .i64 x)).setCell ⟨P, 1, none⟩ (.int .i64 (q : Nat))) :
    Kb (· = P) w w2 ∧ Step P g o w w2 ∧ RS P (some ad) c bs d g o base { s with r := r } w2 q vL vB vE ∧ w2.cell? ⟨w.heap.size, 0, none⟩ = some (.int .i64 x) ∧ w.heap.size < w2.heap.size := by
  subst hw2
  have hPs := h.place.size
  have hPg := h.apart
  have hsz : w.heap.size < w1.heap.size := by have := b1.size; simp at this; omega
  have d1 : Below w.heap.size w w1 := ((Below.refl _ _).alloc (Nat.le_refl _) _).trans (b1.mono (by simp))
  have kb : Kb (· = P) w ((w1.setCell ⟨w.heap.size, 0, none⟩ (.int .i64 x)).setCell ⟨P, 1, none⟩ (.int .i64 (q : Nat))) :=
    ⟨d1.os, d1.tape, d1.output, by simp; omega, fun k hk hne => by
      rw [Below.heap_setCell _ _ _ _ (by exact hne), Below.heap_setCell _ _ _ _ (by show k ≠ w.heap.size; omega)]
      exact d1.block k hk⟩
  have st : Step P g o w _ := Step.of_kb (o := o) kb h.lt (by omega)
  have p1 : PlaceAt w1 P (some ad) c bs p d := h.place.agree (fun k hk => d1.block k (by omega)) d1.size
  have p2 : PlaceAt (w1.setCell ⟨w.heap.size, 0, none⟩ (.int .i64 x)) P (some ad) c bs p d := p1.agree (fun k hk => Below.heap_setCell _ _ _ _ (by show k ≠ w.heap.size; omega)) (by simp)
  have c1 : w1.cell? ⟨w.heap.size, 0, none⟩ = some (.int .i64 0) := by rw [b1.cell (p := ⟨w.heap.size, 0, none⟩) (by simp)]; simp
  refine ⟨kb, st, h.step st (p2.move q hq) hr (h.item.agree (kb.block g h.lt (by omega))) h.rng rfl rfl rfl, ?_, by simpa using hsz⟩
  rw [World.cell?_of_block (w := w1.setCell ⟨w.heap.size, 0, none⟩ (.int .i64 x)) (Below.heap_setCell _ _ _ _ (by show w.heap.size ≠ P; omega))]
  exact World.cell?_setCell_same _ _ _ c1
end Go.Proofs.YtmejgbbdehndaaaGreat

/-
  What the program's reader of labels answers; condition: the place and the instruction lie in memory that was there at the call.
-/
namespace Go.Proofs.YtmejgbbdehndaaaGreat
open Go.RowKit
theorem int_info : (Tryz.prog.info? 3).map (fun i => (i.zero, i.size, i.bytes)) = some (some (.int .i64 0), 1, 8) := by kernel_rfl
/-- A row that is new since w has grown. -/
theorem Step.grown {P g o : Nat} {w w3 w5 : World} {ob : Obj} {row : Option Nat} (st : Step P g o w w3) (hg : g < w.heap.size) (hgr : (w3.alloc ob).grownBy w5 row) (hrow : ∀ k, row = some k → w.heap.size ≤ k) : Step P g o w w5 := by
  have hs := st.kb.size
  have same : ∀ k, k < w.heap.size → w5.heap[k]? = w3.heap[k]? := fun k hk => by
    rw [hgr.block k (by simp; omega) (fun e => by have := hrow k e.symm; omega)]
    exact Below.heap_alloc _ _ _ (by omega)
  refine ⟨⟨hgr.os.trans st.kb.os, hgr.tape.trans st.kb.tape, hgr.output.trans st.kb.output, by have := hgr.size; simp at this; omega, fun k hk ht => (same k hk).trans (st.kb.block k hk ht)⟩, fun cur hc => ?_⟩
  obtain ⟨cur', h1, h2, h3⟩ := st.blk cur hc
  exact ⟨cur', by unfold Blk at *; rw [same g hg]; exact h1, h2, h3⟩
theorem grown_drew {w w' : World} {row : Option Nat} (h : w.drew.grownBy w' row) : w.grownBy w' row := ⟨h.os, h.tape, h.output, h.size, h.block⟩
/-- What the loop over the labels keeps up. -/
def LabRel (P : Nat) (ad : Addr) (c : Nat) (bs : List Nat) (d g o base : Nat) (s : M.Stt) (m : Nat) (r0 : List Nat) (w : World) (i : Value) (w' : World) : Prop :=
  ∃ (j q : Nat) (done : List Int) (vL : Value), j ≤ m ∧ i = .int .i64 (j : Nat) ∧ RS P (some ad) c bs d g o base ⟨bs.drop q, { s.h with labels := done }, .nil, .nil⟩ w' q vL (.slice none 0 0) (.slice none 0 0) ∧ Step P g o w w' ∧ done.length = j ∧ j ≤ q ∧
    M.nums m r0 = (M.nums (m - j) (bs.drop q)).bind (fun t => some (done ++ t.1, t.2)) ∧ (∀ k, vL.ownBlock = some k → w.heap.size ≤ k)
theorem lab_put {P : Nat} {ad : Addr} {c : Nat} {bs : List Nat} {d g o base q : Nat} {h : M.Hd} {done : List Int} {x : Int} {w w3 w5 : World} {ob : Obj} {vL' : Value} {gg cap : Nat} (hglt : g < w.heap.size) (hbase : base ≤ w.heap.size)
    (rs : RS P (some ad) c bs d g o base ⟨bs.drop q, { h with labels := done }, .nil, .nil⟩ w3 q vL' (.slice none 0 0) (.slice none 0 0)) (st : Step P g o w w3) (hx : M.inR x) (hlen : done.length + 1 ≤ 100000)
    (hown : w5.ownsRow 0 3 1 (.slice (some ⟨gg, 0, none⟩) (done.length + 1) cap) (done.length + 1) (nvals done ++ [.int .i64 x])) (hgr : (w3.alloc ob).grownBy w5 vL'.ownBlock) (hat : vL'.ownBlock = some gg ∨ gg = w3.heap.size + 1) (hlt : gg < w5.heap.size) (hrow : ∀ k, vL'.ownBlock = some k → w.heap.size ≤ k) :
    RS P (some ad) c bs d g o base ⟨bs.drop q, { h with labels := done ++ [x] }, .nil, .nil⟩ (w5.setCell ⟨g, o + 6, none⟩ (.slice (some ⟨gg, 0, none⟩) (done.length + 1) cap)) q (.slice (some ⟨gg, 0, none⟩) (done.length + 1) cap) (.slice none 0 0) (.slice none 0 0) ∧
      Step P g o w (w5.setCell ⟨g, o + 6, none⟩ (.slice (some ⟨gg, 0, none⟩) (done.length + 1) cap)) ∧ w.heap.size ≤ gg := by
  have hs := st.kb.size
  have hPg := rs.apart
  have hgg : w.heap.size ≤ gg := by
    rcases hat with h9 | h9
    · exact hrow gg h9
    · omega
  have s5 : Step P g o w w5 := st.grown hglt hgr hrow
  have s6 : Step P g o w (w5.setCell ⟨g, o + 6, none⟩ (.slice (some ⟨gg, 0, none⟩) (done.length + 1) cap)) := s5.trans (Step.set w5 6 _ (by decide))
  have same : ∀ k, k < w.heap.size → w5.heap[k]? = w3.heap[k]? := fun k hk => by
    rw [hgr.block k (by simp; omega) (fun e => by have := hrow k e.symm; omega)]
    exact Below.heap_alloc _ _ _ (by omega)
  have hw5 : w3.heap.size ≤ w5.heap.size := by have := hgr.size; simp at this; omega
  have p5 : PlaceAt w5 P (some ad) c bs q d := rs.place.agree (fun k hk => same k (by omega)) hw5
  have p6 : PlaceAt (w5.setCell ⟨g, o + 6, none⟩ (.slice (some ⟨gg, 0, none⟩) (done.length + 1) cap)) P (some ad) c bs q d := p5.agree (fun k hk => Below.heap_setCell _ _ _ _ (by show k ≠ g; omega)) (by simp)
  have i5 : ItemAt w5 g o { h with labels := done } vL' (.slice none 0 0) (.slice none 0 0) := rs.item.agree (same g hglt)
  have i6 := i5.put6 (.slice (some ⟨gg, 0, none⟩) (done.length + 1) cap)
  obtain ⟨c0, c1, c2, c3, c4, c5, c6, c7, c8⟩ := i6
  obtain ⟨cur, hcur⟩ := rs.blk
  have hb5 : Blk w5 g cur := by unfold Blk at *; rw [same g hglt]; exact hcur
  refine ⟨⟨p6, rfl, ⟨c0, c1, c2, c3, c4, c5, c6, c7, c8⟩, ⟨_, heap_setCell_row hb5 _⟩, hPg, ⟨rs.old.1, rs.old.2.1, by simp; omega⟩, ⟨rs.rng.r0, rs.rng.r1, rs.rng.r2, rs.rng.r3, rs.rng.r4, rs.rng.r5⟩, ⟨?_, ?_, by simpa using hlen, ?_⟩, OwnL.nil _ _, OwnL.nil _ _⟩, s6, hgg⟩
  · have e1 : nvals (done ++ [x]) = nvals done ++ [.int .i64 x] := by simp [nvals]
    have e2 : (done ++ [x]).length = done.length + 1 := by simp
    simp only [e1, e2]
    exact ownsRow_agree hown fun k hk => Below.heap_setCell _ _ _ _ (by have hk : gg = k := by simpa [Value.ownBlock] using hk
                                                                        show k ≠ g; omega)
  · intro k hk
    have hk : gg = k := by simpa [Value.ownBlock] using hk
    subst hk
    exact ⟨by omega, by simpa using hlt⟩
  · intro y hy
    rcases List.mem_append.1 hy with hy | hy
    · exact rs.own.rng y hy
    · have : y = x := by simpa using hy
      subst this
      unfold M.inR at hx
      omega
set_option maxRecDepth 100000 in
set_option maxHeartbeats 4000000 in
theorem labels_any : LabelsOk := by
  intro P ad c bs d g o base sub s w p vL vB vE h hlab hnil
  obtain ⟨rfl, rfl, rfl, hsb, hse⟩ := hnil
  obtain ⟨i0, hi0, hz0, hz1, hz2⟩ := info_parts int_info
  have h0 := Lib.hid h
  have hPg := h.apart
  have hr := Lib.hid h.rest
  have hpl := Lib.hid h.place
  have hglt := h.lt
  have hbase := h.old.2.2
  have hPs := h.place.size
  have hsm := h.place.small
  replace hlab := Lib.hid hlab
  replace hsb := Lib.hid hsb
  replace hse := Lib.hid hse
  clear h
  have pl1 : PlaceAt (w.alloc (.cells #[.int .i64 0] 3)) P (some ad) c bs p d := hpl.out.agree (fun k hk => Below.heap_alloc _ _ _ (by omega)) (by simp)
  cases hn : M.num (bs.drop p) with
  | none =>
    have hres := Lib.hid (show M.rdPart sub 1 s = none by simp only [M.rdPart, hr.out, hn]; rfl)
    replace hn := Lib.hid hn
    replace pl1 := Lib.hid pl1
    go_enter Tryz.func248, Tryz.ntmps248
    go_wp2_with fail
    refine (number_no _ P ad c bs p d _ pl1.out hn.out).mono ?_
    rintro e1 w1 ⟨rfl, b1⟩
    have b2 := Lib.hid (((Below.refl w.heap.size w).alloc (Nat.le_refl _) (.cells #[.int .i64 0] 3)).trans (b1.mono (by simp)))
    clear b1
    go_wp2_with fail
    go_ret
    exact .inr ⟨hres.out, rfl, ⟨p, hpl.out.agree (fun k hk => b2.out.block k (by omega)) b2.out.size⟩, Step.of_kb (.of_below b2.out) hglt (by omega)⟩
  | some x =>
    obtain ⟨v, r⟩ := x
    have hv := (M.num_short hn).1
    unfold M.inR at hv
    obtain ⟨v0, v1⟩ := hv
    obtain ⟨m, rfl⟩ := Int.eq_ofNat_of_zero_le v0
    have hres := Lib.hid (show M.rdPart sub 1 s = (M.nums m r).bind fun t => some { s with r := t.2, h := { s.h with labels := t.1 } } by simp only [M.rdPart, hr.out, hn]; rfl)
    replace hn := Lib.hid hn
    replace pl1 := Lib.hid pl1
    go_enter Tryz.func248, Tryz.ntmps248
    go_wp2_with fail
    refine (number_yes _ P (some ad) c bs p d w.heap.size 0 (.int .i64 0) m r pl1.out (by omega) (by simp) (by simp) hn.out).mono ?_
    rintro e1 w2 ⟨rfl, q, w1, hq, hrq, b1, hw2⟩
    obtain ⟨_, st2, rs2, cC, _⟩ := after_num h0.out b1 hq hrq hw2
    have rel0 := Lib.hid (show LabRel P ad c bs d g o base s m r w (.int .i64 (0 : Nat)) w2 from ⟨0, q, [], _, by omega, rfl, by
      have e : (⟨bs.drop q, { s.h with labels := [] }, .nil, .nil⟩ : M.Stt) = { s with r := r } := by
        have h1 := hsb.out
        have h2 := hse.out
        have h3 := hlab.out
        cases s with
        | mk a hh b e =>
          cases hh
          simp only at h1 h2 h3
          subst h1 h2 h3 hrq
          rfl
      rw [e]; exact rs2, st2, rfl, by omega, by rw [hrq]; cases M.nums m (bs.drop q) <;> rfl, fun k hk => by cases hk⟩)
    clear b1 hw2 pl1 rs2 st2 hrq
    go_wp2_with fail
    go_loopw [6, 11] (fun _ i w' => LabRel P ad c bs d g o base s m r w i w') (fun _ i _ => m - (intOf i).toNat)
    case atStart => exact rel0.out
    case round =>
      obtain ⟨j, q', done, vL', hj, rfl, rs, st, hdl, hjq, hnums, hrow⟩ := hrel
      have RSr := Lib.hid rs
      replace st := Lib.hid st
      replace hnums := Lib.hid hnums
      replace hrow := Lib.hid hrow
      have hwr : w.heap.size ≤ wr.heap.size := st.out.kb.size
      clear rel0 rs
      by_cases hlt : j < m
      · have pl5 : PlaceAt (wr.alloc (.cells #[.int .i64 0] 3)) P (some ad) c bs q' d := RSr.out.place.agree (fun k hk => Below.heap_alloc _ _ _ (by omega)) (by simp)
        replace pl5 := Lib.hid pl5
        have hwP : wr.heap.size ≠ P := by omega
        cases hx : M.num (bs.drop q') with
        | none =>
          have hnone := Lib.hid (show M.rdPart sub 1 s = none by
            rw [hres.out, hnums.out, show m - j = (m - (j + 1)) + 1 by omega, M.nums, hx]; rfl)
          replace hx := Lib.hid hx
          go_wp2_with fail
          refine (number_no _ P ad c bs q' d _ pl5.out hx.out).mono ?_
          rintro e1 w3 ⟨rfl, b3⟩
          have b4 := Lib.hid (((Below.refl wr.heap.size wr).alloc (Nat.le_refl _) (.cells #[.int .i64 0] 3)).trans (b3.mono (by simp)))
          clear b3
          go_wp2_with fail
          go_ret
          exact .inr ⟨hnone.out, rfl, ⟨q', RSr.out.place.agree (fun k hk => b4.out.block k (by omega)) b4.out.size⟩, st.out.trans (Step.of_kb (.of_below b4.out) (by omega) (by omega))⟩
        | some xr =>
          obtain ⟨x, r2⟩ := xr
          have hxr := Lib.hid (M.num_short hx).1
          have hsh := (M.num_short hx).2.2
          have hnums2 := Lib.hid (show M.nums m r = (M.nums (m - (j + 1)) r2).bind (fun t => some ((done ++ [x]) ++ t.1, t.2)) by
            rw [hnums.out, show m - j = (m - (j + 1)) + 1 by omega, M.nums, hx]
            simp only [Option.bind_some, Option.bind_assoc]
            congr 1
            funext t
            simp)
          replace hx := Lib.hid hx
          go_wp2_with fail
          refine (number_yes _ P (some ad) c bs q' d wr.heap.size 0 (.int .i64 0) x r2 pl5.out hwP (by simp) (by simp) hx.out).mono ?_
          rintro e1 w3 ⟨rfl, q2, w4, hq2, hrq2, b4, hw3⟩
          obtain ⟨_, st3, rs3, cD, hDl⟩ := after_num RSr.out b4 hq2 hrq2 hw3
          have hq2q : j + 1 ≤ q2 := by
            rw [hrq2] at hsh
            simp only [List.length_drop] at hsh
            omega
          have c6 : w3.cell? ⟨g, o + 6, none⟩ = some vL' := rs3.item.c6
          obtain ⟨cur3, hcur3⟩ := rs3.blk
          have f6 : w3.frozen? ⟨g, o + 6, none⟩ = false := hcur3.frozen _
          have own := Lib.hid (show w3.ownsRow 0 3 1 vL' done.length (nvals done) from rs3.own.row)
          have hgl : g < w3.heap.size := rs3.lt
          have hne : ∀ k, vL'.ownBlock = some k → k ≠ g := fun k hk => by have := hrow.out k hk; omega
          replace hne := Lib.hid hne
          subst hrq2
          have st3' := Lib.hid (st.out.trans st3)
          have rs3' := Lib.hid (show RS P (some ad) c bs d g o base ⟨bs.drop q2, { s.h with labels := done }, .nil, .nil⟩ w3 q2 vL' (.slice none 0 0) (.slice none 0 0) from rs3)
          have fin := Lib.hid (fun gg cap w5 ob hown hgr hat hlt5 => lab_put (gg := gg) (cap := cap) (w5 := w5) (ob := ob) hglt hbase rs3'.out st3'.out hxr.out (by omega) hown hgr hat hlt5 hrow.out)
          clear b4 hw3 rs3 st3 hcur3 pl5 hsh
          go_wp2_with fail
          go_region_law (refine step_append_lies _ (by rfl) _ _ _ (by rfl) 0 3 i0 _ 1 8 Tryz.underlying52 hi0 hz0 hz1 hz2 rfl (by omega) vL' done.length (nvals done) (by rfl) (by first | exact own.out.alloc _ | exact ownsRow_agree (own.out.alloc (.cells #[.int .i64 x] 3)) (fun _ _ => rfl)) ⟨w3.heap.size, 0, none⟩ 1 1 [.int .i64 x] (by rfl) (by rfl) (World.news_of_block (cs := #[.int .i64 x]) (t := 3) (fr := (0, 0)) (heap_alloc_new w3 _)) (by simp [Value.oneCell']) (by omega) (by unfold maxLen; omega) (by omega) (by omega) (w3.heap.size + 1) (by simp) ?_; intro gg cap w5 hown5 hgrow5 hat5 hlt5; have hb5 : w5.heap[g]? = w3.heap[g]? := (hgrow5.block g (by simp; omega) (fun e => (hne.out g e.symm) rfl)).trans (Below.heap_alloc w3 (.cells #[.int .i64 x] 3) g hgl); have c65 : w5.cell? ⟨g, o + 6, none⟩ = some vL' := (World.cell?_of_block (w := w3) hb5).trans c6; have f65 : w5.frozen? ⟨g, o + 6, none⟩ = false := (World.frozen?_of_block (w := w3) hb5).trans f6; clear hb5)
          all_goals go_wp2_with fail
          all_goals (
            have F := fin.out gg cap w5 (.cells #[.int .i64 x] 3) hown5 (grown_drew hgrow5) hat5 hlt5
            rw [hdl] at F
            exact ⟨⟨j + 1, q2, done ++ [x], _, by omega, by go_num, F.1, F.2.1, by simp [hdl], hq2q, hnums2.out, fun k hk => by
              have hk : gg = k := by simpa [Value.ownBlock] using hk
              have := F.2.2; omega⟩, by simp [intOf]; omega⟩)
      · have hjm : j = m := by omega
        have hsome := Lib.hid (show M.rdPart sub 1 s = some ⟨bs.drop q', { s.h with labels := done }, .nil, .nil⟩ by
          rw [hres.out, hnums.out, hjm, Nat.sub_self, M.nums, Option.bind_some, Option.bind_some, List.append_nil, hsb.out, hse.out])
        replace hjm := Lib.hid hjm
        have tlt : decide ((j : Int) < (m : Int)) = false := by simp; omega
        go_wp2_with fail
        go_ret
        exact .inl ⟨_, q', vL', _, _, hsome.out, rfl, RSr.out, st.out⟩
end Go.Proofs.YtmejgbbdehndaaaGreat

/-
  The beginning of reading, and what reading no bytes at all answers; condition: the bytes lie in memory that was there at the call.
-/
namespace Go.Proofs.YtmejgbbdehndaaaGreat
open Go.RowKit
set_option maxRecDepth 100000 in
set_option maxHeartbeats 4000000 in
theorem newPlace_any (A : Option Addr) (c : Nat) (bs : List Nat) (w : World) (hb : Bytes w w.heap.size A bs.length (M.bf bs)) (hc : bs.length ≤ c ∧ c ≤ maxLen) (hs : bs.length ≤ 100000) :
    Calls Tryz.prog 235 #[.slice A bs.length c] w fun e w' => e = .returned (.pointer (some ⟨w.heap.size, 0, none⟩)) ∧ PlaceAt w' w.heap.size A c bs 0 0 ∧ Below w.heap.size w w' := by
  replace hb := Lib.hid hb
  replace hc := Lib.hid hc
  go_enter Tryz.func235, Tryz.ntmps235
  go_wp2_with fail
  go_ret
  have hbel : ∀ o : Obj, Below w.heap.size w (w.alloc o) := fun o => (Below.refl _ _).alloc (Nat.le_refl _) o
  refine ⟨rfl, ⟨?_, ?_, ?_, ?_, ?_, ?_, ?_, ?_, ?_, ?_, ?_, ?_, ?_, ?_, ?_, Nat.zero_le _, hc.out, hs, by omega, hb.out.below (hbel _) (Nat.le_refl _), by simp⟩, hbel _⟩
  all_goals simp
set_option maxRecDepth 100000 in
theorem list_nil (P : Nat) (A : Option Addr) (c : Nat) (w : World) (h : PlaceAt w P A c [] 0 0) :
    Calls Tryz.prog 236 #[.pointer (some ⟨P, 0, none⟩)] w fun e w' => e = .returned (.tuple #[.slice none 0 0, .bool true]) ∧ ∃ n, w' = w.drewN n := by
  have c0 := h.c0
  have c1 := h.c1
  have hsz := h.size
  simp only [List.length_nil] at c0
  clear h
  go_enter Tryz.func236, Tryz.ntmps236
  go_wp2_with fail
  go_loopw [4] (fun v w' => v = .slice none 0 0 ∧ w' = w) (fun _ w' => 0)
  case atStart => exact ⟨rfl, rfl⟩
  case round =>
    obtain ⟨rfl, rfl⟩ := hrel
    go_wp2_with fail
    go_quiet (fail)
    go_wp2_with fail
    go_ret2
    exact ⟨rfl, nq, rfl⟩
end Go.Proofs.YtmejgbbdehndaaaGreat

/-
  What Decode answers: the instructions that the bytes begin with, in new memory, and how many bytes they are, or none; condition: the bytes lie in memory that was there at the call.
-/
namespace Go.Proofs.YtmejgbbdehndaaaGreat
open Go.RowKit
theorem list_any : ∀ (k d : Nat), d + k = 40 → ListOk d := by
  intro k
  induction k with
  | zero => intro d hd; exact list_of labels_any d (fun h => by omega)
  | succ k ih => intro d hd; exact list_of labels_any d (fun h => ih (d + 1) (by omega))
def DecPost (bs : List Nat) (w : World) (e : Ending) (w' : World) : Prop :=
  (∃ l n v, M.expr bs = some (l, n) ∧ e = .returned (.tuple #[v, .int .i64 (n : Nat), .int .i64 0]) ∧ OwnL w' (Since w.heap.size w') v l ∧ Below w.heap.size w w') ∨
  (M.expr bs = none ∧ e = .returned (.tuple #[.slice none 0 0, .int .i64 0, .int .i64 100]) ∧ Below w.heap.size w w')
theorem Kb.below {P : Nat} {w w' : World} (h : Kb (· = P) w w') {B : Nat} (hB : B ≤ P) (hs : B ≤ w.heap.size) : Below B w w' := ⟨h.os, h.tape, h.output, h.size, fun k hk => h.block k (by omega) (by omega)⟩
set_option maxRecDepth 100000 in
set_option maxHeartbeats 4000000 in
theorem Decode_any (v : Value) (bs : List Nat) (w : World) (hb : BS w w.heap.size v bs) (hs : bs.length ≤ 100000) : Calls Tryz.prog 212 #[v] w (DecPost bs w) := by
  obtain ⟨A, c, rfl, h1, h2, hB⟩ := hb
  replace hB : Bytes w w.heap.size A bs.length (M.bf bs) := hB
  by_cases h0 : bs = []
  · subst h0
    have he := Lib.hid (show M.expr [] = none by unfold M.expr; rw [M.dec_nil]; rfl)
    replace hB := Lib.hid hB
    go_enter Tryz.func212, Tryz.ntmps212
    go_wp2_with fail
    refine (newPlace_any A c [] _ hB.out ⟨h1, h2⟩ hs).mono ?_
    rintro e1 w1 ⟨rfl, pl, b1⟩
    replace pl := Lib.hid pl
    replace b1 := Lib.hid b1
    go_wp2_with fail
    refine (list_nil _ A c _ pl.out).mono ?_
    rintro e2 w2 ⟨rfl, n2, hw2⟩
    have pl2 := Lib.hid (show PlaceAt w2 w.heap.size A c [] 0 0 by rw [hw2]; exact drewN_place pl.out n2)
    have b2 := Lib.hid (show Below w.heap.size w w2 by rw [hw2]; exact below_drewN b1.out n2)
    clear hw2
    go_wp2_with fail
    refine (fixed_any _ _ A c [] 0 0 11 pl2.out (by omega)).mono ?_
    rintro e3 w3 (⟨hb, _⟩ | ⟨hb, rfl, pl3, kb⟩)
    · exact absurd hb (by decide)
    · have b3 := Lib.hid (b2.out.trans (kb.below (Nat.le_refl _) b2.out.size))
      clear kb pl3 hb
      go_wp2_with fail
      go_ret3
      exact .inr ⟨he.out, rfl, b3.out⟩
  · obtain ⟨ad, rfl⟩ : ∃ ad, A = some ad := by
      obtain ⟨ad, e, _⟩ := hB 0 (by cases bs with | nil => exact absurd rfl h0 | cons => simp)
      exact ⟨ad, e⟩
    clear h0
    replace hB := Lib.hid hB
    go_enter Tryz.func212, Tryz.ntmps212
    go_wp2_with fail
    refine (newPlace_any (some ad) c bs _ hB.out ⟨h1, h2⟩ hs).mono ?_
    rintro e1 w1 ⟨rfl, pl, b1⟩
    have hs1 : w.heap.size < w1.heap.size := pl.size
    replace pl := Lib.hid pl
    replace b1 := Lib.hid b1
    go_wp2_with fail
    refine (list_any 40 0 rfl _ ad c bs 0 _ pl.out).mono ?_
    rintro e2 w2 (⟨l, r, v, q, hdec, rfl, pl2, hr, own2, kb2⟩ | ⟨hdec, rfl, ⟨q, pl2⟩, kb2⟩)
    · simp only [List.drop_zero, Nat.sub_zero] at hdec
      replace pl2 := Lib.hid pl2
      replace own2 := Lib.hid own2
      have b2 := Lib.hid (b1.out.trans (kb2.below (Nat.le_refl _) b1.out.size))
      have hs2 : w1.heap.size ≤ w2.heap.size := kb2.size
      replace hdec := Lib.hid hdec
      replace hr := Lib.hid hr
      clear kb2
      obtain ⟨A3, n3, c3, rfl⟩ := own_slice own2.out
      go_wp2_with fail
      refine (fixed_any _ _ (some ad) c bs q 0 11 pl2.out (by omega)).mono ?_
      rintro e3 w3 (⟨hb, rfl, pl3, kb3⟩ | ⟨hb, rfl, pl3, kb3⟩)
      · obtain ⟨hlt, hd⟩ := nextB_lt hb
        have he := Lib.hid (show M.expr bs = some (l, q + 1) by
          rw [M.expr_of (by rw [hdec.out, hr.out, hd]), List.length_drop]
          congr 2
          omega)
        have b3 := Lib.hid (b2.out.trans (kb3.below (Nat.le_refl _) b2.out.size))
        have own3 := Lib.hid (show OwnL w3 (Since w.heap.size w3) (.slice A3 n3 c3) l from own2.out.agree (fun k hk => kb3.block k hk.2 (by have := hk.1; omega)) (fun k hk => ⟨by have := hk.1; omega, Nat.lt_of_lt_of_le hk.2 kb3.size⟩))
        have c1 := pl3.c1
        replace pl3 := Lib.hid pl3
        clear kb3 hb hd
        go_wp2_with fail
        go_quiet (fail)
        go_wp2_with fail
        go_ret3
        exact .inl ⟨l, q + 1, _, he.out, rfl, own3.out.agree (fun _ _ => rfl) (fun _ hk => hk), below_drewN b3.out nq⟩
      · have he := Lib.hid (show M.expr bs = none by
          unfold M.expr
          rw [hdec.out, hr.out, Option.bind_some]
          have : M.endB (bs.drop q) = none := by
            cases hx : M.endB (bs.drop q) with
            | none => rfl
            | some y =>
              have := M.endB_some hx
              unfold nextB at hb
              rw [this] at hb
              simp at hb
          simp only [this]
          rfl)
        have b3 := Lib.hid (b2.out.trans (kb3.below (Nat.le_refl _) b2.out.size))
        clear kb3 hb pl3
        go_wp2_with fail
        go_ret3
        exact .inr ⟨he.out, rfl, b3.out⟩
    · simp only [List.drop_zero, Nat.sub_zero] at hdec
      have he := Lib.hid (show M.expr bs = none by unfold M.expr; rw [hdec]; rfl)
      have b2 := Lib.hid (b1.out.trans (kb2.below (Nat.le_refl _) b1.out.size))
      clear kb2 hdec pl2
      go_wp2_with fail
      go_ret3
      exact .inr ⟨he.out, rfl, b2.out⟩
theorem Decode_yes (v : Value) (bs : List Nat) (l : M.L) (n : Nat) (w : World) (hb : BS w w.heap.size v bs) (hs : bs.length ≤ 100000) (he : M.expr bs = some (l, n)) :
    Calls Tryz.prog 212 #[v] w fun e w' => ∃ u, e = .returned (.tuple #[u, .int .i64 (n : Nat), .int .i64 0]) ∧ OwnL w' (Since w.heap.size w') u l ∧ Below w.heap.size w w' :=
  (Decode_any v bs w hb hs).mono fun e w' h => by
    rcases h with ⟨l', n', u, h1, h2, h3, h4⟩ | ⟨h1, _⟩
    · rw [he] at h1
      cases h1
      exact ⟨u, h2, h3, h4⟩
    · rw [he] at h1; cases h1
theorem Decode_no (v : Value) (bs : List Nat) (w : World) (hb : BS w w.heap.size v bs) (hs : bs.length ≤ 100000) (he : M.expr bs = none) :
    Calls Tryz.prog 212 #[v] w fun e w' => e = .returned (.tuple #[.slice none 0 0, .int .i64 0, .int .i64 100]) ∧ Below w.heap.size w w' :=
  (Decode_any v bs w hb hs).mono fun e w' h => by
    rcases h with ⟨l', n', u, h1, _⟩ | ⟨_, h2, h3⟩
    · rw [he] at h1; cases h1
    · exact ⟨h2, h3⟩
end Go.Proofs.YtmejgbbdehndaaaGreat
