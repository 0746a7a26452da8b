/-
  What the program's readers of locals and of functions' bodies answer; condition: the place lies in memory that was there at the call, what is read into in other memory.
-/
import Derived.Test.YtmejgbbdehndaaaGreatMReadJ
namespace Go.Proofs.YtmejgbbdehndaaaGreat
open Go.RowKit
theorem locals_rd (bs : List Nat) : M.cLocals.rd bs = (M.num bs).bind fun p => M.rGroups p.1.toNat [] p.2 := rfl
/-- What the loop over the groups keeps up. -/
def LoRel (B P g j t n : Nat) (r0 : List Nat) (w : World) (i : Value) (w' : World) : Prop :=
  ∃ (k : Nat) (q : List Nat) (acc : List Int) (v : Value), k ≤ n ∧ i = .int .i64 (k : Nat) ∧ Gst B P g j t w.heap.size q acc v w' ∧ FrB w.heap.size P g j w w' ∧ M.rGroups n [] r0 = M.rGroups (n - k) acc q
theorem lo_end {B P g j t : Nat} {q bs : List Nat} {acc : List Int} {v : Value} {w w' : World} (gs : Gst B P g j t w.heap.size q acc v w') (fb : FrB w.heap.size P g j w w') (h : M.cLocals.rd bs = some (acc, q)) : MdPost rNums M.cLocals.rd B P g j bs w (.returned (.bool true)) w' := by
  obtain ⟨cur, h1, h2⟩ := gs.row
  have own : OwnN w' (Since w.heap.size w') v acc := ⟨⟨gs.own.1, by
    rcases gs.own.2 with hn | ⟨g', cap, cu, e, _, rest⟩
    · exact .inl hn
    · exact .inr ⟨g', cap, cu, e, Nat.zero_le _, rest⟩⟩, fun k hk => gs.own.lt k hk, by have := gs.len; omega, fun x hx => gs.rng x hx⟩
  refine .inl ⟨acc, q, [v], h, rfl, gs.pat, ⟨v, rfl, own.read⟩, fun i u hu => ?_, fb.fr⟩
  cases i with
  | zero => cases hu; exact (cell_row h1 _).trans h2
  | succ i => cases hu
set_option maxRecDepth 100000 in
set_option maxHeartbeats 4000000 in
theorem mlocals_ok : MdOk 200 rNums [.slice none 0 0] M.cLocals.rd := by
  intro B P g j t cur bs w h hg hz hne hB
  have hv := Lib.hid (locals_rd bs)
  have hPl := h.lt
  have hPlo := h.lo
  have hgl := lt_row hg
  have ha := Lib.hid (h.alloc (.cells #[.int .i64 0] 3))
  have hPg : ¬ P = g := fun e => hne e.symm
  replace hg := Lib.hid hg
  replace hz := Lib.hid hz
  clear h
  go_enter Tryz.func200, Tryz.ntmps200
  go_wp2_with fail
  refine (mnum_ok (.int .i64 0) B P w.heap.size 0 3 #[.int .i64 0] bs _ ha.out (heap_alloc_new w _) (one_row _) (by omega) (by omega)).mono ?_
  rintro e1 w1 (⟨y, r0, cs, hrd, rfl, p1, ⟨rfl, hy⟩, hc, fr⟩ | ⟨hrd, rfl, kb⟩)
  · have hy0 := (M.num_short hrd).1
    unfold M.inR at hy0
    obtain ⟨y0, y1⟩ := hy0
    obtain ⟨n, rfl⟩ := Int.eq_ofNat_of_zero_le y0
    have hn32 : n < 4294967296 := by omega
    rw [hrd] at hv
    simp only [Option.bind_some, Int.toNat_natCast] at hv
    have c1 : w1.cell? ⟨w.heap.size, 0, none⟩ = some (.int .i64 n) := hc 0 _ rfl
    have kb := kb_new fr.kb
    have hs1 : w.heap.size < w1.heap.size := by have := fr.kb.size; simp at this; omega
    have hg1 : w1.heap[g]? = some (.cells cur t (0, 0)) := by rw [kb.block g hgl hne]; exact hg.out
    have rel0 := Lib.hid (show LoRel B P g j t n r0 w (.int .i64 ((0 : Nat) : Int)) w1 from ⟨0, r0, [], _, by omega, rfl, ⟨p1, ⟨cur, hg1, hz.out 0 _ rfl⟩, World.ownsRow_nil _ _ _ _, by simp, (fun x hx => by cases hx), by omega, hPl, hgl, hne, hB⟩, FrB.of_kb kb (Nat.le_refl _) hgl hne, rfl⟩)
    replace kb := Lib.hid kb
    clear hc fr p1 hg1 y0 y1
    go_wp2_with fail
    go_loopw [10] (fun i w' => LoRel B P g j t n r0 w i w') (fun i _ => n - (intOf i).toNat)
    case atStart => exact rel0.out
    case round =>
      obtain ⟨k, q, acc, v, hk, rfl, gs, fb, hrt⟩ := hrel
      clear rel0
      replace gs := Lib.hid gs
      replace fb := Lib.hid fb
      replace hrt := Lib.hid hrt
      by_cases hlt : k < n
      · have hst := Lib.hid (show M.rGroups (n - k) acc q = (M.grp acc q).bind fun p => M.rGroups (n - (k + 1)) p.1 p.2 by rw [show n - k = (n - (k + 1)) + 1 by omega]; exact M.groups_grp _ _ _)
        go_wp2_with fail
        refine (mgroup_any B P g j t w.heap.size q acc v _ gs.out).mono ?_
        rintro e2 w2 (⟨acc', r, v', hgr, rfl, gs2, fb2⟩ | ⟨hgr, rfl, fb2⟩)
        · have rel := Lib.hid (show LoRel B P g j t n r0 w (.int .i64 ((k : Int) + 1)) w2 from ⟨k + 1, r, acc', v', by omega, by rw [Int.natCast_add]; rfl, gs2, fb.out.trans fb2, by rw [hrt.out, hst.out, hgr]; rfl⟩)
          clear gs2 fb2
          go_wp2_with fail
          exact ⟨rel.out, by simp [intOf]; omega⟩
        · have hnone := Lib.hid (show M.cLocals.rd bs = none by rw [hv.out, hrt.out, hst.out, hgr]; rfl)
          have kb3 := Lib.hid (fb.out.trans fb2).kb
          clear fb2
          go_wp2_with fail
          go_ret
          exact .inr ⟨hnone.out, rfl, kb3.out⟩
      · have hkn : k = n := by omega
        have tlt : decide ((k : Int) < (n : Int)) = false := by simp; omega
        have hend := Lib.hid (lo_end gs.out fb.out (show M.cLocals.rd bs = some (acc, q) by rw [hv.out, hrt.out, hkn, Nat.sub_self]; rfl))
        replace hkn := Lib.hid hkn
        go_wp2_with fail
        go_ret
        exact hend.out
  · rw [hrd] at hv
    replace kb := Lib.hid (kb_new kb)
    go_wp2_with fail
    go_ret
    exact .inr ⟨hv.out, rfl, kb_g kb.out⟩
/-- What stands in section 10 of a function, without its size. -/
abbrev lb : M.Codec (List Int × M.L) := M.cSeq M.cLocals fun _ => M.cExpr
theorem lb_rd (bs : List Nat) : lb.rd bs = (M.cLocals.rd bs).bind fun p => (M.cExpr.rd p.2).bind fun q => some ((p.1, q.1), q.2) := rfl
set_option maxRecDepth 100000 in
set_option maxHeartbeats 4000000 in
theorem mbody1_any (B P g j t bx : Nat) (cur : Array Value) (bs : List Nat) (w : World) (h : PAt B w P bs) (hg : w.heap[g]? = some (.cells cur t (0, 0))) (hz : ∀ i u, [.slice none 0 0, .slice none 0 0][i]? = some u → cur[j + 1 + i]? = some u) (hne : g ≠ P) (hB : B ≤ g)
    (hbx : w.cell? ⟨bx, 0, none⟩ = some (.pointer (some ⟨g, j, none⟩))) (hb1 : bx ≠ P) (hb2 : bx ≠ g) :
    Calls Tryz.prog 199 #[.pointer (some ⟨P, 0, none⟩), .pointer (some ⟨bx, 0, none⟩)] w (MdPost (rP2 rNums rL) lb.rd B P g (j + 1) bs w) := by
  have hv := Lib.hid (lb_rd bs)
  have hPl := h.lt
  have hgl := lt_row hg
  have hbl := World.block_lt_of_cell? w ⟨bx, 0, none⟩ hbx
  replace hg := Lib.hid hg
  replace hz := Lib.hid hz
  replace h := Lib.hid h
  go_enter Tryz.func199, Tryz.ntmps199
  go_wp2_with fail
  refine (mlocals_ok.at ⟨rfl, rfl, rfl, rfl⟩ h.out hg.out (pre_row (zr := [.slice none 0 0]) hz.out rfl) hne hB).mono ?_
  intro e0 w0 hp
  rcases hp.yes with ⟨x0, r0, q0, rfl, hy⟩ | ⟨q0, rfl, kb0⟩
  · rw [q0] at hv
    simp only [Option.bind_some] at hv
    have pr0 := Prog.start (zR := [.slice none 0 0]) (z := [.slice none 0 0]) h.out hg.out hz.out rfl hne hB hy
    have hb0 : w0.cell? ⟨bx, 0, none⟩ = some (.pointer (some ⟨g, j, none⟩)) := (World.cell?_of_block (w := w) (hy.2.2.2.kb.block bx hbl (by omega))).trans hbx
    obtain ⟨cur0, hg0, hz0⟩ := pr0.row
    replace pr0 := Lib.hid pr0
    replace hg0 := Lib.hid hg0
    replace hz0 := Lib.hid hz0
    clear hp hy hbx
    go_wp2_with fail
    refine ((mexpr_ok (.slice none 0 0)).at ⟨rfl, rfl, rfl, rfl⟩ pr0.out.pat hg0.out (fun i u hu => hz0.out i u hu) hne hB).mono ?_
    intro e1 w1 hp
    rcases hp.yes with ⟨x1, r1, q1, rfl, hy⟩ | ⟨q1, rfl, kb1⟩
    · rw [q1] at hv
      simp only [Option.bind_some] at hv
      have pr1 := Lib.hid (pr0.out.step (zQ := [.slice none 0 0]) (z := []) rfl hy)
      clear hp hy
      go_wp2_with fail
      go_ret
      exact pr1.out.fin (R2 := rP2 rNums rL) (y := (x0, x1)) hv.out rfl (fun cs h => h)
    · rw [q1] at hv
      replace kb1 := Lib.hid (pr0.out.bad kb1)
      clear hp
      go_wp2_with fail
      go_ret
      exact .inr ⟨hv.out, rfl, kb1.out⟩
  · rw [q0] at hv
    replace kb0 := Lib.hid kb0
    clear hp
    go_wp2_with fail
    go_ret
    exact .inr ⟨hv.out, rfl, kb0.out⟩
/-- A piece has been read into the one cell of a new place: it is a place. -/
theorem inner_at {B P : Nat} {w w1 : World} {x : List Nat} {A : Option Addr} {c : Nat} (hB : B ≤ w.heap.size) (fr : Fr P w.heap.size 0 1 (w.alloc (.cells #[.slice none 0 0] 105)) w1) (c1 : w1.cell? ⟨w.heap.size, 0, none⟩ = some (.slice A x.length c)) (hc : x.length ≤ c ∧ c ≤ maxLen) (hb : Bytes w1 B A x.length (M.bf x)) (hl : x.length ≤ 65536) : PAt B w1 w.heap.size x := by
  obtain ⟨cur, h1, h2, _⟩ := fr.row _ _ (heap_alloc_new w _)
  have h3 : cur[0]? = some (.slice A x.length c) := (cell_row h1 0).symm.trans c1
  have h4 : cur = #[.slice A x.length c] := by
    apply Array.ext
    · rw [h2]; rfl
    · intro i hi1 hi2
      have : i = 0 := by simp at hi2; omega
      subst this
      rw [Array.getElem?_eq_getElem hi1] at h3
      simpa using h3
  subst h4
  exact ⟨⟨A, c, h1, hc.1, hc.2, hb⟩, hB, hl⟩
set_option maxRecDepth 100000 in
set_option maxHeartbeats 4000000 in
theorem sized_body (B P g j t bx : Nat) (cur : Array Value) (bs : List Nat) (w : World) (h : PAt B w P bs) (hg : w.heap[g]? = some (.cells cur t (0, 0))) (hz : ∀ i u, [.slice none 0 0, .slice none 0 0][i]? = some u → cur[j + 1 + i]? = some u) (hne : g ≠ P) (hB : B ≤ g)
    (hbx : w.cell? ⟨bx, 0, none⟩ = some (.pointer (some ⟨g, j, none⟩))) (hb1 : bx ≠ P) (hb2 : bx ≠ g) :
    Calls Tryz.prog 100 #[.pointer (some ⟨P, 0, none⟩), .func (.func 199) #[] #[.pointer (some ⟨bx, 0, none⟩)]] w (MdPost (rP2 rNums rL) M.cBody.rd B P g (j + 1) bs w) := by
  have hv := Lib.hid (show M.cBody.rd bs = (M.cPiece.rd bs).bind fun p => (lb.rd p.1).bind fun q => match q.2 with | [] => some (q.1, p.2) | _ => none from rfl)
  have hPl := h.lt
  have hPlo := h.lo
  have hgl := lt_row hg
  have hbl := World.block_lt_of_cell? w ⟨bx, 0, none⟩ hbx
  have ha := Lib.hid (h.alloc (.cells #[.slice none 0 0] 105))
  replace hg := Lib.hid hg
  replace hz := Lib.hid hz
  clear h
  go_enter Tryz.func100, Tryz.ntmps100
  go_wp2_with fail
  refine (mpiece_any B P w.heap.size 0 105 #[.slice none 0 0] (.slice none 0 0) bs _ ha.out (heap_alloc_new w _) rfl (by omega) (by omega)).mono ?_
  rintro e1 w1 (⟨x, r1, A, c, hrd, rfl, p1, c1, hc, hbx1, hxl, fr⟩ | ⟨hrd, rfl, kb⟩)
  · rw [hrd] at hv
    simp only [Option.bind_some] at hv
    have kb := kb_new fr.kb
    have hs1 : w.heap.size < w1.heap.size := by have := fr.kb.size; simp at this; omega
    have hg1 : w1.heap[g]? = some (.cells cur t (0, 0)) := by rw [kb.block g hgl hne]; exact hg.out
    have pin := inner_at (by omega) fr c1 hc hbx1 hxl
    have hb0 : w1.cell? ⟨bx, 0, none⟩ = some (.pointer (some ⟨g, j, none⟩)) := (World.cell?_of_block (w := w) (kb.block bx hbl hb1)).trans hbx
    have cN := Lib.hid (mbody1_any B w.heap.size g j t bx cur x w1 pin hg1 hz.out (by omega) hB hb0 (by omega) hb2)
    replace kb := Lib.hid kb
    replace p1 := Lib.hid p1
    clear fr hg1 hb0 hbx hc hbx1 hxl pin
    go_wp2_with fail
    refine cN.out.mono ?_
    rintro e2 w2 (⟨y, r2, cs, q1, rfl, p2, q4, q5, fr2⟩ | ⟨q1, rfl, kb2⟩)
    · rw [q1] at hv
      simp only [Option.bind_some] at hv
      have hs2 := fr2.kb.size
      have k2 : Kb (fun k => k = P ∨ k = g) w w2 := ⟨fr2.kb.os.trans kb.out.os, fr2.kb.tape.trans kb.out.tape, fr2.kb.output.trans kb.out.output, by omega, fun k hk hn => by rw [fr2.kb.block k (by omega) (by omega)]; exact kb.out.block k hk (by omega)⟩
      have p3 : PAt B w2 P r1 := p1.out.agree fun k hk => fr2.kb.block k (by rcases hk with hk | rfl <;> omega) (by rcases hk with hk | rfl <;> omega)
      obtain ⟨A2, c2, hi, hi1, hi2, _⟩ := p2.ex
      have ci : w2.cell? ⟨w.heap.size, 0, none⟩ = some (.slice A2 r2.length c2) := cell_row hi 0
      have fin := Lib.hid (show M.cBody.rd bs = some (y, r1) → MdPost (rP2 rNums rL) M.cBody.rd B P g (j + 1) bs w (.returned (.bool true)) w2 from fun e => .inl ⟨y, r1, cs, e, rfl, p3, Rep.agree _ q4 (fun _ _ => rfl) (fun k hk => ⟨by have := hk.1; omega, hk.2⟩), q5, ⟨k2, fun cu tt hcu => fr2.row cu tt (by rw [kb.out.block g hgl hne]; exact hcu)⟩⟩)
      replace k2 := Lib.hid k2
      clear p2 q4 q5 fr2 p3 hi hi1 hi2 c1
      cases r2 with
      | nil =>
        simp only [List.length_nil] at ci
        go_wp2_with fail
        go_ret
        exact fin.out hv.out
      | cons b0 rr =>
        have hne0 : (((b0 :: rr).length : Int) == 0) = false := by rw [beq_eq_false_iff_ne]; simp; omega
        obtain ⟨m, hm⟩ : ∃ m, m = (b0 :: rr).length := ⟨_, rfl⟩
        rw [← hm] at ci hne0
        replace hm := Lib.hid hm
        go_wp2_with fail
        go_ret
        exact .inr ⟨hv.out, rfl, k2.out⟩
    · rw [q1] at hv
      have k2 := Lib.hid (show Kb (fun k => k = P ∨ k = g) w w2 from ⟨kb2.os.trans kb.out.os, kb2.tape.trans kb.out.tape, kb2.output.trans kb.out.output, by have := kb2.size; omega, fun k hk hn => by rw [kb2.block k (by omega) (by omega)]; exact kb.out.block k hk (by omega)⟩)
      clear kb2
      go_wp2_with fail
      go_ret
      exact .inr ⟨hv.out, rfl, k2.out⟩
  · rw [hrd] at hv
    replace kb := Lib.hid (kb_new kb)
    go_wp2_with fail
    go_ret
    exact .inr ⟨hv.out, rfl, kb_g kb.out⟩
set_option maxRecDepth 100000 in
set_option maxHeartbeats 4000000 in
theorem mbody_ok : MdOk 174 rFn [.int .i64 0, .slice none 0 0, .slice none 0 0] M.cFnB.rd := by
  intro B P g j t cur bs w h hg hz hne hB
  have hv := Lib.hid (show M.cFnB.rd bs = (M.cBody.rd bs).bind fun p => some (⟨0, p.1.1, p.1.2⟩, p.2) from rfl)
  have hPl := h.lt
  have hgl := lt_row hg
  have hPlo := h.lo
  have ha := h.alloc (.cells #[.pointer (some ⟨g, j, none⟩)] 238)
  have hga : (w.alloc (.cells #[.pointer (some ⟨g, j, none⟩)] 238)).heap[g]? = some (.cells cur t (0, 0)) := by rw [Below.heap_alloc _ _ _ hgl]; exact hg
  have cN := Lib.hid (sized_body B P g j t w.heap.size cur bs _ ha hga (fun i u hu => by have := hz (1 + i) u (by rw [Nat.add_comm]; simpa using hu); rwa [← Nat.add_assoc] at this) hne hB (by simp) (by omega) (by omega))
  have c0 := Lib.hid (hz 0 _ rfl)
  clear h ha hz
  replace hg := Lib.hid hg
  replace hga := Lib.hid hga
  go_enter Tryz.func174, Tryz.ntmps174
  go_wp2_with fail
  refine cN.out.mono ?_
  rintro e2 w2 (⟨y, r2, cs, q1, rfl, p2, q4, q5, fr2⟩ | ⟨q1, rfl, kb2⟩)
  · rw [q1] at hv
    obtain ⟨cur2, h1, h2, h3⟩ := fr2.row _ _ hga.out
    have hs2 := fr2.kb.size
    simp at hs2
    have fin := Lib.hid (show MdPost rFn M.cFnB.rd B P g j bs w (.returned (.bool true)) w2 from by
      obtain ⟨ca, cb, rfl, qa, qb⟩ := q4
      refine .inl ⟨⟨0, y.1, y.2⟩, r2, [.int .i64 0] ++ (ca ++ cb), hv.out, rfl, p2, ?_, fun i u hu => ?_, ?_⟩
      · refine ⟨[.int .i64 0] ++ ca, cb, by simp, ⟨[.int .i64 0], ca, rfl, ⟨rfl, show i64R 0 from ⟨by decide, by decide⟩⟩, ?_⟩, ?_⟩
        · exact rNums.agree qa (fun _ _ => rfl) (fun k hk => ⟨by have := hk.1; simp at this; omega, hk.2⟩)
        · exact rL.agree qb (fun _ _ => rfl) (fun k hk => ⟨by have := hk.1; simp at this; omega, hk.2⟩)
      · cases i with
        | zero => cases hu; rw [cell_row h1, h3 _ (.inl (by omega))]; exact c0.out
        | succ i =>
          have := q5 i u (by simpa using hu)
          rwa [show j + 1 + i = j + (i + 1) by omega] at this
      · have kk := fr2.kb
        refine ⟨⟨kk.os, kk.tape, kk.output, by omega, fun k hk hn => by rw [kk.block k (by simp; omega) hn]; exact Below.heap_alloc _ _ _ hk⟩, fun cu tt hcu => ?_⟩
        obtain ⟨c5, d1, d2, d3⟩ := fr2.row cu tt (by rw [Below.heap_alloc _ _ _ hgl]; exact hcu)
        exact ⟨c5, d1, d2, fun i hi => d3 i (by rcases hi with hi | hi; exact .inl (by omega); exact .inr (by show j + 1 + (1 + 1) ≤ i; have : j + (1 + 1 + 1) ≤ i := hi; omega))⟩)
    clear p2 q4 q5 fr2 h1 h2 h3
    go_wp2_with fail
    go_ret
    exact fin.out
  · rw [q1] at hv
    have kb3 := Lib.hid (show Kb (fun k => k = P ∨ k = g) w w2 from ⟨kb2.os, kb2.tape, kb2.output, by have := kb2.size; simp at this; omega, fun k hk hn => by rw [kb2.block k (by simp; omega) hn]; exact Below.heap_alloc _ _ _ hk⟩)
    clear kb2
    go_wp2_with fail
    go_ret
    exact .inr ⟨hv.out, rfl, kb3.out⟩
end Go.Proofs.YtmejgbbdehndaaaGreat
