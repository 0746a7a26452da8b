/-
  The ground of the proofs of this seat, put together: MReadK, MList2, MList3, MList4, MList5. No condition beyond what each text names.
-/
import Derived.Test.YtilaheifccjjeaaGreatXGM
import Derived.Test.YtilaheifccjjeaaGreatXGA
import Derived.Test.YtilaheifccjjeaaGreatXGB
import Derived.Test.YtilaheifccjjeaaGreatXGC
import Derived.Test.YtilaheifccjjeaaGreatXGD
import Derived.Test.YtilaheifccjjeaaGreatXGE
import Derived.Test.YtilaheifccjjeaaGreatXGF
import Derived.Test.YtilaheifccjjeaaGreatXGG
import Derived.Test.YtilaheifccjjeaaGreatXGH
import Derived.Test.YtilaheifccjjeaaGreatXGI
import Derived.Test.YtilaheifccjjeaaGreatXGJ
import Derived.Test.YtilaheifccjjeaaGreatXGK
import Derived.Test.YtilaheifccjjeaaGreatXGL
namespace Go.Proofs.YtilaheifccjjeaaGreat
open Go.RowKit
theorem locals_rd (bs : List Nat) : M.cLocals.rd bs = (M.num bs).bind fun p => M.rGroups p.1.toNat [] p.2 := rfl
/-- What the loop over the groups keeps up. -/
def LoRel (B P g j t n : Nat) (r0 : List Nat) (w : World) (i : Value) (w' : World) : Prop :=
  ∃ (k : Nat) (q : List Nat) (acc : List Int) (v : Value), k ≤ n ∧ i = .int .i64 (k : Nat) ∧ Gst B P g j t w.heap.size q acc v w' ∧ FrB w.heap.size P g j w w' ∧ M.rGroups n [] r0 = M.rGroups (n - k) acc q
theorem lo_end {B P g j t : Nat} {q bs : List Nat} {acc : List Int} {v : Value} {w w' : World} (gs : Gst B P g j t w.heap.size q acc v w') (fb : FrB w.heap.size P g j w w') (h : M.cLocals.rd bs = some (acc, q)) : MdPost rNums M.cLocals.rd B P g j bs w (.returned (.bool true)) w' := by
  obtain ⟨cur, h1, h2⟩ := gs.row
  have own : OwnN w' (Since w.heap.size w') v acc := ⟨⟨gs.own.1, by
    rcases gs.own.2 with hn | ⟨g', cap, cu, e, _, rest⟩
    · exact .inl hn
    · exact .inr ⟨g', cap, cu, e, Nat.zero_le _, rest⟩⟩, fun k hk => gs.own.lt k hk, by have := gs.len; omega, fun x hx => gs.rng x hx⟩
  refine .inl ⟨acc, q, [v], h, rfl, gs.pat, ⟨v, rfl, own.read⟩, fun i u hu => ?_, fb.fr⟩
  cases i with
  | zero => cases hu; exact (cell_row h1 _).trans h2
  | succ i => cases hu
set_option maxRecDepth 100000 in
set_option maxHeartbeats 4000000 in
theorem mlocals_ok : MdOk 199 rNums [.slice none 0 0] M.cLocals.rd := by
  intro B P g j t cur bs w h hg hz hne hB
  have hv := Lib.hid (locals_rd bs)
  have hPl := h.lt
  have hPlo := h.lo
  have hgl := lt_row hg
  have ha := Lib.hid (h.alloc (.cells #[.int .i64 0] 3))
  have hPg : ¬ P = g := fun e => hne e.symm
  replace hg := Lib.hid hg
  replace hz := Lib.hid hz
  clear h
  go_enter Tryz.func199, Tryz.ntmps199
  go_wp2_with fail
  refine (mnum_ok (.int .i64 0) B P w.heap.size 0 3 #[.int .i64 0] bs _ ha.out (heap_alloc_new w _) (one_row _) (by omega) (by omega)).mono ?_
  rintro e1 w1 (⟨y, r0, cs, hrd, rfl, p1, ⟨rfl, hy⟩, hc, fr⟩ | ⟨hrd, rfl, kb⟩)
  · have hy0 := (M.num_short hrd).1
    unfold M.inR at hy0
    obtain ⟨y0, y1⟩ := hy0
    obtain ⟨n, rfl⟩ := Int.eq_ofNat_of_zero_le y0
    have hn32 : n < 4294967296 := by omega
    rw [hrd] at hv
    simp only [Option.bind_some, Int.toNat_natCast] at hv
    have c1 : w1.cell? ⟨w.heap.size, 0, none⟩ = some (.int .i64 n) := hc 0 _ rfl
    have kb := kb_new fr.kb
    have hs1 : w.heap.size < w1.heap.size := by have := fr.kb.size; simp at this; omega
    have hg1 : w1.heap[g]? = some (.cells cur t (0, 0)) := by rw [kb.block g hgl hne]; exact hg.out
    have rel0 := Lib.hid (show LoRel B P g j t n r0 w (.int .i64 ((0 : Nat) : Int)) w1 from ⟨0, r0, [], _, by omega, rfl, ⟨p1, ⟨cur, hg1, hz.out 0 _ rfl⟩, World.ownsRow_nil _ _ _ _, by simp, (fun x hx => by cases hx), by omega, hPl, hgl, hne, hB⟩, FrB.of_kb kb (Nat.le_refl _) hgl hne, rfl⟩)
    replace kb := Lib.hid kb
    clear hc fr p1 hg1 y0 y1
    go_wp2_with fail
    go_loopw [10] (fun i w' => LoRel B P g j t n r0 w i w') (fun i _ => n - (intOf i).toNat)
    case atStart => exact rel0.out
    case round =>
      obtain ⟨k, q, acc, v, hk, rfl, gs, fb, hrt⟩ := hrel
      clear rel0
      replace gs := Lib.hid gs
      replace fb := Lib.hid fb
      replace hrt := Lib.hid hrt
      by_cases hlt : k < n
      · have hst := Lib.hid (show M.rGroups (n - k) acc q = (M.grp acc q).bind fun p => M.rGroups (n - (k + 1)) p.1 p.2 by rw [show n - k = (n - (k + 1)) + 1 by omega]; exact M.groups_grp _ _ _)
        go_wp2_with fail
        refine (mgroup_any B P g j t w.heap.size q acc v _ gs.out).mono ?_
        rintro e2 w2 (⟨acc', r, v', hgr, rfl, gs2, fb2⟩ | ⟨hgr, rfl, fb2⟩)
        · have rel := Lib.hid (show LoRel B P g j t n r0 w (.int .i64 ((k : Int) + 1)) w2 from ⟨k + 1, r, acc', v', by omega, by rw [Int.natCast_add]; rfl, gs2, fb.out.trans fb2, by rw [hrt.out, hst.out, hgr]; rfl⟩)
          clear gs2 fb2
          go_wp2_with fail
          exact ⟨rel.out, by simp [intOf]; omega⟩
        · have hnone := Lib.hid (show M.cLocals.rd bs = none by rw [hv.out, hrt.out, hst.out, hgr]; rfl)
          have kb3 := Lib.hid (fb.out.trans fb2).kb
          clear fb2
          go_wp2_with fail
          go_ret
          exact .inr ⟨hnone.out, rfl, kb3.out⟩
      · have hkn : k = n := by omega
        have tlt : decide ((k : Int) < (n : Int)) = false := by simp; omega
        have hend := Lib.hid (lo_end gs.out fb.out (show M.cLocals.rd bs = some (acc, q) by rw [hv.out, hrt.out, hkn, Nat.sub_self]; rfl))
        replace hkn := Lib.hid hkn
        go_wp2_with fail
        go_ret
        exact hend.out
  · rw [hrd] at hv
    replace kb := Lib.hid (kb_new kb)
    go_wp2_with fail
    go_ret
    exact .inr ⟨hv.out, rfl, kb_g kb.out⟩
/-- What stands in section 10 of a function, without its size. -/
abbrev lb : M.Codec (List Int × M.L) := M.cSeq M.cLocals fun _ => M.cExpr
theorem lb_rd (bs : List Nat) : lb.rd bs = (M.cLocals.rd bs).bind fun p => (M.cExpr.rd p.2).bind fun q => some ((p.1, q.1), q.2) := rfl
set_option maxRecDepth 100000 in
set_option maxHeartbeats 4000000 in
theorem mbody1_any (B P g j t bx : Nat) (cur : Array Value) (bs : List Nat) (w : World) (h : PAt B w P bs) (hg : w.heap[g]? = some (.cells cur t (0, 0))) (hz : ∀ i u, [.slice none 0 0, .slice none 0 0][i]? = some u → cur[j + 1 + i]? = some u) (hne : g ≠ P) (hB : B ≤ g)
    (hbx : w.cell? ⟨bx, 0, none⟩ = some (.pointer (some ⟨g, j, none⟩))) (hb1 : bx ≠ P) (hb2 : bx ≠ g) :
    Calls Tryz.prog 198 #[.pointer (some ⟨P, 0, none⟩), .pointer (some ⟨bx, 0, none⟩)] w (MdPost (rP2 rNums rL) lb.rd B P g (j + 1) bs w) := by
  have hv := Lib.hid (lb_rd bs)
  have hPl := h.lt
  have hgl := lt_row hg
  have hbl := World.block_lt_of_cell? w ⟨bx, 0, none⟩ hbx
  replace hg := Lib.hid hg
  replace hz := Lib.hid hz
  replace h := Lib.hid h
  go_enter Tryz.func198, Tryz.ntmps198
  go_wp2_with fail
  refine (mlocals_ok.at ⟨rfl, rfl, rfl, rfl⟩ h.out hg.out (pre_row (zr := [.slice none 0 0]) hz.out rfl) hne hB).mono ?_
  intro e0 w0 hp
  rcases hp.yes with ⟨x0, r0, q0, rfl, hy⟩ | ⟨q0, rfl, kb0⟩
  · rw [q0] at hv
    simp only [Option.bind_some] at hv
    have pr0 := Prog.start (zR := [.slice none 0 0]) (z := [.slice none 0 0]) h.out hg.out hz.out rfl hne hB hy
    have hb0 : w0.cell? ⟨bx, 0, none⟩ = some (.pointer (some ⟨g, j, none⟩)) := (World.cell?_of_block (w := w) (hy.2.2.2.kb.block bx hbl (by omega))).trans hbx
    obtain ⟨cur0, hg0, hz0⟩ := pr0.row
    replace pr0 := Lib.hid pr0
    replace hg0 := Lib.hid hg0
    replace hz0 := Lib.hid hz0
    clear hp hy hbx
    go_wp2_with fail
    refine ((mexpr_ok (.slice none 0 0)).at ⟨rfl, rfl, rfl, rfl⟩ pr0.out.pat hg0.out (fun i u hu => hz0.out i u hu) hne hB).mono ?_
    intro e1 w1 hp
    rcases hp.yes with ⟨x1, r1, q1, rfl, hy⟩ | ⟨q1, rfl, kb1⟩
    · rw [q1] at hv
      simp only [Option.bind_some] at hv
      have pr1 := Lib.hid (pr0.out.step (zQ := [.slice none 0 0]) (z := []) rfl hy)
      clear hp hy
      go_wp2_with fail
      go_ret
      exact pr1.out.fin (R2 := rP2 rNums rL) (y := (x0, x1)) hv.out rfl (fun cs h => h)
    · rw [q1] at hv
      replace kb1 := Lib.hid (pr0.out.bad kb1)
      clear hp
      go_wp2_with fail
      go_ret
      exact .inr ⟨hv.out, rfl, kb1.out⟩
  · rw [q0] at hv
    replace kb0 := Lib.hid kb0
    clear hp
    go_wp2_with fail
    go_ret
    exact .inr ⟨hv.out, rfl, kb0.out⟩
/-- A piece has been read into the one cell of a new place: it is a place. -/
theorem inner_at {B P : Nat} {w w1 : World} {x : List Nat} {A : Option Addr} {c : Nat} (hB : B ≤ w.heap.size) (fr : Fr P w.heap.size 0 1 (w.alloc (.cells #[.slice none 0 0] 105)) w1) (c1 : w1.cell? ⟨w.heap.size, 0, none⟩ = some (.slice A x.length c)) (hc : x.length ≤ c ∧ c ≤ maxLen) (hb : Bytes w1 B A x.length (M.bf x)) (hl : x.length ≤ 65536) : PAt B w1 w.heap.size x := by
  obtain ⟨cur, h1, h2, _⟩ := fr.row _ _ (heap_alloc_new w _)
  have h3 : cur[0]? = some (.slice A x.length c) := (cell_row h1 0).symm.trans c1
  have h4 : cur = #[.slice A x.length c] := by
    apply Array.ext
    · rw [h2]; rfl
    · intro i hi1 hi2
      have : i = 0 := by simp at hi2; omega
      subst this
      rw [Array.getElem?_eq_getElem hi1] at h3
      simpa using h3
  subst h4
  exact ⟨⟨A, c, h1, hc.1, hc.2, hb⟩, hB, hl⟩
set_option maxRecDepth 100000 in
set_option maxHeartbeats 4000000 in
theorem sized_body (B P g j t bx : Nat) (cur : Array Value) (bs : List Nat) (w : World) (h : PAt B w P bs) (hg : w.heap[g]? = some (.cells cur t (0, 0))) (hz : ∀ i u, [.slice none 0 0, .slice none 0 0][i]? = some u → cur[j + 1 + i]? = some u) (hne : g ≠ P) (hB : B ≤ g)
    (hbx : w.cell? ⟨bx, 0, none⟩ = some (.pointer (some ⟨g, j, none⟩))) (hb1 : bx ≠ P) (hb2 : bx ≠ g) :
    Calls Tryz.prog 99 #[.pointer (some ⟨P, 0, none⟩), .func (.func 198) #[] #[.pointer (some ⟨bx, 0, none⟩)]] w (MdPost (rP2 rNums rL) M.cBody.rd B P g (j + 1) bs w) := by
  have hv := Lib.hid (show M.cBody.rd bs = (M.cPiece.rd bs).bind fun p => (lb.rd p.1).bind fun q => match q.2 with | [] => some (q.1, p.2) | _ => none from rfl)
  have hPl := h.lt
  have hPlo := h.lo
  have hgl := lt_row hg
  have hbl := World.block_lt_of_cell? w ⟨bx, 0, none⟩ hbx
  have ha := Lib.hid (h.alloc (.cells #[.slice none 0 0] 105))
  replace hg := Lib.hid hg
  replace hz := Lib.hid hz
  clear h
  go_enter Tryz.func99, Tryz.ntmps99
  go_wp2_with fail
  refine (mpiece_any B P w.heap.size 0 105 #[.slice none 0 0] (.slice none 0 0) bs _ ha.out (heap_alloc_new w _) rfl (by omega) (by omega)).mono ?_
  rintro e1 w1 (⟨x, r1, A, c, hrd, rfl, p1, c1, hc, hbx1, hxl, fr⟩ | ⟨hrd, rfl, kb⟩)
  · rw [hrd] at hv
    simp only [Option.bind_some] at hv
    have kb := kb_new fr.kb
    have hs1 : w.heap.size < w1.heap.size := by have := fr.kb.size; simp at this; omega
    have hg1 : w1.heap[g]? = some (.cells cur t (0, 0)) := by rw [kb.block g hgl hne]; exact hg.out
    have pin := inner_at (by omega) fr c1 hc hbx1 hxl
    have hb0 : w1.cell? ⟨bx, 0, none⟩ = some (.pointer (some ⟨g, j, none⟩)) := (World.cell?_of_block (w := w) (kb.block bx hbl hb1)).trans hbx
    have cN := Lib.hid (mbody1_any B w.heap.size g j t bx cur x w1 pin hg1 hz.out (by omega) hB hb0 (by omega) hb2)
    replace kb := Lib.hid kb
    replace p1 := Lib.hid p1
    clear fr hg1 hb0 hbx hc hbx1 hxl pin
    go_wp2_with fail
    refine cN.out.mono ?_
    rintro e2 w2 (⟨y, r2, cs, q1, rfl, p2, q4, q5, fr2⟩ | ⟨q1, rfl, kb2⟩)
    · rw [q1] at hv
      simp only [Option.bind_some] at hv
      have hs2 := fr2.kb.size
      have k2 : Kb (fun k => k = P ∨ k = g) w w2 := ⟨fr2.kb.os.trans kb.out.os, fr2.kb.tape.trans kb.out.tape, fr2.kb.output.trans kb.out.output, by omega, fun k hk hn => by rw [fr2.kb.block k (by omega) (by omega)]; exact kb.out.block k hk (by omega)⟩
      have p3 : PAt B w2 P r1 := p1.out.agree fun k hk => fr2.kb.block k (by rcases hk with hk | rfl <;> omega) (by rcases hk with hk | rfl <;> omega)
      obtain ⟨A2, c2, hi, hi1, hi2, _⟩ := p2.ex
      have ci : w2.cell? ⟨w.heap.size, 0, none⟩ = some (.slice A2 r2.length c2) := cell_row hi 0
      have fin := Lib.hid (show M.cBody.rd bs = some (y, r1) → MdPost (rP2 rNums rL) M.cBody.rd B P g (j + 1) bs w (.returned (.bool true)) w2 from fun e => .inl ⟨y, r1, cs, e, rfl, p3, Rep.agree _ q4 (fun _ _ => rfl) (fun k hk => ⟨by have := hk.1; omega, hk.2⟩), q5, ⟨k2, fun cu tt hcu => fr2.row cu tt (by rw [kb.out.block g hgl hne]; exact hcu)⟩⟩)
      replace k2 := Lib.hid k2
      clear p2 q4 q5 fr2 p3 hi hi1 hi2 c1
      cases r2 with
      | nil =>
        simp only [List.length_nil] at ci
        go_wp2_with fail
        go_ret
        exact fin.out hv.out
      | cons b0 rr =>
        have hne0 : (((b0 :: rr).length : Int) == 0) = false := by rw [beq_eq_false_iff_ne]; simp; omega
        obtain ⟨m, hm⟩ : ∃ m, m = (b0 :: rr).length := ⟨_, rfl⟩
        rw [← hm] at ci hne0
        replace hm := Lib.hid hm
        go_wp2_with fail
        go_ret
        exact .inr ⟨hv.out, rfl, k2.out⟩
    · rw [q1] at hv
      have k2 := Lib.hid (show Kb (fun k => k = P ∨ k = g) w w2 from ⟨kb2.os.trans kb.out.os, kb2.tape.trans kb.out.tape, kb2.output.trans kb.out.output, by have := kb2.size; omega, fun k hk hn => by rw [kb2.block k (by omega) (by omega)]; exact kb.out.block k hk (by omega)⟩)
      clear kb2
      go_wp2_with fail
      go_ret
      exact .inr ⟨hv.out, rfl, k2.out⟩
  · rw [hrd] at hv
    replace kb := Lib.hid (kb_new kb)
    go_wp2_with fail
    go_ret
    exact .inr ⟨hv.out, rfl, kb_g kb.out⟩
set_option maxRecDepth 100000 in
set_option maxHeartbeats 4000000 in
theorem mbody_ok : MdOk 173 rFn [.int .i64 0, .slice none 0 0, .slice none 0 0] M.cFnB.rd := by
  intro B P g j t cur bs w h hg hz hne hB
  have hv := Lib.hid (show M.cFnB.rd bs = (M.cBody.rd bs).bind fun p => some (⟨0, p.1.1, p.1.2⟩, p.2) from rfl)
  have hPl := h.lt
  have hgl := lt_row hg
  have hPlo := h.lo
  have ha := h.alloc (.cells #[.pointer (some ⟨g, j, none⟩)] 238)
  have hga : (w.alloc (.cells #[.pointer (some ⟨g, j, none⟩)] 238)).heap[g]? = some (.cells cur t (0, 0)) := by rw [Below.heap_alloc _ _ _ hgl]; exact hg
  have cN := Lib.hid (sized_body B P g j t w.heap.size cur bs _ ha hga (fun i u hu => by have := hz (1 + i) u (by rw [Nat.add_comm]; simpa using hu); rwa [← Nat.add_assoc] at this) hne hB (by simp) (by omega) (by omega))
  have c0 := Lib.hid (hz 0 _ rfl)
  clear h ha hz
  replace hg := Lib.hid hg
  replace hga := Lib.hid hga
  go_enter Tryz.func173, Tryz.ntmps173
  go_wp2_with fail
  refine cN.out.mono ?_
  rintro e2 w2 (⟨y, r2, cs, q1, rfl, p2, q4, q5, fr2⟩ | ⟨q1, rfl, kb2⟩)
  · rw [q1] at hv
    obtain ⟨cur2, h1, h2, h3⟩ := fr2.row _ _ hga.out
    have hs2 := fr2.kb.size
    simp at hs2
    have fin := Lib.hid (show MdPost rFn M.cFnB.rd B P g j bs w (.returned (.bool true)) w2 from by
      obtain ⟨ca, cb, rfl, qa, qb⟩ := q4
      refine .inl ⟨⟨0, y.1, y.2⟩, r2, [.int .i64 0] ++ (ca ++ cb), hv.out, rfl, p2, ?_, fun i u hu => ?_, ?_⟩
      · refine ⟨[.int .i64 0] ++ ca, cb, by simp, ⟨[.int .i64 0], ca, rfl, ⟨rfl, show i64R 0 from ⟨by decide, by decide⟩⟩, ?_⟩, ?_⟩
        · exact rNums.agree qa (fun _ _ => rfl) (fun k hk => ⟨by have := hk.1; simp at this; omega, hk.2⟩)
        · exact rL.agree qb (fun _ _ => rfl) (fun k hk => ⟨by have := hk.1; simp at this; omega, hk.2⟩)
      · cases i with
        | zero => cases hu; rw [cell_row h1, h3 _ (.inl (by omega))]; exact c0.out
        | succ i =>
          have := q5 i u (by simpa using hu)
          rwa [show j + 1 + i = j + (i + 1) by omega] at this
      · have kk := fr2.kb
        refine ⟨⟨kk.os, kk.tape, kk.output, by omega, fun k hk hn => by rw [kk.block k (by simp; omega) hn]; exact Below.heap_alloc _ _ _ hk⟩, fun cu tt hcu => ?_⟩
        obtain ⟨c5, d1, d2, d3⟩ := fr2.row cu tt (by rw [Below.heap_alloc _ _ _ hgl]; exact hcu)
        exact ⟨c5, d1, d2, fun i hi => d3 i (by rcases hi with hi | hi; exact .inl (by omega); exact .inr (by show j + 1 + (1 + 1) ≤ i; have : j + (1 + 1 + 1) ≤ i := hi; omega))⟩)
    clear p2 q4 q5 fr2 h1 h2 h3
    go_wp2_with fail
    go_ret
    exact fin.out
  · rw [q1] at hv
    have kb3 := Lib.hid (show Kb (fun k => k = P ∨ k = g) w w2 from ⟨kb2.os, kb2.tape, kb2.output, by have := kb2.size; simp at this; omega, fun k hk hn => by rw [kb2.block k (by simp; omega) hn]; exact Below.heap_alloc _ _ _ hk⟩)
    clear kb2
    go_wp2_with fail
    go_ret
    exact .inr ⟨hv.out, rfl, kb3.out⟩
end Go.Proofs.YtilaheifccjjeaaGreat
namespace Go.Proofs.YtilaheifccjjeaaGreat
open Go.RowKit
theorem info_ft : (Tryz.prog.info? 54).map (fun i => (i.zero, i.size, i.bytes)) = some (some (.agg #[.slice none 0 0, .slice none 0 0]), 2, 48) := by kernel_rfl
set_option maxRecDepth 100000 in
set_option maxHeartbeats 4000000 in
theorem list_ft : MlOk 157 (.func (.func 158) #[] #[]) (rLst rFT) (M.vec M.cFT).rd := by
  intro B P g j t cur bs w h hg hcj hne hB
  obtain ⟨i0, hi0, hz0, hz1, hz2⟩ := info_parts info_ft
  have hv := Lib.hid (vec_rd M.cFT bs)
  have hPl := h.lt
  have hPlo := h.lo
  have hgl := lt_row hg
  have ha := Lib.hid (h.alloc (.cells #[.int .i64 0] 3))
  have hPg : ¬ P = g := fun e => hne e.symm
  replace hg := Lib.hid hg
  replace hcj := Lib.hid hcj
  clear h
  go_enter Tryz.func157, Tryz.ntmps157
  go_wp2_with fail
  refine (mnum_ok (.int .i64 0) B P w.heap.size 0 3 #[.int .i64 0] bs _ ha.out (heap_alloc_new w _) (one_row _) (by omega) (by omega)).mono ?_
  rintro e1 w1 (⟨y, r0, cs, hrd, rfl, p1, ⟨rfl, hy⟩, hc, fr⟩ | ⟨hrd, rfl, kb⟩)
  · have hy0 := (M.num_short hrd).1
    unfold M.inR at hy0
    obtain ⟨y0, y1⟩ := hy0
    obtain ⟨n, rfl⟩ := Int.eq_ofNat_of_zero_le y0
    rw [hrd] at hv
    simp only [Option.bind_some, Int.toNat_natCast] at hv
    have c1 : w1.cell? ⟨w.heap.size, 0, none⟩ = some (.int .i64 n) := hc 0 _ rfl
    have kb := kb_new fr.kb
    have hs1 : w.heap.size < w1.heap.size := by have := fr.kb.size; simp at this; omega
    have hg1 : w1.heap[g]? = some (.cells cur t (0, 0)) := by rw [kb.block g hgl hne]; exact hg.out
    have rel0 := Lib.hid (show LRelG rFT 54 M.cFT B P g j t n r0 w (.int .i64 ((0 : Nat) : Int)) w1 from ⟨0, r0, [], _, [], cur, by omega, rfl, p1, hg1, hcj.out, World.ownsRow_nil _ _ _ _, rfl, Fr.of_kb kb hgl hne, rfl, by cases M.rTimes M.cFT n r0 <;> rfl⟩)
    replace kb := Lib.hid kb
    clear hc fr p1 hg1 y0 y1
    by_cases h128 : n ≤ 128
    · rw [if_pos (by omega)] at hv
      go_wp2_with fail
      go_loopw [8, 17] (fun _ i w' => LRelG rFT 54 M.cFT B P g j t n r0 w i w') (fun _ i _ => n - (intOf i).toNat)
      case atStart => exact rel0.out
      case round =>
        have hrel0 := Lib.hid hrel
        obtain ⟨k, q, done, v, cs, cur2, hk, rfl, p2, hg2, hcv, own, hro, fr, hdl, hrt⟩ := hrel
        have hwr : w.heap.size ≤ wr.heap.size := fr.kb.size
        have pa := Lib.hid (p2.alloc (.cells #[.slice none 0 0, .slice none 0 0] 54))
        clear rel0
        replace hro := Lib.hid hro
        replace hrt := Lib.hid hrt
        replace own := Lib.hid own
        replace fr := Lib.hid fr
        replace hg2 := Lib.hid hg2
        replace hcv := Lib.hid hcv
        clear p2
        by_cases hlt : k < n
        · have hwP : wr.heap.size ≠ P := by omega
          have hwB : B ≤ wr.heap.size := by omega
          cases hx : (M.cFT).rd q with
          | none =>
            have hnone := Lib.hid (show (M.vec M.cFT).rd bs = none by
              rw [hv.out, hrt.out, show n - k = (n - (k + 1)) + 1 by omega, M.rTimes, hx]; rfl)
            replace hx := Lib.hid hx
            go_wp2_with fail
            refine ((mft_ok).no hx.out pa.out (heap_alloc_new wr _) (fun i u hu => by rw [Nat.zero_add]; simpa using hu) hwP hwB ⟨rfl, rfl, rfl, rfl⟩).mono ?_
            rintro e2 w2 ⟨rfl, kb2⟩
            have kb3 := Lib.hid (fr.out.kb.trans (kb_g (g := g) (kb_new kb2)))
            clear kb2
            go_wp2_with fail
            go_ret
            exact .inr ⟨hnone.out, rfl, kb3.out⟩
          | some xr =>
            obtain ⟨x, r2⟩ := xr
            replace hx := Lib.hid hx
            go_wp2_with fail
            refine ((mft_ok).yes hx.out pa.out (heap_alloc_new wr _) (fun i u hu => by rw [Nat.zero_add]; simpa using hu) hwP hwB ⟨rfl, rfl, rfl, rfl⟩).mono ?_
            rintro e2 w2 ⟨rfl, p3, ⟨xs, his, hxc⟩, fr3⟩
            have hs3 : wr.heap.size < w2.heap.size := by have := fr3.kb.size; simp at this; omega
            have hlen := rFT.len his
            have hone := Lib.hid (rFT.one his)
            obtain ⟨x0, x1, rfl⟩ : ∃ x0 x1, xs = [x0, x1] := by
              match xs, hlen with
              | [x0, x1], _ => exact ⟨_, _, rfl⟩
            have xc0 : w2.cell? ⟨wr.heap.size, 0, none⟩ = some x0 := by simpa using hxc 0 _ rfl
            have xc1 : w2.cell? ⟨wr.heap.size, 1, none⟩ = some x1 := by simpa using hxc 1 _ rfl
            have kb3 := kb_new fr3.kb
            have hg3 : w2.heap[g]? = some (.cells cur2 t (0, 0)) := by rw [kb3.block g (by omega) hne]; exact hg2.out
            have cg : w2.cell? ⟨g, j, none⟩ = some v := (cell_row hg3 j).trans hcv.out
            have fg := frozen_row hg3 j
            have vne : ∀ b, v.ownBlock = some b → b ≠ P ∧ b ≠ g := fun b hb => by have := (own.out.lt b hb).1; omega
            have own3 := Lib.hid (show w2.ownsRow w.heap.size 54 2 v done.length cs from ownsRow_agree own.out fun b hb => kb3.block b (own.out.lt b hb).2 (vne b hb).1)
            have fin := Lib.hid (fun gg cap w5 ob hown hgr hat hlt5 => list_step (gg := gg) (cap := cap) (w5 := w5) (ob := ob) hPl hgl hne hB hlt h128 hg2.out hcv.out own.out hro.out fr.out hdl hrt.out hx.out p3 his fr3 hown hgr hat hlt5)
            have hgs : g < w2.heap.size := by omega
            have vne2 := Lib.hid (fun b hb => (vne b hb).2)
            clear vne p3 his hxc hg3 kb3 hlen
            replace fr3 := Lib.hid fr3
            go_wp2_with fail
            go_region_law (refine step_append_lies _ (by rfl) _ _ _ (by rfl) w.heap.size 54 i0 _ 2 48 Tryz.underlying23 hi0 hz0 hz1 hz2 rfl (by omega) v done.length cs (by rfl) (by first | exact own3.out.alloc _ | exact ownsRow_agree (own3.out.alloc (.cells #[x0, x1] 54)) (fun _ _ => rfl)) ⟨w2.heap.size, 0, none⟩ 1 1 [x0, x1] (by rfl) (by rfl) (World.news_of_block (cs := #[x0, x1]) (t := 54) (fr := (0, 0)) (heap_alloc_new w2 _)) hone.out (by omega) (by unfold maxLen; omega) (by omega) (by simp; omega) (w2.heap.size + 1) (by simp) ?_; intro gg cap w5 hown5 hgrow5 hat5 hlt5; have hb5 : w5.heap[g]? = w2.heap[g]? := (hgrow5.block g (by simp; omega) (fun e => (vne2.out g e.symm) rfl)).trans (Below.heap_alloc w2 (.cells #[x0, x1] 54) g hgs); have c65 : w5.cell? ⟨g, j, none⟩ = some v := (World.cell?_of_block (w := w2) hb5).trans cg; have f65 : w5.frozen? ⟨g, j, none⟩ = false := (World.frozen?_of_block (w := w2) hb5).trans fg; clear hb5)
            all_goals go_wp2_with fail
            all_goals (
              have F := fin.out gg cap w5 (.cells #[x0, x1] 54) hown5 (grown_drew hgrow5) hat5 hlt5
              have e9 : ((k + 1 : Nat) : Int) = (k : Int) + 1 := by omega
              rw [e9] at F
              exact ⟨F, by simp [intOf]; omega⟩)
        · have hkn : k = n := by omega
          have tlt : decide ((k : Int) < (n : Int)) = false := by simp; omega
          have hend := Lib.hid (list_end hrel0.out hkn h128 hv.out)
          replace hkn := Lib.hid hkn
          go_wp2_with fail
          go_ret
          exact hend.out
    · rw [if_neg (by omega)] at hv
      go_wp2_with fail
      go_ret
      exact .inr ⟨hv.out, rfl, kb_g kb.out⟩
  · rw [hrd] at hv
    replace kb := Lib.hid (kb_new kb)
    go_wp2_with fail
    go_ret
    exact .inr ⟨hv.out, rfl, kb_g kb.out⟩
theorem info_head : (Tryz.prog.info? 64).map (fun i => (i.zero, i.size, i.bytes)) = some (some (.agg #[.int .i64 0, .slice none 0 0, .slice none 0 0]), 3, 56) := by kernel_rfl
set_option maxRecDepth 100000 in
set_option maxHeartbeats 4000000 in
theorem list_head : MlOk 161 (.func (.func 162) #[] #[]) (rLst rFn) (M.vec M.cHead).rd := by
  intro B P g j t cur bs w h hg hcj hne hB
  obtain ⟨i0, hi0, hz0, hz1, hz2⟩ := info_parts info_head
  have hv := Lib.hid (vec_rd M.cHead bs)
  have hPl := h.lt
  have hPlo := h.lo
  have hgl := lt_row hg
  have ha := Lib.hid (h.alloc (.cells #[.int .i64 0] 3))
  have hPg : ¬ P = g := fun e => hne e.symm
  replace hg := Lib.hid hg
  replace hcj := Lib.hid hcj
  clear h
  go_enter Tryz.func161, Tryz.ntmps161
  go_wp2_with fail
  refine (mnum_ok (.int .i64 0) B P w.heap.size 0 3 #[.int .i64 0] bs _ ha.out (heap_alloc_new w _) (one_row _) (by omega) (by omega)).mono ?_
  rintro e1 w1 (⟨y, r0, cs, hrd, rfl, p1, ⟨rfl, hy⟩, hc, fr⟩ | ⟨hrd, rfl, kb⟩)
  · have hy0 := (M.num_short hrd).1
    unfold M.inR at hy0
    obtain ⟨y0, y1⟩ := hy0
    obtain ⟨n, rfl⟩ := Int.eq_ofNat_of_zero_le y0
    rw [hrd] at hv
    simp only [Option.bind_some, Int.toNat_natCast] at hv
    have c1 : w1.cell? ⟨w.heap.size, 0, none⟩ = some (.int .i64 n) := hc 0 _ rfl
    have kb := kb_new fr.kb
    have hs1 : w.heap.size < w1.heap.size := by have := fr.kb.size; simp at this; omega
    have hg1 : w1.heap[g]? = some (.cells cur t (0, 0)) := by rw [kb.block g hgl hne]; exact hg.out
    have rel0 := Lib.hid (show LRelG rFn 64 M.cHead B P g j t n r0 w (.int .i64 ((0 : Nat) : Int)) w1 from ⟨0, r0, [], _, [], cur, by omega, rfl, p1, hg1, hcj.out, World.ownsRow_nil _ _ _ _, rfl, Fr.of_kb kb hgl hne, rfl, by cases M.rTimes M.cHead n r0 <;> rfl⟩)
    replace kb := Lib.hid kb
    clear hc fr p1 hg1 y0 y1
    by_cases h128 : n ≤ 128
    · rw [if_pos (by omega)] at hv
      go_wp2_with fail
      go_loopw [8, 17] (fun _ i w' => LRelG rFn 64 M.cHead B P g j t n r0 w i w') (fun _ i _ => n - (intOf i).toNat)
      case atStart => exact rel0.out
      case round =>
        have hrel0 := Lib.hid hrel
        obtain ⟨k, q, done, v, cs, cur2, hk, rfl, p2, hg2, hcv, own, hro, fr, hdl, hrt⟩ := hrel
        have hwr : w.heap.size ≤ wr.heap.size := fr.kb.size
        have pa := Lib.hid (p2.alloc (.cells #[.int .i64 0, .slice none 0 0, .slice none 0 0] 64))
        clear rel0
        replace hro := Lib.hid hro
        replace hrt := Lib.hid hrt
        replace own := Lib.hid own
        replace fr := Lib.hid fr
        replace hg2 := Lib.hid hg2
        replace hcv := Lib.hid hcv
        clear p2
        by_cases hlt : k < n
        · have hwP : wr.heap.size ≠ P := by omega
          have hwB : B ≤ wr.heap.size := by omega
          cases hx : (M.cHead).rd q with
          | none =>
            have hnone := Lib.hid (show (M.vec M.cHead).rd bs = none by
              rw [hv.out, hrt.out, show n - k = (n - (k + 1)) + 1 by omega, M.rTimes, hx]; rfl)
            replace hx := Lib.hid hx
            go_wp2_with fail
            refine ((mhead_ok).no hx.out pa.out (heap_alloc_new wr _) (fun i u hu => by rw [Nat.zero_add]; simpa using hu) hwP hwB ⟨rfl, rfl, rfl, rfl⟩).mono ?_
            rintro e2 w2 ⟨rfl, kb2⟩
            have kb3 := Lib.hid (fr.out.kb.trans (kb_g (g := g) (kb_new kb2)))
            clear kb2
            go_wp2_with fail
            go_ret
            exact .inr ⟨hnone.out, rfl, kb3.out⟩
          | some xr =>
            obtain ⟨x, r2⟩ := xr
            replace hx := Lib.hid hx
            go_wp2_with fail
            refine ((mhead_ok).yes hx.out pa.out (heap_alloc_new wr _) (fun i u hu => by rw [Nat.zero_add]; simpa using hu) hwP hwB ⟨rfl, rfl, rfl, rfl⟩).mono ?_
            rintro e2 w2 ⟨rfl, p3, ⟨xs, his, hxc⟩, fr3⟩
            have hs3 : wr.heap.size < w2.heap.size := by have := fr3.kb.size; simp at this; omega
            have hlen := rFn.len his
            have hone := Lib.hid (rFn.one his)
            obtain ⟨x0, x1, x2, rfl⟩ : ∃ x0 x1 x2, xs = [x0, x1, x2] := by
              match xs, hlen with
              | [x0, x1, x2], _ => exact ⟨_, _, _, rfl⟩
            have xc0 : w2.cell? ⟨wr.heap.size, 0, none⟩ = some x0 := by simpa using hxc 0 _ rfl
            have xc1 : w2.cell? ⟨wr.heap.size, 1, none⟩ = some x1 := by simpa using hxc 1 _ rfl
            have xc2 : w2.cell? ⟨wr.heap.size, 2, none⟩ = some x2 := by simpa using hxc 2 _ rfl
            have kb3 := kb_new fr3.kb
            have hg3 : w2.heap[g]? = some (.cells cur2 t (0, 0)) := by rw [kb3.block g (by omega) hne]; exact hg2.out
            have cg : w2.cell? ⟨g, j, none⟩ = some v := (cell_row hg3 j).trans hcv.out
            have fg := frozen_row hg3 j
            have vne : ∀ b, v.ownBlock = some b → b ≠ P ∧ b ≠ g := fun b hb => by have := (own.out.lt b hb).1; omega
            have own3 := Lib.hid (show w2.ownsRow w.heap.size 64 3 v done.length cs from ownsRow_agree own.out fun b hb => kb3.block b (own.out.lt b hb).2 (vne b hb).1)
            have fin := Lib.hid (fun gg cap w5 ob hown hgr hat hlt5 => list_step (gg := gg) (cap := cap) (w5 := w5) (ob := ob) hPl hgl hne hB hlt h128 hg2.out hcv.out own.out hro.out fr.out hdl hrt.out hx.out p3 his fr3 hown hgr hat hlt5)
            have hgs : g < w2.heap.size := by omega
            have vne2 := Lib.hid (fun b hb => (vne b hb).2)
            clear vne p3 his hxc hg3 kb3 hlen
            replace fr3 := Lib.hid fr3
            go_wp2_with fail
            go_region_law (refine step_append_lies _ (by rfl) _ _ _ (by rfl) w.heap.size 64 i0 _ 3 56 Tryz.underlying25 hi0 hz0 hz1 hz2 rfl (by omega) v done.length cs (by rfl) (by first | exact own3.out.alloc _ | exact ownsRow_agree (own3.out.alloc (.cells #[x0, x1, x2] 64)) (fun _ _ => rfl)) ⟨w2.heap.size, 0, none⟩ 1 1 [x0, x1, x2] (by rfl) (by rfl) (World.news_of_block (cs := #[x0, x1, x2]) (t := 64) (fr := (0, 0)) (heap_alloc_new w2 _)) hone.out (by omega) (by unfold maxLen; omega) (by omega) (by simp; omega) (w2.heap.size + 1) (by simp) ?_; intro gg cap w5 hown5 hgrow5 hat5 hlt5; have hb5 : w5.heap[g]? = w2.heap[g]? := (hgrow5.block g (by simp; omega) (fun e => (vne2.out g e.symm) rfl)).trans (Below.heap_alloc w2 (.cells #[x0, x1, x2] 64) g hgs); have c65 : w5.cell? ⟨g, j, none⟩ = some v := (World.cell?_of_block (w := w2) hb5).trans cg; have f65 : w5.frozen? ⟨g, j, none⟩ = false := (World.frozen?_of_block (w := w2) hb5).trans fg; clear hb5)
            all_goals go_wp2_with fail
            all_goals (
              have F := fin.out gg cap w5 (.cells #[x0, x1, x2] 64) hown5 (grown_drew hgrow5) hat5 hlt5
              have e9 : ((k + 1 : Nat) : Int) = (k : Int) + 1 := by omega
              rw [e9] at F
              exact ⟨F, by simp [intOf]; omega⟩)
        · have hkn : k = n := by omega
          have tlt : decide ((k : Int) < (n : Int)) = false := by simp; omega
          have hend := Lib.hid (list_end hrel0.out hkn h128 hv.out)
          replace hkn := Lib.hid hkn
          go_wp2_with fail
          go_ret
          exact hend.out
    · rw [if_neg (by omega)] at hv
      go_wp2_with fail
      go_ret
      exact .inr ⟨hv.out, rfl, kb_g kb.out⟩
  · rw [hrd] at hv
    replace kb := Lib.hid (kb_new kb)
    go_wp2_with fail
    go_ret
    exact .inr ⟨hv.out, rfl, kb_g kb.out⟩
theorem info_exp : (Tryz.prog.info? 74).map (fun i => (i.zero, i.size, i.bytes)) = some (some (.agg #[.string ByteArray.empty, .int .i64 0, .int .i64 0]), 3, 32) := by kernel_rfl
set_option maxRecDepth 100000 in
set_option maxHeartbeats 4000000 in
theorem list_exp : MlOk 168 (.func (.func 169) #[] #[]) (rLst rExp) (M.vec M.cExp).rd := by
  intro B P g j t cur bs w h hg hcj hne hB
  obtain ⟨i0, hi0, hz0, hz1, hz2⟩ := info_parts info_exp
  have hv := Lib.hid (vec_rd M.cExp bs)
  have hPl := h.lt
  have hPlo := h.lo
  have hgl := lt_row hg
  have ha := Lib.hid (h.alloc (.cells #[.int .i64 0] 3))
  have hPg : ¬ P = g := fun e => hne e.symm
  replace hg := Lib.hid hg
  replace hcj := Lib.hid hcj
  clear h
  go_enter Tryz.func168, Tryz.ntmps168
  go_wp2_with fail
  refine (mnum_ok (.int .i64 0) B P w.heap.size 0 3 #[.int .i64 0] bs _ ha.out (heap_alloc_new w _) (one_row _) (by omega) (by omega)).mono ?_
  rintro e1 w1 (⟨y, r0, cs, hrd, rfl, p1, ⟨rfl, hy⟩, hc, fr⟩ | ⟨hrd, rfl, kb⟩)
  · have hy0 := (M.num_short hrd).1
    unfold M.inR at hy0
    obtain ⟨y0, y1⟩ := hy0
    obtain ⟨n, rfl⟩ := Int.eq_ofNat_of_zero_le y0
    rw [hrd] at hv
    simp only [Option.bind_some, Int.toNat_natCast] at hv
    have c1 : w1.cell? ⟨w.heap.size, 0, none⟩ = some (.int .i64 n) := hc 0 _ rfl
    have kb := kb_new fr.kb
    have hs1 : w.heap.size < w1.heap.size := by have := fr.kb.size; simp at this; omega
    have hg1 : w1.heap[g]? = some (.cells cur t (0, 0)) := by rw [kb.block g hgl hne]; exact hg.out
    have rel0 := Lib.hid (show LRelG rExp 74 M.cExp B P g j t n r0 w (.int .i64 ((0 : Nat) : Int)) w1 from ⟨0, r0, [], _, [], cur, by omega, rfl, p1, hg1, hcj.out, World.ownsRow_nil _ _ _ _, rfl, Fr.of_kb kb hgl hne, rfl, by cases M.rTimes M.cExp n r0 <;> rfl⟩)
    replace kb := Lib.hid kb
    clear hc fr p1 hg1 y0 y1
    by_cases h128 : n ≤ 128
    · rw [if_pos (by omega)] at hv
      go_wp2_with fail
      go_loopw [8, 17] (fun _ i w' => LRelG rExp 74 M.cExp B P g j t n r0 w i w') (fun _ i _ => n - (intOf i).toNat)
      case atStart => exact rel0.out
      case round =>
        have hrel0 := Lib.hid hrel
        obtain ⟨k, q, done, v, cs, cur2, hk, rfl, p2, hg2, hcv, own, hro, fr, hdl, hrt⟩ := hrel
        have hwr : w.heap.size ≤ wr.heap.size := fr.kb.size
        have pa := Lib.hid (p2.alloc (.cells #[.string ByteArray.empty, .int .i64 0, .int .i64 0] 74))
        clear rel0
        replace hro := Lib.hid hro
        replace hrt := Lib.hid hrt
        replace own := Lib.hid own
        replace fr := Lib.hid fr
        replace hg2 := Lib.hid hg2
        replace hcv := Lib.hid hcv
        clear p2
        by_cases hlt : k < n
        · have hwP : wr.heap.size ≠ P := by omega
          have hwB : B ≤ wr.heap.size := by omega
          cases hx : (M.cExp).rd q with
          | none =>
            have hnone := Lib.hid (show (M.vec M.cExp).rd bs = none by
              rw [hv.out, hrt.out, show n - k = (n - (k + 1)) + 1 by omega, M.rTimes, hx]; rfl)
            replace hx := Lib.hid hx
            go_wp2_with fail
            refine ((mexp_ok).no hx.out pa.out (heap_alloc_new wr _) (fun i u hu => by rw [Nat.zero_add]; simpa using hu) hwP hwB ⟨rfl, rfl, rfl, rfl⟩).mono ?_
            rintro e2 w2 ⟨rfl, kb2⟩
            have kb3 := Lib.hid (fr.out.kb.trans (kb_g (g := g) (kb_new kb2)))
            clear kb2
            go_wp2_with fail
            go_ret
            exact .inr ⟨hnone.out, rfl, kb3.out⟩
          | some xr =>
            obtain ⟨x, r2⟩ := xr
            replace hx := Lib.hid hx
            go_wp2_with fail
            refine ((mexp_ok).yes hx.out pa.out (heap_alloc_new wr _) (fun i u hu => by rw [Nat.zero_add]; simpa using hu) hwP hwB ⟨rfl, rfl, rfl, rfl⟩).mono ?_
            rintro e2 w2 ⟨rfl, p3, ⟨xs, his, hxc⟩, fr3⟩
            have hs3 : wr.heap.size < w2.heap.size := by have := fr3.kb.size; simp at this; omega
            have hlen := rExp.len his
            have hone := Lib.hid (rExp.one his)
            obtain ⟨x0, x1, x2, rfl⟩ : ∃ x0 x1 x2, xs = [x0, x1, x2] := by
              match xs, hlen with
              | [x0, x1, x2], _ => exact ⟨_, _, _, rfl⟩
            have xc0 : w2.cell? ⟨wr.heap.size, 0, none⟩ = some x0 := by simpa using hxc 0 _ rfl
            have xc1 : w2.cell? ⟨wr.heap.size, 1, none⟩ = some x1 := by simpa using hxc 1 _ rfl
            have xc2 : w2.cell? ⟨wr.heap.size, 2, none⟩ = some x2 := by simpa using hxc 2 _ rfl
            have kb3 := kb_new fr3.kb
            have hg3 : w2.heap[g]? = some (.cells cur2 t (0, 0)) := by rw [kb3.block g (by omega) hne]; exact hg2.out
            have cg : w2.cell? ⟨g, j, none⟩ = some v := (cell_row hg3 j).trans hcv.out
            have fg := frozen_row hg3 j
            have vne : ∀ b, v.ownBlock = some b → b ≠ P ∧ b ≠ g := fun b hb => by have := (own.out.lt b hb).1; omega
            have own3 := Lib.hid (show w2.ownsRow w.heap.size 74 3 v done.length cs from ownsRow_agree own.out fun b hb => kb3.block b (own.out.lt b hb).2 (vne b hb).1)
            have fin := Lib.hid (fun gg cap w5 ob hown hgr hat hlt5 => list_step (gg := gg) (cap := cap) (w5 := w5) (ob := ob) hPl hgl hne hB hlt h128 hg2.out hcv.out own.out hro.out fr.out hdl hrt.out hx.out p3 his fr3 hown hgr hat hlt5)
            have hgs : g < w2.heap.size := by omega
            have vne2 := Lib.hid (fun b hb => (vne b hb).2)
            clear vne p3 his hxc hg3 kb3 hlen
            replace fr3 := Lib.hid fr3
            go_wp2_with fail
            go_region_law (refine step_append_lies _ (by rfl) _ _ _ (by rfl) w.heap.size 74 i0 _ 3 32 Tryz.underlying28 hi0 hz0 hz1 hz2 rfl (by omega) v done.length cs (by rfl) (by first | exact own3.out.alloc _ | exact ownsRow_agree (own3.out.alloc (.cells #[x0, x1, x2] 74)) (fun _ _ => rfl)) ⟨w2.heap.size, 0, none⟩ 1 1 [x0, x1, x2] (by rfl) (by rfl) (World.news_of_block (cs := #[x0, x1, x2]) (t := 74) (fr := (0, 0)) (heap_alloc_new w2 _)) hone.out (by omega) (by unfold maxLen; omega) (by omega) (by simp; omega) (w2.heap.size + 1) (by simp) ?_; intro gg cap w5 hown5 hgrow5 hat5 hlt5; have hb5 : w5.heap[g]? = w2.heap[g]? := (hgrow5.block g (by simp; omega) (fun e => (vne2.out g e.symm) rfl)).trans (Below.heap_alloc w2 (.cells #[x0, x1, x2] 74) g hgs); have c65 : w5.cell? ⟨g, j, none⟩ = some v := (World.cell?_of_block (w := w2) hb5).trans cg; have f65 : w5.frozen? ⟨g, j, none⟩ = false := (World.frozen?_of_block (w := w2) hb5).trans fg; clear hb5)
            all_goals go_wp2_with fail
            all_goals (
              have F := fin.out gg cap w5 (.cells #[x0, x1, x2] 74) hown5 (grown_drew hgrow5) hat5 hlt5
              have e9 : ((k + 1 : Nat) : Int) = (k : Int) + 1 := by omega
              rw [e9] at F
              exact ⟨F, by simp [intOf]; omega⟩)
        · have hkn : k = n := by omega
          have tlt : decide ((k : Int) < (n : Int)) = false := by simp; omega
          have hend := Lib.hid (list_end hrel0.out hkn h128 hv.out)
          replace hkn := Lib.hid hkn
          go_wp2_with fail
          go_ret
          exact hend.out
    · rw [if_neg (by omega)] at hv
      go_wp2_with fail
      go_ret
      exact .inr ⟨hv.out, rfl, kb_g kb.out⟩
  · rw [hrd] at hv
    replace kb := Lib.hid (kb_new kb)
    go_wp2_with fail
    go_ret
    exact .inr ⟨hv.out, rfl, kb_g kb.out⟩
end Go.Proofs.YtilaheifccjjeaaGreat
namespace Go.Proofs.YtilaheifccjjeaaGreat
open Go.RowKit
theorem info_glo : (Tryz.prog.info? 70).map (fun i => (i.zero, i.size, i.bytes)) = some (some (.agg #[.int .i64 0, .bool false, .int .i64 0, .int .i64 0, .int .i64 0, .int .i64 0, .int .i64 0, .int .i64 0, .slice none 0 0, .slice none 0 0, .slice none 0 0]), 11, 136) := by kernel_rfl
set_option maxRecDepth 100000 in
set_option maxHeartbeats 4000000 in
theorem list_glo : MlOk 166 (.func (.func 167) #[] #[]) (rLst rGlo) (M.vec M.cGlo).rd := by
  intro B P g j t cur bs w h hg hcj hne hB
  obtain ⟨i0, hi0, hz0, hz1, hz2⟩ := info_parts info_glo
  have hv := Lib.hid (vec_rd M.cGlo bs)
  have hPl := h.lt
  have hPlo := h.lo
  have hgl := lt_row hg
  have ha := Lib.hid (h.alloc (.cells #[.int .i64 0] 3))
  have hPg : ¬ P = g := fun e => hne e.symm
  replace hg := Lib.hid hg
  replace hcj := Lib.hid hcj
  clear h
  go_enter Tryz.func166, Tryz.ntmps166
  go_wp2_with fail
  refine (mnum_ok (.int .i64 0) B P w.heap.size 0 3 #[.int .i64 0] bs _ ha.out (heap_alloc_new w _) (one_row _) (by omega) (by omega)).mono ?_
  rintro e1 w1 (⟨y, r0, cs, hrd, rfl, p1, ⟨rfl, hy⟩, hc, fr⟩ | ⟨hrd, rfl, kb⟩)
  · have hy0 := (M.num_short hrd).1
    unfold M.inR at hy0
    obtain ⟨y0, y1⟩ := hy0
    obtain ⟨n, rfl⟩ := Int.eq_ofNat_of_zero_le y0
    rw [hrd] at hv
    simp only [Option.bind_some, Int.toNat_natCast] at hv
    have c1 : w1.cell? ⟨w.heap.size, 0, none⟩ = some (.int .i64 n) := hc 0 _ rfl
    have kb := kb_new fr.kb
    have hs1 : w.heap.size < w1.heap.size := by have := fr.kb.size; simp at this; omega
    have hg1 : w1.heap[g]? = some (.cells cur t (0, 0)) := by rw [kb.block g hgl hne]; exact hg.out
    have rel0 := Lib.hid (show LRelG rGlo 70 M.cGlo B P g j t n r0 w (.int .i64 ((0 : Nat) : Int)) w1 from ⟨0, r0, [], _, [], cur, by omega, rfl, p1, hg1, hcj.out, World.ownsRow_nil _ _ _ _, rfl, Fr.of_kb kb hgl hne, rfl, by cases M.rTimes M.cGlo n r0 <;> rfl⟩)
    replace kb := Lib.hid kb
    clear hc fr p1 hg1 y0 y1
    by_cases h128 : n ≤ 128
    · rw [if_pos (by omega)] at hv
      go_wp2_with fail
      go_loopw [8, 17] (fun _ i w' => LRelG rGlo 70 M.cGlo B P g j t n r0 w i w') (fun _ i _ => n - (intOf i).toNat)
      case atStart => exact rel0.out
      case round =>
        have hrel0 := Lib.hid hrel
        obtain ⟨k, q, done, v, cs, cur2, hk, rfl, p2, hg2, hcv, own, hro, fr, hdl, hrt⟩ := hrel
        have hwr : w.heap.size ≤ wr.heap.size := fr.kb.size
        have pa := Lib.hid (p2.alloc (.cells #[.int .i64 0, .bool false, .int .i64 0, .int .i64 0, .int .i64 0, .int .i64 0, .int .i64 0, .int .i64 0, .slice none 0 0, .slice none 0 0, .slice none 0 0] 70))
        clear rel0
        replace hro := Lib.hid hro
        replace hrt := Lib.hid hrt
        replace own := Lib.hid own
        replace fr := Lib.hid fr
        replace hg2 := Lib.hid hg2
        replace hcv := Lib.hid hcv
        clear p2
        by_cases hlt : k < n
        · have hwP : wr.heap.size ≠ P := by omega
          have hwB : B ≤ wr.heap.size := by omega
          cases hx : (M.cGlo).rd q with
          | none =>
            have hnone := Lib.hid (show (M.vec M.cGlo).rd bs = none by
              rw [hv.out, hrt.out, show n - k = (n - (k + 1)) + 1 by omega, M.rTimes, hx]; rfl)
            replace hx := Lib.hid hx
            go_wp2_with fail
            refine ((mglo_ok).no hx.out pa.out (heap_alloc_new wr _) (fun i u hu => by rw [Nat.zero_add]; simpa using hu) hwP hwB ⟨rfl, rfl, rfl, rfl⟩).mono ?_
            rintro e2 w2 ⟨rfl, kb2⟩
            have kb3 := Lib.hid (fr.out.kb.trans (kb_g (g := g) (kb_new kb2)))
            clear kb2
            go_wp2_with fail
            go_ret
            exact .inr ⟨hnone.out, rfl, kb3.out⟩
          | some xr =>
            obtain ⟨x, r2⟩ := xr
            replace hx := Lib.hid hx
            go_wp2_with fail
            refine ((mglo_ok).yes hx.out pa.out (heap_alloc_new wr _) (fun i u hu => by rw [Nat.zero_add]; simpa using hu) hwP hwB ⟨rfl, rfl, rfl, rfl⟩).mono ?_
            rintro e2 w2 ⟨rfl, p3, ⟨xs, his, hxc⟩, fr3⟩
            have hs3 : wr.heap.size < w2.heap.size := by have := fr3.kb.size; simp at this; omega
            have hlen := rGlo.len his
            have hone := Lib.hid (rGlo.one his)
            obtain ⟨x0, x1, x2, x3, x4, x5, x6, x7, x8, x9, x10, rfl⟩ : ∃ x0 x1 x2 x3 x4 x5 x6 x7 x8 x9 x10, xs = [x0, x1, x2, x3, x4, x5, x6, x7, x8, x9, x10] := by
              match xs, hlen with
              | [x0, x1, x2, x3, x4, x5, x6, x7, x8, x9, x10], _ => exact ⟨_, _, _, _, _, _, _, _, _, _, _, rfl⟩
            have xc0 : w2.cell? ⟨wr.heap.size, 0, none⟩ = some x0 := by simpa using hxc 0 _ rfl
            have xc1 : w2.cell? ⟨wr.heap.size, 1, none⟩ = some x1 := by simpa using hxc 1 _ rfl
            have xc2 : w2.cell? ⟨wr.heap.size, 2, none⟩ = some x2 := by simpa using hxc 2 _ rfl
            have xc3 : w2.cell? ⟨wr.heap.size, 3, none⟩ = some x3 := by simpa using hxc 3 _ rfl
            have xc4 : w2.cell? ⟨wr.heap.size, 4, none⟩ = some x4 := by simpa using hxc 4 _ rfl
            have xc5 : w2.cell? ⟨wr.heap.size, 5, none⟩ = some x5 := by simpa using hxc 5 _ rfl
            have xc6 : w2.cell? ⟨wr.heap.size, 6, none⟩ = some x6 := by simpa using hxc 6 _ rfl
            have xc7 : w2.cell? ⟨wr.heap.size, 7, none⟩ = some x7 := by simpa using hxc 7 _ rfl
            have xc8 : w2.cell? ⟨wr.heap.size, 8, none⟩ = some x8 := by simpa using hxc 8 _ rfl
            have xc9 : w2.cell? ⟨wr.heap.size, 9, none⟩ = some x9 := by simpa using hxc 9 _ rfl
            have xc10 : w2.cell? ⟨wr.heap.size, 10, none⟩ = some x10 := by simpa using hxc 10 _ rfl
            have kb3 := kb_new fr3.kb
            have hg3 : w2.heap[g]? = some (.cells cur2 t (0, 0)) := by rw [kb3.block g (by omega) hne]; exact hg2.out
            have cg : w2.cell? ⟨g, j, none⟩ = some v := (cell_row hg3 j).trans hcv.out
            have fg := frozen_row hg3 j
            have vne : ∀ b, v.ownBlock = some b → b ≠ P ∧ b ≠ g := fun b hb => by have := (own.out.lt b hb).1; omega
            have own3 := Lib.hid (show w2.ownsRow w.heap.size 70 11 v done.length cs from ownsRow_agree own.out fun b hb => kb3.block b (own.out.lt b hb).2 (vne b hb).1)
            have fin := Lib.hid (fun gg cap w5 ob hown hgr hat hlt5 => list_step (gg := gg) (cap := cap) (w5 := w5) (ob := ob) hPl hgl hne hB hlt h128 hg2.out hcv.out own.out hro.out fr.out hdl hrt.out hx.out p3 his fr3 hown hgr hat hlt5)
            have hgs : g < w2.heap.size := by omega
            have vne2 := Lib.hid (fun b hb => (vne b hb).2)
            clear vne p3 his hxc hg3 kb3 hlen
            replace fr3 := Lib.hid fr3
            go_wp2_with fail
            go_region_law (refine step_append_lies _ (by rfl) _ _ _ (by rfl) w.heap.size 70 i0 _ 11 136 Tryz.underlying27 hi0 hz0 hz1 hz2 rfl (by omega) v done.length cs (by rfl) (by first | exact own3.out.alloc _ | exact ownsRow_agree (own3.out.alloc (.cells #[x0, x1, x2, x3, x4, x5, x6, x7, x8, x9, x10] 70)) (fun _ _ => rfl)) ⟨w2.heap.size, 0, none⟩ 1 1 [x0, x1, x2, x3, x4, x5, x6, x7, x8, x9, x10] (by rfl) (by rfl) (World.news_of_block (cs := #[x0, x1, x2, x3, x4, x5, x6, x7, x8, x9, x10]) (t := 70) (fr := (0, 0)) (heap_alloc_new w2 _)) hone.out (by omega) (by unfold maxLen; omega) (by omega) (by simp; omega) (w2.heap.size + 1) (by simp) ?_; intro gg cap w5 hown5 hgrow5 hat5 hlt5; have hb5 : w5.heap[g]? = w2.heap[g]? := (hgrow5.block g (by simp; omega) (fun e => (vne2.out g e.symm) rfl)).trans (Below.heap_alloc w2 (.cells #[x0, x1, x2, x3, x4, x5, x6, x7, x8, x9, x10] 70) g hgs); have c65 : w5.cell? ⟨g, j, none⟩ = some v := (World.cell?_of_block (w := w2) hb5).trans cg; have f65 : w5.frozen? ⟨g, j, none⟩ = false := (World.frozen?_of_block (w := w2) hb5).trans fg; clear hb5)
            all_goals go_wp2_with fail
            all_goals (
              have F := fin.out gg cap w5 (.cells #[x0, x1, x2, x3, x4, x5, x6, x7, x8, x9, x10] 70) hown5 (grown_drew hgrow5) hat5 hlt5
              have e9 : ((k + 1 : Nat) : Int) = (k : Int) + 1 := by omega
              rw [e9] at F
              exact ⟨F, by simp [intOf]; omega⟩)
        · have hkn : k = n := by omega
          have tlt : decide ((k : Int) < (n : Int)) = false := by simp; omega
          have hend := Lib.hid (list_end hrel0.out hkn h128 hv.out)
          replace hkn := Lib.hid hkn
          go_wp2_with fail
          go_ret
          exact hend.out
    · rw [if_neg (by omega)] at hv
      go_wp2_with fail
      go_ret
      exact .inr ⟨hv.out, rfl, kb_g kb.out⟩
  · rw [hrd] at hv
    replace kb := Lib.hid (kb_new kb)
    go_wp2_with fail
    go_ret
    exact .inr ⟨hv.out, rfl, kb_g kb.out⟩
theorem info_elm : (Tryz.prog.info? 76).map (fun i => (i.zero, i.size, i.bytes)) = some (some (.agg #[.int .i64 0, .int .i64 0, .int .i64 0, .int .i64 0, .int .i64 0, .int .i64 0, .int .i64 0, .slice none 0 0, .slice none 0 0, .slice none 0 0, .slice none 0 0]), 11, 152) := by kernel_rfl
set_option maxRecDepth 100000 in
set_option maxHeartbeats 4000000 in
theorem list_elm : MlOk 171 (.func (.func 172) #[] #[]) (rLst rElm) (M.vec M.cElm).rd := by
  intro B P g j t cur bs w h hg hcj hne hB
  obtain ⟨i0, hi0, hz0, hz1, hz2⟩ := info_parts info_elm
  have hv := Lib.hid (vec_rd M.cElm bs)
  have hPl := h.lt
  have hPlo := h.lo
  have hgl := lt_row hg
  have ha := Lib.hid (h.alloc (.cells #[.int .i64 0] 3))
  have hPg : ¬ P = g := fun e => hne e.symm
  replace hg := Lib.hid hg
  replace hcj := Lib.hid hcj
  clear h
  go_enter Tryz.func171, Tryz.ntmps171
  go_wp2_with fail
  refine (mnum_ok (.int .i64 0) B P w.heap.size 0 3 #[.int .i64 0] bs _ ha.out (heap_alloc_new w _) (one_row _) (by omega) (by omega)).mono ?_
  rintro e1 w1 (⟨y, r0, cs, hrd, rfl, p1, ⟨rfl, hy⟩, hc, fr⟩ | ⟨hrd, rfl, kb⟩)
  · have hy0 := (M.num_short hrd).1
    unfold M.inR at hy0
    obtain ⟨y0, y1⟩ := hy0
    obtain ⟨n, rfl⟩ := Int.eq_ofNat_of_zero_le y0
    rw [hrd] at hv
    simp only [Option.bind_some, Int.toNat_natCast] at hv
    have c1 : w1.cell? ⟨w.heap.size, 0, none⟩ = some (.int .i64 n) := hc 0 _ rfl
    have kb := kb_new fr.kb
    have hs1 : w.heap.size < w1.heap.size := by have := fr.kb.size; simp at this; omega
    have hg1 : w1.heap[g]? = some (.cells cur t (0, 0)) := by rw [kb.block g hgl hne]; exact hg.out
    have rel0 := Lib.hid (show LRelG rElm 76 M.cElm B P g j t n r0 w (.int .i64 ((0 : Nat) : Int)) w1 from ⟨0, r0, [], _, [], cur, by omega, rfl, p1, hg1, hcj.out, World.ownsRow_nil _ _ _ _, rfl, Fr.of_kb kb hgl hne, rfl, by cases M.rTimes M.cElm n r0 <;> rfl⟩)
    replace kb := Lib.hid kb
    clear hc fr p1 hg1 y0 y1
    by_cases h128 : n ≤ 128
    · rw [if_pos (by omega)] at hv
      go_wp2_with fail
      go_loopw [8, 17] (fun _ i w' => LRelG rElm 76 M.cElm B P g j t n r0 w i w') (fun _ i _ => n - (intOf i).toNat)
      case atStart => exact rel0.out
      case round =>
        have hrel0 := Lib.hid hrel
        obtain ⟨k, q, done, v, cs, cur2, hk, rfl, p2, hg2, hcv, own, hro, fr, hdl, hrt⟩ := hrel
        have hwr : w.heap.size ≤ wr.heap.size := fr.kb.size
        have pa := Lib.hid (p2.alloc (.cells #[.int .i64 0, .int .i64 0, .int .i64 0, .int .i64 0, .int .i64 0, .int .i64 0, .int .i64 0, .slice none 0 0, .slice none 0 0, .slice none 0 0, .slice none 0 0] 76))
        clear rel0
        replace hro := Lib.hid hro
        replace hrt := Lib.hid hrt
        replace own := Lib.hid own
        replace fr := Lib.hid fr
        replace hg2 := Lib.hid hg2
        replace hcv := Lib.hid hcv
        clear p2
        by_cases hlt : k < n
        · have hwP : wr.heap.size ≠ P := by omega
          have hwB : B ≤ wr.heap.size := by omega
          cases hx : (M.cElm).rd q with
          | none =>
            have hnone := Lib.hid (show (M.vec M.cElm).rd bs = none by
              rw [hv.out, hrt.out, show n - k = (n - (k + 1)) + 1 by omega, M.rTimes, hx]; rfl)
            replace hx := Lib.hid hx
            go_wp2_with fail
            refine ((melm_ok).no hx.out pa.out (heap_alloc_new wr _) (fun i u hu => by rw [Nat.zero_add]; simpa using hu) hwP hwB ⟨rfl, rfl, rfl, rfl⟩).mono ?_
            rintro e2 w2 ⟨rfl, kb2⟩
            have kb3 := Lib.hid (fr.out.kb.trans (kb_g (g := g) (kb_new kb2)))
            clear kb2
            go_wp2_with fail
            go_ret
            exact .inr ⟨hnone.out, rfl, kb3.out⟩
          | some xr =>
            obtain ⟨x, r2⟩ := xr
            replace hx := Lib.hid hx
            go_wp2_with fail
            refine ((melm_ok).yes hx.out pa.out (heap_alloc_new wr _) (fun i u hu => by rw [Nat.zero_add]; simpa using hu) hwP hwB ⟨rfl, rfl, rfl, rfl⟩).mono ?_
            rintro e2 w2 ⟨rfl, p3, ⟨xs, his, hxc⟩, fr3⟩
            have hs3 : wr.heap.size < w2.heap.size := by have := fr3.kb.size; simp at this; omega
            have hlen := rElm.len his
            have hone := Lib.hid (rElm.one his)
            obtain ⟨x0, x1, x2, x3, x4, x5, x6, x7, x8, x9, x10, rfl⟩ : ∃ x0 x1 x2 x3 x4 x5 x6 x7 x8 x9 x10, xs = [x0, x1, x2, x3, x4, x5, x6, x7, x8, x9, x10] := by
              match xs, hlen with
              | [x0, x1, x2, x3, x4, x5, x6, x7, x8, x9, x10], _ => exact ⟨_, _, _, _, _, _, _, _, _, _, _, rfl⟩
            have xc0 : w2.cell? ⟨wr.heap.size, 0, none⟩ = some x0 := by simpa using hxc 0 _ rfl
            have xc1 : w2.cell? ⟨wr.heap.size, 1, none⟩ = some x1 := by simpa using hxc 1 _ rfl
            have xc2 : w2.cell? ⟨wr.heap.size, 2, none⟩ = some x2 := by simpa using hxc 2 _ rfl
            have xc3 : w2.cell? ⟨wr.heap.size, 3, none⟩ = some x3 := by simpa using hxc 3 _ rfl
            have xc4 : w2.cell? ⟨wr.heap.size, 4, none⟩ = some x4 := by simpa using hxc 4 _ rfl
            have xc5 : w2.cell? ⟨wr.heap.size, 5, none⟩ = some x5 := by simpa using hxc 5 _ rfl
            have xc6 : w2.cell? ⟨wr.heap.size, 6, none⟩ = some x6 := by simpa using hxc 6 _ rfl
            have xc7 : w2.cell? ⟨wr.heap.size, 7, none⟩ = some x7 := by simpa using hxc 7 _ rfl
            have xc8 : w2.cell? ⟨wr.heap.size, 8, none⟩ = some x8 := by simpa using hxc 8 _ rfl
            have xc9 : w2.cell? ⟨wr.heap.size, 9, none⟩ = some x9 := by simpa using hxc 9 _ rfl
            have xc10 : w2.cell? ⟨wr.heap.size, 10, none⟩ = some x10 := by simpa using hxc 10 _ rfl
            have kb3 := kb_new fr3.kb
            have hg3 : w2.heap[g]? = some (.cells cur2 t (0, 0)) := by rw [kb3.block g (by omega) hne]; exact hg2.out
            have cg : w2.cell? ⟨g, j, none⟩ = some v := (cell_row hg3 j).trans hcv.out
            have fg := frozen_row hg3 j
            have vne : ∀ b, v.ownBlock = some b → b ≠ P ∧ b ≠ g := fun b hb => by have := (own.out.lt b hb).1; omega
            have own3 := Lib.hid (show w2.ownsRow w.heap.size 76 11 v done.length cs from ownsRow_agree own.out fun b hb => kb3.block b (own.out.lt b hb).2 (vne b hb).1)
            have fin := Lib.hid (fun gg cap w5 ob hown hgr hat hlt5 => list_step (gg := gg) (cap := cap) (w5 := w5) (ob := ob) hPl hgl hne hB hlt h128 hg2.out hcv.out own.out hro.out fr.out hdl hrt.out hx.out p3 his fr3 hown hgr hat hlt5)
            have hgs : g < w2.heap.size := by omega
            have vne2 := Lib.hid (fun b hb => (vne b hb).2)
            clear vne p3 his hxc hg3 kb3 hlen
            replace fr3 := Lib.hid fr3
            go_wp2_with fail
            go_region_law (refine step_append_lies _ (by rfl) _ _ _ (by rfl) w.heap.size 76 i0 _ 11 152 Tryz.underlying29 hi0 hz0 hz1 hz2 rfl (by omega) v done.length cs (by rfl) (by first | exact own3.out.alloc _ | exact ownsRow_agree (own3.out.alloc (.cells #[x0, x1, x2, x3, x4, x5, x6, x7, x8, x9, x10] 76)) (fun _ _ => rfl)) ⟨w2.heap.size, 0, none⟩ 1 1 [x0, x1, x2, x3, x4, x5, x6, x7, x8, x9, x10] (by rfl) (by rfl) (World.news_of_block (cs := #[x0, x1, x2, x3, x4, x5, x6, x7, x8, x9, x10]) (t := 76) (fr := (0, 0)) (heap_alloc_new w2 _)) hone.out (by omega) (by unfold maxLen; omega) (by omega) (by simp; omega) (w2.heap.size + 1) (by simp) ?_; intro gg cap w5 hown5 hgrow5 hat5 hlt5; have hb5 : w5.heap[g]? = w2.heap[g]? := (hgrow5.block g (by simp; omega) (fun e => (vne2.out g e.symm) rfl)).trans (Below.heap_alloc w2 (.cells #[x0, x1, x2, x3, x4, x5, x6, x7, x8, x9, x10] 76) g hgs); have c65 : w5.cell? ⟨g, j, none⟩ = some v := (World.cell?_of_block (w := w2) hb5).trans cg; have f65 : w5.frozen? ⟨g, j, none⟩ = false := (World.frozen?_of_block (w := w2) hb5).trans fg; clear hb5)
            all_goals go_wp2_with fail
            all_goals (
              have F := fin.out gg cap w5 (.cells #[x0, x1, x2, x3, x4, x5, x6, x7, x8, x9, x10] 76) hown5 (grown_drew hgrow5) hat5 hlt5
              have e9 : ((k + 1 : Nat) : Int) = (k : Int) + 1 := by omega
              rw [e9] at F
              exact ⟨F, by simp [intOf]; omega⟩)
        · have hkn : k = n := by omega
          have tlt : decide ((k : Int) < (n : Int)) = false := by simp; omega
          have hend := Lib.hid (list_end hrel0.out hkn h128 hv.out)
          replace hkn := Lib.hid hkn
          go_wp2_with fail
          go_ret
          exact hend.out
    · rw [if_neg (by omega)] at hv
      go_wp2_with fail
      go_ret
      exact .inr ⟨hv.out, rfl, kb_g kb.out⟩
  · rw [hrd] at hv
    replace kb := Lib.hid (kb_new kb)
    go_wp2_with fail
    go_ret
    exact .inr ⟨hv.out, rfl, kb_g kb.out⟩
theorem info_dat : (Tryz.prog.info? 78).map (fun i => (i.zero, i.size, i.bytes)) = some (some (.agg #[.int .i64 0, .int .i64 0, .int .i64 0, .int .i64 0, .int .i64 0, .int .i64 0, .int .i64 0, .slice none 0 0, .slice none 0 0, .slice none 0 0, .slice none 0 0]), 11, 152) := by kernel_rfl
set_option maxRecDepth 100000 in
set_option maxHeartbeats 4000000 in
theorem list_dat : MlOk 174 (.func (.func 175) #[] #[]) (rLst rDat) (M.vec M.cDat).rd := by
  intro B P g j t cur bs w h hg hcj hne hB
  obtain ⟨i0, hi0, hz0, hz1, hz2⟩ := info_parts info_dat
  have hv := Lib.hid (vec_rd M.cDat bs)
  have hPl := h.lt
  have hPlo := h.lo
  have hgl := lt_row hg
  have ha := Lib.hid (h.alloc (.cells #[.int .i64 0] 3))
  have hPg : ¬ P = g := fun e => hne e.symm
  replace hg := Lib.hid hg
  replace hcj := Lib.hid hcj
  clear h
  go_enter Tryz.func174, Tryz.ntmps174
  go_wp2_with fail
  refine (mnum_ok (.int .i64 0) B P w.heap.size 0 3 #[.int .i64 0] bs _ ha.out (heap_alloc_new w _) (one_row _) (by omega) (by omega)).mono ?_
  rintro e1 w1 (⟨y, r0, cs, hrd, rfl, p1, ⟨rfl, hy⟩, hc, fr⟩ | ⟨hrd, rfl, kb⟩)
  · have hy0 := (M.num_short hrd).1
    unfold M.inR at hy0
    obtain ⟨y0, y1⟩ := hy0
    obtain ⟨n, rfl⟩ := Int.eq_ofNat_of_zero_le y0
    rw [hrd] at hv
    simp only [Option.bind_some, Int.toNat_natCast] at hv
    have c1 : w1.cell? ⟨w.heap.size, 0, none⟩ = some (.int .i64 n) := hc 0 _ rfl
    have kb := kb_new fr.kb
    have hs1 : w.heap.size < w1.heap.size := by have := fr.kb.size; simp at this; omega
    have hg1 : w1.heap[g]? = some (.cells cur t (0, 0)) := by rw [kb.block g hgl hne]; exact hg.out
    have rel0 := Lib.hid (show LRelG rDat 78 M.cDat B P g j t n r0 w (.int .i64 ((0 : Nat) : Int)) w1 from ⟨0, r0, [], _, [], cur, by omega, rfl, p1, hg1, hcj.out, World.ownsRow_nil _ _ _ _, rfl, Fr.of_kb kb hgl hne, rfl, by cases M.rTimes M.cDat n r0 <;> rfl⟩)
    replace kb := Lib.hid kb
    clear hc fr p1 hg1 y0 y1
    by_cases h128 : n ≤ 128
    · rw [if_pos (by omega)] at hv
      go_wp2_with fail
      go_loopw [8, 17] (fun _ i w' => LRelG rDat 78 M.cDat B P g j t n r0 w i w') (fun _ i _ => n - (intOf i).toNat)
      case atStart => exact rel0.out
      case round =>
        have hrel0 := Lib.hid hrel
        obtain ⟨k, q, done, v, cs, cur2, hk, rfl, p2, hg2, hcv, own, hro, fr, hdl, hrt⟩ := hrel
        have hwr : w.heap.size ≤ wr.heap.size := fr.kb.size
        have pa := Lib.hid (p2.alloc (.cells #[.int .i64 0, .int .i64 0, .int .i64 0, .int .i64 0, .int .i64 0, .int .i64 0, .int .i64 0, .slice none 0 0, .slice none 0 0, .slice none 0 0, .slice none 0 0] 78))
        clear rel0
        replace hro := Lib.hid hro
        replace hrt := Lib.hid hrt
        replace own := Lib.hid own
        replace fr := Lib.hid fr
        replace hg2 := Lib.hid hg2
        replace hcv := Lib.hid hcv
        clear p2
        by_cases hlt : k < n
        · have hwP : wr.heap.size ≠ P := by omega
          have hwB : B ≤ wr.heap.size := by omega
          cases hx : (M.cDat).rd q with
          | none =>
            have hnone := Lib.hid (show (M.vec M.cDat).rd bs = none by
              rw [hv.out, hrt.out, show n - k = (n - (k + 1)) + 1 by omega, M.rTimes, hx]; rfl)
            replace hx := Lib.hid hx
            go_wp2_with fail
            refine ((mdat_ok).no hx.out pa.out (heap_alloc_new wr _) (fun i u hu => by rw [Nat.zero_add]; simpa using hu) hwP hwB ⟨rfl, rfl, rfl, rfl⟩).mono ?_
            rintro e2 w2 ⟨rfl, kb2⟩
            have kb3 := Lib.hid (fr.out.kb.trans (kb_g (g := g) (kb_new kb2)))
            clear kb2
            go_wp2_with fail
            go_ret
            exact .inr ⟨hnone.out, rfl, kb3.out⟩
          | some xr =>
            obtain ⟨x, r2⟩ := xr
            replace hx := Lib.hid hx
            go_wp2_with fail
            refine ((mdat_ok).yes hx.out pa.out (heap_alloc_new wr _) (fun i u hu => by rw [Nat.zero_add]; simpa using hu) hwP hwB ⟨rfl, rfl, rfl, rfl⟩).mono ?_
            rintro e2 w2 ⟨rfl, p3, ⟨xs, his, hxc⟩, fr3⟩
            have hs3 : wr.heap.size < w2.heap.size := by have := fr3.kb.size; simp at this; omega
            have hlen := rDat.len his
            have hone := Lib.hid (rDat.one his)
            obtain ⟨x0, x1, x2, x3, x4, x5, x6, x7, x8, x9, x10, rfl⟩ : ∃ x0 x1 x2 x3 x4 x5 x6 x7 x8 x9 x10, xs = [x0, x1, x2, x3, x4, x5, x6, x7, x8, x9, x10] := by
              match xs, hlen with
              | [x0, x1, x2, x3, x4, x5, x6, x7, x8, x9, x10], _ => exact ⟨_, _, _, _, _, _, _, _, _, _, _, rfl⟩
            have xc0 : w2.cell? ⟨wr.heap.size, 0, none⟩ = some x0 := by simpa using hxc 0 _ rfl
            have xc1 : w2.cell? ⟨wr.heap.size, 1, none⟩ = some x1 := by simpa using hxc 1 _ rfl
            have xc2 : w2.cell? ⟨wr.heap.size, 2, none⟩ = some x2 := by simpa using hxc 2 _ rfl
            have xc3 : w2.cell? ⟨wr.heap.size, 3, none⟩ = some x3 := by simpa using hxc 3 _ rfl
            have xc4 : w2.cell? ⟨wr.heap.size, 4, none⟩ = some x4 := by simpa using hxc 4 _ rfl
            have xc5 : w2.cell? ⟨wr.heap.size, 5, none⟩ = some x5 := by simpa using hxc 5 _ rfl
            have xc6 : w2.cell? ⟨wr.heap.size, 6, none⟩ = some x6 := by simpa using hxc 6 _ rfl
            have xc7 : w2.cell? ⟨wr.heap.size, 7, none⟩ = some x7 := by simpa using hxc 7 _ rfl
            have xc8 : w2.cell? ⟨wr.heap.size, 8, none⟩ = some x8 := by simpa using hxc 8 _ rfl
            have xc9 : w2.cell? ⟨wr.heap.size, 9, none⟩ = some x9 := by simpa using hxc 9 _ rfl
            have xc10 : w2.cell? ⟨wr.heap.size, 10, none⟩ = some x10 := by simpa using hxc 10 _ rfl
            have kb3 := kb_new fr3.kb
            have hg3 : w2.heap[g]? = some (.cells cur2 t (0, 0)) := by rw [kb3.block g (by omega) hne]; exact hg2.out
            have cg : w2.cell? ⟨g, j, none⟩ = some v := (cell_row hg3 j).trans hcv.out
            have fg := frozen_row hg3 j
            have vne : ∀ b, v.ownBlock = some b → b ≠ P ∧ b ≠ g := fun b hb => by have := (own.out.lt b hb).1; omega
            have own3 := Lib.hid (show w2.ownsRow w.heap.size 78 11 v done.length cs from ownsRow_agree own.out fun b hb => kb3.block b (own.out.lt b hb).2 (vne b hb).1)
            have fin := Lib.hid (fun gg cap w5 ob hown hgr hat hlt5 => list_step (gg := gg) (cap := cap) (w5 := w5) (ob := ob) hPl hgl hne hB hlt h128 hg2.out hcv.out own.out hro.out fr.out hdl hrt.out hx.out p3 his fr3 hown hgr hat hlt5)
            have hgs : g < w2.heap.size := by omega
            have vne2 := Lib.hid (fun b hb => (vne b hb).2)
            clear vne p3 his hxc hg3 kb3 hlen
            replace fr3 := Lib.hid fr3
            go_wp2_with fail
            go_region_law (refine step_append_lies _ (by rfl) _ _ _ (by rfl) w.heap.size 78 i0 _ 11 152 Tryz.underlying30 hi0 hz0 hz1 hz2 rfl (by omega) v done.length cs (by rfl) (by first | exact own3.out.alloc _ | exact ownsRow_agree (own3.out.alloc (.cells #[x0, x1, x2, x3, x4, x5, x6, x7, x8, x9, x10] 78)) (fun _ _ => rfl)) ⟨w2.heap.size, 0, none⟩ 1 1 [x0, x1, x2, x3, x4, x5, x6, x7, x8, x9, x10] (by rfl) (by rfl) (World.news_of_block (cs := #[x0, x1, x2, x3, x4, x5, x6, x7, x8, x9, x10]) (t := 78) (fr := (0, 0)) (heap_alloc_new w2 _)) hone.out (by omega) (by unfold maxLen; omega) (by omega) (by simp; omega) (w2.heap.size + 1) (by simp) ?_; intro gg cap w5 hown5 hgrow5 hat5 hlt5; have hb5 : w5.heap[g]? = w2.heap[g]? := (hgrow5.block g (by simp; omega) (fun e => (vne2.out g e.symm) rfl)).trans (Below.heap_alloc w2 (.cells #[x0, x1, x2, x3, x4, x5, x6, x7, x8, x9, x10] 78) g hgs); have c65 : w5.cell? ⟨g, j, none⟩ = some v := (World.cell?_of_block (w := w2) hb5).trans cg; have f65 : w5.frozen? ⟨g, j, none⟩ = false := (World.frozen?_of_block (w := w2) hb5).trans fg; clear hb5)
            all_goals go_wp2_with fail
            all_goals (
              have F := fin.out gg cap w5 (.cells #[x0, x1, x2, x3, x4, x5, x6, x7, x8, x9, x10] 78) hown5 (grown_drew hgrow5) hat5 hlt5
              have e9 : ((k + 1 : Nat) : Int) = (k : Int) + 1 := by omega
              rw [e9] at F
              exact ⟨F, by simp [intOf]; omega⟩)
        · have hkn : k = n := by omega
          have tlt : decide ((k : Int) < (n : Int)) = false := by simp; omega
          have hend := Lib.hid (list_end hrel0.out hkn h128 hv.out)
          replace hkn := Lib.hid hkn
          go_wp2_with fail
          go_ret
          exact hend.out
    · rw [if_neg (by omega)] at hv
      go_wp2_with fail
      go_ret
      exact .inr ⟨hv.out, rfl, kb_g kb.out⟩
  · rw [hrd] at hv
    replace kb := Lib.hid (kb_new kb)
    go_wp2_with fail
    go_ret
    exact .inr ⟨hv.out, rfl, kb_g kb.out⟩
end Go.Proofs.YtilaheifccjjeaaGreat
namespace Go.Proofs.YtilaheifccjjeaaGreat
open Go.RowKit
theorem info_imp : (Tryz.prog.info? 60).map (fun i => (i.zero, i.size, i.bytes)) = some (some (.agg #[.string ByteArray.empty, .string ByteArray.empty, .int .i64 0, .int .i64 0, .bool false, .int .i64 0, .int .i64 0]), 7, 72) := by kernel_rfl
set_option maxRecDepth 100000 in
set_option maxHeartbeats 4000000 in
theorem list_imp : MlOk 159 (.func (.func 160) #[] #[]) (rLst rImp) (M.vec M.cImp).rd := by
  intro B P g j t cur bs w h hg hcj hne hB
  obtain ⟨i0, hi0, hz0, hz1, hz2⟩ := info_parts info_imp
  have hv := Lib.hid (vec_rd M.cImp bs)
  have hPl := h.lt
  have hPlo := h.lo
  have hgl := lt_row hg
  have ha := Lib.hid (h.alloc (.cells #[.int .i64 0] 3))
  have hPg : ¬ P = g := fun e => hne e.symm
  replace hg := Lib.hid hg
  replace hcj := Lib.hid hcj
  clear h
  go_enter Tryz.func159, Tryz.ntmps159
  go_wp2_with fail
  refine (mnum_ok (.int .i64 0) B P w.heap.size 0 3 #[.int .i64 0] bs _ ha.out (heap_alloc_new w _) (one_row _) (by omega) (by omega)).mono ?_
  rintro e1 w1 (⟨y, r0, cs, hrd, rfl, p1, ⟨rfl, hy⟩, hc, fr⟩ | ⟨hrd, rfl, kb⟩)
  · have hy0 := (M.num_short hrd).1
    unfold M.inR at hy0
    obtain ⟨y0, y1⟩ := hy0
    obtain ⟨n, rfl⟩ := Int.eq_ofNat_of_zero_le y0
    rw [hrd] at hv
    simp only [Option.bind_some, Int.toNat_natCast] at hv
    have c1 : w1.cell? ⟨w.heap.size, 0, none⟩ = some (.int .i64 n) := hc 0 _ rfl
    have kb := kb_new fr.kb
    have hs1 : w.heap.size < w1.heap.size := by have := fr.kb.size; simp at this; omega
    have hg1 : w1.heap[g]? = some (.cells cur t (0, 0)) := by rw [kb.block g hgl hne]; exact hg.out
    have rel0 := Lib.hid (show LRelG rImp 60 M.cImp B P g j t n r0 w (.int .i64 ((0 : Nat) : Int)) w1 from ⟨0, r0, [], _, [], cur, by omega, rfl, p1, hg1, hcj.out, World.ownsRow_nil _ _ _ _, rfl, Fr.of_kb kb hgl hne, rfl, by cases M.rTimes M.cImp n r0 <;> rfl⟩)
    replace kb := Lib.hid kb
    clear hc fr p1 hg1 y0 y1
    by_cases h128 : n ≤ 128
    · rw [if_pos (by omega)] at hv
      go_wp2_with fail
      go_loopw [8, 17] (fun _ i w' => LRelG rImp 60 M.cImp B P g j t n r0 w i w') (fun _ i _ => n - (intOf i).toNat)
      case atStart => exact rel0.out
      case round =>
        have hrel0 := Lib.hid hrel
        obtain ⟨k, q, done, v, cs, cur2, hk, rfl, p2, hg2, hcv, own, hro, fr, hdl, hrt⟩ := hrel
        have hwr : w.heap.size ≤ wr.heap.size := fr.kb.size
        have pa := Lib.hid (p2.alloc (.cells #[.string ByteArray.empty, .string ByteArray.empty, .int .i64 0, .int .i64 0, .bool false, .int .i64 0, .int .i64 0] 60))
        clear rel0
        replace hro := Lib.hid hro
        replace hrt := Lib.hid hrt
        replace own := Lib.hid own
        replace fr := Lib.hid fr
        replace hg2 := Lib.hid hg2
        replace hcv := Lib.hid hcv
        clear p2
        by_cases hlt : k < n
        · have hwP : wr.heap.size ≠ P := by omega
          have hwB : B ≤ wr.heap.size := by omega
          cases hx : (M.cImp).rd q with
          | none =>
            have hnone := Lib.hid (show (M.vec M.cImp).rd bs = none by
              rw [hv.out, hrt.out, show n - k = (n - (k + 1)) + 1 by omega, M.rTimes, hx]; rfl)
            replace hx := Lib.hid hx
            go_wp2_with fail
            refine ((mimp_ok).no hx.out pa.out (heap_alloc_new wr _) (fun i u hu => by rw [Nat.zero_add]; simpa using hu) hwP hwB ⟨rfl, rfl, rfl, rfl⟩).mono ?_
            rintro e2 w2 ⟨rfl, kb2⟩
            have kb3 := Lib.hid (fr.out.kb.trans (kb_g (g := g) (kb_new kb2)))
            clear kb2
            go_wp2_with fail
            go_ret
            exact .inr ⟨hnone.out, rfl, kb3.out⟩
          | some xr =>
            obtain ⟨x, r2⟩ := xr
            replace hx := Lib.hid hx
            go_wp2_with fail
            refine ((mimp_ok).yes hx.out pa.out (heap_alloc_new wr _) (fun i u hu => by rw [Nat.zero_add]; simpa using hu) hwP hwB ⟨rfl, rfl, rfl, rfl⟩).mono ?_
            rintro e2 w2 ⟨rfl, p3, ⟨xs, his, hxc⟩, fr3⟩
            have hs3 : wr.heap.size < w2.heap.size := by have := fr3.kb.size; simp at this; omega
            have hlen := rImp.len his
            have hone := Lib.hid (rImp.one his)
            obtain ⟨x0, x1, x2, x3, x4, x5, x6, rfl⟩ : ∃ x0 x1 x2 x3 x4 x5 x6, xs = [x0, x1, x2, x3, x4, x5, x6] := by
              match xs, hlen with
              | [x0, x1, x2, x3, x4, x5, x6], _ => exact ⟨_, _, _, _, _, _, _, rfl⟩
            have xc0 : w2.cell? ⟨wr.heap.size, 0, none⟩ = some x0 := by simpa using hxc 0 _ rfl
            have xc1 : w2.cell? ⟨wr.heap.size, 1, none⟩ = some x1 := by simpa using hxc 1 _ rfl
            have xc2 : w2.cell? ⟨wr.heap.size, 2, none⟩ = some x2 := by simpa using hxc 2 _ rfl
            have xc3 : w2.cell? ⟨wr.heap.size, 3, none⟩ = some x3 := by simpa using hxc 3 _ rfl
            have xc4 : w2.cell? ⟨wr.heap.size, 4, none⟩ = some x4 := by simpa using hxc 4 _ rfl
            have xc5 : w2.cell? ⟨wr.heap.size, 5, none⟩ = some x5 := by simpa using hxc 5 _ rfl
            have xc6 : w2.cell? ⟨wr.heap.size, 6, none⟩ = some x6 := by simpa using hxc 6 _ rfl
            have kb3 := kb_new fr3.kb
            have hg3 : w2.heap[g]? = some (.cells cur2 t (0, 0)) := by rw [kb3.block g (by omega) hne]; exact hg2.out
            have cg : w2.cell? ⟨g, j, none⟩ = some v := (cell_row hg3 j).trans hcv.out
            have fg := frozen_row hg3 j
            have vne : ∀ b, v.ownBlock = some b → b ≠ P ∧ b ≠ g := fun b hb => by have := (own.out.lt b hb).1; omega
            have own3 := Lib.hid (show w2.ownsRow w.heap.size 60 7 v done.length cs from ownsRow_agree own.out fun b hb => kb3.block b (own.out.lt b hb).2 (vne b hb).1)
            have fin := Lib.hid (fun gg cap w5 ob hown hgr hat hlt5 => list_step (gg := gg) (cap := cap) (w5 := w5) (ob := ob) hPl hgl hne hB hlt h128 hg2.out hcv.out own.out hro.out fr.out hdl hrt.out hx.out p3 his fr3 hown hgr hat hlt5)
            have hgs : g < w2.heap.size := by omega
            have vne2 := Lib.hid (fun b hb => (vne b hb).2)
            clear vne p3 his hxc hg3 kb3 hlen
            replace fr3 := Lib.hid fr3
            go_wp2_with fail
            go_region_law (refine step_append_lies _ (by rfl) _ _ _ (by rfl) w.heap.size 60 i0 _ 7 72 Tryz.underlying24 hi0 hz0 hz1 hz2 rfl (by omega) v done.length cs (by rfl) (by first | exact own3.out.alloc _ | exact ownsRow_agree (own3.out.alloc (.cells #[x0, x1, x2, x3, x4, x5, x6] 60)) (fun _ _ => rfl)) ⟨w2.heap.size, 0, none⟩ 1 1 [x0, x1, x2, x3, x4, x5, x6] (by rfl) (by rfl) (World.news_of_block (cs := #[x0, x1, x2, x3, x4, x5, x6]) (t := 60) (fr := (0, 0)) (heap_alloc_new w2 _)) hone.out (by omega) (by unfold maxLen; omega) (by omega) (by simp; omega) (w2.heap.size + 1) (by simp) ?_; intro gg cap w5 hown5 hgrow5 hat5 hlt5; have hb5 : w5.heap[g]? = w2.heap[g]? := (hgrow5.block g (by simp; omega) (fun e => (vne2.out g e.symm) rfl)).trans (Below.heap_alloc w2 (.cells #[x0, x1, x2, x3, x4, x5, x6] 60) g hgs); have c65 : w5.cell? ⟨g, j, none⟩ = some v := (World.cell?_of_block (w := w2) hb5).trans cg; have f65 : w5.frozen? ⟨g, j, none⟩ = false := (World.frozen?_of_block (w := w2) hb5).trans fg; clear hb5)
            all_goals go_wp2_with fail
            all_goals (
              have F := fin.out gg cap w5 (.cells #[x0, x1, x2, x3, x4, x5, x6] 60) hown5 (grown_drew hgrow5) hat5 hlt5
              have e9 : ((k + 1 : Nat) : Int) = (k : Int) + 1 := by omega
              rw [e9] at F
              exact ⟨F, by simp [intOf]; omega⟩)
        · have hkn : k = n := by omega
          have tlt : decide ((k : Int) < (n : Int)) = false := by simp; omega
          have hend := Lib.hid (list_end hrel0.out hkn h128 hv.out)
          replace hkn := Lib.hid hkn
          go_wp2_with fail
          go_ret
          exact hend.out
    · rw [if_neg (by omega)] at hv
      go_wp2_with fail
      go_ret
      exact .inr ⟨hv.out, rfl, kb_g kb.out⟩
  · rw [hrd] at hv
    replace kb := Lib.hid (kb_new kb)
    go_wp2_with fail
    go_ret
    exact .inr ⟨hv.out, rfl, kb_g kb.out⟩
end Go.Proofs.YtilaheifccjjeaaGreat
namespace Go.Proofs.YtilaheifccjjeaaGreat
open Go.RowKit
theorem info_body : (Tryz.prog.info? 64).map (fun i => (i.zero, i.size, i.bytes)) = some (some (.agg #[.int .i64 0, .slice none 0 0, .slice none 0 0]), 3, 56) := by kernel_rfl
set_option maxRecDepth 100000 in
set_option maxHeartbeats 4000000 in
theorem list_body : MlOk 161 (.func (.func 173) #[] #[]) (rLst rFn) (M.vec M.cFnB).rd := by
  intro B P g j t cur bs w h hg hcj hne hB
  obtain ⟨i0, hi0, hz0, hz1, hz2⟩ := info_parts info_body
  have hv := Lib.hid (vec_rd M.cFnB bs)
  have hPl := h.lt
  have hPlo := h.lo
  have hgl := lt_row hg
  have ha := Lib.hid (h.alloc (.cells #[.int .i64 0] 3))
  have hPg : ¬ P = g := fun e => hne e.symm
  replace hg := Lib.hid hg
  replace hcj := Lib.hid hcj
  clear h
  go_enter Tryz.func161, Tryz.ntmps161
  go_wp2_with fail
  refine (mnum_ok (.int .i64 0) B P w.heap.size 0 3 #[.int .i64 0] bs _ ha.out (heap_alloc_new w _) (one_row _) (by omega) (by omega)).mono ?_
  rintro e1 w1 (⟨y, r0, cs, hrd, rfl, p1, ⟨rfl, hy⟩, hc, fr⟩ | ⟨hrd, rfl, kb⟩)
  · have hy0 := (M.num_short hrd).1
    unfold M.inR at hy0
    obtain ⟨y0, y1⟩ := hy0
    obtain ⟨n, rfl⟩ := Int.eq_ofNat_of_zero_le y0
    rw [hrd] at hv
    simp only [Option.bind_some, Int.toNat_natCast] at hv
    have c1 : w1.cell? ⟨w.heap.size, 0, none⟩ = some (.int .i64 n) := hc 0 _ rfl
    have kb := kb_new fr.kb
    have hs1 : w.heap.size < w1.heap.size := by have := fr.kb.size; simp at this; omega
    have hg1 : w1.heap[g]? = some (.cells cur t (0, 0)) := by rw [kb.block g hgl hne]; exact hg.out
    have rel0 := Lib.hid (show LRelG rFn 64 M.cFnB B P g j t n r0 w (.int .i64 ((0 : Nat) : Int)) w1 from ⟨0, r0, [], _, [], cur, by omega, rfl, p1, hg1, hcj.out, World.ownsRow_nil _ _ _ _, rfl, Fr.of_kb kb hgl hne, rfl, by cases M.rTimes M.cFnB n r0 <;> rfl⟩)
    replace kb := Lib.hid kb
    clear hc fr p1 hg1 y0 y1
    by_cases h128 : n ≤ 128
    · rw [if_pos (by omega)] at hv
      go_wp2_with fail
      go_loopw [8, 17] (fun _ i w' => LRelG rFn 64 M.cFnB B P g j t n r0 w i w') (fun _ i _ => n - (intOf i).toNat)
      case atStart => exact rel0.out
      case round =>
        have hrel0 := Lib.hid hrel
        obtain ⟨k, q, done, v, cs, cur2, hk, rfl, p2, hg2, hcv, own, hro, fr, hdl, hrt⟩ := hrel
        have hwr : w.heap.size ≤ wr.heap.size := fr.kb.size
        have pa := Lib.hid (p2.alloc (.cells #[.int .i64 0, .slice none 0 0, .slice none 0 0] 64))
        clear rel0
        replace hro := Lib.hid hro
        replace hrt := Lib.hid hrt
        replace own := Lib.hid own
        replace fr := Lib.hid fr
        replace hg2 := Lib.hid hg2
        replace hcv := Lib.hid hcv
        clear p2
        by_cases hlt : k < n
        · have hwP : wr.heap.size ≠ P := by omega
          have hwB : B ≤ wr.heap.size := by omega
          cases hx : (M.cFnB).rd q with
          | none =>
            have hnone := Lib.hid (show (M.vec M.cFnB).rd bs = none by
              rw [hv.out, hrt.out, show n - k = (n - (k + 1)) + 1 by omega, M.rTimes, hx]; rfl)
            replace hx := Lib.hid hx
            go_wp2_with fail
            refine ((mbody_ok).no hx.out pa.out (heap_alloc_new wr _) (fun i u hu => by rw [Nat.zero_add]; simpa using hu) hwP hwB ⟨rfl, rfl, rfl, rfl⟩).mono ?_
            rintro e2 w2 ⟨rfl, kb2⟩
            have kb3 := Lib.hid (fr.out.kb.trans (kb_g (g := g) (kb_new kb2)))
            clear kb2
            go_wp2_with fail
            go_ret
            exact .inr ⟨hnone.out, rfl, kb3.out⟩
          | some xr =>
            obtain ⟨x, r2⟩ := xr
            replace hx := Lib.hid hx
            go_wp2_with fail
            refine ((mbody_ok).yes hx.out pa.out (heap_alloc_new wr _) (fun i u hu => by rw [Nat.zero_add]; simpa using hu) hwP hwB ⟨rfl, rfl, rfl, rfl⟩).mono ?_
            rintro e2 w2 ⟨rfl, p3, ⟨xs, his, hxc⟩, fr3⟩
            have hs3 : wr.heap.size < w2.heap.size := by have := fr3.kb.size; simp at this; omega
            have hlen := rFn.len his
            have hone := Lib.hid (rFn.one his)
            obtain ⟨x0, x1, x2, rfl⟩ : ∃ x0 x1 x2, xs = [x0, x1, x2] := by
              match xs, hlen with
              | [x0, x1, x2], _ => exact ⟨_, _, _, rfl⟩
            have xc0 : w2.cell? ⟨wr.heap.size, 0, none⟩ = some x0 := by simpa using hxc 0 _ rfl
            have xc1 : w2.cell? ⟨wr.heap.size, 1, none⟩ = some x1 := by simpa using hxc 1 _ rfl
            have xc2 : w2.cell? ⟨wr.heap.size, 2, none⟩ = some x2 := by simpa using hxc 2 _ rfl
            have kb3 := kb_new fr3.kb
            have hg3 : w2.heap[g]? = some (.cells cur2 t (0, 0)) := by rw [kb3.block g (by omega) hne]; exact hg2.out
            have cg : w2.cell? ⟨g, j, none⟩ = some v := (cell_row hg3 j).trans hcv.out
            have fg := frozen_row hg3 j
            have vne : ∀ b, v.ownBlock = some b → b ≠ P ∧ b ≠ g := fun b hb => by have := (own.out.lt b hb).1; omega
            have own3 := Lib.hid (show w2.ownsRow w.heap.size 64 3 v done.length cs from ownsRow_agree own.out fun b hb => kb3.block b (own.out.lt b hb).2 (vne b hb).1)
            have fin := Lib.hid (fun gg cap w5 ob hown hgr hat hlt5 => list_step (gg := gg) (cap := cap) (w5 := w5) (ob := ob) hPl hgl hne hB hlt h128 hg2.out hcv.out own.out hro.out fr.out hdl hrt.out hx.out p3 his fr3 hown hgr hat hlt5)
            have hgs : g < w2.heap.size := by omega
            have vne2 := Lib.hid (fun b hb => (vne b hb).2)
            clear vne p3 his hxc hg3 kb3 hlen
            replace fr3 := Lib.hid fr3
            go_wp2_with fail
            go_region_law (refine step_append_lies _ (by rfl) _ _ _ (by rfl) w.heap.size 64 i0 _ 3 56 Tryz.underlying25 hi0 hz0 hz1 hz2 rfl (by omega) v done.length cs (by rfl) (by first | exact own3.out.alloc _ | exact ownsRow_agree (own3.out.alloc (.cells #[x0, x1, x2] 64)) (fun _ _ => rfl)) ⟨w2.heap.size, 0, none⟩ 1 1 [x0, x1, x2] (by rfl) (by rfl) (World.news_of_block (cs := #[x0, x1, x2]) (t := 64) (fr := (0, 0)) (heap_alloc_new w2 _)) hone.out (by omega) (by unfold maxLen; omega) (by omega) (by simp; omega) (w2.heap.size + 1) (by simp) ?_; intro gg cap w5 hown5 hgrow5 hat5 hlt5; have hb5 : w5.heap[g]? = w2.heap[g]? := (hgrow5.block g (by simp; omega) (fun e => (vne2.out g e.symm) rfl)).trans (Below.heap_alloc w2 (.cells #[x0, x1, x2] 64) g hgs); have c65 : w5.cell? ⟨g, j, none⟩ = some v := (World.cell?_of_block (w := w2) hb5).trans cg; have f65 : w5.frozen? ⟨g, j, none⟩ = false := (World.frozen?_of_block (w := w2) hb5).trans fg; clear hb5)
            all_goals go_wp2_with fail
            all_goals (
              have F := fin.out gg cap w5 (.cells #[x0, x1, x2] 64) hown5 (grown_drew hgrow5) hat5 hlt5
              have e9 : ((k + 1 : Nat) : Int) = (k : Int) + 1 := by omega
              rw [e9] at F
              exact ⟨F, by simp [intOf]; omega⟩)
        · have hkn : k = n := by omega
          have tlt : decide ((k : Int) < (n : Int)) = false := by simp; omega
          have hend := Lib.hid (list_end hrel0.out hkn h128 hv.out)
          replace hkn := Lib.hid hkn
          go_wp2_with fail
          go_ret
          exact hend.out
    · rw [if_neg (by omega)] at hv
      go_wp2_with fail
      go_ret
      exact .inr ⟨hv.out, rfl, kb_g kb.out⟩
  · rw [hrd] at hv
    replace kb := Lib.hid (kb_new kb)
    go_wp2_with fail
    go_ret
    exact .inr ⟨hv.out, rfl, kb_g kb.out⟩
end Go.Proofs.YtilaheifccjjeaaGreat
