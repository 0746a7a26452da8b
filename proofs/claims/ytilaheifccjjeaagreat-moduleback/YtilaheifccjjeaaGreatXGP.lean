/-
  The ground of the proofs of this seat, put together: MDecode, MDecode2. No condition beyond what each text names.
-/
import Derived.Lib.SlBytesConst
import Derived.Test.YtilaheifccjjeaaGreatXGO
import Derived.Test.YtilaheifccjjeaaGreatXGA
import Derived.Test.YtilaheifccjjeaaGreatXGB
import Derived.Test.YtilaheifccjjeaaGreatXGC
import Derived.Test.YtilaheifccjjeaaGreatXGD
import Derived.Test.YtilaheifccjjeaaGreatXGE
import Derived.Test.YtilaheifccjjeaaGreatXGF
import Derived.Test.YtilaheifccjjeaaGreatXGG
import Derived.Test.YtilaheifccjjeaaGreatXGH
import Derived.Test.YtilaheifccjjeaaGreatXGI
import Derived.Test.YtilaheifccjjeaaGreatXGJ
import Derived.Test.YtilaheifccjjeaaGreatXGK
import Derived.Test.YtilaheifccjjeaaGreatXGL
import Derived.Test.YtilaheifccjjeaaGreatXGM
import Derived.Test.YtilaheifccjjeaaGreatXGN
namespace Go.Proofs.YtilaheifccjjeaaGreat
open Go.RowKit
/-- A slice in the cell k. -/
def LAt {α : Type} (w : World) (S : Nat → Prop) (cur : Array Value) (k : Nat) (R : Rep α) (x : List α) : Prop := ∃ v, cur[k]? = some v ∧ Lst R w S v x
/-- A module lies in these ten cells. -/
structure MAt (w : World) (S : Nat → Prop) (cur : Array Value) (m : M.Mod) : Prop where
  l0 : LAt w S cur 0 rFT m.types
  l1 : LAt w S cur 1 rImp m.imports
  l2 : LAt w S cur 2 rFn m.funcs
  l3 : LAt w S cur 3 rLim m.tables
  l4 : LAt w S cur 4 rLim m.memories
  l5 : LAt w S cur 5 rGlo m.globals
  l6 : LAt w S cur 6 rExp m.exports
  l7 : cur[7]? = some (.int .i64 m.start) ∧ i64R m.start
  l8 : LAt w S cur 8 rElm m.elems
  l9 : LAt w S cur 9 rDat m.datas
theorem FAt.lat {α : Type} {w w' : World} {T U : Nat → Prop} {cur : Array Value} {k : Nat} {R : Rep α} {x : List α} (h : FAt w T cur k (rLst R) x) (ag : ∀ b, T b → w'.heap[b]? = w.heap[b]?) (hT : ∀ b, T b → U b) : LAt w' U cur k R x := by
  obtain ⟨v, h1, h2⟩ := h
  exact ⟨v, h1, (rLst.lst h2).agree ag hT⟩
theorem mat_of {w w' : World} {T U : Nat → Prop} {D last : Nat} {d : M.Dm} {cur : Array Value} {v : Value} (h : Dst w T D last d cur) (ag : ∀ b, T b → w'.heap[b]? = w.heap[b]?) (hT : ∀ b, T b → U b) (h2 : cur[2]? = some v) (hl : Lst rFn w' (fun k => T k ∨ v.ownBlock = some k) v (M.joinM d.m.funcs d.bodies)) (hv : ∀ g, v.ownBlock = some g → U g) : MAt w' U cur { d.m with funcs := M.joinM d.m.funcs d.bodies } := by
  refine ⟨h.f0.lat ag hT, h.f1.lat ag hT, ⟨v, h2, hl.agree (fun _ _ => rfl) (fun b hb => by rcases hb with hb | hb; exact hT b hb; exact hv b hb)⟩, h.f3.lat ag hT, h.f4.lat ag hT, h.f5.lat ag hT, h.f6.lat ag hT, ?_, h.f8.lat ag hT, h.f9.lat ag hT⟩
  obtain ⟨u, q1, q2, q3⟩ := h.f7
  have : u = .int .i64 d.m.start := by simpa using q2
  subst this
  exact ⟨q1, q3⟩
/-- What stands behind the size test. -/
def rdBody (bs : List Nat) : Option M.Mod := (M.rdHead M.header bs).bind fun r => (M.sects r.length 0 M.dm0 r).bind M.joined
def ReadPost (B P D : Nat) (bs : List Nat) (w : World) (e : Ending) (w' : World) : Prop :=
  (∃ m cur, rdBody bs = some m ∧ e = .returned (.bool true) ∧ w'.heap[D]? = some (.cells cur 102 (0, 0)) ∧ MAt w' (fun k => D < k ∧ k < w'.heap.size) cur m ∧ Below B w w') ∨ (rdBody bs = none ∧ e = .returned (.bool false) ∧ Below B w w')
theorem head_step (k x : Nat) (r : List Nat) (hx : M.header[k]? = some x) : M.rdHead (M.header.drop k) r = ((M.cFix x).rd r).bind fun p => M.rdHead (M.header.drop (k + 1)) p.2 := by
  have hk : k < M.header.length := (List.getElem?_eq_some_iff.1 hx).1
  rw [List.drop_eq_getElem_cons hk]
  have e : M.header[k] = x := by rw [List.getElem?_eq_getElem hk] at hx; simpa using hx
  rw [e]
  cases r with
  | nil => rfl
  | cons b t =>
    simp only [M.rdHead, M.cFix]
    split
    · rfl
    · rfl
def hdrV : Array Value := #[.int .u8 0, .int .u8 97, .int .u8 115, .int .u8 109, .int .u8 1, .int .u8 0, .int .u8 0, .int .u8 0]
theorem hdr_cell (k x : Nat) (hx : M.header[k]? = some x) : hdrV[k]? = some (.int .u8 (x : Int)) ∧ x < 256 := by
  have hk : k < M.header.length := (List.getElem?_eq_some_iff.1 hx).1
  have hk8 : k = 0 ∨ k = 1 ∨ k = 2 ∨ k = 3 ∨ k = 4 ∨ k = 5 ∨ k = 6 ∨ k = 7 := by
    have : M.header.length = 8 := rfl
    omega
  rcases hk8 with rfl | rfl | rfl | rfl | rfl | rfl | rfl | rfl
  all_goals
    cases hx
    exact ⟨rfl, by decide⟩
def HRel (B P : Nat) (bs : List Nat) (w : World) (i : Value) (w' : World) : Prop :=
  ∃ (k : Nat) (r : List Nat), k ≤ 8 ∧ i = .int .i64 (k : Nat) ∧ PAt B w' P r ∧ M.rdHead M.header bs = M.rdHead (M.header.drop k) r ∧ Kb (· = P) w w' ∧ w'.heap[w.heap.size]? = some (.cells hdrV 5 (8, 9))
theorem conv_hdr (w : World) : (convert 33 33 (.slice (some ⟨w.heap.size, 0, none⟩) 8 8)).run Tryz.prog (w.alloc (.cells #[.int .u8 0, .int .u8 97, .int .u8 115, .int .u8 109, .int .u8 1, .int .u8 0, .int .u8 0, .int .u8 0] 5)) = .ok (.slice (some ⟨w.heap.size, 0, none⟩) 8 8) (w.alloc (.cells hdrV 5 (8, 9))) :=
  Lib.run_convert_bytes_const w 33 5 hdrV 8 8 Tryz.underlying33 Tryz.underlying5
set_option maxRecDepth 100000 in
set_option maxHeartbeats 8000000 in
theorem read_any (B P D : Nat) (cur : Array Value) (bs : List Nat) (w : World) (hp : PAt B w P bs) (hD : Dst w (fun _ => False) D 0 M.dm0 cur) (h2 : cur[2]? = some (.slice none 0 0)) (hne : D ≠ P) (hB : B ≤ D) :
    Calls Tryz.prog 46 #[.pointer (some ⟨D, 0, none⟩), .pointer (some ⟨P, 0, none⟩)] w (ReadPost B P D bs w) := by
  have hPl := hp.lt
  have hPlo := hp.lo
  have hDl := lt_row hD.row
  have rel0 := Lib.hid (show HRel B P bs w (.int .i64 ((0 : Nat) : Int)) (w.alloc (.cells hdrV 5 (8, 9))) from ⟨0, bs, by omega, rfl, hp.alloc _, rfl, .of_below ((Below.refl _ _).alloc (Nat.le_refl _) _), heap_alloc_new w _⟩)
  replace hp := Lib.hid hp
  replace hD := Lib.hid hD
  replace h2 := Lib.hid h2
  have hcv := conv_hdr w
  go_enter Tryz.func46, Tryz.ntmps46
  go_wp2_with fail
  go_loopw [10] (fun i w' => HRel B P bs w i w') (fun i _ => 8 - (intOf i).toNat)
  case atStart => exact rel0.out
  case round =>
    obtain ⟨k, r, hk, rfl, p2, hrt, kb, hrow⟩ := hrel
    clear rel0
    have hws := kb.size
    replace p2 := Lib.hid p2
    replace hrt := Lib.hid hrt
    replace kb := Lib.hid kb
    by_cases hlt : k < 8
    · obtain ⟨x, hx⟩ : ∃ x, M.header[k]? = some x := ⟨M.header[k]'(by show k < 8; exact hlt), List.getElem?_eq_getElem _⟩
      obtain ⟨hv1, hx256⟩ := hdr_cell k x hx
      have cx : wr.cell? ⟨w.heap.size, k, none⟩ = some (.int .u8 (x : Int)) := (cell_of_row wr w.heap.size k _ _ (8, 9) hrow).trans hv1
      have hst := Lib.hid (head_step k x r hx)
      have hwl : w.heap.size < wr.heap.size := (Array.getElem?_eq_some_iff.1 hrow).1
      replace hrow := Lib.hid hrow
      replace hx := Lib.hid hx
      replace hv1 := Lib.hid hv1
      go_wp2_with fail
      refine (mfixed_any x B P r _ p2.out hx256).mono ?_
      rintro e1 w1 (⟨r1, q1, rfl, p3, kb3⟩ | ⟨q1, rfl, kb3⟩)
      · have rel := Lib.hid (show HRel B P bs w (.int .i64 ((k : Int) + 1)) w1 from ⟨k + 1, r1, by omega, by rw [Int.natCast_add]; rfl, p3, by rw [hrt.out, hst.out, q1]; rfl, kb.out.trans kb3, by rw [kb3.block w.heap.size hwl (by omega)]; exact hrow.out⟩)
        clear p3 kb3
        go_wp2_with fail
        exact ⟨rel.out, by simp [intOf]; omega⟩
      · have hnone := Lib.hid (show rdBody bs = none by unfold rdBody; rw [hrt.out, hst.out, q1]; rfl)
        have bl := Lib.hid (show Below B w w1 from (kb.out.trans kb3).below hPlo (by omega))
        clear kb3
        go_wp2_with fail
        go_ret
        exact .inr ⟨hnone.out, rfl, bl.out⟩
    · have hk8 : k = 8 := by omega
      have hrd := Lib.hid (show M.rdHead M.header bs = some r by rw [hrt.out, hk8]; rfl)
      have tlt : decide ((k : Int) < 8) = false := by simp; omega
      have hDk : wr.heap[D]? = w.heap[D]? := kb.out.block D hDl hne
      have hD2 : Dst wr (fun _ => False) D 0 M.dm0 cur := hD.out.keepAll (fun b hb => hb.elim) (fun b hb => hb) hDk (hD.out.hkeep (P := P) (fun v hv hg => by rw [h2.out] at hv; cases hv; cases hg) (kb_g kb.out) (fun b hb => hb.elim) rfl)
      have cS := Lib.hid (sections_any B P D cur r wr p2.out hD2 h2.out hne hB)
      replace hk8 := Lib.hid hk8
      clear hD2
      go_wp2_with fail
      refine cS.out.mono ?_
      rintro e1 w1 (⟨d', last, cur', T, q1, rfl, hT, dst, kb3⟩ | ⟨q1, rfl, kb3⟩)
      · have hs3 := kb3.size
        have cJ := Lib.hid (join_any D last d' cur' T w1 dst (fun h => by have := (hT D h).1; omega) (fun k hk => (hT k hk).2))
        have bl := Lib.hid (show Below B w w1 from ⟨kb3.os.trans kb.out.os, kb3.tape.trans kb.out.tape, kb3.output.trans kb.out.output, by omega, fun b hb => by rw [kb3.block b (by omega) (by omega)]; exact kb.out.block b (by omega) (by omega)⟩)
        have hbody := Lib.hid (show rdBody bs = M.joined d' by unfold rdBody; rw [hrd.out, Option.bind_some, q1]; rfl)
        replace dst := Lib.hid dst
        replace hT := Lib.hid hT
        clear kb3
        go_wp2_with fail
        refine cJ.out.mono ?_
        rintro e2 w2 (⟨hl, rfl, hD3, agT, ⟨v, hv, hlst, hvl⟩, b4⟩ | ⟨hl, rfl, b4⟩)
        · have fin := Lib.hid (show ReadPost B P D bs w (.returned (.bool true)) w2 from .inl ⟨_, cur', by rw [hbody.out]; unfold M.joined; rw [if_pos hl], rfl, by rw [hD3]; exact dst.out.row, mat_of dst.out agT (fun b hb => by have := (hT.out b hb).1; have := (hT.out b hb).2; have := b4.size; exact ⟨by omega, by omega⟩) hv hlst (fun g hg => ⟨by
            obtain ⟨v', ty, cc, q1', _, _, _, q5⟩ := dst.out.f2
            rw [hv] at q1'
            cases q1'
            exact (q5 g hg).2, hvl g hg⟩), bl.out.trans (b4.mono (by omega))⟩)
          clear hD3 agT hlst hvl b4
          go_wp2_with fail
          go_ret
          exact fin.out
        · have fin := Lib.hid (show ReadPost B P D bs w (.returned (.bool false)) w2 from .inr ⟨by rw [hbody.out]; unfold M.joined; rw [if_neg hl], rfl, bl.out.trans (b4.mono (by omega))⟩)
          clear b4
          go_wp2_with fail
          go_ret
          exact fin.out
      · have fin := Lib.hid (show ReadPost B P D bs w (.returned (.bool false)) w1 from .inr ⟨by unfold rdBody; rw [hrd.out, Option.bind_some, q1]; rfl, rfl, ⟨kb3.os.trans kb.out.os, kb3.tape.trans kb.out.tape, kb3.output.trans kb.out.output, by have := kb3.size; omega, fun b hb => by rw [kb3.block b (by omega) (by omega)]; exact kb.out.block b (by omega) (by omega)⟩⟩)
        clear kb3
        go_wp2_with fail
        go_ret
        exact fin.out
end Go.Proofs.YtilaheifccjjeaaGreat
namespace Go.Proofs.YtilaheifccjjeaaGreat
open Go.RowKit
theorem results_cell_tmp {P : Program} {fn : Func} {p q : Tmp} {ty : TypeId} (h : fn.results = #[.cell p ty, .tmp q]) (tmps : Array Value) (w : World) (g : Nat) (t : TypeId) (cs : Array Value) (fr : Nat × Nat) (d : TypeDesc)
    (hp : tmps.getD p undef = .pointer (some ⟨g, 0, none⟩)) (hg : w.heap[g]? = some (.cells cs t fr))
    (hu : P.underlying ty = some d) (hd : (match d with | .struct _ | .array _ _ => true | _ => false) = true) (hi : (P.info? ty).map (·.size) = some cs.size) :
    (results fn tmps).run P w = .ok (.tuple #[.agg cs, tmps.getD q undef]) w := by
  have hp' : tmps[p]?.getD undef = .pointer (some ⟨g, 0, none⟩) := by simpa using hp
  simp [results, h, hp', asAddr, run_loadVar_row w g t ty cs fr d hg hu hd hi]
def dr0V : Array Value := #[.slice none 0 0, .slice none 0 0, .slice none 0 0, .slice none 0 0, .slice none 0 0, .slice none 0 0, .slice none 0 0, .int .i64 (-1), .slice none 0 0, .slice none 0 0, .slice none 0 0]
def mod0V : Array Value := #[.slice none 0 0, .slice none 0 0, .slice none 0 0, .slice none 0 0, .slice none 0 0, .slice none 0 0, .slice none 0 0, .int .i64 0, .slice none 0 0, .slice none 0 0]
theorem mod_size : (Tryz.prog.info? 32).map (·.size) = some mod0V.size := by kernel_rfl
theorem dst0 (w : World) (D : Nat) (h : w.heap[D]? = some (.cells dr0V 102 (0, 0))) : Dst w (fun _ => False) D 0 M.dm0 dr0V := by
  refine ⟨h, rfl, ⟨_, rfl, rLst.nil _ _ _⟩, ⟨_, rfl, rLst.nil _ _ _⟩, ⟨_, 0, [], rfl, World.ownsRow_nil _ _ _ _, by simp [M.dm0, M.mod0], rfl, fun g hg => by cases hg⟩, ⟨_, rfl, rLst.nil _ _ _⟩, ⟨_, rfl, rLst.nil _ _ _⟩, ⟨_, rfl, rLst.nil _ _ _⟩, ⟨_, rfl, rLst.nil _ _ _⟩, ⟨_, rfl, rfl, ⟨by decide, by decide⟩⟩, ⟨_, rfl, rLst.nil _ _ _⟩, ⟨_, rfl, rLst.nil _ _ _⟩, ⟨_, rfl, rLst.nil _ _ _⟩, fun id i h1 _ => ?_⟩
  unfold idx at h1
  split at h1 <;> cases h1 <;> rfl
def MDPost (bs : List Nat) (w : World) (e : Ending) (w' : World) : Prop :=
  (∃ m cs, M.rdModule bs = some m ∧ e = .returned (.tuple #[.agg cs, .int .i64 0]) ∧ cs.size = 10 ∧ MAt w' (· < w'.heap.size) cs m ∧ Below w.heap.size w w') ∨ (M.rdModule bs = none ∧ e = .returned (.tuple #[.agg mod0V, .int .i64 100]) ∧ Below w.heap.size w w')
theorem LAt.form {α : Type} {w : World} {S : Nat → Prop} {cur : Array Value} {k : Nat} {R : Rep α} {x : List α} (h : LAt w S cur k R x) : ∃ A n c, cur[k]? = some (.slice A n c) ∧ Lst R w S (.slice A n c) x := by
  obtain ⟨v, h1, h2⟩ := h
  obtain ⟨A, c, e, _⟩ := h2.form
  subst e
  exact ⟨A, _, c, h1, h2⟩
set_option maxRecDepth 100000 in
set_option maxHeartbeats 8000000 in
/-- The module is stored into the result's ten cells. -/
theorem mod_put {w w2 : World} {m : M.Mod} {D g : Nat} {bs : List Nat} {A0 : Option Addr} {n0 c0 : Nat} {A1 : Option Addr} {n1 c1 : Nat} {A2 : Option Addr} {n2 c2 : Nat} {A3 : Option Addr} {n3 c3 : Nat} {A4 : Option Addr} {n4 c4 : Nat} {A5 : Option Addr} {n5 c5 : Nat} {A6 : Option Addr} {n6 c6 : Nat} {A8 : Option Addr} {n8 c8 : Nat} {A9 : Option Addr} {n9 c9 : Nat} (hg : g ≤ D) (hrd : M.rdModule bs = some m) (hrow : w2.heap[w.heap.size]? = some (.cells mod0V 32 (0, 0))) (hgw : w.heap.size = g) (b2 : Below w.heap.size w w2)
    (l0 : Lst rFT w2 (fun k => D < k ∧ k < w2.heap.size) (.slice A0 n0 c0) m.types) (l1 : Lst rImp w2 (fun k => D < k ∧ k < w2.heap.size) (.slice A1 n1 c1) m.imports) (l2 : Lst rFn w2 (fun k => D < k ∧ k < w2.heap.size) (.slice A2 n2 c2) m.funcs) (l3 : Lst rLim w2 (fun k => D < k ∧ k < w2.heap.size) (.slice A3 n3 c3) m.tables) (l4 : Lst rLim w2 (fun k => D < k ∧ k < w2.heap.size) (.slice A4 n4 c4) m.memories) (l5 : Lst rGlo w2 (fun k => D < k ∧ k < w2.heap.size) (.slice A5 n5 c5) m.globals) (l6 : Lst rExp w2 (fun k => D < k ∧ k < w2.heap.size) (.slice A6 n6 c6) m.exports) (l8 : Lst rElm w2 (fun k => D < k ∧ k < w2.heap.size) (.slice A8 n8 c8) m.elems) (l9 : Lst rDat w2 (fun k => D < k ∧ k < w2.heap.size) (.slice A9 n9 c9) m.datas) (l7 : i64R m.start) :
    ((((((((((w2.setCell ⟨w.heap.size, 0, none⟩ (.slice A0 n0 c0)).setCell ⟨w.heap.size, 1, none⟩ (.slice A1 n1 c1)).setCell ⟨w.heap.size, 2, none⟩ (.slice A2 n2 c2)).setCell ⟨w.heap.size, 3, none⟩ (.slice A3 n3 c3)).setCell ⟨w.heap.size, 4, none⟩ (.slice A4 n4 c4)).setCell ⟨w.heap.size, 5, none⟩ (.slice A5 n5 c5)).setCell ⟨w.heap.size, 6, none⟩ (.slice A6 n6 c6)).setCell ⟨w.heap.size, 7, none⟩ (.int .i64 m.start)).setCell ⟨w.heap.size, 8, none⟩ (.slice A8 n8 c8)).setCell ⟨w.heap.size, 9, none⟩ (.slice A9 n9 c9)).heap[w.heap.size]? = some (.cells #[.slice A0 n0 c0, .slice A1 n1 c1, .slice A2 n2 c2, .slice A3 n3 c3, .slice A4 n4 c4, .slice A5 n5 c5, .slice A6 n6 c6, .int .i64 m.start, .slice A8 n8 c8, .slice A9 n9 c9] 32 (0, 0)) ∧ MDPost bs w (.returned (.tuple #[.agg #[.slice A0 n0 c0, .slice A1 n1 c1, .slice A2 n2 c2, .slice A3 n3 c3, .slice A4 n4 c4, .slice A5 n5 c5, .slice A6 n6 c6, .int .i64 m.start, .slice A8 n8 c8, .slice A9 n9 c9], .int .i64 0])) ((((((((((w2.setCell ⟨w.heap.size, 0, none⟩ (.slice A0 n0 c0)).setCell ⟨w.heap.size, 1, none⟩ (.slice A1 n1 c1)).setCell ⟨w.heap.size, 2, none⟩ (.slice A2 n2 c2)).setCell ⟨w.heap.size, 3, none⟩ (.slice A3 n3 c3)).setCell ⟨w.heap.size, 4, none⟩ (.slice A4 n4 c4)).setCell ⟨w.heap.size, 5, none⟩ (.slice A5 n5 c5)).setCell ⟨w.heap.size, 6, none⟩ (.slice A6 n6 c6)).setCell ⟨w.heap.size, 7, none⟩ (.int .i64 m.start)).setCell ⟨w.heap.size, 8, none⟩ (.slice A8 n8 c8)).setCell ⟨w.heap.size, 9, none⟩ (.slice A9 n9 c9)) := by
  have ag : Agree (fun k => D < k ∧ k < w2.heap.size) w2 ((((((((((w2.setCell ⟨w.heap.size, 0, none⟩ (.slice A0 n0 c0)).setCell ⟨w.heap.size, 1, none⟩ (.slice A1 n1 c1)).setCell ⟨w.heap.size, 2, none⟩ (.slice A2 n2 c2)).setCell ⟨w.heap.size, 3, none⟩ (.slice A3 n3 c3)).setCell ⟨w.heap.size, 4, none⟩ (.slice A4 n4 c4)).setCell ⟨w.heap.size, 5, none⟩ (.slice A5 n5 c5)).setCell ⟨w.heap.size, 6, none⟩ (.slice A6 n6 c6)).setCell ⟨w.heap.size, 7, none⟩ (.int .i64 m.start)).setCell ⟨w.heap.size, 8, none⟩ (.slice A8 n8 c8)).setCell ⟨w.heap.size, 9, none⟩ (.slice A9 n9 c9)) := fun k hk => by
    have h9 := hk.1
    iterate 10 rw [Below.heap_setCell _ _ _ _ (by show k ≠ w.heap.size; omega)]
  have mono : ∀ k, (D < k ∧ k < w2.heap.size) → k < ((((((((((w2.setCell ⟨w.heap.size, 0, none⟩ (.slice A0 n0 c0)).setCell ⟨w.heap.size, 1, none⟩ (.slice A1 n1 c1)).setCell ⟨w.heap.size, 2, none⟩ (.slice A2 n2 c2)).setCell ⟨w.heap.size, 3, none⟩ (.slice A3 n3 c3)).setCell ⟨w.heap.size, 4, none⟩ (.slice A4 n4 c4)).setCell ⟨w.heap.size, 5, none⟩ (.slice A5 n5 c5)).setCell ⟨w.heap.size, 6, none⟩ (.slice A6 n6 c6)).setCell ⟨w.heap.size, 7, none⟩ (.int .i64 m.start)).setCell ⟨w.heap.size, 8, none⟩ (.slice A8 n8 c8)).setCell ⟨w.heap.size, 9, none⟩ (.slice A9 n9 c9)).heap.size := fun k hk => by simpa using hk.2
  have ea : ((((((((((mod0V.setIfInBounds 0 (.slice A0 n0 c0)).setIfInBounds 1 (.slice A1 n1 c1)).setIfInBounds 2 (.slice A2 n2 c2)).setIfInBounds 3 (.slice A3 n3 c3)).setIfInBounds 4 (.slice A4 n4 c4)).setIfInBounds 5 (.slice A5 n5 c5)).setIfInBounds 6 (.slice A6 n6 c6)).setIfInBounds 7 (.int .i64 m.start)).setIfInBounds 8 (.slice A8 n8 c8)).setIfInBounds 9 (.slice A9 n9 c9)) = #[.slice A0 n0 c0, .slice A1 n1 c1, .slice A2 n2 c2, .slice A3 n3 c3, .slice A4 n4 c4, .slice A5 n5 c5, .slice A6 n6 c6, .int .i64 m.start, .slice A8 n8 c8, .slice A9 n9 c9] := by simp [mod0V]
  have hr := (row_set (j := 9) (row_set (j := 8) (row_set (j := 7) (row_set (j := 6) (row_set (j := 5) (row_set (j := 4) (row_set (j := 3) (row_set (j := 2) (row_set (j := 1) (row_set (j := 0) hrow (.slice A0 n0 c0)) (.slice A1 n1 c1)) (.slice A2 n2 c2)) (.slice A3 n3 c3)) (.slice A4 n4 c4)) (.slice A5 n5 c5)) (.slice A6 n6 c6)) (.int .i64 m.start)) (.slice A8 n8 c8)) (.slice A9 n9 c9))
  rw [ea] at hr
  exact ⟨hr, .inl ⟨m, #[.slice A0 n0 c0, .slice A1 n1 c1, .slice A2 n2 c2, .slice A3 n3 c3, .slice A4 n4 c4, .slice A5 n5 c5, .slice A6 n6 c6, .int .i64 m.start, .slice A8 n8 c8, .slice A9 n9 c9], hrd, rfl, rfl, ⟨⟨_, rfl, l0.agree ag mono⟩, ⟨_, rfl, l1.agree ag mono⟩, ⟨_, rfl, l2.agree ag mono⟩, ⟨_, rfl, l3.agree ag mono⟩, ⟨_, rfl, l4.agree ag mono⟩, ⟨_, rfl, l5.agree ag mono⟩, ⟨_, rfl, l6.agree ag mono⟩, ⟨rfl, l7⟩, ⟨_, rfl, l8.agree ag mono⟩, ⟨_, rfl, l9.agree ag mono⟩⟩, ((((((((((b2.setCell (p := ⟨w.heap.size, 0, none⟩) (Nat.le_refl _) _).setCell (p := ⟨w.heap.size, 1, none⟩) (Nat.le_refl _) _).setCell (p := ⟨w.heap.size, 2, none⟩) (Nat.le_refl _) _).setCell (p := ⟨w.heap.size, 3, none⟩) (Nat.le_refl _) _).setCell (p := ⟨w.heap.size, 4, none⟩) (Nat.le_refl _) _).setCell (p := ⟨w.heap.size, 5, none⟩) (Nat.le_refl _) _).setCell (p := ⟨w.heap.size, 6, none⟩) (Nat.le_refl _) _).setCell (p := ⟨w.heap.size, 7, none⟩) (Nat.le_refl _) _).setCell (p := ⟨w.heap.size, 8, none⟩) (Nat.le_refl _) _).setCell (p := ⟨w.heap.size, 9, none⟩) (Nat.le_refl _) _)⟩⟩
set_option maxRecDepth 100000 in
set_option maxHeartbeats 8000000 in
theorem MDecode_any (v : Value) (bs : List Nat) (w : World) (hb : BS w w.heap.size v bs) : Calls Tryz.prog 15 #[v] w (MDPost bs w) := by
  obtain ⟨A, c, rfl, h1, h2, h3'⟩ := hb
  have h3 : Bytes w w.heap.size A bs.length (M.bf bs) := h3'
  clear h3'
  obtain ⟨n, hn⟩ : ∃ n : Nat, n = bs.length := ⟨_, rfl⟩
  rw [← hn]
  by_cases hbig : 65536 < bs.length
  · have hv := Lib.hid (show M.rdModule bs = none by unfold M.rdModule; rw [if_pos hbig])
    have t0 : decide ((65536 : Int) < (n : Int)) = true := by rw [hn]; exact decide_eq_true (by omega)
    replace h3 := Lib.hid h3
    replace hn := Lib.hid hn
    replace hbig := Lib.hid hbig
    clear h1 h2
    go_enter Tryz.func15, Tryz.ntmps15
    go_wp2_with fail
    refine bodyPost_ret (results_cell_tmp rfl _ _ w.heap.size _ mod0V _ _ rfl (heap_alloc_new w _) Tryz.underlying32 rfl mod_size) rfl ?_
    exact .inr ⟨hv.out, rfl, (Below.refl _ _).alloc (Nat.le_refl _) _⟩
  · have hv := Lib.hid (show M.rdModule bs = rdBody bs by unfold M.rdModule; rw [if_neg hbig]; rfl)
    have t0 : decide ((65536 : Int) < (n : Int)) = false := by rw [hn]; exact decide_eq_false (by omega)
    have bA : Below w.heap.size w (((w.alloc (.cells #[.slice none 0 0, .slice none 0 0, .slice none 0 0, .slice none 0 0, .slice none 0 0, .slice none 0 0, .slice none 0 0, .int .i64 0, .slice none 0 0, .slice none 0 0] 32)).alloc (.cells #[.slice none 0 0, .slice none 0 0, .slice none 0 0, .slice none 0 0, .slice none 0 0, .slice none 0 0, .slice none 0 0, .int .i64 (-1), .slice none 0 0, .slice none 0 0, .slice none 0 0] 102)).alloc (.cells #[.slice A n c] 105)) := (((Below.refl _ _).alloc (Nat.le_refl _) _).alloc (by simp) _).alloc (by simp; omega) _
    have hP3 : (((w.alloc (.cells #[.slice none 0 0, .slice none 0 0, .slice none 0 0, .slice none 0 0, .slice none 0 0, .slice none 0 0, .slice none 0 0, .int .i64 0, .slice none 0 0, .slice none 0 0] 32)).alloc (.cells #[.slice none 0 0, .slice none 0 0, .slice none 0 0, .slice none 0 0, .slice none 0 0, .slice none 0 0, .slice none 0 0, .int .i64 (-1), .slice none 0 0, .slice none 0 0, .slice none 0 0] 102)).alloc (.cells #[.slice A n c] 105)).heap[w.heap.size + 1 + 1]? = some (.cells #[.slice A n c] 105 (0, 0)) := by
      have e : ((w.alloc (.cells #[.slice none 0 0, .slice none 0 0, .slice none 0 0, .slice none 0 0, .slice none 0 0, .slice none 0 0, .slice none 0 0, .int .i64 0, .slice none 0 0, .slice none 0 0] 32)).alloc (.cells #[.slice none 0 0, .slice none 0 0, .slice none 0 0, .slice none 0 0, .slice none 0 0, .slice none 0 0, .slice none 0 0, .int .i64 (-1), .slice none 0 0, .slice none 0 0, .slice none 0 0] 102)).heap.size = w.heap.size + 1 + 1 := by simp
      rw [← e]
      exact heap_alloc_new ((w.alloc (.cells #[.slice none 0 0, .slice none 0 0, .slice none 0 0, .slice none 0 0, .slice none 0 0, .slice none 0 0, .slice none 0 0, .int .i64 0, .slice none 0 0, .slice none 0 0] 32)).alloc (.cells #[.slice none 0 0, .slice none 0 0, .slice none 0 0, .slice none 0 0, .slice none 0 0, .slice none 0 0, .slice none 0 0, .int .i64 (-1), .slice none 0 0, .slice none 0 0, .slice none 0 0] 102)) _
    have hD3 : (((w.alloc (.cells #[.slice none 0 0, .slice none 0 0, .slice none 0 0, .slice none 0 0, .slice none 0 0, .slice none 0 0, .slice none 0 0, .int .i64 0, .slice none 0 0, .slice none 0 0] 32)).alloc (.cells #[.slice none 0 0, .slice none 0 0, .slice none 0 0, .slice none 0 0, .slice none 0 0, .slice none 0 0, .slice none 0 0, .int .i64 (-1), .slice none 0 0, .slice none 0 0, .slice none 0 0] 102)).alloc (.cells #[.slice A n c] 105)).heap[w.heap.size + 1]? = some (.cells dr0V 102 (0, 0)) := by
      rw [Below.heap_alloc _ _ _ (by simp)]
      have e : (w.alloc (.cells #[.slice none 0 0, .slice none 0 0, .slice none 0 0, .slice none 0 0, .slice none 0 0, .slice none 0 0, .slice none 0 0, .int .i64 0, .slice none 0 0, .slice none 0 0] 32)).heap.size = w.heap.size + 1 := by simp
      rw [← e]
      exact heap_alloc_new (w.alloc (.cells #[.slice none 0 0, .slice none 0 0, .slice none 0 0, .slice none 0 0, .slice none 0 0, .slice none 0 0, .slice none 0 0, .int .i64 0, .slice none 0 0, .slice none 0 0] 32)) _
    have hR3 : (((w.alloc (.cells #[.slice none 0 0, .slice none 0 0, .slice none 0 0, .slice none 0 0, .slice none 0 0, .slice none 0 0, .slice none 0 0, .int .i64 0, .slice none 0 0, .slice none 0 0] 32)).alloc (.cells #[.slice none 0 0, .slice none 0 0, .slice none 0 0, .slice none 0 0, .slice none 0 0, .slice none 0 0, .slice none 0 0, .int .i64 (-1), .slice none 0 0, .slice none 0 0, .slice none 0 0] 102)).alloc (.cells #[.slice A n c] 105)).heap[w.heap.size]? = some (.cells mod0V 32 (0, 0)) := by
      rw [Below.heap_alloc _ _ _ (by simp; omega), Below.heap_alloc _ _ _ (by simp)]
      exact heap_alloc_new w _
    have pat : PAt (w.heap.size + 1) (((w.alloc (.cells #[.slice none 0 0, .slice none 0 0, .slice none 0 0, .slice none 0 0, .slice none 0 0, .slice none 0 0, .slice none 0 0, .int .i64 0, .slice none 0 0, .slice none 0 0] 32)).alloc (.cells #[.slice none 0 0, .slice none 0 0, .slice none 0 0, .slice none 0 0, .slice none 0 0, .slice none 0 0, .slice none 0 0, .int .i64 (-1), .slice none 0 0, .slice none 0 0, .slice none 0 0] 102)).alloc (.cells #[.slice A n c] 105)) (w.heap.size + 1 + 1) bs := ⟨⟨A, c, by rw [← hn]; exact hP3, h1, h2, h3.below bA (by omega)⟩, by omega, by omega⟩
    have cR := Lib.hid (read_any (w.heap.size + 1) (w.heap.size + 1 + 1) (w.heap.size + 1) dr0V bs _ pat (dst0 _ _ hD3) rfl (by omega) (Nat.le_refl _))
    have s3 : (((w.alloc (.cells #[.slice none 0 0, .slice none 0 0, .slice none 0 0, .slice none 0 0, .slice none 0 0, .slice none 0 0, .slice none 0 0, .int .i64 0, .slice none 0 0, .slice none 0 0] 32)).alloc (.cells #[.slice none 0 0, .slice none 0 0, .slice none 0 0, .slice none 0 0, .slice none 0 0, .slice none 0 0, .slice none 0 0, .int .i64 (-1), .slice none 0 0, .slice none 0 0, .slice none 0 0] 102)).alloc (.cells #[.slice A n c] 105)).heap.size = w.heap.size + 3 := by simp
    replace bA := Lib.hid bA
    replace hR3 := Lib.hid hR3
    replace s3 := Lib.hid s3
    replace hn := Lib.hid hn
    replace h3 := Lib.hid h3
    replace hbig := Lib.hid hbig
    clear pat hP3 hD3 h1 h2
    go_enter Tryz.func15, Tryz.ntmps15
    go_wp2_with fail
    refine cR.out.mono ?_
    rintro e1 w2 (⟨m, cur, q1, rfl, hDr, mat, b4⟩ | ⟨q1, rfl, b4⟩)
    · have hrd := Lib.hid (hv.out.trans q1)
      have hrow : w2.heap[w.heap.size]? = some (.cells mod0V 32 (0, 0)) := by rw [b4.block _ (by omega)]; exact hR3.out
      have b5 := Lib.hid (show Below w.heap.size w w2 from bA.out.trans (b4.mono (by omega)))
      obtain ⟨l0, l1, l2, l3, l4, l5, l6, l7, l8, l9⟩ := mat
      obtain ⟨A0, n0, c0, g0, l0⟩ := l0.form
      obtain ⟨A1, n1, c1, g1, l1⟩ := l1.form
      obtain ⟨A2, n2, c2, g2, l2⟩ := l2.form
      obtain ⟨A3, n3, c3, g3, l3⟩ := l3.form
      obtain ⟨A4, n4, c4, g4, l4⟩ := l4.form
      obtain ⟨A5, n5, c5, g5, l5⟩ := l5.form
      obtain ⟨A6, n6, c6, g6, l6⟩ := l6.form
      obtain ⟨A8, n8, c8, g8, l8⟩ := l8.form
      obtain ⟨A9, n9, c9, g9, l9⟩ := l9.form
      have d0 : w2.cell? ⟨w.heap.size + 1, 0, none⟩ = some (.slice A0 n0 c0) := (cell_row hDr 0).trans g0
      have z0 : w2.cell? ⟨w.heap.size, 0, none⟩ = some (.slice none 0 0) := (cell_row hrow 0).trans rfl
      have y0 := frozen_row hrow 0
      have d1 : w2.cell? ⟨w.heap.size + 1, 1, none⟩ = some (.slice A1 n1 c1) := (cell_row hDr 1).trans g1
      have z1 : w2.cell? ⟨w.heap.size, 1, none⟩ = some (.slice none 0 0) := (cell_row hrow 1).trans rfl
      have y1 := frozen_row hrow 1
      have d2 : w2.cell? ⟨w.heap.size + 1, 2, none⟩ = some (.slice A2 n2 c2) := (cell_row hDr 2).trans g2
      have z2 : w2.cell? ⟨w.heap.size, 2, none⟩ = some (.slice none 0 0) := (cell_row hrow 2).trans rfl
      have y2 := frozen_row hrow 2
      have d3 : w2.cell? ⟨w.heap.size + 1, 3, none⟩ = some (.slice A3 n3 c3) := (cell_row hDr 3).trans g3
      have z3 : w2.cell? ⟨w.heap.size, 3, none⟩ = some (.slice none 0 0) := (cell_row hrow 3).trans rfl
      have y3 := frozen_row hrow 3
      have d4 : w2.cell? ⟨w.heap.size + 1, 4, none⟩ = some (.slice A4 n4 c4) := (cell_row hDr 4).trans g4
      have z4 : w2.cell? ⟨w.heap.size, 4, none⟩ = some (.slice none 0 0) := (cell_row hrow 4).trans rfl
      have y4 := frozen_row hrow 4
      have d5 : w2.cell? ⟨w.heap.size + 1, 5, none⟩ = some (.slice A5 n5 c5) := (cell_row hDr 5).trans g5
      have z5 : w2.cell? ⟨w.heap.size, 5, none⟩ = some (.slice none 0 0) := (cell_row hrow 5).trans rfl
      have y5 := frozen_row hrow 5
      have d6 : w2.cell? ⟨w.heap.size + 1, 6, none⟩ = some (.slice A6 n6 c6) := (cell_row hDr 6).trans g6
      have z6 : w2.cell? ⟨w.heap.size, 6, none⟩ = some (.slice none 0 0) := (cell_row hrow 6).trans rfl
      have y6 := frozen_row hrow 6
      have d7 : w2.cell? ⟨w.heap.size + 1, 7, none⟩ = some (.int .i64 m.start) := (cell_row hDr 7).trans l7.1
      have z7 : w2.cell? ⟨w.heap.size, 7, none⟩ = some (.int .i64 0) := (cell_row hrow 7).trans rfl
      have y7 := frozen_row hrow 7
      have d8 : w2.cell? ⟨w.heap.size + 1, 8, none⟩ = some (.slice A8 n8 c8) := (cell_row hDr 8).trans g8
      have z8 : w2.cell? ⟨w.heap.size, 8, none⟩ = some (.slice none 0 0) := (cell_row hrow 8).trans rfl
      have y8 := frozen_row hrow 8
      have d9 : w2.cell? ⟨w.heap.size + 1, 9, none⟩ = some (.slice A9 n9 c9) := (cell_row hDr 9).trans g9
      have z9 : w2.cell? ⟨w.heap.size, 9, none⟩ = some (.slice none 0 0) := (cell_row hrow 9).trans rfl
      have y9 := frozen_row hrow 9
      obtain ⟨F1, F2⟩ := mod_put (D := w.heap.size + 1) (by omega) hrd.out hrow rfl b5.out l0 l1 l2 l3 l4 l5 l6 l8 l9 l7.2
      replace F1 := Lib.hid F1
      replace F2 := Lib.hid F2
      clear l0 l1 l2 l3 l4 l5 l6 l7 l8 l9 g0 g1 g2 g3 g4 g5 g6 g8 g9 hDr hrow b4
      go_wp2_with fail
      refine bodyPost_ret (results_cell_tmp rfl _ _ w.heap.size _ #[.slice A0 n0 c0, .slice A1 n1 c1, .slice A2 n2 c2, .slice A3 n3 c3, .slice A4 n4 c4, .slice A5 n5 c5, .slice A6 n6 c6, .int .i64 m.start, .slice A8 n8 c8, .slice A9 n9 c9] _ _ rfl F1.out Tryz.underlying32 rfl mod_size) rfl ?_
      exact F2.out
    · have hrow : w2.heap[w.heap.size]? = some (.cells mod0V 32 (0, 0)) := by rw [b4.block _ (by omega)]; exact hR3.out
      have z0 : w2.cell? ⟨w.heap.size, 0, none⟩ = some (.slice none 0 0) := (cell_row hrow 0).trans rfl
      have y0 := frozen_row hrow 0
      have z1 : w2.cell? ⟨w.heap.size, 1, none⟩ = some (.slice none 0 0) := (cell_row hrow 1).trans rfl
      have y1 := frozen_row hrow 1
      have z2 : w2.cell? ⟨w.heap.size, 2, none⟩ = some (.slice none 0 0) := (cell_row hrow 2).trans rfl
      have y2 := frozen_row hrow 2
      have z3 : w2.cell? ⟨w.heap.size, 3, none⟩ = some (.slice none 0 0) := (cell_row hrow 3).trans rfl
      have y3 := frozen_row hrow 3
      have z4 : w2.cell? ⟨w.heap.size, 4, none⟩ = some (.slice none 0 0) := (cell_row hrow 4).trans rfl
      have y4 := frozen_row hrow 4
      have z5 : w2.cell? ⟨w.heap.size, 5, none⟩ = some (.slice none 0 0) := (cell_row hrow 5).trans rfl
      have y5 := frozen_row hrow 5
      have z6 : w2.cell? ⟨w.heap.size, 6, none⟩ = some (.slice none 0 0) := (cell_row hrow 6).trans rfl
      have y6 := frozen_row hrow 6
      have z7 : w2.cell? ⟨w.heap.size, 7, none⟩ = some (.int .i64 0) := (cell_row hrow 7).trans rfl
      have y7 := frozen_row hrow 7
      have z8 : w2.cell? ⟨w.heap.size, 8, none⟩ = some (.slice none 0 0) := (cell_row hrow 8).trans rfl
      have y8 := frozen_row hrow 8
      have z9 : w2.cell? ⟨w.heap.size, 9, none⟩ = some (.slice none 0 0) := (cell_row hrow 9).trans rfl
      have y9 := frozen_row hrow 9
      have b5 := Lib.hid (show Below w.heap.size w w2 from bA.out.trans (b4.mono (by omega)))
      have F1 := Lib.hid (show ((((((((((w2.setCell ⟨w.heap.size, 0, none⟩ (.slice none 0 0)).setCell ⟨w.heap.size, 1, none⟩ (.slice none 0 0)).setCell ⟨w.heap.size, 2, none⟩ (.slice none 0 0)).setCell ⟨w.heap.size, 3, none⟩ (.slice none 0 0)).setCell ⟨w.heap.size, 4, none⟩ (.slice none 0 0)).setCell ⟨w.heap.size, 5, none⟩ (.slice none 0 0)).setCell ⟨w.heap.size, 6, none⟩ (.slice none 0 0)).setCell ⟨w.heap.size, 7, none⟩ (.int .i64 0)).setCell ⟨w.heap.size, 8, none⟩ (.slice none 0 0)).setCell ⟨w.heap.size, 9, none⟩ (.slice none 0 0)).heap[w.heap.size]? = some (.cells mod0V 32 (0, 0)) from (row_set (row_set (row_set (row_set (row_set (row_set (row_set (row_set (row_set (row_set hrow (.slice none 0 0)) (.slice none 0 0)) (.slice none 0 0)) (.slice none 0 0)) (.slice none 0 0)) (.slice none 0 0)) (.slice none 0 0)) (.int .i64 0)) (.slice none 0 0)) (.slice none 0 0)))
      have F2 := Lib.hid (show Below w.heap.size w ((((((((((w2.setCell ⟨w.heap.size, 0, none⟩ (.slice none 0 0)).setCell ⟨w.heap.size, 1, none⟩ (.slice none 0 0)).setCell ⟨w.heap.size, 2, none⟩ (.slice none 0 0)).setCell ⟨w.heap.size, 3, none⟩ (.slice none 0 0)).setCell ⟨w.heap.size, 4, none⟩ (.slice none 0 0)).setCell ⟨w.heap.size, 5, none⟩ (.slice none 0 0)).setCell ⟨w.heap.size, 6, none⟩ (.slice none 0 0)).setCell ⟨w.heap.size, 7, none⟩ (.int .i64 0)).setCell ⟨w.heap.size, 8, none⟩ (.slice none 0 0)).setCell ⟨w.heap.size, 9, none⟩ (.slice none 0 0)) from ((((((((((b5.out.setCell (p := ⟨w.heap.size, 0, none⟩) (Nat.le_refl _) _).setCell (p := ⟨w.heap.size, 1, none⟩) (Nat.le_refl _) _).setCell (p := ⟨w.heap.size, 2, none⟩) (Nat.le_refl _) _).setCell (p := ⟨w.heap.size, 3, none⟩) (Nat.le_refl _) _).setCell (p := ⟨w.heap.size, 4, none⟩) (Nat.le_refl _) _).setCell (p := ⟨w.heap.size, 5, none⟩) (Nat.le_refl _) _).setCell (p := ⟨w.heap.size, 6, none⟩) (Nat.le_refl _) _).setCell (p := ⟨w.heap.size, 7, none⟩) (Nat.le_refl _) _).setCell (p := ⟨w.heap.size, 8, none⟩) (Nat.le_refl _) _).setCell (p := ⟨w.heap.size, 9, none⟩) (Nat.le_refl _) _))
      clear hrow b4
      go_wp2_with fail
      refine bodyPost_ret (results_cell_tmp rfl _ _ w.heap.size _ mod0V _ _ rfl F1.out Tryz.underlying32 rfl mod_size) rfl ?_
      exact .inr ⟨hv.out.trans q1, rfl, F2.out⟩
end Go.Proofs.YtilaheifccjjeaaGreat
