/-
  What Decode answers: the module whose bytes these are, in new memory, or none; condition: the bytes lie in memory that was there at the call.
-/
import Derived.Test.YtmejgbbdehndaaaGreatMJoin
import Derived.Lib.SlBytesConst
namespace Go.Proofs.YtmejgbbdehndaaaGreat
open Go.RowKit
/-- A slice in the cell k. -/
def LAt {α : Type} (w : World) (S : Nat → Prop) (cur : Array Value) (k : Nat) (R : Rep α) (x : List α) : Prop := ∃ v, cur[k]? = some v ∧ Lst R w S v x
/-- A module lies in these ten cells. -/
structure MAt (w : World) (S : Nat → Prop) (cur : Array Value) (m : M.Mod) : Prop where
  l0 : LAt w S cur 0 rFT m.types
  l1 : LAt w S cur 1 rImp m.imports
  l2 : LAt w S cur 2 rFn m.funcs
  l3 : LAt w S cur 3 rLim m.tables
  l4 : LAt w S cur 4 rLim m.memories
  l5 : LAt w S cur 5 rGlo m.globals
  l6 : LAt w S cur 6 rExp m.exports
  l7 : cur[7]? = some (.int .i64 m.start) ∧ i64R m.start
  l8 : LAt w S cur 8 rElm m.elems
  l9 : LAt w S cur 9 rDat m.datas
theorem FAt.lat {α : Type} {w w' : World} {T U : Nat → Prop} {cur : Array Value} {k : Nat} {R : Rep α} {x : List α} (h : FAt w T cur k (rLst R) x) (ag : ∀ b, T b → w'.heap[b]? = w.heap[b]?) (hT : ∀ b, T b → U b) : LAt w' U cur k R x := by
  obtain ⟨v, h1, h2⟩ := h
  exact ⟨v, h1, (rLst.lst h2).agree ag hT⟩
theorem mat_of {w w' : World} {T U : Nat → Prop} {D last : Nat} {d : M.Dm} {cur : Array Value} {v : Value} (h : Dst w T D last d cur) (ag : ∀ b, T b → w'.heap[b]? = w.heap[b]?) (hT : ∀ b, T b → U b) (h2 : cur[2]? = some v) (hl : Lst rFn w' (fun k => T k ∨ v.ownBlock = some k) v (M.joinM d.m.funcs d.bodies)) (hv : ∀ g, v.ownBlock = some g → U g) : MAt w' U cur { d.m with funcs := M.joinM d.m.funcs d.bodies } := by
  refine ⟨h.f0.lat ag hT, h.f1.lat ag hT, ⟨v, h2, hl.agree (fun _ _ => rfl) (fun b hb => by rcases hb with hb | hb; exact hT b hb; exact hv b hb)⟩, h.f3.lat ag hT, h.f4.lat ag hT, h.f5.lat ag hT, h.f6.lat ag hT, ?_, h.f8.lat ag hT, h.f9.lat ag hT⟩
  obtain ⟨u, q1, q2, q3⟩ := h.f7
  have : u = .int .i64 d.m.start := by simpa using q2
  subst this
  exact ⟨q1, q3⟩
/-- What stands behind the size test. -/
def rdBody (bs : List Nat) : Option M.Mod := (M.rdHead M.header bs).bind fun r => (M.sects r.length 0 M.dm0 r).bind M.joined
def ReadPost (B P D : Nat) (bs : List Nat) (w : World) (e : Ending) (w' : World) : Prop :=
  (∃ m cur, rdBody bs = some m ∧ e = .returned (.bool true) ∧ w'.heap[D]? = some (.cells cur 102 (0, 0)) ∧ MAt w' (fun k => D < k ∧ k < w'.heap.size) cur m ∧ Below B w w') ∨ (rdBody bs = none ∧ e = .returned (.bool false) ∧ Below B w w')
theorem head_step (k x : Nat) (r : List Nat) (hx : M.header[k]? = some x) : M.rdHead (M.header.drop k) r = ((M.cFix x).rd r).bind fun p => M.rdHead (M.header.drop (k + 1)) p.2 := by
  have hk : k < M.header.length := (List.getElem?_eq_some_iff.1 hx).1
  rw [List.drop_eq_getElem_cons hk]
  have e : M.header[k] = x := by rw [List.getElem?_eq_getElem hk] at hx; simpa using hx
  rw [e]
  cases r with
  | nil => rfl
  | cons b t =>
    simp only [M.rdHead, M.cFix]
    split
    · rfl
    · rfl
def hdrV : Array Value := #[.int .u8 0, .int .u8 97, .int .u8 115, .int .u8 109, .int .u8 1, .int .u8 0, .int .u8 0, .int .u8 0]
theorem hdr_cell (k x : Nat) (hx : M.header[k]? = some x) : hdrV[k]? = some (.int .u8 (x : Int)) ∧ x < 256 := by
  have hk : k < M.header.length := (List.getElem?_eq_some_iff.1 hx).1
  have hk8 : k = 0 ∨ k = 1 ∨ k = 2 ∨ k = 3 ∨ k = 4 ∨ k = 5 ∨ k = 6 ∨ k = 7 := by
    have : M.header.length = 8 := rfl
    omega
  rcases hk8 with rfl | rfl | rfl | rfl | rfl | rfl | rfl | rfl
  all_goals
    cases hx
    exact ⟨rfl, by decide⟩
def HRel (B P : Nat) (bs : List Nat) (w : World) (i : Value) (w' : World) : Prop :=
  ∃ (k : Nat) (r : List Nat), k ≤ 8 ∧ i = .int .i64 (k : Nat) ∧ PAt B w' P r ∧ M.rdHead M.header bs = M.rdHead (M.header.drop k) r ∧ Kb (· = P) w w' ∧ w'.heap[w.heap.size]? = some (.cells hdrV 5 (8, 9))
theorem conv_hdr (w : World) : (convert 33 33 (.slice (some ⟨w.heap.size, 0, none⟩) 8 8)).run Tryz.prog (w.alloc (.cells #[.int .u8 0, .int .u8 97, .int .u8 115, .int .u8 109, .int .u8 1, .int .u8 0, .int .u8 0, .int .u8 0] 5)) = .ok (.slice (some ⟨w.heap.size, 0, none⟩) 8 8) (w.alloc (.cells hdrV 5 (8, 9))) :=
  Lib.run_convert_bytes_const w 33 5 hdrV 8 8 Tryz.underlying33 Tryz.underlying5
set_option maxRecDepth 100000 in
set_option maxHeartbeats 8000000 in
theorem read_any (B P D : Nat) (cur : Array Value) (bs : List Nat) (w : World) (hp : PAt B w P bs) (hD : Dst w (fun _ => False) D 0 M.dm0 cur) (h2 : cur[2]? = some (.slice none 0 0)) (hne : D ≠ P) (hB : B ≤ D) :
    Calls Tryz.prog 47 #[.pointer (some ⟨D, 0, none⟩), .pointer (some ⟨P, 0, none⟩)] w (ReadPost B P D bs w) := by
  have hPl := hp.lt
  have hPlo := hp.lo
  have hDl := lt_row hD.row
  have rel0 := Lib.hid (show HRel B P bs w (.int .i64 ((0 : Nat) : Int)) (w.alloc (.cells hdrV 5 (8, 9))) from ⟨0, bs, by omega, rfl, hp.alloc _, rfl, .of_below ((Below.refl _ _).alloc (Nat.le_refl _) _), heap_alloc_new w _⟩)
  replace hp := Lib.hid hp
  replace hD := Lib.hid hD
  replace h2 := Lib.hid h2
  have hcv := conv_hdr w
  go_enter Tryz.func47, Tryz.ntmps47
  go_wp2_with fail
  go_loopw [10] (fun i w' => HRel B P bs w i w') (fun i _ => 8 - (intOf i).toNat)
  case atStart => exact rel0.out
  case round =>
    obtain ⟨k, r, hk, rfl, p2, hrt, kb, hrow⟩ := hrel
    clear rel0
    have hws := kb.size
    replace p2 := Lib.hid p2
    replace hrt := Lib.hid hrt
    replace kb := Lib.hid kb
    by_cases hlt : k < 8
    · obtain ⟨x, hx⟩ : ∃ x, M.header[k]? = some x := ⟨M.header[k]'(by show k < 8; exact hlt), List.getElem?_eq_getElem _⟩
      obtain ⟨hv1, hx256⟩ := hdr_cell k x hx
      have cx : wr.cell? ⟨w.heap.size, k, none⟩ = some (.int .u8 (x : Int)) := (cell_of_row wr w.heap.size k _ _ (8, 9) hrow).trans hv1
      have hst := Lib.hid (head_step k x r hx)
      have hwl : w.heap.size < wr.heap.size := (Array.getElem?_eq_some_iff.1 hrow).1
      replace hrow := Lib.hid hrow
      replace hx := Lib.hid hx
      replace hv1 := Lib.hid hv1
      go_wp2_with fail
      refine (mfixed_any x B P r _ p2.out hx256).mono ?_
      rintro e1 w1 (⟨r1, q1, rfl, p3, kb3⟩ | ⟨q1, rfl, kb3⟩)
      · have rel := Lib.hid (show HRel B P bs w (.int .i64 ((k : Int) + 1)) w1 from ⟨k + 1, r1, by omega, by rw [Int.natCast_add]; rfl, p3, by rw [hrt.out, hst.out, q1]; rfl, kb.out.trans kb3, by rw [kb3.block w.heap.size hwl (by omega)]; exact hrow.out⟩)
        clear p3 kb3
        go_wp2_with fail
        exact ⟨rel.out, by simp [intOf]; omega⟩
      · have hnone := Lib.hid (show rdBody bs = none by unfold rdBody; rw [hrt.out, hst.out, q1]; rfl)
        have bl := Lib.hid (show Below B w w1 from (kb.out.trans kb3).below hPlo (by omega))
        clear kb3
        go_wp2_with fail
        go_ret
        exact .inr ⟨hnone.out, rfl, bl.out⟩
    · have hk8 : k = 8 := by omega
      have hrd := Lib.hid (show M.rdHead M.header bs = some r by rw [hrt.out, hk8]; rfl)
      have tlt : decide ((k : Int) < 8) = false := by simp; omega
      have hDk : wr.heap[D]? = w.heap[D]? := kb.out.block D hDl hne
      have hD2 : Dst wr (fun _ => False) D 0 M.dm0 cur := hD.out.keepAll (fun b hb => hb.elim) (fun b hb => hb) hDk (hD.out.hkeep (P := P) (fun v hv hg => by rw [h2.out] at hv; cases hv; cases hg) (kb_g kb.out) (fun b hb => hb.elim) rfl)
      have cS := Lib.hid (sections_any B P D cur r wr p2.out hD2 h2.out hne hB)
      replace hk8 := Lib.hid hk8
      clear hD2
      go_wp2_with fail
      refine cS.out.mono ?_
      rintro e1 w1 (⟨d', last, cur', T, q1, rfl, hT, dst, kb3⟩ | ⟨q1, rfl, kb3⟩)
      · have hs3 := kb3.size
        have cJ := Lib.hid (join_any D last d' cur' T w1 dst (fun h => by have := (hT D h).1; omega) (fun k hk => (hT k hk).2))
        have bl := Lib.hid (show Below B w w1 from ⟨kb3.os.trans kb.out.os, kb3.tape.trans kb.out.tape, kb3.output.trans kb.out.output, by omega, fun b hb => by rw [kb3.block b (by omega) (by omega)]; exact kb.out.block b (by omega) (by omega)⟩)
        have hbody := Lib.hid (show rdBody bs = M.joined d' by unfold rdBody; rw [hrd.out, Option.bind_some, q1]; rfl)
        replace dst := Lib.hid dst
        replace hT := Lib.hid hT
        clear kb3
        go_wp2_with fail
        refine cJ.out.mono ?_
        rintro e2 w2 (⟨hl, rfl, hD3, agT, ⟨v, hv, hlst, hvl⟩, b4⟩ | ⟨hl, rfl, b4⟩)
        · have fin := Lib.hid (show ReadPost B P D bs w (.returned (.bool true)) w2 from .inl ⟨_, cur', by rw [hbody.out]; unfold M.joined; rw [if_pos hl], rfl, by rw [hD3]; exact dst.out.row, mat_of dst.out agT (fun b hb => by have := (hT.out b hb).1; have := (hT.out b hb).2; have := b4.size; exact ⟨by omega, by omega⟩) hv hlst (fun g hg => ⟨by
            obtain ⟨v', ty, cc, q1', _, _, _, q5⟩ := dst.out.f2
            rw [hv] at q1'
            cases q1'
            exact (q5 g hg).2, hvl g hg⟩), bl.out.trans (b4.mono (by omega))⟩)
          clear hD3 agT hlst hvl b4
          go_wp2_with fail
          go_ret
          exact fin.out
        · have fin := Lib.hid (show ReadPost B P D bs w (.returned (.bool false)) w2 from .inr ⟨by rw [hbody.out]; unfold M.joined; rw [if_neg hl], rfl, bl.out.trans (b4.mono (by omega))⟩)
          clear b4
          go_wp2_with fail
          go_ret
          exact fin.out
      · have fin := Lib.hid (show ReadPost B P D bs w (.returned (.bool false)) w1 from .inr ⟨by unfold rdBody; rw [hrd.out, Option.bind_some, q1]; rfl, rfl, ⟨kb3.os.trans kb.out.os, kb3.tape.trans kb.out.tape, kb3.output.trans kb.out.output, by have := kb3.size; omega, fun b hb => by rw [kb3.block b (by omega) (by omega)]; exact kb.out.block b (by omega) (by omega)⟩⟩)
        clear kb3
        go_wp2_with fail
        go_ret
        exact fin.out
end Go.Proofs.YtmejgbbdehndaaaGreat
