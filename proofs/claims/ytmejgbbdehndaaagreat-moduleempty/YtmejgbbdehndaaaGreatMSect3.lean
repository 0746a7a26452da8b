/-
  What the program's reader of all sections answers; condition: the place and the draft lie in memory that was there at the call.
-/
import Derived.Test.YtmejgbbdehndaaaGreatMSect2
import Derived.Deep.WholeRow
namespace Go.Proofs.YtmejgbbdehndaaaGreat
open Go.RowKit
/-- What reading a section of so many bytes leaves. -/
def SzPost (id B P D : Nat) (S : Nat → Prop) (last : Nat) (d : M.Dm) (bs : List Nat) (w : World) (e : Ending) (w' : World) : Prop :=
  (∃ d' r cur' T, M.sectS id d bs = some (d', r) ∧ e = .returned (.bool true) ∧ PAt B w' P r ∧ (∀ k, T k → S k ∨ Since w.heap.size w' k) ∧ Dst w' T D (max last id) d' cur' ∧ Kb (fun k => k = P ∨ k = D) w w') ∨
  (M.sectS id d bs = none ∧ e = .returned (.bool false) ∧ Kb (fun k => k = P ∨ k = D) w w')
set_option maxRecDepth 100000 in
set_option maxHeartbeats 4000000 in
theorem sized_sec (id B P D last rb ib db : Nat) (d : M.Dm) (cur : Array Value) (S : Nat → Prop) (bs : List Nat) (w : World) (hid : id < 12) (hp : PAt B w P bs) (hD : Dst w S D last d cur) (hl : id = 0 ∨ last < id) (hne : D ≠ P) (hB : B ≤ D) (h6 : ¬ S P) (h7 : ¬ S D) (h8 : ∀ k, S k → k < w.heap.size) (h9 : ∀ v, cur[2]? = some v → v.ownBlock ≠ some P)
    (ht : w.heap[rb]? = some (.cells secTab 148 (0, 0))) (hi : w.cell? ⟨ib, 0, none⟩ = some (.int .i64 (id : Nat))) (hd : w.cell? ⟨db, 0, none⟩ = some (.pointer (some ⟨D, 0, none⟩))) (hrb : rb ≠ P) (hib : ib ≠ P) (hdb : db ≠ P) :
    Calls Tryz.prog 100 #[.pointer (some ⟨P, 0, none⟩), .func (.func 101) #[] #[.pointer (some ⟨rb, 0, none⟩), .pointer (some ⟨ib, 0, none⟩), .pointer (some ⟨db, 0, none⟩)]] w (SzPost id B P D S last d bs w) := by
  have hv := Lib.hid (show M.sectS id d bs = (M.cPiece.rd bs).bind fun p => (M.sect id d p.1).bind fun q => match q.2 with | [] => some (q.1, p.2) | _ => none from rfl)
  have hPl := hp.lt
  have hPlo := hp.lo
  have hDl := lt_row hD.row
  have hrl := lt_row ht
  have hil := World.block_lt_of_cell? w ⟨ib, 0, none⟩ hi
  have hdl := World.block_lt_of_cell? w ⟨db, 0, none⟩ hd
  have ha := Lib.hid (hp.alloc (.cells #[.slice none 0 0] 105))
  replace hD := Lib.hid hD
  replace h6 := Lib.hid h6
  replace h7 := Lib.hid h7
  replace h8 := Lib.hid h8
  replace ht := Lib.hid ht
  replace hi := Lib.hid hi
  replace hd := Lib.hid hd
  clear hp
  go_enter Tryz.func100, Tryz.ntmps100
  go_wp2_with fail
  refine (mpiece_any B P w.heap.size 0 105 #[.slice none 0 0] (.slice none 0 0) bs _ ha.out (heap_alloc_new w _) rfl (by omega) (by omega)).mono ?_
  rintro e1 w1 (⟨x, r1, A, c, hrd, rfl, p1, c1, hc, hbx1, hxl, fr⟩ | ⟨hrd, rfl, kb⟩)
  · rw [hrd] at hv
    simp only [Option.bind_some] at hv
    have kb := kb_new fr.kb
    have hs1 : w.heap.size < w1.heap.size := by have := fr.kb.size; simp at this; omega
    have pin := inner_at (by omega) fr c1 hc hbx1 hxl
    have ag : Agree S w w1 := fun k hk => kb.block k (h8.out k hk) (fun e => h6.out (e ▸ hk))
    have hD1 : Dst w1 S D last d cur := hD.out.keepAll ag (fun _ h => h) (kb.block D hDl hne) (hD.out.hkeep h9 (kb_g kb) (fun k hk => .inl hk) rfl)
    have h9' : ∀ v, cur[2]? = some v → v.ownBlock ≠ some w.heap.size := fun v hv hg => by
      obtain ⟨v', ty, cc, q1, q2, _⟩ := hD.out.f2
      rw [hv] at q1
      cases q1
      have := (q2.lt _ hg).2
      omega
    have cN := Lib.hid (sec1_any id B w.heap.size D last rb ib db d cur S x w1 hid pin hD1 hl (by omega) hB (fun h => by have := h8.out _ h; omega) h7.out (fun k hk => by have := h8.out k hk; omega) h9' (by rw [kb.block rb hrl hrb]; exact ht.out) ((World.cell?_of_block (w := w) (kb.block ib hil hib)).trans hi.out) ((World.cell?_of_block (w := w) (kb.block db hdl hdb)).trans hd.out))
    replace kb := Lib.hid kb
    replace p1 := Lib.hid p1
    clear fr hc hbx1 hxl pin ag hD1 h9'
    go_wp2_with fail
    refine cN.out.mono ?_
    rintro e2 w2 (⟨d', r2, cur', T, q1, rfl, p2, hT, dst, kb2⟩ | ⟨q1, rfl, kb2⟩)
    · rw [q1] at hv
      simp only [Option.bind_some] at hv
      have hs2 := kb2.size
      have k2 : Kb (fun k => k = P ∨ k = D) w w2 := ⟨kb2.os.trans kb.out.os, kb2.tape.trans kb.out.tape, kb2.output.trans kb.out.output, by omega, fun k hk hn => by rw [kb2.block k (by omega) (by omega)]; exact kb.out.block k hk (by omega)⟩
      have p3 : PAt B w2 P r1 := p1.out.agree fun k hk => kb2.block k (by rcases hk with hk | rfl <;> omega) (by rcases hk with hk | rfl <;> omega)
      obtain ⟨A2, c2, hi2, _⟩ := p2.ex
      have ci : w2.cell? ⟨w.heap.size, 0, none⟩ = some (.slice A2 r2.length c2) := cell_row hi2 0
      have fin := Lib.hid (show M.sectS id d bs = some (d', r1) → SzPost id B P D S last d bs w (.returned (.bool true)) w2 from fun e => .inl ⟨d', r1, cur', T, e, rfl, p3, fun b hb => by rcases hT b hb with hb | hb; exact .inl hb; exact .inr ⟨by have := hb.1; omega, hb.2⟩, dst, k2⟩)
      replace k2 := Lib.hid k2
      clear p2 dst kb2 p3 hi2 c1
      cases r2 with
      | nil =>
        simp only [List.length_nil] at ci
        go_wp2_with fail
        go_ret
        exact fin.out hv.out
      | cons b0 rr =>
        have hne0 : (((b0 :: rr).length : Int) == 0) = false := by rw [beq_eq_false_iff_ne]; simp; omega
        obtain ⟨m, hm⟩ : ∃ m, m = (b0 :: rr).length := ⟨_, rfl⟩
        rw [← hm] at ci hne0
        replace hm := Lib.hid hm
        go_wp2_with fail
        go_ret
        exact .inr ⟨hv.out, rfl, k2.out⟩
    · rw [q1] at hv
      have k2 := Lib.hid (show Kb (fun k => k = P ∨ k = D) w w2 from ⟨kb2.os.trans kb.out.os, kb2.tape.trans kb.out.tape, kb2.output.trans kb.out.output, by have := kb2.size; omega, fun k hk hn => by rw [kb2.block k (by omega) (by omega)]; exact kb.out.block k hk (by omega)⟩)
      clear kb2
      go_wp2_with fail
      go_ret
      exact .inr ⟨hv.out, rfl, k2.out⟩
  · rw [hrd] at hv
    replace kb := Lib.hid (kb_new kb)
    go_wp2_with fail
    go_ret
    exact .inr ⟨hv.out, rfl, kb_g kb.out⟩
theorem HAt.neP {w : World} {S : Nat → Prop} {B P D : Nat} {bs : List Nat} {cur : Array Value} {x : List M.Fn} (h : HAt w S D cur x) (hp : PAt B w P bs) : ∀ v, cur[2]? = some v → v.ownBlock ≠ some P := fun v hv hg => by
  obtain ⟨v', ty, cc, q1, q2, _⟩ := h
  rw [hv] at q1
  cases q1
  obtain ⟨A, c, hP, _⟩ := hp.ex
  rcases q2.2 with ⟨rfl, _⟩ | ⟨g, cap, cu, rfl, _, hgg, _, _, hsz, _⟩
  · cases hg
  · have e : g = P := by simpa [Value.ownBlock] using hg
    subst e
    rw [hP] at hgg
    injection hgg with hgg
    injection hgg with e1
    rw [← e1] at hsz
    simp at hsz
    omega
/-- What the loop over the sections keeps up. -/
def SecRel (B P D rb : Nat) (w : World) (total : Option M.Dm) (s6 : Value) (w' : World) : Prop :=
  ∃ (last : Nat) (d : M.Dm) (q : List Nat) (cur : Array Value) (T : Nat → Prop), last < 12 ∧ s6 = .int .i64 (last : Nat) ∧ PAt B w' P q ∧ (∀ k, T k → Since w.heap.size w' k) ∧ Dst w' T D last d cur ∧ Kb (fun k => k = P ∨ k = D) w w' ∧ w'.heap[rb]? = some (.cells secTab 148 (0, 0)) ∧ w'.cell? ⟨w.heap.size, 0, none⟩ = some (.pointer (some ⟨D, 0, none⟩)) ∧ total = M.sects q.length last d q
def SsPost (B P D : Nat) (bs : List Nat) (w : World) (e : Ending) (w' : World) : Prop :=
  (∃ d' last cur T, M.sects bs.length 0 M.dm0 bs = some d' ∧ e = .returned (.bool true) ∧ (∀ k, T k → Since w.heap.size w' k) ∧ Dst w' T D last d' cur ∧ Kb (fun k => k = P ∨ k = D) w w') ∨
  (M.sects bs.length 0 M.dm0 bs = none ∧ e = .returned (.bool false) ∧ Kb (fun k => k = P ∨ k = D) w w')
def lenP (w : World) (P : Nat) : Nat := match w.cell? ⟨P, 0, none⟩ with | some (.slice _ l _) => l | _ => 0
def secZ : Array Value := Array.replicate 12 .nilFunc
theorem zero_sec (w : World) : (zeroValue 148).run Tryz.prog w = .ok (.agg secZ) w := by kernel_rfl
theorem sec_info : (Tryz.prog.info? 148).map (·.size) = some secTab.size := by kernel_rfl
theorem sec_under : Tryz.prog.underlying 148 = some (.array 12 147) := by kernel_rfl
theorem sec_size : secZ.size = secTab.size := by kernel_rfl
theorem sec_one : secTab.all (·.oneCell') = true := by kernel_rfl
theorem wpList_buildAs {P : Program} {ops : Array Oper} {rest : List Oper} {o : Oper} {a : Act} {w : World} {Q : Exit → Act → World → Prop} (hg : o.guard = none) (t : TypeId) (parts : Array (Nat × Operand)) (ho : o.op = .build t parts) (cells : Array Value)
    (hc : P.built t (parts.map fun (i, x) => (i, a.eval x)).toList = some cells)
    (h : wpList P ops Q rest (a.put o.dst (.agg cells)) w) : wpList P ops Q (o :: rest) a w :=
  wpList_build hg t parts ho (by rw [hc]; rfl) (by rw [hc]; exact h)
theorem wpList_storeNew {P : Program} {ops : Array Oper} {rest : List Oper} {o : Oper} {a : Act} {w : World} {Q : Exit → Act → World → Prop} (hgd : o.guard = none) (ty : TypeId) (x y : Operand) (ho : o.op = .store ty x y)
    (c c' : Array Value) (hx : a.eval x = .pointer (some ⟨w.heap.size, 0, none⟩)) (hy : a.eval y = .agg c') (hi : (P.info? ty).map (·.size) = some c'.size)
    (hold : c.size = c'.size) (h1 : c'.all (·.oneCell') = true)
    (h : wpList P ops Q rest (a.put o.dst undef) (w.alloc (.cells c' ty))) : wpList P ops Q (o :: rest) a (w.alloc (.cells c ty)) :=
  wpList_store_row hgd ty x y ho w.heap.size c' hx hy ty c (heap_alloc_last w _) hi hold h1 (by rw [World.setRow_alloc_new]; exact h)
set_option maxRecDepth 100000 in
theorem sectionReaders_any (w : World) : Calls Tryz.prog 99 #[] w fun e w' => e = .returned (.agg secTab) ∧ Below w.heap.size w w' := by
  have hz := zero_sec
  go_enter Tryz.func99, Tryz.ntmps99
  go_wp2_with (first | (refine wpList_buildAs rfl 148 _ rfl secTab (by kernel_rfl) ?_) | (refine wpList_storeNew rfl 148 _ _ rfl secZ secTab rfl rfl sec_info sec_size sec_one ?_))
  refine bodyPost_ret (results_cell_row rfl _ _ w.heap.size _ secTab _ _ rfl (heap_alloc_last w _) sec_under rfl sec_info) rfl ?_
  exact ⟨rfl, (Below.refl _ _).alloc (Nat.le_refl _) _⟩
theorem lenP_eq {B : Nat} {w : World} {P : Nat} {q : List Nat} (h : PAt B w P q) : lenP w P = q.length := by
  obtain ⟨A, c, h1, _⟩ := h.ex
  unfold lenP
  rw [cell_row h1 0]
  rfl
set_option maxRecDepth 100000 in
set_option maxHeartbeats 8000000 in
theorem sections_any (B P D : Nat) (cur : Array Value) (bs : List Nat) (w : World) (hp : PAt B w P bs) (hD : Dst w (fun _ => False) D 0 M.dm0 cur) (h2 : cur[2]? = some (.slice none 0 0)) (hne : D ≠ P) (hB : B ≤ D) :
    Calls Tryz.prog 73 #[.pointer (some ⟨D, 0, none⟩), .pointer (some ⟨P, 0, none⟩)] w (SsPost B P D bs w) := by
  have hPl := hp.lt
  have hPlo := hp.lo
  have hDl := lt_row hD.row
  replace hp := Lib.hid hp
  replace hD := Lib.hid hD
  replace h2 := Lib.hid h2
  go_enter Tryz.func73, Tryz.ntmps73
  have hz := zero_sec
  go_wp2_with fail
  refine (sectionReaders_any _).mono ?_
  rintro e0 w0 ⟨rfl, b0⟩
  have hs0 : w.heap.size < w0.heap.size := by have := b0.size; simp at this; omega
  have b1 : Below w.heap.size w w0 := ((Below.refl _ _).alloc (Nat.le_refl _) _).trans (b0.mono (by simp))
  have hcb : w0.cell? ⟨w.heap.size, 0, none⟩ = some (.pointer (some ⟨D, 0, none⟩)) := by rw [b0.cell (p := ⟨w.heap.size, 0, none⟩) (by simp)]; simp
  obtain ⟨rb, hrb⟩ : ∃ rb, rb = w0.heap.size := ⟨_, rfl⟩
  have rel0 := Lib.hid (show SecRel B P D rb w (M.sects bs.length 0 M.dm0 bs) (.int .i64 ((0 : Nat) : Int)) (w0.alloc (.cells secTab 148)) from by
    have b2 : Below w.heap.size w (w0.alloc (.cells secTab 148)) := b1.alloc (by omega) _
    refine ⟨0, M.dm0, bs, cur, fun _ => False, by omega, rfl, hp.out.later b2, fun k hk => hk.elim, hD.out.keepAll (fun k hk => hk.elim) (fun k hk => hk) (b2.block D hDl) (hD.out.hkeep (P := P) (fun v hv hg => by rw [h2.out] at hv; cases hv; cases hg) (.of_below b2) (fun k hk => hk.elim) rfl), .of_below b2, ?_, ?_, rfl⟩
    · rw [hrb]; exact heap_alloc_new w0 _
    · rw [World.cell?_of_block (w := w0) (Below.heap_alloc _ _ _ hs0)]; exact hcb)
  clear b0 b1 hcb
  go_wp2_with (refine wpList_storeNew rfl 148 _ _ rfl secZ secTab rfl rfl sec_info sec_size sec_one ?_)
  rw [← hrb]
  replace hrb := Lib.hid hrb
  go_loopw [6] (fun s6 w' => SecRel B P D rb w (M.sects bs.length 0 M.dm0 bs) s6 w') (fun _ w' => lenP w' P)
  case atStart => exact rel0.out
  case round =>
    obtain ⟨last, d, q, cur2, T, hlast, rfl, p2, hT, dst, kb, htab, hbox, htot⟩ := hrel
    replace hT := Lib.hid hT
    have h9 := Lib.hid (dst.f2.neP p2)
    have hlenP := Lib.hid (lenP_eq p2)
    obtain ⟨A, c, hP, hc1, hc2, hb3⟩ := p2.ex
    have c0 : wr.cell? ⟨P, 0, none⟩ = some (.slice A q.length c) := cell_row hP 0
    have hws := kb.size
    clear rel0
    cases q with
    | nil =>
      have fin := Lib.hid (show SsPost B P D bs w (.returned (.bool true)) wr from .inl ⟨d, last, cur2, T, by rw [htot]; rfl, rfl, hT.out, dst, kb⟩)
      simp only [List.length_nil] at c0
      clear p2 dst kb htab hbox htot hP hb3
      go_wp2_with fail
      go_ret
      exact fin.out
    | cons b r =>
      obtain ⟨m, hm⟩ : ∃ m, m = (b :: r).length := ⟨_, rfl⟩
      have hm1 : 1 ≤ m := by rw [hm]; simp
      rw [← hm] at c0
      have t0 : decide ((0 : Int) < (m : Int)) = true := by simp; omega
      have pa := Lib.hid (p2.alloc (.cells #[.int .i64 0] 3))
      have hrl := lt_row htab
      have hbxl := World.block_lt_of_cell? wr ⟨w.heap.size, 0, none⟩ hbox
      have hb256 : b < 256 := by
        obtain ⟨_, _, _, h4, _⟩ := hb3 0 (by simp)
        exact h4
      replace hm := Lib.hid hm
      replace dst := Lib.hid dst
      replace kb := Lib.hid kb
      replace htab := Lib.hid htab
      replace hbox := Lib.hid hbox
      replace htot := Lib.hid htot
      clear p2 hP hb3 hc1 hc2
      go_wp2_with fail
      refine ((mbyte_ok (.int .i64 0)).yes (x := (b : Int)) (r := r) rfl pa.out (heap_alloc_new wr _) (one_row _) (by omega) (by omega) ⟨rfl, rfl, rfl, rfl⟩).mono ?_
      rintro e1 w1 ⟨rfl, p3, ⟨cs, ⟨rfl, _⟩, hcs⟩, fr3⟩
      have ci : w1.cell? ⟨wr.heap.size, 0, none⟩ = some (.int .i64 (b : Nat)) := hcs 0 _ rfl
      have kb3 := kb_new fr3.kb
      have hs3 : wr.heap.size < w1.heap.size := by have := fr3.kb.size; simp at this; omega
      have hsm := p3.small
      have tot2 := Lib.hid (show M.sects bs.length 0 M.dm0 bs = if 12 ≤ b ∨ (b ≠ 0 ∧ b ≤ last) then none else (M.sectS b d r).bind fun q => M.sects r.length (max last b) q.1 q.2 from htot.out)
      have kb4 := Lib.hid (kb.out.trans (kb_g (g := D) kb3))
      by_cases hbad : 12 ≤ b ∨ (b ≠ 0 ∧ b ≤ last)
      · rw [if_pos hbad] at tot2
        clear p3 fr3 hcs kb3
        by_cases h12 : 12 ≤ b
        · have t1 : decide ((12 : Int) ≤ (b : Int)) = true := by simp; omega
          go_wp2_with fail
          go_ret
          exact .inr ⟨tot2.out, rfl, kb4.out⟩
        · have t1 : decide ((12 : Int) ≤ (b : Int)) = false := by simp; omega
          have t2 : ((b : Int) != 0) = true := by simp; omega
          have t3 : decide ((b : Int) ≤ (last : Int)) = true := by simp; omega
          have t3' : decide (b ≤ last) = true := by simp; omega
          have t3'' : b ≤ last := by omega
          replace hbad := Lib.hid hbad
          go_wp2_with fail
          go_ret
          exact .inr ⟨tot2.out, rfl, kb4.out⟩
      · rw [if_neg hbad] at tot2
        have hid : b < 12 := by omega
        have hlid : b = 0 ∨ last < b := by omega
        have t1 : decide ((12 : Int) ≤ (b : Int)) = false := by simp; omega
        have hmx : max (last : Int) (b : Int) = ((max last b : Nat) : Int) := by omega
        have hDr : D < wr.heap.size := lt_row dst.out.row
        have ag : Agree T wr w1 := fun k hk => kb3.block k (hT.out k hk).2 (by have := (hT.out k hk).1; omega)
        have h9 := h9.out
        have dst1 : Dst w1 T D last d cur2 := dst.out.keepAll ag (fun _ h => h) (kb3.block D hDr hne) (dst.out.hkeep h9 (kb_g kb3) (fun k hk => .inl hk) rfl)
        have cS := Lib.hid (fun (W : World) (s : Same w1 W) => sized_sec b B P D last rb wr.heap.size w.heap.size d cur2 T r W hid (s.pat p3) (dst1.same s) hlid hne hB (fun h => by have := (hT.out _ h).1; omega) (fun h => by have := (hT.out _ h).1; omega) (fun k hk => by rw [s.heap]; have := (hT.out k hk).2; omega) h9 (by rw [s.heap, kb3.block rb hrl (by have := hrb.out; omega)]; exact htab.out) ((s.pcell _).trans ci) ((s.pcell _).trans ((World.cell?_of_block (w := wr) (kb3.block w.heap.size hbxl (by omega))).trans hbox.out)) (by have := hrb.out; omega) (by omega) (by omega))
        have stp := Lib.hid (show ∀ d' r' cur' T2 w2, M.sectS b d r = some (d', r') → PAt B w2 P r' → (∀ k, T2 k → T k ∨ Since w1.heap.size w2 k) → Dst w2 T2 D (max last b) d' cur' → Kb (fun k => k = P ∨ k = D) w1 w2 → SecRel B P D rb w (M.sects bs.length 0 M.dm0 bs) (.int .i64 ((max last b : Nat) : Int)) w2 ∧ lenP w2 P < lenP wr P from fun d' r' cur' T2 w2 q1 q3 hT2 q4 q5 => by
          have hs5 := q5.size
          have hsh := M.sectS_short q1
          refine ⟨⟨max last b, d', r', cur', T2, by omega, rfl, q3, fun k hk => by rcases hT2 k hk with hk | hk; exact ⟨(hT.out k hk).1, by have := (hT.out k hk).2; omega⟩; exact ⟨by have := hk.1; omega, hk.2⟩, q4, kb4.out.trans q5, ?_, ?_, ?_⟩, ?_⟩
          · rw [q5.block rb (by omega) (by have := hrb.out; omega), kb3.block rb hrl (by have := hrb.out; omega)]; exact htab.out
          · rw [World.cell?_of_block (w := w1) (q5.block w.heap.size (by omega) (by omega)), World.cell?_of_block (w := wr) (kb3.block w.heap.size hbxl (by omega))]; exact hbox.out
          · rw [tot2.out, q1]
            exact M.sects_fuel _ _ _ _ _ (by simpa using hsh) (Nat.le_refl _)
          · rw [lenP_eq q3, hlenP.out]
            simp
            omega)
        replace hbad := Lib.hid hbad
        clear ag dst1 fr3 hcs kb3 p3 hmx h9
        by_cases hb0 : b = 0
        · subst hb0
          have hmxl : max last 0 = last := Nat.max_eq_left (Nat.zero_le _)
          replace hmxl := Lib.hid hmxl
          have t9 : decide ((0 : Int) < (last : Int) ∨ (0 : Int) = (last : Int)) = true := by simp; omega
          go_wp2_with fail
          all_goals (
            refine Calls.mono (cS.out _ ⟨rfl, rfl, rfl, rfl⟩) ?_
            rintro e2 w2 (⟨d', r', cur', T2, q1, rfl, q3, hT2, q4, q5⟩ | ⟨q1, rfl, q5⟩)
            · have fin := stp.out d' r' cur' T2 w2 q1 q3 hT2 q4 q5
              rw [hmxl.out] at fin
              replace fin := Lib.hid fin
              clear q3 q4 q5 hT2
              go_wp2_with fail
              exact fin.out
            · have fin := Lib.hid (show SsPost B P D bs w (.returned (.bool false)) w2 from .inr ⟨by rw [tot2.out, q1]; rfl, rfl, kb4.out.trans q5⟩)
              clear q5
              go_wp2_with fail
              go_ret
              exact fin.out)
        · have hlb : last < b := by omega
          have hmxl : max last b = b := Nat.max_eq_right (Nat.le_of_lt hlb)
          replace hmxl := Lib.hid hmxl
          have t2 : ((b : Int) != 0) = true := by simp; omega
          have t3 : decide ((b : Int) ≤ (last : Int)) = false := by simp; omega
          have t3' : decide (b ≤ last) = false := by simp; omega
          go_wp2_with fail
          all_goals (
            refine Calls.mono (cS.out _ ⟨rfl, rfl, rfl, rfl⟩) ?_
            rintro e2 w2 (⟨d', r', cur', T2, q1, rfl, q3, hT2, q4, q5⟩ | ⟨q1, rfl, q5⟩)
            · have fin := stp.out d' r' cur' T2 w2 q1 q3 hT2 q4 q5
              rw [hmxl.out] at fin
              replace fin := Lib.hid fin
              clear q3 q4 q5 hT2
              go_wp2_with fail
              exact fin.out
            · have fin := Lib.hid (show SsPost B P D bs w (.returned (.bool false)) w2 from .inr ⟨by rw [tot2.out, q1]; rfl, rfl, kb4.out.trans q5⟩)
              clear q5
              go_wp2_with fail
              go_ret
              exact fin.out)
end Go.Proofs.YtmejgbbdehndaaaGreat
