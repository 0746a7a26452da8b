/-
  What the page's reader of a list, and of an expression, answers; condition: the bytes lie in memory that was there at the call.
-/
import Derived.Test.YtjapcalndolamaaPBlock
namespace Go.Proofs.Ytjapcalndolamaa
open Go.RowKit
theorem pinstr_any (w : World) (P : Nat) (ad : Addr) (c : Nat) (bs : List Nat) (r : List Nat) (op : Nat) (d : Nat) (h : St w P (some ad) c bs (some r)) (hop : op < 256) (hd : d ≤ 40) (ih : ∀ d', d = d' + 1 → PListOk d') :
    Calls Try.prog 50 #[.pointer (some ⟨P, 0, none⟩), .int .i64 (op : Nat), .int .i64 (d : Nat)] w (PInsPost P (some ad) c bs (M.ins (M.subOf d) op r) w) := by
  rcases M.kind_cases (op : Int) with k | k | k | k | k | k | k | k | k | k
  · exact pinstr_0 w P ad c bs r op d _ h hop k
  · exact pinstr_1 w P (some ad) c bs (some r) op d _ h hop k
  · exact pinstr_2 w P ad c bs r op d h hop k hd ih
  · exact pinstr_3 w P ad c bs r op d _ h hop k
  · exact pinstr_4 w P ad c bs r op d _ h hop k
  · exact pinstr_5 w P ad c bs r op d _ h hop k
  · exact pinstr_6 w P ad c bs r op d _ h hop k
  · exact pinstr_7 w P ad c bs r op d _ h hop k
  · exact pinstr_8 w P ad c bs r op d _ h hop k
  · exact pinstr_9 w P ad c bs r op d _ h hop k
/-- How much is still to be read. -/
def left (n : Nat) (w : World) (P : Nat) : Nat := match w.cell? ⟨P, 2, none⟩ with | some (.bool true) => 0 | _ => 1 + (n - atOf w P)
theorem left_some {w : World} {P : Nat} {A : Option Addr} {c : Nat} {bs t : List Nat} (h : St w P A c bs (some t)) : left bs.length w P = 1 + t.length := by
  obtain ⟨q, hq, e⟩ := h
  have := hq.le
  unfold left atOf
  rw [hq.c2, hq.c1, e, List.length_drop]
  simp
theorem left_none {w : World} {P : Nat} {A : Option Addr} {c : Nat} {bs : List Nat} (h : St w P A c bs none) : left bs.length w P = 0 := by
  obtain ⟨q, hq⟩ := h
  unfold left
  rw [hq.c2]
/-- What the loop of the page's list keeps up. -/
def PLRel (P : Nat) (A : Option Addr) (c : Nat) (bs : List Nat) (d : Nat) (other : Bool) (t0 : List Nat) (w : World) (v : Value) (w' : World) : Prop :=
  Kb (· = P) w w' ∧ ((∃ (t : List Nat) (acc : M.L) (xs : List Value), St w' P A c bs (some t) ∧ w'.ownsRow w.heap.size 48 9 v acc.len xs ∧ Items w' (fun k => (w.heap.size ≤ k ∧ k < w'.heap.size) ∧ v.ownBlock ≠ some k) acc xs ∧
      M.dec d t0 = (M.dec d t).bind (fun x => some (acc.app x.1, x.2)) ∧ acc.len + t.length ≤ bs.length) ∨
    (St w' P A c bs none ∧ M.endL d other t0 = none))
namespace M
theorem endL_of {d : Nat} {other : Bool} {t0 t : List Nat} {acc : L} (h : dec d t0 = (dec d t).bind fun x => some (acc.app x.1, x.2)) : endL d other t0 = (endL d other t).bind fun p => some (acc.app p.1, p.2) := by
  unfold endL
  rw [h]
  cases dec d t with
  | none => rfl
  | some p =>
    obtain ⟨l, r⟩ := p
    cases r with
    | nil => rfl
    | cons x r =>
      simp only [Option.bind_some]
      split
      · rfl
      · split <;> rfl
theorem endL_nil (d : Nat) (other : Bool) : endL d other [] = none := by unfold endL; rw [dec_nil]
theorem endL_11 (d : Nat) (other : Bool) (r : List Nat) : endL d other (11 :: r) = some (.nil, 11, r) := by unfold endL; rw [dec_stop d 11 r (.inr rfl)]; rfl
theorem endL_5 (d : Nat) (r : List Nat) : endL d true (5 :: r) = some (.nil, 5, r) := by unfold endL; rw [dec_stop d 5 r (.inl rfl)]; rfl
theorem endL_5n (d : Nat) (r : List Nat) : endL d false (5 :: r) = none := by unfold endL; rw [dec_stop d 5 r (.inl rfl)]; rfl
theorem endL_none {d : Nat} {other : Bool} {x : Nat} {r : List Nat} (hx : ¬ (x = 5 ∨ x = 11)) (h : ins (subOf d) x r = none) : endL d other (x :: r) = none := by unfold endL; rw [dec_step d x r hx, h]; rfl
end M
/-- An instruction has been appended to the list. -/
theorem plist_put {P : Nat} {w wr w4 w5 : World} {u : Value} {acc : M.L} {xs : List Value} {h : M.Hd} {b e : M.L} {vL vB vE : Value} {g cap : Nat} {ob : Obj} (hP : P < w.heap.size) (hs : w.heap.size ≤ wr.heap.size) (kb4 : Kb (· = P) wr w4)
    (own : wr.ownsRow w.heap.size 48 9 u acc.len xs) (its : Items wr (fun k => (w.heap.size ≤ k ∧ k < wr.heap.size) ∧ u.ownBlock ≠ some k) acc xs) (hR : Rng h) (oL : OwnN w4 (Since wr.heap.size w4) vL h.labels) (oB : OwnL w4 (Since wr.heap.size w4) vB b) (oE : OwnL w4 (Since wr.heap.size w4) vE e)
    (hgr : (w4.alloc ob).grownBy w5 u.ownBlock) (hat : u.ownBlock = some g ∨ g = w4.heap.size + 1) :
    Items w5 (fun k => (w.heap.size ≤ k ∧ k < w5.heap.size) ∧ (Value.slice (some ⟨g, 0, none⟩) (acc.len + 1) cap).ownBlock ≠ some k) (acc.app (.cons h b e .nil)) (xs ++ item9 h vL vB vE) := by
  have hu : ∀ k, u.ownBlock = some k → w.heap.size ≤ k ∧ k < wr.heap.size := fun k hk => own.lt k hk
  have h4 := kb4.size
  have h5 : w4.heap.size + 1 ≤ w5.heap.size := by have := hgr.size; simpa using this
  have same : ∀ k, k < w4.heap.size → u.ownBlock ≠ some k → w5.heap[k]? = w4.heap[k]? := fun k hk hne => by
    rw [hgr.block k (by simp; omega) (fun e => hne e.symm)]
    exact Below.heap_alloc _ _ _ hk
  have new : ∀ k, Since wr.heap.size w4 k → (w.heap.size ≤ k ∧ k < w5.heap.size) ∧ (Value.slice (some ⟨g, 0, none⟩) (acc.len + 1) cap).ownBlock ≠ some k := fun k hk => ⟨⟨by have := hk.1; omega, by have := hk.2; omega⟩, fun e9 => by
    have e9 : g = k := by simpa [Value.ownBlock] using e9
    rcases hat with h9 | h9
    · have := (hu g h9).2; have := hk.1; omega
    · have := hk.2; omega⟩
  have ag : Agree (Since wr.heap.size w4) w4 w5 := fun k hk => same k hk.2 (fun e9 => by have := (hu k e9).2; have := hk.1; omega)
  refine Items.app hR (oL.agree ag new) (oB.agree ag new) (oE.agree ag new) acc xs ?_
  refine Items.agree (show Agree (fun k => (w.heap.size ≤ k ∧ k < wr.heap.size) ∧ u.ownBlock ≠ some k) wr w5 from fun k hk => (same k (by have := hk.1.2; omega) hk.2).trans (kb4.block k hk.1.2 (by have := hk.1.1; omega))) (fun k hk => ⟨⟨hk.1.1, by have := hk.1.2; omega⟩, ?_⟩) acc xs its
  intro e9
  have e9 : g = k := by simpa [Value.ownBlock] using e9
  rcases hat with h9 | h9
  · exact hk.2 (by rw [h9, e9])
  · have := hk.1.2; omega
theorem kb_grown {P : Nat} {w wr w4 w5 : World} {u : Value} {ob : Obj} (kb : Kb (· = P) w wr) (kb4 : Kb (· = P) wr w4) (hu : ∀ k, u.ownBlock = some k → w.heap.size ≤ k) (hgr : (w4.alloc ob).grownBy w5 u.ownBlock) : Kb (· = P) w w5 := by
  have h1 := kb.size
  have h4 := kb4.size
  exact ⟨hgr.os.trans (kb4.os.trans kb.os), hgr.tape.trans (kb4.tape.trans kb.tape), hgr.output.trans (kb4.output.trans kb.output), by have := hgr.size; simp at this; omega, fun k hk hne => by
    rw [hgr.block k (by simp; omega) (fun e => by have := hu k e.symm; omega), Below.heap_alloc _ _ _ (by omega), kb4.block k (by omega) hne]
    exact kb.block k hk hne⟩
theorem st_grown {P : Nat} {A : Option Addr} {c : Nat} {bs : List Nat} {o : Option (List Nat)} {w w4 w5 : World} {u : Value} {ob : Obj} (st : St w4 P A c bs o) (hP : P < w.heap.size) (hu : ∀ k, u.ownBlock = some k → w.heap.size ≤ k) (hgr : (w4.alloc ob).grownBy w5 u.ownBlock) : St w5 P A c bs o := by
  have := st.lt
  exact st.agree (fun k hk => by
    rw [hgr.block k (by simp; omega) (fun e => by have := hu k e.symm; omega)]
    exact Below.heap_alloc _ _ _ (by omega)) (by have := hgr.size; simp at this; omega)
theorem item_one {h : M.Hd} {vL vB vE : Value} (h1 : IsSl vL) (h2 : IsSl vB) (h3 : IsSl vE) : ∀ u ∈ item9 h vL vB vE, u.oneCell' = true := by
  obtain ⟨_, _, _, rfl⟩ := h1
  obtain ⟨_, _, _, rfl⟩ := h2
  obtain ⟨_, _, _, rfl⟩ := h3
  simp [item9, Value.oneCell']
theorem PIns.sl {P : Nat} {A : Option Addr} {c : Nat} {bs : List Nat} {res : Option (M.It × List Nat)} {h : M.Hd} {vL vB vE : Value} {B : Nat} {w' : World} (hp : PIns P A c bs res h vL vB vE B w') : IsSl vL ∧ IsSl vB ∧ IsSl vE := by
  cases res with
  | none => exact hp.2
  | some x => exact ⟨hp.2.2.2.1.sl, hp.2.2.2.2.1.sl, hp.2.2.2.2.2.sl⟩
theorem PIns.st {P : Nat} {A : Option Addr} {c : Nat} {bs : List Nat} {res : Option (M.It × List Nat)} {h : M.Hd} {vL vB vE : Value} {B : Nat} {w' : World} (hp : PIns P A c bs res h vL vB vE B w') : St w' P A c bs (res.map (·.2)) := by
  cases res with
  | none => exact hp.1
  | some x => exact hp.2.1
set_option maxRecDepth 100000 in
set_option maxHeartbeats 8000000 in
/-- The page's list, from what its reader of an instruction answers. -/
theorem plist_of (d : Nat) (_hd : d ≤ 40) (P : Nat) (A : Option Addr) (c : Nat) (bs : List Nat) (t0 : List Nat) (other : Bool) (w : World) (h : St w P A c bs (some t0)) (hlen : bs.length ≤ 100000)
    (hins : ∀ (op : Nat) (r : List Nat) (w1 : World), op < 256 → r.length < bs.length → St w1 P A c bs (some r) → Calls Try.prog 50 #[.pointer (some ⟨P, 0, none⟩), .int .i64 (op : Nat), .int .i64 (d : Nat)] w1 (PInsPost P A c bs (M.ins (M.subOf d) op r) w1)) :
    Calls Try.prog 27 #[.pointer (some ⟨P, 0, none⟩), .int .i64 (d : Nat), .bool other] w fun e w' => Kb (· = P) w w' ∧ ((∃ l x r v, M.endL d other t0 = some (l, x, r) ∧ e = .returned (.tuple #[v, .int .i64 (x : Nat)]) ∧ OwnL w' (Since w.heap.size w') v l ∧ St w' P A c bs (some r)) ∨
    (M.endL d other t0 = none ∧ e = .returned (.tuple #[.slice none 0 0, .int .i64 0]) ∧ St w' P A c bs none)) := by
  obtain ⟨i0, hi0, hz0, hz1, hz2⟩ := info_parts instr_info
  have hP := h.lt
  have ht0 : t0.length ≤ bs.length := by obtain ⟨q, hq, e⟩ := h; rw [e, List.length_drop]; omega
  replace h := Lib.hid h
  replace hins := Lib.hid hins
  go_enter Try.func27, Try.ntmps27
  go_wp2_with fail
  go_loopw [8] (fun v w' => PLRel P A c bs d other t0 w v w') (fun _ w' => left bs.length w' P)
  case atStart => exact ⟨Kb.refl _ _, .inl ⟨t0, .nil, [], h.out, World.ownsRow_nil _ _ _ _, rfl, by cases M.dec d t0 <;> rfl, by simp [M.L.len]; omega⟩⟩
  case round =>
    obtain ⟨kb, hcase⟩ := hrel
    have hws : w.heap.size ≤ wr.heap.size := kb.size
    rcases hcase with ⟨t, acc, xs, st, own, its, hdec, hl⟩ | ⟨st, hend⟩
    · have hleft := Lib.hid (left_some st)
      have c2 := st.bad.1
      simp only [Option.isNone_some] at c2
      have hE := Lib.hid (M.endL_of (other := other) hdec)
      have hu8 : ∀ k, u8.ownBlock = some k → w.heap.size ≤ k := fun k hk => (own.lt k hk).1
      replace hu8 := Lib.hid hu8
      replace st := Lib.hid st
      replace own := Lib.hid own
      replace its := Lib.hid its
      replace hdec := Lib.hid hdec
      replace kb := Lib.hid kb
      go_wp2_with fail
      refine (pbyte_any _ P A c bs (some t) st.out).mono ?_
      rintro e1 w1 ⟨rfl, st1, kb1, hlt1⟩
      have own1 := Lib.hid (show w1.ownsRow w.heap.size 48 9 u8 acc.len xs from ownsRow_agree own.out (fun k hk => kb1.block k (own.out.lt k hk).2 (by have := (own.out.lt k hk).1; omega)))
      have its1 := Lib.hid (show Items w1 (fun k => (w.heap.size ≤ k ∧ k < w1.heap.size) ∧ u8.ownBlock ≠ some k) acc xs from Items.agree (show Agree (fun k => (w.heap.size ≤ k ∧ k < wr.heap.size) ∧ u8.ownBlock ≠ some k) wr w1 from fun k hk => kb1.block k hk.1.2 (by have := hk.1.1; omega)) (fun k hk => ⟨⟨hk.1.1, Nat.lt_of_lt_of_le hk.1.2 kb1.size⟩, hk.2⟩) acc xs its.out)
      have kbw1 := Lib.hid (kb.out.trans kb1)
      have hws1 : w.heap.size ≤ w1.heap.size := Nat.le_trans hws kb1.size
      have hret := Lib.hid (show ∀ (x : Nat) (r : List Nat), M.endL d other t0 = some (acc, x, r) → St w1 P A c bs (some r) → (Kb (· = P) w w1 ∧ ((∃ l x' r' v, M.endL d other t0 = some (l, x', r') ∧ Ending.returned (.tuple #[u8, .int .i64 (x : Nat)]) = .returned (.tuple #[v, .int .i64 (x' : Nat)]) ∧ OwnL w1 (Since w.heap.size w1) v l ∧ St w1 P A c bs (some r')) ∨
          (M.endL d other t0 = none ∧ Ending.returned (.tuple #[u8, .int .i64 (x : Nat)]) = .returned (.tuple #[.slice none 0 0, .int .i64 0]) ∧ St w1 P A c bs none))) from fun x r hx hst => ⟨kbw1.out, .inl ⟨acc, x, r, u8, hx, rfl, ⟨xs, ownsRow_base own1.out (fun _ _ => Nat.zero_le _), fun g hg => own1.out.lt g hg, by omega, Items.agree (fun _ _ => rfl) (fun k hk => hk.1) acc xs its1.out⟩, hst⟩⟩)
      clear kb1 kb own its
      -- what an instruction read makes of the loop
      have step := Lib.hid (show ∀ (res : Option (M.It × List Nat)) (h : M.Hd) (vL vB vE : Value) (w4 w5 : World) (g cap : Nat), Kb (· = P) w1 w4 → PIns P A c bs res h vL vB vE w1.heap.size w4 → (res = none → M.endL d other t0 = none) →
          (∀ it r, res = some (it, r) → M.dec d t0 = (M.dec d r).bind (fun x => some ((acc.app (.cons it.1 it.2.1 it.2.2 .nil)).app x.1, x.2)) ∧ r.length < t.length) →
          w5.ownsRow w.heap.size 48 9 (.slice (some ⟨g, 0, none⟩) (acc.len + 1) cap) (acc.len + 1) (xs ++ item9 h vL vB vE) → (w4.alloc (.cells (item9 h vL vB vE).toArray 48)).grownBy w5 u8.ownBlock → (u8.ownBlock = some g ∨ g = w4.heap.size + 1) →
          PLRel P A c bs d other t0 w (.slice (some ⟨g, 0, none⟩) (acc.len + 1) cap) w5 ∧ left bs.length w5 P < left bs.length wr P from by
        intro res h vL vB vE w4 w5 g cap kb4 pin hno hyes hown5 hgr5 hat5
        have hst := st_grown (w := w) pin.st hP hu8.out hgr5
        refine ⟨⟨kb_grown kbw1.out kb4 hu8.out hgr5, ?_⟩, ?_⟩
        · cases res with
          | none => exact .inr ⟨hst, hno rfl⟩
          | some y =>
            obtain ⟨⟨h', b, e⟩, r⟩ := y
            obtain ⟨e1, _, hR, oL, oB, oE⟩ := pin
            have e1 : h' = h := e1
            subst e1
            obtain ⟨hd5, hl5⟩ := hyes _ _ rfl
            have hl6 : (acc.app (.cons h' b e .nil)).len = acc.len + 1 := by rw [M.app_len]; rfl
            refine .inl ⟨r, acc.app (.cons h' b e .nil), xs ++ item9 h' vL vB vE, hst, by rw [hl6]; exact hown5, plist_put hP hws1 kb4 own1.out its1.out hR oL oB oE hgr5 hat5, hd5, by rw [hl6]; omega⟩
        · rw [hleft.out]
          cases res with
          | none => rw [left_none hst]; omega
          | some y =>
            obtain ⟨it, r⟩ := y
            replace hst : St w5 P A c bs (some r) := hst
            rw [left_some hst]
            have := (hyes _ _ rfl).2
            omega)
      cases t with
      | nil =>
        have hE0 := Lib.hid (show M.endL d other t0 = none by rw [hE.out, M.endL_nil]; rfl)
        replace st1 : St w1 P A c bs none := st1
        replace st1 := Lib.hid st1
        clear hret
        have hv0 : ((M.bV (some []) : Nat) : Int) = 0 := rfl
        rw [hv0]
        go_wp2_with fail
        refine (pinstr_1 _ P A c bs none 0 d (M.subOf d) st1.out (by omega) (by decide)).mono ?_
        rintro e2 w4 ⟨h4, vL, vB, vE, rfl, kb4, pin⟩
        have hsl := pin.sl
        obtain ⟨⟨AL, nL, cL, rfl⟩, ⟨AB, nB, cB, rfl⟩, ⟨AE, nE, cE, rfl⟩⟩ := hsl
        have own4 := Lib.hid (show w4.ownsRow w.heap.size 48 9 u8 acc.len xs from ownsRow_agree own1.out (fun k hk => kb4.block k (own1.out.lt k hk).2 (by have := (own1.out.lt k hk).1; omega)))
        have hw4 : w.heap.size ≤ w4.heap.size := Nat.le_trans hws1 kb4.size
        replace pin := Lib.hid pin
        replace kb4 := Lib.hid kb4
        unfold Item9
        go_wp2_with (first
            | (at_builtin; refine wpList_append_lies _ rfl _ _ 23 rfl w.heap.size 48 i0 (.agg zero9) 9 120 Try.underlying23 hi0 hz0 hz1 hz2 rfl (by decide) u8 acc.len xs rfl (own4.out.alloc _) ⟨w4.heap.size, 0, none⟩ 1 1 (item9 h4 (.slice AL nL cL) (.slice AB nB cB) (.slice AE nE cE)) rfl rfl (World.news_of_block (cs := (item9 h4 (.slice AL nL cL) (.slice AB nB cB) (.slice AE nE cE)).toArray) (t := 48) (fr := (0, 0)) (heap_alloc_new w4 _)) (item_one ⟨_, _, _, rfl⟩ ⟨_, _, _, rfl⟩ ⟨_, _, _, rfl⟩) (by omega) (by unfold maxLen; omega) (by omega) (by simp; omega) (w4.heap.size + 1) (by simp) ?_; intro g cap w5 hown5 hgr5 hat5 hlt5))
        exact step.out none _ _ _ _ w4 w5 g cap kb4.out pin.out (fun _ => hE0.out) (fun it r e => by cases e) hown5 hgr5 hat5
      | cons x t1 =>
        replace st1 : St w1 P A c bs (some t1) := st1
        have hx : x < 256 := hlt1
        have hv0 : ((M.bV (some (x :: t1)) : Nat) : Int) = (x : Nat) := rfl
        rw [hv0]
        by_cases h11 : x = 11
        · subst h11
          have hE0 := Lib.hid (hret.out 11 t1 (by rw [hE.out, M.endL_11]; simp [M.app_nil]) st1)
          replace st1 := Lib.hid st1
          go_wp2_with fail
          go_ret2
          exact hE0.out
        · have t11 : ((x : Int) == 11) = false := by rw [beq_eq_false_iff_ne]; omega
          by_cases h5 : x = 5 ∧ other = true
          · obtain ⟨rfl, rfl⟩ := h5
            have hE0 := Lib.hid (hret.out 5 t1 (by rw [hE.out, M.endL_5]; simp [M.app_nil]) st1)
            replace st1 := Lib.hid st1
            go_wp2_with fail
            go_ret2
            exact hE0.out
          · -- an instruction
            have hno : M.ins (M.subOf d) x t1 = none → M.endL d other t0 = none := by
              intro hn
              rw [hE.out]
              by_cases hx5 : x = 5
              · subst hx5
                have : other = false := by cases other; rfl; exact absurd ⟨rfl, rfl⟩ h5
                subst this
                rw [M.endL_5n]; rfl
              · rw [M.endL_none (by omega) hn]; rfl
            have hyes : ∀ it r, M.ins (M.subOf d) x t1 = some (it, r) → M.dec d t0 = (M.dec d r).bind (fun y => some ((acc.app (.cons it.1 it.2.1 it.2.2 .nil)).app y.1, y.2)) ∧ r.length < (x :: t1).length := by
              intro it r hi
              have hx5 : ¬ x = 5 := fun e => by
                subst e
                rw [M.ins_0 _ 5 t1 (by decide)] at hi
                cases hi
              refine ⟨?_, ?_⟩
              · rw [hdec.out, M.dec_step d x t1 (by omega), hi]
                simp only [Option.bind_some, Option.bind_assoc, M.app_assoc]
                rfl
              · have hh : r.length ≤ t1.length := M.ins_less (M.sub_less d) hi
                simp only [List.length_cons]
                omega
            replace hno := Lib.hid hno
            replace hyes := Lib.hid hyes
            replace st1 := Lib.hid st1
            clear hret
            have t5 : ((x : Int) == 5 && other) = false := by
              by_cases hx5 : x = 5
              · have : other = false := by cases other; rfl; exact absurd ⟨hx5, rfl⟩ h5
                rw [this]; simp
              · have : ((x : Int) == 5) = false := by rw [beq_eq_false_iff_ne]; omega
                rw [this]; rfl
            have hsplit : ((x : Int) == 5) = false ∨ (((x : Int) == 5) = true ∧ other = false) := by
              cases h9 : ((x : Int) == 5) with
              | false => exact .inl rfl
              | true => rw [h9] at t5; exact .inr ⟨rfl, by simpa using t5⟩
            replace h5 := Lib.hid h5
            replace t5 := Lib.hid t5
            rcases hsplit with t5' | ⟨t5', rfl⟩
            · go_wp2_with fail
              refine (hins.out x t1 _ hx (by simp only [List.length_cons] at hl; omega) st1.out).mono ?_
              rintro e2 w4 ⟨h4, vL, vB, vE, rfl, kb4, pin⟩
              have hsl := pin.sl
              obtain ⟨⟨AL, nL, cL, rfl⟩, ⟨AB, nB, cB, rfl⟩, ⟨AE, nE, cE, rfl⟩⟩ := hsl
              have own4 := Lib.hid (show w4.ownsRow w.heap.size 48 9 u8 acc.len xs from ownsRow_agree own1.out (fun k hk => kb4.block k (own1.out.lt k hk).2 (by have := (own1.out.lt k hk).1; omega)))
              have hw4 : w.heap.size ≤ w4.heap.size := Nat.le_trans hws1 kb4.size
              replace pin := Lib.hid pin
              replace kb4 := Lib.hid kb4
              unfold Item9
              simp only [List.length_cons] at hl
              go_wp2_with (first
                  | (at_builtin; refine wpList_append_lies _ rfl _ _ 23 rfl w.heap.size 48 i0 (.agg zero9) 9 120 Try.underlying23 hi0 hz0 hz1 hz2 rfl (by decide) u8 acc.len xs rfl (own4.out.alloc _) ⟨w4.heap.size, 0, none⟩ 1 1 (item9 h4 (.slice AL nL cL) (.slice AB nB cB) (.slice AE nE cE)) rfl rfl (World.news_of_block (cs := (item9 h4 (.slice AL nL cL) (.slice AB nB cB) (.slice AE nE cE)).toArray) (t := 48) (fr := (0, 0)) (heap_alloc_new w4 _)) (item_one ⟨_, _, _, rfl⟩ ⟨_, _, _, rfl⟩ ⟨_, _, _, rfl⟩) (by omega) (by unfold maxLen; omega) (by omega) (by simp; omega) (w4.heap.size + 1) (by simp) ?_; intro g cap w5 hown5 hgr5 hat5 hlt5))
              exact step.out _ _ _ _ _ w4 w5 g cap kb4.out pin.out hno.out hyes.out hown5 hgr5 hat5
            · go_wp2_with fail
              refine (hins.out x t1 _ hx (by simp only [List.length_cons] at hl; omega) st1.out).mono ?_
              rintro e2 w4 ⟨h4, vL, vB, vE, rfl, kb4, pin⟩
              have hsl := pin.sl
              obtain ⟨⟨AL, nL, cL, rfl⟩, ⟨AB, nB, cB, rfl⟩, ⟨AE, nE, cE, rfl⟩⟩ := hsl
              have own4 := Lib.hid (show w4.ownsRow w.heap.size 48 9 u8 acc.len xs from ownsRow_agree own1.out (fun k hk => kb4.block k (own1.out.lt k hk).2 (by have := (own1.out.lt k hk).1; omega)))
              have hw4 : w.heap.size ≤ w4.heap.size := Nat.le_trans hws1 kb4.size
              replace pin := Lib.hid pin
              replace kb4 := Lib.hid kb4
              unfold Item9
              simp only [List.length_cons] at hl
              go_wp2_with (first
                  | (at_builtin; refine wpList_append_lies _ rfl _ _ 23 rfl w.heap.size 48 i0 (.agg zero9) 9 120 Try.underlying23 hi0 hz0 hz1 hz2 rfl (by decide) u8 acc.len xs rfl (own4.out.alloc _) ⟨w4.heap.size, 0, none⟩ 1 1 (item9 h4 (.slice AL nL cL) (.slice AB nB cB) (.slice AE nE cE)) rfl rfl (World.news_of_block (cs := (item9 h4 (.slice AL nL cL) (.slice AB nB cB) (.slice AE nE cE)).toArray) (t := 48) (fr := (0, 0)) (heap_alloc_new w4 _)) (item_one ⟨_, _, _, rfl⟩ ⟨_, _, _, rfl⟩ ⟨_, _, _, rfl⟩) (by omega) (by unfold maxLen; omega) (by omega) (by simp; omega) (w4.heap.size + 1) (by simp) ?_; intro g cap w5 hown5 hgr5 hat5 hlt5))
              exact step.out _ _ _ _ _ w4 w5 g cap kb4.out pin.out hno.out hyes.out hown5 hgr5 hat5
    · have c2 := st.bad.1
      simp only [Option.isNone_none] at c2
      replace st := Lib.hid st
      replace hend := Lib.hid hend
      replace kb := Lib.hid kb
      go_wp2_with fail
      go_ret2
      exact ⟨kb.out, .inr ⟨hend.out, rfl, st.out⟩⟩
/-- No bytes at all. -/
theorem plist_nil (d : Nat) (hd : d ≤ 40) (P : Nat) (A : Option Addr) (c : Nat) (w : World) (h : St w P A c [] (some [])) :
    Calls Try.prog 27 #[.pointer (some ⟨P, 0, none⟩), .int .i64 (d : Nat), .bool false] w fun e w' => Kb (· = P) w w' ∧ ((∃ l x r v, M.endL d false [] = some (l, x, r) ∧ e = .returned (.tuple #[v, .int .i64 (x : Nat)]) ∧ OwnL w' (Since w.heap.size w') v l ∧ St w' P A c [] (some r)) ∨
    (M.endL d false [] = none ∧ e = .returned (.tuple #[.slice none 0 0, .int .i64 0]) ∧ St w' P A c [] none)) :=
  plist_of d hd P A c [] [] false w h (by simp) fun op r w1 _ hr _ => absurd hr (Nat.not_lt_zero _)
theorem plist_any : ∀ (d : Nat), d ≤ 40 → PListOk d := by
  intro d
  induction d with
  | zero =>
    intro hd P ad c bs t other w h
    have hlen : bs.length ≤ 100000 := by obtain ⟨q, hq, _⟩ := h; exact hq.small
    exact plist_of 0 hd P (some ad) c bs t other w h hlen fun op r w1 hop _ hst => pinstr_any w1 P ad c bs r op 0 hst hop hd (fun d' e => by cases e)
  | succ d ih =>
    intro hd P ad c bs t other w h
    have hlen : bs.length ≤ 100000 := by obtain ⟨q, hq, _⟩ := h; exact hq.small
    exact plist_of (d + 1) hd P (some ad) c bs t other w h hlen fun op r w1 hop _ hst => pinstr_any w1 P ad c bs r op (d + 1) hst hop hd (fun d' e => by cases e; exact ih (by omega))
namespace M
theorem expr_end (bs : List Nat) : expr bs = (endL 40 false bs).bind fun p => some (p.1, bs.length - p.2.2.length) := by
  unfold expr endL
  cases dec 40 bs with
  | none => rfl
  | some p =>
    obtain ⟨l, r⟩ := p
    cases r with
    | nil => rfl
    | cons x r =>
      simp only [Option.bind_some, endB]
      by_cases hx : x = 11
      · simp [hx]
      · simp [hx]
end M
def ExprPost (bs : List Nat) (w : World) (e : Ending) (w' : World) : Prop :=
  (∃ l n v, M.expr bs = some (l, n) ∧ e = .returned (.tuple #[v, .int .i64 (n : Nat)]) ∧ OwnL w' (Since w.heap.size w') v l ∧ Below w.heap.size w w') ∨
  (M.expr bs = none ∧ e = .returned (.tuple #[.slice none 0 0, .int .i64 0]) ∧ Below w.heap.size w w')
theorem kb_below {P : Nat} {w w' : World} (h : Kb (· = P) w w') {B : Nat} (hB : B ≤ P) (hs : B ≤ w.heap.size) : Below B w w' := ⟨h.os, h.tape, h.output, h.size, fun k hk => h.block k (by omega) (by omega)⟩
set_option maxRecDepth 100000 in
set_option maxHeartbeats 4000000 in
theorem Expr_any (v : Value) (bs : List Nat) (w : World) (hb : BS w w.heap.size v bs) (hs : bs.length ≤ 100000) : Calls Try.prog 12 #[v] w (ExprPost bs w) := by
  obtain ⟨A, c, rfl, h1, h2, hB⟩ := hb
  replace hB : Bytes w w.heap.size A bs.length (M.bf bs) := hB
  have hbel : ∀ ob : Obj, Below w.heap.size w (w.alloc ob) := fun ob => (Below.refl _ _).alloc (Nat.le_refl _) ob
  have hst : St (w.alloc (.cells #[.slice A bs.length c, .int .i64 0, .bool false] 63)) w.heap.size A c bs (some bs) :=
    ⟨0, ⟨by simp, by simp, by simp, by simp, by simp, Nat.zero_le _, ⟨h1, h2⟩, hs, hB.below (hbel _) (Nat.le_refl _), by simp⟩, rfl⟩
  have hlist : Calls Try.prog 27 #[.pointer (some ⟨w.heap.size, 0, none⟩), .int .i64 ((40 : Nat) : Int), .bool false] (w.alloc (.cells #[.slice A bs.length c, .int .i64 0, .bool false] 63))
      fun e w' => Kb (· = w.heap.size) (w.alloc (.cells #[.slice A bs.length c, .int .i64 0, .bool false] 63)) w' ∧ ((∃ l x r v, M.endL 40 false bs = some (l, x, r) ∧ e = .returned (.tuple #[v, .int .i64 (x : Nat)]) ∧ OwnL w' (Since (w.alloc (.cells #[.slice A bs.length c, .int .i64 0, .bool false] 63)).heap.size w') v l ∧ St w' w.heap.size A c bs (some r)) ∨
        (M.endL 40 false bs = none ∧ e = .returned (.tuple #[.slice none 0 0, .int .i64 0]) ∧ St w' w.heap.size A c bs none)) := by
    cases A with
    | some ad => exact plist_any 40 (by omega) w.heap.size ad c bs bs false _ hst
    | none =>
      have hnil : bs = [] := by
        cases bs with
        | nil => rfl
        | cons b t => obtain ⟨ad, e, _⟩ := hB 0 (by simp); cases e
      subst hnil
      exact plist_nil 40 (by omega) w.heap.size none c _ hst
  replace hlist := Lib.hid hlist
  replace hB := Lib.hid hB
  clear hst
  have be := Lib.hid (M.expr_end bs)
  go_enter Try.func12, Try.ntmps12
  go_wp2_with fail
  refine hlist.out.mono ?_
  rintro e1 w1 ⟨kb, ⟨l, x, r, v, hend, rfl, own, st⟩ | ⟨hend, rfl, st⟩⟩
  · have b1 := Lib.hid ((hbel (.cells #[.slice A bs.length c, .int .i64 0, .bool false] 63)).trans (kb_below kb (Nat.le_refl _) (by simp)))
    have he := Lib.hid (show M.expr bs = some (l, bs.length - r.length) by rw [be.out, hend]; rfl)
    obtain ⟨q, hq, rfl⟩ := st
    have hql := hq.le
    have c1 := hq.c1
    have c2 := hq.c2
    replace hq := Lib.hid hq
    have own1 := Lib.hid (show OwnL w1 (Since w.heap.size w1) v l from own.agree (fun _ _ => rfl) (fun k hk => ⟨by have := hk.1; simp at this; omega, hk.2⟩))
    obtain ⟨A1, n1, c1', rfl⟩ := own_slice own
    clear own kb hend
    go_wp2_with fail
    go_quiet (fail)
    go_wp2_with fail
    go_ret2
    refine .inl ⟨l, q, _, ?_, rfl, own1.out.agree (fun _ _ => rfl) (fun _ hk => hk), below_drewN b1.out nq⟩
    rw [he.out, List.length_drop]
    congr 2
    omega
  · have b1 := Lib.hid ((hbel (.cells #[.slice A bs.length c, .int .i64 0, .bool false] 63)).trans (kb_below kb (Nat.le_refl _) (by simp)))
    have he := Lib.hid (show M.expr bs = none by rw [be.out, hend]; rfl)
    have c2 := st.bad.1
    simp only [Option.isNone_none] at c2
    replace st := Lib.hid st
    clear kb hend
    go_wp2_with fail
    go_ret2
    exact .inr ⟨he.out, rfl, b1.out⟩
theorem Expr_yes (v : Value) (bs : List Nat) (l : M.L) (n : Nat) (w : World) (hb : BS w w.heap.size v bs) (hs : bs.length ≤ 100000) (he : M.expr bs = some (l, n)) :
    Calls Try.prog 12 #[v] w fun e w' => ∃ u, e = .returned (.tuple #[u, .int .i64 (n : Nat)]) ∧ OwnL w' (Since w.heap.size w') u l ∧ Below w.heap.size w w' :=
  (Expr_any v bs w hb hs).mono fun e w' h => by
    rcases h with ⟨l', n', u, h1, h2, h3, h4⟩ | ⟨h1, _⟩
    · rw [he] at h1
      cases h1
      exact ⟨u, h2, h3, h4⟩
    · rw [he] at h1; cases h1
theorem Expr_no (v : Value) (bs : List Nat) (w : World) (hb : BS w w.heap.size v bs) (hs : bs.length ≤ 100000) (he : M.expr bs = none) :
    Calls Try.prog 12 #[v] w fun e w' => e = .returned (.tuple #[.slice none 0 0, .int .i64 0]) ∧ Below w.heap.size w w' :=
  (Expr_any v bs w hb hs).mono fun e w' h => by
    rcases h with ⟨l', n', u, h1, _⟩ | ⟨_, h2, h3⟩
    · rw [he] at h1; cases h1
    · exact ⟨h2, h3⟩
end Go.Proofs.Ytjapcalndolamaa
