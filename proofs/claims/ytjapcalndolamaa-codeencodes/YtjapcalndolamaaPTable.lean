/-
  What the page's reader of one instruction answers for a table of labels; condition: the place lies in memory that was there at the call.
-/
import Derived.Test.YtjapcalndolamaaPInstr
import Derived.Test.YtjapcalndolamaaLabels
namespace Go.Proofs.Ytjapcalndolamaa
open Go.RowKit
/-- A call of a Go function with one argument, as one step of a region that draws. -/
theorem step_call1 {ops : Array Oper} {o : Oper} {a : Act} {w : World} {K : Act → World → Prop} {Q : Exit → Act → World → Prop} {E : Prop} (hgd : o.guard = none) (f : FuncId) (x : Operand) (t : TypeId)
    (ho : o.op = .call { callee := .value (.func f), args := #[x], argTypes := #[t] }) (hcall : ∀ (args : Array Value) (w : World), Sem.run Try.prog (callFunc f args) w = Result.ok (Next.enter f args) w) (v : Value) (hx : a.eval x = v) (h : Calls Try.prog f #[v] w fun e w' => ∃ u, e = .returned u ∧ K (a.put o.dst u) w') :
    if Region.wanted o (yielded ops a.tmps) = true then Oper.wp Try.prog o a w K Q else E := by
  have hw : Region.wanted o (yielded ops a.tmps) = true := by simp [Region.wanted, hgd]
  rw [if_pos hw]
  unfold Oper.wp
  have hf : a.eval (.func f) = .func (.func f) #[] #[] := rfl
  simp [execOp, ho, resolve, invoke, hx, hf, Deferred.ofValue, hcall, Oper.upon_enter]
  refine h.mono ?_
  rintro e w' ⟨u, rfl, hK⟩
  exact hK
namespace M
/-- What is left to read of a table. -/
def tabR (op : Int) (done : List Int) (k : Nat) (t : List Nat) : Option (It × List Nat) := (nums k t).bind fun q => (num q.2).bind fun p => some (({ hd0 op with ix := p.1, labels := done ++ q.1 }, .nil, .nil), p.2)
theorem tab_step {op : Int} {done : List Int} {k : Nat} {t t2 : List Nat} {x : Int} (h : num t = some (x, t2)) : tabR op done (k + 1) t = tabR op (done ++ [x]) k t2 := by
  unfold tabR
  rw [nums, h]
  simp only [Option.bind_some, Option.bind_assoc]
  congr 1
  funext q
  simp
theorem tab_none {op : Int} {done : List Int} {k : Nat} {t : List Nat} (h : num t = none) : tabR op done (k + 1) t = none := by
  unfold tabR
  rw [nums, h]
  rfl
theorem tab_zero {op : Int} {done : List Int} {t : List Nat} : tabR op done 0 t = (nR (some t)).bind fun r => some (({ hd0 op with ix := nV (some t), labels := done }, .nil, .nil), r) := by
  unfold tabR nR nV
  rw [nums]
  simp only [Option.bind_some, List.append_nil]
  cases num t <;> rfl
theorem nR_some {t : List Nat} {t2 : List Nat} (h : nR (some t) = some t2) : num t = some (nV (some t), t2) := by
  unfold nR at h
  unfold nV
  simp only [Option.bind_some] at h ⊢
  cases hn : num t with
  | none => rw [hn] at h; cases h
  | some p => rw [hn] at h; cases h; rfl
theorem nR_none {t : List Nat} (h : nR (some t) = none) : num t = none := by
  unfold nR at h
  simp only [Option.bind_some] at h
  cases hn : num t with
  | none => rfl
  | some p => rw [hn] at h; cases h
end M
theorem st_heap {w w' : World} {P : Nat} {A : Option Addr} {c : Nat} {bs : List Nat} {o : Option (List Nat)} (h : St w P A c bs o) (he : w'.heap = w.heap) : St w' P A c bs o := h.agree (fun k _ => by rw [he]) (by rw [he]; exact Nat.le_refl _)
def PTabRel (P : Nat) (ad : Addr) (c : Nat) (bs : List Nat) (op : Int) (res : Option (M.It × List Nat)) (m R : Nat) (w0 : World) (i : Value) (w' : World) : Prop :=
  ∃ (j : Nat) (vL : Value), j ≤ m ∧ i = .int .i64 (j : Nat) ∧ Rows2 w' R (M.hd0 op) vL (.slice none 0 0) (.slice none 0 0) ∧ Kb (fun k => k = P ∨ R ≤ k) w0 w' ∧ IsSl vL ∧
    ((∃ t done, St w' P (some ad) c bs (some t) ∧ OwnN w' (fun k => R + 2 ≤ k ∧ k < w'.heap.size) vL done ∧ done.length = j ∧ j + t.length ≤ bs.length ∧ res = M.tabR op done (m - j) t) ∨ (St w' P (some ad) c bs none ∧ res = none))
theorem tab_put {P : Nat} {A : Option Addr} {c : Nat} {bs : List Nat} {o1 : Option (List Nat)} {R gg cap n : Nat} {h : M.Hd} {vL : Value} {w0 v1 w5 : World} {ob : Obj} (rw1 : Rows2 v1 R h vL (.slice none 0 0) (.slice none 0 0)) (st1 : St v1 P A c bs o1) (k1 : Kb (fun k => k = P ∨ R ≤ k) w0 v1) (hP : P < R) (s1 : R + 1 < v1.heap.size)
    (hrow : ∀ k, vL.ownBlock = some k → R + 2 ≤ k) (hgr : (v1.alloc ob).grownBy w5 vL.ownBlock) (hat : vL.ownBlock = some gg ∨ gg = v1.heap.size + 1) (hlt : gg < w5.heap.size) :
    Rows2 (w5.setCell ⟨R + 1, 6, none⟩ (.slice (some ⟨gg, 0, none⟩) n cap)) R h (.slice (some ⟨gg, 0, none⟩) n cap) (.slice none 0 0) (.slice none 0 0) ∧ St (w5.setCell ⟨R + 1, 6, none⟩ (.slice (some ⟨gg, 0, none⟩) n cap)) P A c bs o1 ∧
      Kb (fun k => k = P ∨ R ≤ k) w0 (w5.setCell ⟨R + 1, 6, none⟩ (.slice (some ⟨gg, 0, none⟩) n cap)) ∧ R + 2 ≤ gg ∧ gg < (w5.setCell ⟨R + 1, 6, none⟩ (.slice (some ⟨gg, 0, none⟩) n cap)).heap.size := by
  have same : ∀ k, k < R + 2 → w5.heap[k]? = v1.heap[k]? := fun k hk => by
    rw [hgr.block k (by simp; omega) (fun e => by have := hrow k e.symm; omega)]
    exact Below.heap_alloc _ _ _ (by omega)
  have hs5 : v1.heap.size ≤ w5.heap.size := by have := hgr.size; simp at this; omega
  have rw5 := rw1.agree (same R (by omega)) (same (R + 1) (by omega))
  have st5 := st1.agree (fun k hk => same k (by omega)) hs5
  have k5 : Kb (fun k => k = P ∨ R ≤ k) w0 w5 := ⟨hgr.os.trans k1.os, hgr.tape.trans k1.tape, hgr.output.trans k1.output, Nat.le_trans k1.size hs5, fun k hk ht => (same k (by omega)).trans (k1.block k hk ht)⟩
  refine ⟨rw5.set (j := 6) rfl, st_set st5 (p := ⟨R + 1, 6, none⟩) (by show P < R + 1; omega) _, Kb.setCell (T := fun k => k = P ∨ R ≤ k) k5 (p := ⟨R + 1, 6, none⟩) (.inr (Nat.le_succ _)) _, ?_, by simpa using hlt⟩
  rcases hat with h9 | h9
  · exact hrow gg h9
  · omega
theorem OwnN.sl {w : World} {S : Nat → Prop} {v : Value} {xs : List Int} (h : OwnN w S v xs) : IsSl v := by
  obtain ⟨A, c, e, _⟩ := h.read.form
  exact ⟨_, _, _, e⟩
set_option maxRecDepth 100000 in
set_option maxHeartbeats 8000000 in
theorem pinstr_4 (w : World) (P : Nat) (ad : Addr) (c : Nat) (bs : List Nat) (r : List Nat) (op : Nat) (d : Nat) (sub : M.Rd) (h : St w P (some ad) c bs (some r)) (hop : op < 256) (hk : M.kind op = 4) :
    Calls Try.prog 50 #[.pointer (some ⟨P, 0, none⟩), .int .i64 (op : Nat), .int .i64 (d : Nat)] w (PInsPost P (some ad) c bs (M.ins sub op r) w) := by
  obtain ⟨i0, hi0, hz0, hz1, hz2⟩ := info_parts int_info
  have hrlen : r.length ≤ bs.length ∧ bs.length ≤ 100000 := by
    obtain ⟨q, hq, e⟩ := h
    rw [e, List.length_drop]
    exact ⟨by omega, hq.small⟩
  replace h := Lib.hid h
  replace hk := Lib.hid hk
  have hP := h.out.lt
  obtain ⟨res, hres⟩ : ∃ x, M.ins sub op r = x := ⟨_, rfl⟩
  rw [hres]
  go_enter Try.func50, Try.ntmps50
  go_wp2_with fail
  refine (shape_is _ 4 _ hk.out).mono ?_
  rintro e1 w1 ⟨rfl, rfl⟩
  obtain ⟨rw0, st0, b0⟩ := two_start h.out (op : Int) zero9 _ rfl rfl
  generalize hw0 : (w.alloc (.cells zero9 48)).alloc _ = w0 at rw0 st0 b0
  rw [show (w.alloc (.cells #[.int .i64 0, .int .i64 0, .int .i64 0, .int .i64 0, .int .i64 0, .int .i64 0, .slice none 0 0, .slice none 0 0, .slice none 0 0] 48)).alloc (.cells #[.int .i64 (op : Nat), .int .i64 0, .int .i64 0, .int .i64 0, .int .i64 0, .int .i64 0, .slice none 0 0, .slice none 0 0, .slice none 0 0] 48) = w0 from hw0]
  clear hw0
  have k0 : Kb (fun k => k = P ∨ w.heap.size ≤ k) w0 w0 := Kb.refl _ _
  have s0 : w.heap.size + 1 < w0.heap.size := (Array.getElem?_eq_some_iff.1 rw0.x).1
  replace b0 := Lib.hid b0
  replace rw0 := Lib.hid rw0
  replace st0 := Lib.hid st0
  replace k0 := Lib.hid k0
  go_wp2_with fail
  refine (pnumber_any _ P ad c bs (some r) st0.out).mono ?_
  rintro e1 v1 ⟨rfl, st1, kb1⟩
  have rw1 := rw0.out.agree (kb1.block _ (by omega) (by omega)) (kb1.block _ (by omega) (by omega))
  have k1 : Kb (fun k => k = P ∨ w.heap.size ≤ k) w0 v1 := k0.out.trans (kb1.mono fun _ hk => .inl hk)
  clear kb1
  have hxr := M.nV_rng (some r)
  obtain ⟨m, hm⟩ := Int.eq_ofNat_of_zero_le hxr.1
  have rel0 := Lib.hid (show PTabRel P ad c bs op res m w.heap.size w0 (.int .i64 ((0 : Nat) : Int)) v1 from ⟨0, _, Nat.zero_le _, rfl, rw1, k1, nil_IsSl, by
    have hins : res = (M.num r).bind fun c => (M.nums c.1.toNat c.2).bind fun t => (M.num t.2).bind fun p => some (({ M.hd0 op with ix := p.1, labels := t.1 }, .nil, .nil), p.2) := by rw [← hres]; unfold M.ins; rw [hk.out]; rfl
    cases ho : M.nR (some r) with
    | none => rw [ho] at st1; exact .inr ⟨st1, by rw [hins, M.nR_none ho]; rfl⟩
    | some t =>
      rw [ho] at st1
      have hn := M.nR_some ho
      refine .inl ⟨t, [], st1, OwnN.nil _ _, rfl, ?_, ?_⟩
      · have := (M.num_short hn).2.2
        omega
      · rw [hins, hn, hm]
        simp only [Option.bind_some, Int.toNat_natCast, Nat.sub_zero]
        rfl⟩)
  rw [hm] at hxr ⊢
  replace hm := Lib.hid hm
  replace hres := Lib.hid hres
  clear rw1 st1 k1
  go_wp2_with fail
  go_loopw [10] (fun i w' => PTabRel P ad c bs op res m w.heap.size w0 i w') (fun i _ => m - (intOf i).toNat)
  case atStart => exact rel0.out
  case round =>
    obtain ⟨j, vL, hj, rfl, rw1, k1, hsl, hcase⟩ := hrel
    clear rel0
    have s1 : w.heap.size + 1 < wr.heap.size := (Array.getElem?_eq_some_iff.1 rw1.x).1
    rcases hcase with ⟨t, done, st, own, hdl, hlen, hrest⟩ | ⟨st, hrest⟩
    · have c2 := st.bad.1
      simp only [Option.isNone_some] at c2
      by_cases hlt : j < m
      · have c6 := rw1.item.c6
        simp only [Nat.zero_add] at c6
        replace rw1 := Lib.hid rw1
        replace k1 := Lib.hid k1
        replace st := Lib.hid st
        replace own := Lib.hid own
        replace hrest := Lib.hid hrest
        have hxr2 := M.nV_rng (some t)
        obtain ⟨x, hx⟩ : ∃ x, M.nV (some t) = x := ⟨_, rfl⟩
        obtain ⟨o1, ho1⟩ : ∃ x, M.nR (some t) = x := ⟨_, rfl⟩
        rw [hx] at hxr2
        replace hx := Lib.hid hx
        replace ho1 := Lib.hid ho1
        have hrow : ∀ k, vL.ownBlock = some k → w.heap.size + 2 ≤ k := fun k hk => (own.out.blk k hk).1
        replace hrow := Lib.hid hrow
        go_wp2_with fail
        go_region_law (first
          | (refine step_call1 (by rfl) 76 _ _ (by rfl) Try.call76 (.pointer (some ⟨P, 0, none⟩)) (by rfl) ?_; refine (pnumber_any wr.drew P ad c bs (some t) (st_heap st.out rfl)).mono ?_; rintro e1 v1 ⟨rfl, st1, kb1⟩; rw [hx.out]; rw [ho1.out] at st1; refine ⟨_, rfl, ?_⟩; have s1v : w.heap.size + 1 < v1.heap.size := Nat.lt_of_lt_of_le s1 kb1.size; have rw1v := rw1.out.agree (kb1.block _ (by show _ < wr.heap.size; omega) (by omega)) (kb1.block _ (by show _ < wr.heap.size; omega) (by omega)); have c6v : v1.cell? ⟨w.heap.size + 1, 6, none⟩ = some vL := rw1v.item.c6; have f6v := rw1v.frozen 6; have own1 := Lib.hid (show v1.ownsRow 0 3 1 vL done.length (nvals done) from ownsRow_agree own.out.row (fun k hk => kb1.block k (by show _ < wr.heap.size; exact (own.out.blk k hk).2) (by have := (own.out.blk k hk).1; omega))); have k1v := Lib.hid (k1.out.trans (Kb.mono (U := fun k => k = P ∨ w.heap.size ≤ k) ⟨kb1.os, kb1.tape, kb1.output, kb1.size, kb1.block⟩ fun _ hk => .inl hk)); replace st1 := Lib.hid st1; replace rw1v := Lib.hid rw1v; clear kb1)
          | (refine step_append_lies _ (by rfl) _ _ _ (by rfl) 0 3 i0 _ 1 8 Try.underlying46 hi0 hz0 hz1 hz2 rfl (by omega) vL done.length (nvals done) (by rfl) (by first | exact own1.out.alloc _ | exact ownsRow_agree (own1.out.alloc (.cells #[.int .i64 x] 3)) (fun _ _ => rfl)) ⟨v1.heap.size, 0, none⟩ 1 1 [.int .i64 x] (by rfl) (by rfl) (World.news_of_block (cs := #[.int .i64 x]) (t := 3) (fr := (0, 0)) (heap_alloc_new v1 _)) (by simp [Value.oneCell']) (by omega) (by unfold maxLen; omega) (by omega) (by omega) (v1.heap.size + 1) (by simp) ?_; intro gg cap w5 hown5 hgrow5 hat5 hlt5; have hb5 : w5.heap[w.heap.size + 1]? = v1.heap[w.heap.size + 1]? := (hgrow5.block (w.heap.size + 1) (by simp; omega) (fun e => by have := hrow.out _ e.symm; omega)).trans (Below.heap_alloc v1 (.cells #[.int .i64 x] 3) _ s1v); have c65 : w5.cell? ⟨w.heap.size + 1, 6, none⟩ = some vL := (World.cell?_of_block (w := v1) hb5).trans c6v; have f65 : w5.frozen? ⟨w.heap.size + 1, 6, none⟩ = false := (World.frozen?_of_block (w := v1) hb5).trans f6v; clear hb5))
        all_goals go_wp2_with fail
        all_goals (
          have hgr5 : (v1.alloc (.cells #[.int .i64 x] 3)).grownBy w5 vL.ownBlock := by first | exact hgrow5 | exact grown_drew hgrow5
          obtain ⟨q1, q2, q3, q4, q5⟩ := tab_put (n := j + 1) (cap := cap) rw1v.out st1.out k1v.out hP s1v hrow.out hgr5 hat5 hlt5
          refine ⟨⟨j + 1, _, by omega, by go_num, q1, q3, ⟨_, _, _, rfl⟩, ?_⟩, by simp [intOf]; omega⟩
          cases o1 with
          | none => exact .inr ⟨q2, by rw [hrest.out, show m - j = (m - (j + 1)) + 1 by omega]; exact M.tab_none (M.nR_none ho1.out)⟩
          | some t2 =>
            have hn := M.nR_some ho1.out
            have hsh := (M.num_short hn).2.2
            rw [hx.out] at hn
            refine .inl ⟨t2, done ++ [x], q2, ⟨?_, ?_, by simp; omega, ?_⟩, by simp [hdl], by omega, by rw [hrest.out, show m - j = (m - (j + 1)) + 1 by omega]; exact M.tab_step hn⟩
            · have e1 : nvals (done ++ [x]) = nvals done ++ [.int .i64 x] := by simp [nvals]
              have e2 : (done ++ [x]).length = done.length + 1 := by simp
              rw [e1, e2, ← hdl]
              exact ownsRow_agree hown5 fun k hk => Below.heap_setCell _ _ _ _ (by
                have hk : gg = k := by simpa [Value.ownBlock] using hk
                show k ≠ w.heap.size + 1; omega)
            · intro k hk
              have hk : gg = k := by simpa [Value.ownBlock] using hk
              subst hk
              exact ⟨q4, q5⟩
            · intro y hy
              rcases List.mem_append.1 hy with hy | hy
              · exact own.out.rng y hy
              · have : y = x := by simpa using hy
                subst this
                omega)
      · replace rw1 := Lib.hid rw1
        replace k1 := Lib.hid k1
        replace st := Lib.hid st
        replace own := Lib.hid own
        have hjm : m - j = 0 := by omega
        rw [hjm, M.tab_zero] at hrest
        have tlt : decide ((j : Int) < (m : Int)) = false := by simp; omega
        go_wp2_with fail
        refine (pnumber_any _ P ad c bs (some t) st.out).mono ?_
        rintro e1 v2 ⟨rfl, st2, kb2⟩
        have rw2 := rw1.out.agree (kb2.block _ (by omega) (by omega)) (kb2.block _ (by omega) (by omega))
        have k2 : Kb (fun k => k = P ∨ w.heap.size ≤ k) w0 v2 := k1.out.trans (kb2.mono fun _ hk => .inl hk)
        have own2 := Lib.hid (show OwnN v2 (fun k => w.heap.size + 2 ≤ k ∧ k < v2.heap.size) vL done from own.out.agree (fun k hk => kb2.block k hk.2 (by have := hk.1; omega)) (fun k hk => ⟨hk.1, Nat.lt_of_lt_of_le hk.2 kb2.size⟩))
        clear kb2
        have hxr2 := M.nV_rng (some t)
        obtain ⟨x2, hx2⟩ : ∃ x, M.nV (some t) = x := ⟨_, rfl⟩
        obtain ⟨o2, ho2⟩ : ∃ x, M.nR (some t) = x := ⟨_, rfl⟩
        rw [hx2] at hxr2 hrest ⊢
        rw [ho2] at st2 hrest
        clear hx2 ho2
        replace hrest := Lib.hid hrest
        have cf2 := rw2.item.c2
        have ff2 := rw2.frozen 2
        simp only [Nat.zero_add, M.hd0] at cf2
        have rw3 : Rows2 (v2.setCell ⟨w.heap.size + 1, 2, none⟩ (.int .i64 x2)) w.heap.size { M.hd0 (op : Int) with ix := x2, labels := done } vL (.slice none 0 0) (.slice none 0 0) := rw2.set (j := 2) (u := .int .i64 x2) rfl
        have st3 := st_set st2 (p := ⟨w.heap.size + 1, 2, none⟩) (by show P < w.heap.size + 1; omega) (.int .i64 x2)
        have k3 := Kb.setCell (T := fun k => k = P ∨ w.heap.size ≤ k) k2 (p := ⟨w.heap.size + 1, 2, none⟩) (.inr (Nat.le_succ _)) (.int .i64 x2)
        clear st2 k2 rw2
        replace rw3 := Lib.hid rw3
        replace st3 := Lib.hid st3
        replace k3 := Lib.hid k3
        go_wp2_with (first
          | (refine wpList_load_row (by rfl) 48 _ (by rfl) (w.heap.size + 1) (by rfl) 48 _ (0, 0) _ rw3.out.x Try.underlying48 rfl instr_size ?_)
          | (refine wpList_store_row (by rfl) 48 _ _ (by rfl) w.heap.size (item9 { M.hd0 (op : Int) with ix := x2, labels := done } vL (.slice none 0 0) (.slice none 0 0)).toArray (by rfl) (by rfl) 48 _ rw3.out.r.choose_spec.1 instr_size (by rw [rw3.out.r.choose_spec.2]; rfl) (all_one hsl nil_IsSl nil_IsSl) ?_))
        refine bodyPost_ret (results_cell_row rfl _ _ w.heap.size 48 _ (0, 0) _ rfl (setRow_heap _ _ _ _ _ _ rw3.out.r.choose_spec.1) Try.underlying48 rfl instr_size) rfl ?_
        refine pins_end b0.out k3.out ?_
        rw [hrest.out]
        cases o2 with
        | none => exact ⟨st_row st3.out hP _, hsl, nil_IsSl, nil_IsSl⟩
        | some r2 =>
          refine ⟨rfl, st_row st3.out hP _, by constructor <;> (simp only [M.hd0]; omega), own2.out.agree (fun k hk => ?_) (fun k hk => ⟨by have := hk.1; omega, by have := hk.2; simpa using this⟩), OwnL.nil _ _, OwnL.nil _ _⟩
          rw [setRow_other _ _ _ _ (by have := hk.1; omega), heap_setCell_other _ _ _ _ (by have := hk.1; show k ≠ w.heap.size + 1; omega)]
    · have c2 := st.bad.1
      simp only [Option.isNone_none] at c2
      replace rw1 := Lib.hid rw1
      replace k1 := Lib.hid k1
      replace st := Lib.hid st
      replace hrest := Lib.hid hrest
      by_cases hlt : j < m
      · go_wp2_with fail
        refine (pnumber_any _ P ad c bs none st.out).mono ?_
        rintro e1 v2 ⟨rfl, st2, kb2⟩
        have rw2 := rw1.out.agree (kb2.block _ (by omega) (by omega)) (kb2.block _ (by omega) (by omega))
        have k2 : Kb (fun k => k = P ∨ w.heap.size ≤ k) w0 v2 := k1.out.trans (kb2.mono fun _ hk => .inl hk)
        clear kb2
        obtain ⟨x2, hx2⟩ : ∃ x, M.nV none = x := ⟨_, rfl⟩
        rw [hx2]
        clear hx2
        have cf2 := rw2.item.c2
        have ff2 := rw2.frozen 2
        simp only [Nat.zero_add, M.hd0] at cf2
        have rw3 : Rows2 (v2.setCell ⟨w.heap.size + 1, 2, none⟩ (.int .i64 x2)) w.heap.size { M.hd0 (op : Int) with ix := x2, labels := [] } vL (.slice none 0 0) (.slice none 0 0) := rw2.set (j := 2) (u := .int .i64 x2) rfl
        have st3 := st_set st2 (p := ⟨w.heap.size + 1, 2, none⟩) (by show P < w.heap.size + 1; omega) (.int .i64 x2)
        have k3 := Kb.setCell (T := fun k => k = P ∨ w.heap.size ≤ k) k2 (p := ⟨w.heap.size + 1, 2, none⟩) (.inr (Nat.le_succ _)) (.int .i64 x2)
        clear st2 k2 rw2
        replace rw3 := Lib.hid rw3
        replace st3 := Lib.hid st3
        replace k3 := Lib.hid k3
        go_wp2_with (first
          | (refine wpList_load_row (by rfl) 48 _ (by rfl) (w.heap.size + 1) (by rfl) 48 _ (0, 0) _ rw3.out.x Try.underlying48 rfl instr_size ?_)
          | (refine wpList_store_row (by rfl) 48 _ _ (by rfl) w.heap.size (item9 { M.hd0 (op : Int) with ix := x2, labels := [] } vL (.slice none 0 0) (.slice none 0 0)).toArray (by rfl) (by rfl) 48 _ rw3.out.r.choose_spec.1 instr_size (by rw [rw3.out.r.choose_spec.2]; rfl) (all_one hsl nil_IsSl nil_IsSl) ?_))
        refine bodyPost_ret (results_cell_row rfl _ _ w.heap.size 48 _ (0, 0) _ rfl (setRow_heap _ _ _ _ _ _ rw3.out.r.choose_spec.1) Try.underlying48 rfl instr_size) rfl ?_
        refine pins_end b0.out k3.out ?_
        rw [hrest.out]
        exact ⟨st_row st3.out hP _, hsl, nil_IsSl, nil_IsSl⟩
      · have tlt : decide ((j : Int) < (m : Int)) = false := by simp; omega
        go_wp2_with fail
        refine (pnumber_any _ P ad c bs none st.out).mono ?_
        rintro e1 v2 ⟨rfl, st2, kb2⟩
        have rw2 := rw1.out.agree (kb2.block _ (by omega) (by omega)) (kb2.block _ (by omega) (by omega))
        have k2 : Kb (fun k => k = P ∨ w.heap.size ≤ k) w0 v2 := k1.out.trans (kb2.mono fun _ hk => .inl hk)
        clear kb2
        obtain ⟨x2, hx2⟩ : ∃ x, M.nV none = x := ⟨_, rfl⟩
        rw [hx2]
        clear hx2
        have cf2 := rw2.item.c2
        have ff2 := rw2.frozen 2
        simp only [Nat.zero_add, M.hd0] at cf2
        have rw3 : Rows2 (v2.setCell ⟨w.heap.size + 1, 2, none⟩ (.int .i64 x2)) w.heap.size { M.hd0 (op : Int) with ix := x2, labels := [] } vL (.slice none 0 0) (.slice none 0 0) := rw2.set (j := 2) (u := .int .i64 x2) rfl
        have st3 := st_set st2 (p := ⟨w.heap.size + 1, 2, none⟩) (by show P < w.heap.size + 1; omega) (.int .i64 x2)
        have k3 := Kb.setCell (T := fun k => k = P ∨ w.heap.size ≤ k) k2 (p := ⟨w.heap.size + 1, 2, none⟩) (.inr (Nat.le_succ _)) (.int .i64 x2)
        clear st2 k2 rw2
        replace rw3 := Lib.hid rw3
        replace st3 := Lib.hid st3
        replace k3 := Lib.hid k3
        go_wp2_with (first
          | (refine wpList_load_row (by rfl) 48 _ (by rfl) (w.heap.size + 1) (by rfl) 48 _ (0, 0) _ rw3.out.x Try.underlying48 rfl instr_size ?_)
          | (refine wpList_store_row (by rfl) 48 _ _ (by rfl) w.heap.size (item9 { M.hd0 (op : Int) with ix := x2, labels := [] } vL (.slice none 0 0) (.slice none 0 0)).toArray (by rfl) (by rfl) 48 _ rw3.out.r.choose_spec.1 instr_size (by rw [rw3.out.r.choose_spec.2]; rfl) (all_one hsl nil_IsSl nil_IsSl) ?_))
        refine bodyPost_ret (results_cell_row rfl _ _ w.heap.size 48 _ (0, 0) _ rfl (setRow_heap _ _ _ _ _ _ rw3.out.r.choose_spec.1) Try.underlying48 rfl instr_size) rfl ?_
        refine pins_end b0.out k3.out ?_
        rw [hrest.out]
        exact ⟨st_row st3.out hP _, hsl, nil_IsSl, nil_IsSl⟩
end Go.Proofs.Ytjapcalndolamaa
