/-
  The statement on the first eight bytes answers true; condition: its argument is a list of questions that lies in memory.
-/
import Derived.Deep.Cut
import Derived.Test.YtilaheifccjjeaaGreatXGQ
import Derived.Test.YtilaheifccjjeaaGreatXEq
import Derived.Test.YtilaheifccjjeaaGreatXGK
import Derived.Test.YtilaheifccjjeaaGreatXGA
import Derived.Test.YtilaheifccjjeaaGreatXGB
import Derived.Test.YtilaheifccjjeaaGreatXGC
import Derived.Test.YtilaheifccjjeaaGreatXGD
import Derived.Test.YtilaheifccjjeaaGreatXGE
import Derived.Test.YtilaheifccjjeaaGreatXGF
import Derived.Test.YtilaheifccjjeaaGreatXGG
import Derived.Test.YtilaheifccjjeaaGreatXGH
import Derived.Test.YtilaheifccjjeaaGreatXGI
import Derived.Test.YtilaheifccjjeaaGreatXGJ
import Derived.Test.YtilaheifccjjeaaGreatXGL
import Derived.Test.YtilaheifccjjeaaGreatXGM
import Derived.Test.YtilaheifccjjeaaGreatXGN
import Derived.Test.YtilaheifccjjeaaGreatXGO
import Derived.Test.YtilaheifccjjeaaGreatXGP
namespace Go.Proofs.YtilaheifccjjeaaGreat
open Go.RowKit
/-- What heavy answers of a question. -/
def Hv6 (x : M.Mod × List Nat) (w : World) (e : Ending) (w' : World) : Prop :=
  (e = .returned (.bool true) ∨ (e = .returned (.bool false) ∧ Goods x.1 ∧ x.2.length ≤ 20000)) ∧ Below w.heap.size w w'
set_option maxRecDepth 100000 in
set_option maxHeartbeats 4000000 in
theorem heavy6_any (w : World) (A0 A1 A2 A3 A4 A5 A6 A8 A9 AB : Option Addr) (c0 c1 c2 c3 c4 c5 c6 c8 c9 cB n : Nat) (x : M.Mod × List Nat) (h : MRaw w (· < w.heap.size) #[.slice A0 x.1.types.length c0, .slice A1 x.1.imports.length c1, .slice A2 x.1.funcs.length c2, .slice A3 x.1.tables.length c3, .slice A4 x.1.memories.length c4, .slice A5 x.1.globals.length c5, .slice A6 x.1.exports.length c6, .int .i64 x.1.start, .slice A8 x.1.elems.length c8, .slice A9 x.1.datas.length c9] x.1) (hn : n = x.2.length) (hB : n ≤ 140737488355328) :
    Calls Tryz.prog 6 #[.agg #[.slice A0 x.1.types.length c0, .slice A1 x.1.imports.length c1, .slice A2 x.1.funcs.length c2, .slice A3 x.1.tables.length c3, .slice A4 x.1.memories.length c4, .slice A5 x.1.globals.length c5, .slice A6 x.1.exports.length c6, .int .i64 x.1.start, .slice A8 x.1.elems.length c8, .slice A9 x.1.datas.length c9, .slice AB n cB]] w (Hv6 x w) := by
  obtain ⟨W, hW⟩ : ∃ W, W = w.alloc (.cells #[.slice A0 x.1.types.length c0, .slice A1 x.1.imports.length c1, .slice A2 x.1.funcs.length c2, .slice A3 x.1.tables.length c3, .slice A4 x.1.memories.length c4, .slice A5 x.1.globals.length c5, .slice A6 x.1.exports.length c6, .int .i64 x.1.start, .slice A8 x.1.elems.length c8, .slice A9 x.1.datas.length c9, .slice AB n cB] 35) := ⟨_, rfl⟩
  have b0 : Below w.heap.size w W := by rw [hW]; exact (Below.refl _ _).alloc (Nat.le_refl _) _
  have hk := Lib.hid (Heavy_any W _ x.1 (h.agree (below_agree b0) (up_lt b0)))
  have q10 : W.cell? ⟨w.heap.size, 10, none⟩ = some (.slice AB n cB) := by rw [hW]; simp
  have hz : w.heap.size < W.heap.size := by rw [hW]; simp
  replace hn := Lib.hid hn
  replace hW := Lib.hid hW
  replace b0 := Lib.hid b0
  clear h
  go_enter Tryz.func6, Tryz.ntmps6
  go_wp2_with fail
  rw [← hW.out]
  refine hk.out.mono ?_
  rintro e1 w1 ⟨hor, b1⟩
  have q10' := (b1.cell (p := ⟨w.heap.size, 10, none⟩) hz).trans q10
  have d1 := Lib.hid (b0.out.trans (b1.mono b0.out.size))
  clear b1 q10 hk
  rcases hor with rfl | ⟨rfl, hg⟩
  · go_wp2_with fail
    go_ret
    exact ⟨.inl rfl, d1.out⟩
  · replace hg := Lib.hid hg
    by_cases hb : (20000 : Int) < (n : Int)
    · go_wp2_with fail
      go_ret
      exact ⟨.inl rfl, d1.out⟩
    · have hb' : decide ((20000 : Int) < (n : Int)) = false := decide_eq_false hb
      have hb2 : (n : Int) ≤ 20000 := by omega
      go_wp2_with fail
      go_ret
      exact ⟨.inr ⟨rfl, hg.out, by rw [← hn.out]; omega⟩, d1.out⟩
/-- A byte with some bits turned is another one. -/
theorem xor_head (k j : Nat) (hk : k < 8) (hj : j < 6) : ∃ y : Nat, y < 256 ∧ y ≠ mhead.getD k 0 ∧ bits .xor .u8 ((mhead.getD k 0 : Nat) : Int) (1 + (j : Int)) = (y : Int) := by
  have h : (List.range 8).all (fun k => (List.range 6).all fun j => decide (0 ≤ bits .xor .u8 ((mhead.getD k 0 : Nat) : Int) (1 + (j : Int)) ∧ bits .xor .u8 ((mhead.getD k 0 : Nat) : Int) (1 + (j : Int)) < 256 ∧ bits .xor .u8 ((mhead.getD k 0 : Nat) : Int) (1 + (j : Int)) ≠ ((mhead.getD k 0 : Nat) : Int))) = true := by decide +kernel
  have h1 := List.all_eq_true.1 (List.all_eq_true.1 h k (List.mem_range.2 hk)) j (List.mem_range.2 hj)
  obtain ⟨a, b, c⟩ := of_decide_eq_true h1
  exact ⟨(bits .xor .u8 ((mhead.getD k 0 : Nat) : Int) (1 + (j : Int))).toNat, by omega, by omega, by omega⟩
theorem own_form {w : World} {b e s k : Nat} {v : Value} {xs : List Value} (h : w.ownsRow b e s v k xs) : ∃ A c, v = .slice A k c ∧ k ≤ c ∧ c ≤ maxLen := by
  rcases h.2 with ⟨rfl, rfl⟩ | ⟨g, cap, cur, rfl, _, _, h1, h2, _⟩
  · exact ⟨none, 0, rfl, Nat.le_refl _, by unfold maxLen; omega⟩
  · exact ⟨_, _, rfl, h1, h2⟩
theorem own_at {w : World} {b e s k c : Nat} {A : Option Addr} {xs : List Value} (h : w.ownsRow b e s (.slice A k c) k xs) (hk : 0 < k) : ∃ g cur, A = some ⟨g, 0, none⟩ ∧ b ≤ g ∧ w.heap[g]? = some (.cells cur e (0, 0)) ∧ cur.size = c * s ∧ k ≤ c ∧ c ≤ maxLen ∧ xs = cur.toList.take (k * s) := by
  rcases h.2 with ⟨e, rfl⟩ | ⟨g, cap, cur, e, h1, h2, h3, h4, h5, h6⟩
  · omega
  · cases e
    exact ⟨g, cur, rfl, h1, h2, h5, h3, h4, h6.symm⟩
theorem set_BS {w : World} {b r n c : Nat} {bs : List Nat} (h : w.ownsRow b 5 1 (.slice (some ⟨r, 0, none⟩) n c) n (vals bs)) (hl : ∀ x ∈ bs, x < 256) (k y : Nat) (hk : k < n) (hy : y < 256) :
    BS (w.setCell ⟨r, k, none⟩ (.int .u8 (y : Int))) (w.setCell ⟨r, k, none⟩ (.int .u8 (y : Int))).heap.size (.slice (some ⟨r, 0, none⟩) n c) (bs.set k y) := by
  have hn : n = bs.length := by have := h.1; simpa [vals] using this.symm
  subst hn
  obtain ⟨A, c0, e, h1, h2, h3⟩ := own_BS h hl
  cases e
  refine ⟨_, _, by rw [List.length_set], by rw [List.length_set]; exact h1, h2, fun i hi => ?_⟩
  rw [List.length_set] at hi
  obtain ⟨ad, e1, h4, h5, h6⟩ := h3 i hi
  cases e1
  refine ⟨_, rfl, by simpa using h4, ?_, ?_⟩
  · show (bs.set k y).getD i 0 < 256
    rw [List.getD_eq_getElem?_getD, List.getElem?_set]
    by_cases e : k = i
    · rw [if_pos e, if_pos (by omega)]; exact hy
    · rw [if_neg e, ← List.getD_eq_getElem?_getD]; exact h5
  · rw [add_none, Nat.zero_add] at h6 ⊢
    show _ = some (Value.int IntKind.u8 ((bs.set k y).getD i 0 : Nat))
    by_cases e : i = k
    · subst e
      rw [World.cell?_setCell_same _ _ _ h6]
      rw [List.getD_eq_getElem?_getD, List.getElem?_set, if_pos rfl, if_pos hi]
      rfl
    · rw [World.cell?_setCell_other _ _ _ _ (by intro h; simp only [Addr.mk.injEq] at h; omega), h6]
      show some (Value.int IntKind.u8 ((bs.getD i 0 : Nat) : Int)) = _
      rw [List.getD_eq_getElem?_getD, List.getD_eq_getElem?_getD, List.getElem?_set, if_neg (by omega)]
set_option maxRecDepth 100000 in
set_option maxHeartbeats 8000000 in
theorem headsWalk (A : Option Addr) (n c : Nat) (w : World) (xs : List (M.Mod × List Nat)) (hl : LstO rAskO w (· < w.heap.size) (.slice A n c) xs) : Calls Tryz.prog 5 #[.slice A n c] w fun e w' => e = .returned (.bool true) ∧ Below w.heap.size w w' := by
  have hn : n = xs.length := by
    obtain ⟨_, _, e, _⟩ := hl
    cases e; rfl
  have hn0 := hl.le
  replace hl := Lib.hid hl
  replace hn := Lib.hid hn
  go_enter Tryz.func5, Tryz.ntmps5
  go_wp2_with fail
  go_loopw [3] (fun i w' => ∃ k : Nat, k ≤ n ∧ k ≤ 6 ∧ i = .int .i64 k ∧ Below w.heap.size w w') (fun i _ => 6 - (intOf i).toNat)
  case atStart => exact ⟨0, by omega, by omega, rfl, Below.refl _ _⟩
  case round =>
    obtain ⟨k, hk, hk6, rfl, hbw⟩ := hrel
    have tk : (0 : Int) ≤ (k : Int) := by omega
    by_cases hlt : k < n
    · by_cases hlt6 : k < 6
      · have t1 : (k : Int) < (n : Int) := by omega
        have t2 : (k : Int) < 6 := by omega
        have hx := List.getElem?_eq_getElem (show k < xs.length by rw [← hn.out]; exact hlt)
        obtain ⟨x, hxx⟩ : ∃ x, x = xs[k]'(by rw [← hn.out]; exact hlt) := ⟨_, rfl⟩
        rw [← hxx] at hx
        clear hxx
        obtain ⟨g, o, cs, rfl, hg, his, hc⟩ := hl.out.nth hx
        obtain ⟨ms, AB, cB, rfl, hm, hBO⟩ := form_ask his
        have hm1 := hm.agree (below_agree hbw) (up_lt hbw)
        have hxl : x.2.length ≤ 140737488355328 := by
          obtain ⟨_, _, e, h1, _⟩ := hBO
          exact h1.1
        obtain ⟨A0, c0, A1, c1, A2, c2, A3, c3, A4, c4, A5, c5, A6, c6, A8, c8, A9, c9, rfl, _⟩ := hm.ex
        have hhv' := Lib.hid (heavy6_any wr A0 A1 A2 A3 A4 A5 A6 A8 A9 AB c0 c1 c2 c3 c4 c5 c6 c8 c9 cB x.2.length x hm1 rfl hxl)
        have hgl : g < wr.heap.size := Nat.lt_of_lt_of_le hg hbw.size
        have f0 : wr.cell? ⟨g, o + k * 11, none⟩ = some (.slice A0 x.1.types.length c0) := (hbw.cell (p := ⟨g, o + k * 11, none⟩) hg).trans (hc 0 _ rfl)
        have f1 : wr.cell? ⟨g, o + k * 11 + 1, none⟩ = some (.slice A1 x.1.imports.length c1) := (hbw.cell (p := ⟨g, o + k * 11 + 1, none⟩) hg).trans (hc 1 _ rfl)
        have f2 : wr.cell? ⟨g, o + k * 11 + 2, none⟩ = some (.slice A2 x.1.funcs.length c2) := (hbw.cell (p := ⟨g, o + k * 11 + 2, none⟩) hg).trans (hc 2 _ rfl)
        have f3 : wr.cell? ⟨g, o + k * 11 + 3, none⟩ = some (.slice A3 x.1.tables.length c3) := (hbw.cell (p := ⟨g, o + k * 11 + 3, none⟩) hg).trans (hc 3 _ rfl)
        have f4 : wr.cell? ⟨g, o + k * 11 + 4, none⟩ = some (.slice A4 x.1.memories.length c4) := (hbw.cell (p := ⟨g, o + k * 11 + 4, none⟩) hg).trans (hc 4 _ rfl)
        have f5 : wr.cell? ⟨g, o + k * 11 + 5, none⟩ = some (.slice A5 x.1.globals.length c5) := (hbw.cell (p := ⟨g, o + k * 11 + 5, none⟩) hg).trans (hc 5 _ rfl)
        have f6 : wr.cell? ⟨g, o + k * 11 + 6, none⟩ = some (.slice A6 x.1.exports.length c6) := (hbw.cell (p := ⟨g, o + k * 11 + 6, none⟩) hg).trans (hc 6 _ rfl)
        have f7 : wr.cell? ⟨g, o + k * 11 + 7, none⟩ = some (.int .i64 x.1.start) := (hbw.cell (p := ⟨g, o + k * 11 + 7, none⟩) hg).trans (hc 7 _ rfl)
        have f8 : wr.cell? ⟨g, o + k * 11 + 8, none⟩ = some (.slice A8 x.1.elems.length c8) := (hbw.cell (p := ⟨g, o + k * 11 + 8, none⟩) hg).trans (hc 8 _ rfl)
        have f9 : wr.cell? ⟨g, o + k * 11 + 9, none⟩ = some (.slice A9 x.1.datas.length c9) := (hbw.cell (p := ⟨g, o + k * 11 + 9, none⟩) hg).trans (hc 9 _ rfl)
        have f10 : wr.cell? ⟨g, o + k * 11 + 10, none⟩ = some (.slice AB x.2.length cB) := (hbw.cell (p := ⟨g, o + k * 11 + 10, none⟩) hg).trans (hc 10 _ rfl)
        replace hm1 := Lib.hid hm1
        replace hbw := Lib.hid hbw
        clear hc his hm hBO hx hxl
        go_wp2_with fail
        refine hhv'.out.mono ?_
        rintro e1 w1 ⟨rfl | ⟨rfl, hgd, _⟩, b1⟩
        · have d1 := Lib.hid (hbw.out.trans (b1.mono hbw.out.size))
          go_wp2_with fail
          go_ret
          exact ⟨rfl, d1.out⟩
        · have d1 := Lib.hid (hbw.out.trans (b1.mono hbw.out.size))
          have r0 : w1.cell? ⟨g, o + k * 11, none⟩ = some (.slice A0 x.1.types.length c0) := (b1.cell (p := ⟨g, o + k * 11, none⟩) hgl).trans f0
          have r1 : w1.cell? ⟨g, o + k * 11 + 1, none⟩ = some (.slice A1 x.1.imports.length c1) := (b1.cell (p := ⟨g, o + k * 11 + 1, none⟩) hgl).trans f1
          have r2 : w1.cell? ⟨g, o + k * 11 + 2, none⟩ = some (.slice A2 x.1.funcs.length c2) := (b1.cell (p := ⟨g, o + k * 11 + 2, none⟩) hgl).trans f2
          have r3 : w1.cell? ⟨g, o + k * 11 + 3, none⟩ = some (.slice A3 x.1.tables.length c3) := (b1.cell (p := ⟨g, o + k * 11 + 3, none⟩) hgl).trans f3
          have r4 : w1.cell? ⟨g, o + k * 11 + 4, none⟩ = some (.slice A4 x.1.memories.length c4) := (b1.cell (p := ⟨g, o + k * 11 + 4, none⟩) hgl).trans f4
          have r5 : w1.cell? ⟨g, o + k * 11 + 5, none⟩ = some (.slice A5 x.1.globals.length c5) := (b1.cell (p := ⟨g, o + k * 11 + 5, none⟩) hgl).trans f5
          have r6 : w1.cell? ⟨g, o + k * 11 + 6, none⟩ = some (.slice A6 x.1.exports.length c6) := (b1.cell (p := ⟨g, o + k * 11 + 6, none⟩) hgl).trans f6
          have r7 : w1.cell? ⟨g, o + k * 11 + 7, none⟩ = some (.int .i64 x.1.start) := (b1.cell (p := ⟨g, o + k * 11 + 7, none⟩) hgl).trans f7
          have r8 : w1.cell? ⟨g, o + k * 11 + 8, none⟩ = some (.slice A8 x.1.elems.length c8) := (b1.cell (p := ⟨g, o + k * 11 + 8, none⟩) hgl).trans f8
          have r9 : w1.cell? ⟨g, o + k * 11 + 9, none⟩ = some (.slice A9 x.1.datas.length c9) := (b1.cell (p := ⟨g, o + k * 11 + 9, none⟩) hgl).trans f9
          have r10 : w1.cell? ⟨g, o + k * 11 + 10, none⟩ = some (.slice AB x.2.length cB) := (b1.cell (p := ⟨g, o + k * 11 + 10, none⟩) hgl).trans f10
          have hen := Lib.hid (Encode_any w1 _ x.1 (mIn_of (hm1.out.agree (below_agree b1) (up_lt b1)) hgd))
          clear f0 f1 f2 f3 f4 f5 f6 f7 f8 f9 f10 hm1 hgd b1 hhv'
          go_wp2_with fail
          refine hen.out.mono ?_
          clear hen
          rintro e2 w2 (⟨⟨ho, hlen⟩, ⟨A', c', rfl, hbs⟩, b2⟩ | ⟨_, rfl, b2⟩)
          · have d2 := Lib.hid (d1.out.trans (b2.mono d1.out.size))
            clear b2 r0 r1 r2 r3 r4 r5 r6 r7 r8 r9 r10 ho
            obtain ⟨ys, hys⟩ : ∃ ys, ys = M.topYs (ysM x.1) 11 1 := ⟨_, rfl⟩
            rw [← hys] at hbs hlen ⊢
            clear hys
            have hlb : (mhead ++ ys).length = 8 + ys.length := by rw [List.length_append]; rfl
            obtain ⟨bs, hbe⟩ : ∃ bs, bs = mhead ++ ys := ⟨_, rfl⟩
            rw [← hbe] at hbs hlb ⊢
            obtain ⟨N, hN⟩ : ∃ N, N = bs.length := ⟨_, rfl⟩
            rw [← hN] at hbs hlb ⊢
            have hN8 : (8 : Int) ≤ (N : Int) := by omega
            have hN9 : N ≤ 65536 := by omega
            obtain ⟨_, _, eq1, q1, q2, q3⟩ := hbs
            injection eq1 with eq2 eq3 eq4
            subst eq2 eq4
            clear eq3
            have hbs : BS w2 w2.heap.size (.slice A' N c') bs := ⟨_, _, by rw [← hN], q1, q2, q3⟩
            obtain ⟨ad, rfl, _⟩ := q3 0 (by omega)
            rw [← hN] at q1
            unfold maxLen at q2
            have hb8 : bs.take 8 = mhead := by rw [hbe]; exact List.take_left' rfl
            have hall := Lib.hid hbs.lt
            have hoth := Lib.hid (show ∀ q y, q < 8 → y ≠ mhead.getD q 0 → M.rdModule (bs.set q y) = none from fun q y hq hy => by
              refine M.rdModule_other hq ?_
              rw [List.getElem?_set, if_pos rfl, if_pos (by omega)]
              intro e
              have e2 : M.header = mhead := rfl
              rw [e2] at e
              exact hy (by rw [List.getD_eq_getElem?_getD, ← e]; rfl))
            have hsh := Lib.hid (show ∀ q, q < 8 → M.rdModule (bs.take q) = none from fun q hq => M.rdModule_short (by rw [List.length_take]; omega))
            have hget := Lib.hid (show ∀ q, q < 8 → bs.getD q 0 = mhead.getD q 0 from fun q hq => by
              rw [hbe, List.getD_eq_getElem?_getD, List.getElem?_append_left (by simpa [mhead] using hq), ← List.getD_eq_getElem?_getD])
            have hT8 := Lib.hid (hb8 ▸ hbs.take 8 (by omega))
            replace hbs := Lib.hid hbs
            replace hN := Lib.hid hN
            clear hbe hb8 q3 hlen hlb
            go_upto_region 8 with (go_at_call 11; refine (num_any _ _).mono ?_; rintro e wn ⟨rfl, rfl⟩)
            have hLit := Lib.hid (lit_BS6 (w2.alloc (.cells mheadV 5)) mhead mheadV 5 w2.heap.size 8 8 rfl (by decide) (heap_alloc_new w2 _) (by simp) rfl (by omega) (by unfold maxLen; omega))
            have bL := Lib.hid (show Below w2.heap.size w2 (w2.alloc (.cells mheadV 5)) from (Below.refl _ _).alloc (Nat.le_refl _) _)
            go_wp2_with fail
            refine (EqBytes_same _ _ mhead _ (hT8.out.later bL.out) hLit.out).mono ?_
            rintro e3 w3 ⟨rfl, b3⟩
            have d3 := Lib.hid (bL.out.trans (b3.mono bL.out.size))
            have d4 := Lib.hid (d2.out.trans (d3.out.mono d2.out.size))
            clear b3 hLit bL
            have hbs3 := Lib.hid (hbs.out.later d3.out)
            go_wp2_with fail
            obtain ⟨wo, rfl⟩ : ∃ wo, wo = wr := ⟨wr, rfl⟩
            go_loopw [6] (fun i w' => ∃ q : Nat, q ≤ 8 ∧ i = .int .i64 q ∧ Below w3.heap.size w3 w') (fun i _ => 8 - (intOf i).toNat)
            case atStart => exact ⟨0, by omega, rfl, Below.refl _ _⟩
            case round =>
              obtain ⟨q, hq, rfl, hbq⟩ := hrel
              by_cases hlq : q < 8
              · have tq0 : (0 : Int) ≤ (q : Int) := by omega
                have tq1 : (q : Int) < 8 := by omega
                have tq2 : (q : Int) < (N : Int) := by omega
                have tq3 : (q : Int) ≤ (c' : Int) := by omega
                obtain ⟨y, hy, hyn, hxor⟩ := xor_head q k hlq hlt6
                obtain ⟨z, hz⟩ : ∃ z, z = mhead.getD q 0 := ⟨_, rfl⟩
                rw [← hz] at hxor hyn
                have hB := Lib.hid (hbs3.out.later hbq)
                replace hbq := Lib.hid hbq
                have hno := Lib.hid (hoth.out q y hlq (by rw [← hz]; exact hyn))
                have hsq := Lib.hid (hsh.out q hlq)
                have hgq := (hget.out q hlq).trans hz.symm
                clear hz hyn
                go_wp2_with fail
                refine (CopyBytes_any _ bs _ (by rw [← hN.out]; omega) hB.out).mono ?_
                rintro e5 w5 ⟨v5, rfl, own5, b5⟩
                obtain ⟨A5', c5', rfl, l1, l2⟩ := own_form own5
                rw [← hN.out] at own5 l1 ⊢
                obtain ⟨g5, cur5, rfl, g1, g2, g3, _, _, g4⟩ := own_at own5 (by omega)
                unfold maxLen at l2
                have cq : w5.cell? ⟨g5, q, none⟩ = some (.int .u8 (z : Int)) := by
                  rw [cell_of_row w5 g5 q _ _ (0, 0) g2]
                  have h7 : (vals bs)[q]? = some (.int .u8 ((bs.getD q 0 : Nat) : Int)) := by
                    have hqb : q < bs.length := by rw [← hN.out]; omega
                    rw [List.getD_eq_getElem?_getD]; simp [vals, hqb]
                  rw [g4, List.getElem?_take_of_lt (by omega), hgq] at h7
                  simpa using h7
                have fq : w5.frozen? ⟨g5, q, none⟩ = false := frozen_of_row w5 g5 q _ _ g2
                have hS := Lib.hid (set_BS own5 hall.out q y (by omega) hy)
                have D5 := Lib.hid (hbq.out.trans (b5.mono hbq.out.size))
                have D6 := Lib.hid (show Below w3.heap.size w3 (w5.setCell ⟨g5, q, none⟩ (.int .u8 (y : Int))) from (D5.out.setCell (p := ⟨g5, q, none⟩) (Nat.le_trans hbq.out.size g1) _))
                clear own5 g2 g3 g4 b5 hgq cur5
                go_wp2_with fail
                refine (dec_none _ _ _ hS.out hno.out).mono ?_
                rintro e6 w6 ⟨rfl, b6⟩
                unfold mod0V
                have D7 := Lib.hid (D6.out.trans (b6.mono D6.out.size))
                clear b6 cq fq hS D6 D5
                have hB6 := Lib.hid (hbs3.out.later D7.out)
                have hBT := Lib.hid (hB6.out.take q (by rw [← hN.out]; omega))
                go_wp2_with fail
                refine (dec_none _ (bs.take q) _ (hBT.out.later ((Below.refl _ _).alloc (Nat.le_refl _) _)) hsq.out).mono ?_
                rintro e7 w7 ⟨rfl, b7⟩
                unfold mod0V
                have D8 := Lib.hid (D7.out.trans ((((Below.refl w6.heap.size w6).alloc (Nat.le_refl _) _).trans (b7.mono (by simp))).mono D7.out.size))
                clear b7
                go_wp2_with (go_at_call 11; refine (num_any _ _).mono ?_; rintro e wn ⟨rfl, rfl⟩)
                have D9 := Lib.hid (D8.out.alloc D8.out.size (.cells #[.slice none 0 0, .slice none 0 0, .slice none 0 0, .slice none 0 0, .slice none 0 0, .slice none 0 0, .slice none 0 0, .int .i64 0, .slice none 0 0, .slice none 0 0] 32))
                refine ⟨⟨q + 1, by omega, by go_num, D9.out⟩, by simp [intOf]; omega⟩
              · obtain rfl : q = 8 := by omega
                have D9 := Lib.hid (d4.out.trans (hbq.mono d4.out.size))
                go_wp2_with fail
                refine ⟨⟨k + 1, by omega, by omega, by go_num, D9.out⟩, by simp [intOf]; omega⟩
          · have d2 := Lib.hid (d1.out.trans (b2.mono d1.out.size))
            clear b2 r0 r1 r2 r3 r4 r5 r6 r7 r8 r9 r10
            go_wp2_with (go_at_call 11; refine (num_any _ _).mono ?_; rintro e wn ⟨rfl, rfl⟩)
            refine ⟨⟨k + 1, by omega, by omega, by go_num, d2.out⟩, by simp [intOf]; omega⟩
      · have t1 : (k : Int) < (n : Int) := by omega
        have t2 : ¬ (k : Int) < 6 := by omega
        replace hbw := Lib.hid hbw
        go_wp2_with fail
        refine (wakes_any _).mono ?_
        rintro e9 w9 ⟨rfl, b9⟩
        have d9 := Lib.hid (hbw.out.trans (b9.mono hbw.out.size))
        clear b9
        go_wp2_with fail
        go_ret
        exact ⟨rfl, d9.out⟩
    · have t1 : ¬ (k : Int) < (n : Int) := by omega
      replace hbw := Lib.hid hbw
      go_wp2_with fail
      refine (wakes_any _).mono ?_
      rintro e9 w9 ⟨rfl, b9⟩
      have d9 := Lib.hid (hbw.out.trans (b9.mono hbw.out.size))
      clear b9
      go_wp2_with fail
      go_ret
      exact ⟨rfl, d9.out⟩
end Go.Proofs.YtilaheifccjjeaaGreat
