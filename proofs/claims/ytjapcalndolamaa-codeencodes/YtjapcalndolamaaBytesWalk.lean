/-
  The law on every byte with what may stand behind it, walked: it returns true and writes nothing that was there; no condition.
-/
import Derived.Test.YtjapcalndolamaaPList
import Derived.Test.YtjapcalndolamaaWakes
import Derived.Test.YtjapcalndolamaaChk3
import Derived.Test.YtjapcalndolamaaMay3
namespace Go.Proofs.Ytjapcalndolamaa
open Go.RowKit
/-- The ends that may stand behind a byte. -/
def Tails (w : World) (g : Nat) : Prop := g < w.heap.size ∧ ∀ k, k < 8 → ∃ (ad : Addr) (c : Nat) (ts : List Nat), w.cell? ⟨g, k, none⟩ = some (.slice (some ad) ts.length c) ∧ BS w w.heap.size (.slice (some ad) ts.length c) ts ∧ ts.length ≤ 5 ∧ 1 ≤ ts.length
theorem Tails.later {w w' : World} {g : Nat} (h : Tails w g) (hb : Below w.heap.size w w') : Tails w' g := by
  refine ⟨Nat.lt_of_lt_of_le h.1 hb.size, fun k hk => ?_⟩
  obtain ⟨ad, c, ts, h1, h2, h3⟩ := h.2 k hk
  exact ⟨ad, c, ts, by rw [hb.cell (by exact h.1)]; exact h1, h2.later hb, h3⟩
theorem own_lit {w : World} {cs : Array Value} {t : TypeId} {n : Nat} (hn : cs.size = n) (hm : n ≤ maxLen) : (w.alloc (.cells cs t)).ownsRow w.heap.size t 1 (.slice (some ⟨w.heap.size, 0, none⟩) n n) n cs.toList :=
  ⟨by simp [hn], .inr ⟨w.heap.size, n, cs, rfl, Nat.le_refl _, heap_alloc_new w _, Nat.le_refl _, hm, by simp [hn], by rw [List.take_of_length_le]; simp [hn]⟩⟩
theorem own_LB {w w' : World} {S : Nat → Prop} {v : Value} {l : M.L} (h : OwnL w S v l) (hb : Below w.heap.size w w') (hS : ∀ k, S k → k < w.heap.size) : LB w' v l := LS.agree h.read (fun k hk => hb.block k (hS k hk)) (fun k hk => Nat.lt_of_lt_of_le (hS k hk) hb.size)
theorem since_lt {B : Nat} {w : World} : ∀ k, Since B w k → k < w.heap.size := fun _ hk => hk.2
theorem nil_LB (w : World) : LB w (.slice none 0 0) .nil := nil_LS _ _
theorem news_bytes {w : World} {ob : Obj} {ad : Addr} {ts : List Nat} (h : Bytes w w.heap.size (some ad) ts.length (fun i => ts.getD i 0)) : ∀ j u, (vals ts)[j]? = some u → (w.alloc ob).cell? (ad.add j) = some u := by
  intro j u hu
  have hj : j < ts.length := by
    have := (List.getElem?_eq_some_iff.1 hu).1
    simpa [vals] using this
  rw [getD_vals ts j hj] at hu
  cases hu
  obtain ⟨ad', e, h1, h2, h3⟩ := h j hj
  cases e
  rw [((Below.refl w.heap.size w).alloc (Nat.le_refl _) ob).cell (by rw [addr_block]; exact h1)]
  exact h3
theorem vals_one (ts : List Nat) : ∀ u ∈ vals ts, u.oneCell' = true := by
  intro u hu
  obtain ⟨b, _, rfl⟩ := List.mem_map.1 hu
  rfl
/-- A byte, and an end behind it, in new memory. -/
theorem cat_new {w w5 : World} {ob : Obj} {op g cap : Nat} {ts : List Nat} (hop : op < 256) (hts : ∀ b ∈ ts, b < 256) (hown : w5.ownsRow w.heap.size 5 1 (.slice (some ⟨g, 0, none⟩) (1 + ts.length) cap) (1 + ts.length) ([.int .u8 (op : Nat)] ++ vals ts)) (hgr : (w.alloc ob).grownBy w5 (some w.heap.size)) :
    BS w5 w5.heap.size (.slice (some ⟨g, 0, none⟩) (1 + ts.length) cap) (op :: ts) ∧ Below w.heap.size w w5 := by
  have h5 : w.heap.size + 1 ≤ w5.heap.size := by have := hgr.size; simpa using this
  refine ⟨?_, ⟨hgr.os, hgr.tape, hgr.output, by omega, fun k hk => ?_⟩⟩
  · have e : (op :: ts).length = 1 + ts.length := by simp; omega
    refine own_BS (base := w.heap.size) ?_ ?_
    · rw [e]; exact hown
    · intro b hb
      rcases List.mem_cons.1 hb with rfl | hb
      · exact hop
      · exact hts b hb
  · rw [hgr.block k (by simp; omega) (fun e => by injection e with e; omega)]
    exact Below.heap_alloc _ _ _ hk
/-- Many blocks, made one behind the other. -/
def allocs (w : World) : List Obj → World
  | [] => w
  | o :: t => allocs (w.alloc o) t
theorem allocs_size (l : List Obj) : ∀ w : World, (allocs w l).heap.size = w.heap.size + l.length := by
  induction l with
  | nil => intro w; rfl
  | cons o t ih => intro w; show (allocs (w.alloc o) t).heap.size = _; rw [ih]; simp; omega
theorem allocs_below (l : List Obj) : ∀ w : World, Below w.heap.size w (allocs w l) := by
  induction l with
  | nil => intro w; exact Below.refl _ _
  | cons o t ih => intro w; exact ((Below.refl _ _).alloc (Nat.le_refl _) o).trans ((ih (w.alloc o)).mono (by simp))
theorem allocs_at (l : List Obj) : ∀ (w : World) (j : Nat) (o : Obj), l[j]? = some o → (allocs w l).heap[w.heap.size + j]? = some o := by
  induction l with
  | nil => intro w j o h; simp at h
  | cons x t ih =>
    intro w j o h
    cases j with
    | zero =>
      have hx : x = o := by simpa using h
      subst hx
      show (allocs (w.alloc x) t).heap[w.heap.size]? = some x
      rw [(allocs_below t (w.alloc x)).block w.heap.size (by simp)]
      exact heap_alloc_new w x
    | succ j =>
      have := ih (w.alloc x) j o (by simpa using h)
      show (allocs (w.alloc x) t).heap[w.heap.size + (j + 1)]? = some o
      rw [show w.heap.size + (j + 1) = (w.alloc x).heap.size + j by simp; omega]
      exact this
theorem tails_start (w : World) : Tails (allocs w [.cells #[.int .u8 11] 5, .cells #[.int .u8 64, .int .u8 11, .int .u8 11] 5, .cells #[.int .u8 1, .int .u8 11] 5, .cells #[.int .u8 1, .int .u8 2, .int .u8 11] 5, .cells #[.int .u8 0, .int .u8 11] 5, .cells #[.int .u8 1, .int .u8 0, .int .u8 11] 5, .cells #[.int .u8 1, .int .u8 2, .int .u8 3, .int .u8 11] 5, .cells #[.int .u8 127, .int .u8 65, .int .u8 0, .int .u8 11, .int .u8 11] 5, .cells #[.slice (some ⟨w.heap.size, 0, none⟩) 1 1, .slice (some ⟨w.heap.size + 1, 0, none⟩) 3 3, .slice (some ⟨w.heap.size + 2, 0, none⟩) 2 2, .slice (some ⟨w.heap.size + 3, 0, none⟩) 3 3, .slice (some ⟨w.heap.size + 4, 0, none⟩) 2 2, .slice (some ⟨w.heap.size + 5, 0, none⟩) 3 3, .slice (some ⟨w.heap.size + 6, 0, none⟩) 4 4, .slice (some ⟨w.heap.size + 7, 0, none⟩) 5 5] 24]) (w.heap.size + 8) ∧ Below w.heap.size w (allocs w [.cells #[.int .u8 11] 5, .cells #[.int .u8 64, .int .u8 11, .int .u8 11] 5, .cells #[.int .u8 1, .int .u8 11] 5, .cells #[.int .u8 1, .int .u8 2, .int .u8 11] 5, .cells #[.int .u8 0, .int .u8 11] 5, .cells #[.int .u8 1, .int .u8 0, .int .u8 11] 5, .cells #[.int .u8 1, .int .u8 2, .int .u8 3, .int .u8 11] 5, .cells #[.int .u8 127, .int .u8 65, .int .u8 0, .int .u8 11, .int .u8 11] 5, .cells #[.slice (some ⟨w.heap.size, 0, none⟩) 1 1, .slice (some ⟨w.heap.size + 1, 0, none⟩) 3 3, .slice (some ⟨w.heap.size + 2, 0, none⟩) 2 2, .slice (some ⟨w.heap.size + 3, 0, none⟩) 3 3, .slice (some ⟨w.heap.size + 4, 0, none⟩) 2 2, .slice (some ⟨w.heap.size + 5, 0, none⟩) 3 3, .slice (some ⟨w.heap.size + 6, 0, none⟩) 4 4, .slice (some ⟨w.heap.size + 7, 0, none⟩) 5 5] 24]) := by
  refine ⟨⟨by rw [allocs_size]; simp, fun k hk => ?_⟩, allocs_below _ w⟩
  have hrow := allocs_at [.cells #[.int .u8 11] 5, .cells #[.int .u8 64, .int .u8 11, .int .u8 11] 5, .cells #[.int .u8 1, .int .u8 11] 5, .cells #[.int .u8 1, .int .u8 2, .int .u8 11] 5, .cells #[.int .u8 0, .int .u8 11] 5, .cells #[.int .u8 1, .int .u8 0, .int .u8 11] 5, .cells #[.int .u8 1, .int .u8 2, .int .u8 3, .int .u8 11] 5, .cells #[.int .u8 127, .int .u8 65, .int .u8 0, .int .u8 11, .int .u8 11] 5, .cells #[.slice (some ⟨w.heap.size, 0, none⟩) 1 1, .slice (some ⟨w.heap.size + 1, 0, none⟩) 3 3, .slice (some ⟨w.heap.size + 2, 0, none⟩) 2 2, .slice (some ⟨w.heap.size + 3, 0, none⟩) 3 3, .slice (some ⟨w.heap.size + 4, 0, none⟩) 2 2, .slice (some ⟨w.heap.size + 5, 0, none⟩) 3 3, .slice (some ⟨w.heap.size + 6, 0, none⟩) 4 4, .slice (some ⟨w.heap.size + 7, 0, none⟩) 5 5] 24] w 8 _ rfl
  have hc : ∀ j, (allocs w [.cells #[.int .u8 11] 5, .cells #[.int .u8 64, .int .u8 11, .int .u8 11] 5, .cells #[.int .u8 1, .int .u8 11] 5, .cells #[.int .u8 1, .int .u8 2, .int .u8 11] 5, .cells #[.int .u8 0, .int .u8 11] 5, .cells #[.int .u8 1, .int .u8 0, .int .u8 11] 5, .cells #[.int .u8 1, .int .u8 2, .int .u8 3, .int .u8 11] 5, .cells #[.int .u8 127, .int .u8 65, .int .u8 0, .int .u8 11, .int .u8 11] 5, .cells #[.slice (some ⟨w.heap.size, 0, none⟩) 1 1, .slice (some ⟨w.heap.size + 1, 0, none⟩) 3 3, .slice (some ⟨w.heap.size + 2, 0, none⟩) 2 2, .slice (some ⟨w.heap.size + 3, 0, none⟩) 3 3, .slice (some ⟨w.heap.size + 4, 0, none⟩) 2 2, .slice (some ⟨w.heap.size + 5, 0, none⟩) 3 3, .slice (some ⟨w.heap.size + 6, 0, none⟩) 4 4, .slice (some ⟨w.heap.size + 7, 0, none⟩) 5 5] 24]).cell? ⟨w.heap.size + 8, j, none⟩ = (#[.slice (some ⟨w.heap.size, 0, none⟩) 1 1, .slice (some ⟨w.heap.size + 1, 0, none⟩) 3 3, .slice (some ⟨w.heap.size + 2, 0, none⟩) 2 2, .slice (some ⟨w.heap.size + 3, 0, none⟩) 3 3, .slice (some ⟨w.heap.size + 4, 0, none⟩) 2 2, .slice (some ⟨w.heap.size + 5, 0, none⟩) 3 3, .slice (some ⟨w.heap.size + 6, 0, none⟩) 4 4, .slice (some ⟨w.heap.size + 7, 0, none⟩) 5 5] : Array Value)[j]? := fun j => cell_of_row _ _ _ _ _ (0, 0) hrow
  have hks : k = 0 ∨ k = 1 ∨ k = 2 ∨ k = 3 ∨ k = 4 ∨ k = 5 ∨ k = 6 ∨ k = 7 := by omega
  rcases hks with rfl | rfl | rfl | rfl | rfl | rfl | rfl | rfl
  · exact ⟨⟨w.heap.size + 0, 0, none⟩, 1, [11], by rw [hc]; rfl, lit_BS w _ [11] _ 5 _ 1 1 rfl (by decide) (allocs_at _ w 0 _ rfl) (by rw [allocs_size]; simp) rfl (by omega) (by unfold maxLen; omega), by decide, by decide⟩
  · exact ⟨⟨w.heap.size + 1, 0, none⟩, 3, [64, 11, 11], by rw [hc]; rfl, lit_BS w _ [64, 11, 11] _ 5 _ 3 3 rfl (by decide) (allocs_at _ w 1 _ rfl) (by rw [allocs_size]; simp) rfl (by omega) (by unfold maxLen; omega), by decide, by decide⟩
  · exact ⟨⟨w.heap.size + 2, 0, none⟩, 2, [1, 11], by rw [hc]; rfl, lit_BS w _ [1, 11] _ 5 _ 2 2 rfl (by decide) (allocs_at _ w 2 _ rfl) (by rw [allocs_size]; simp) rfl (by omega) (by unfold maxLen; omega), by decide, by decide⟩
  · exact ⟨⟨w.heap.size + 3, 0, none⟩, 3, [1, 2, 11], by rw [hc]; rfl, lit_BS w _ [1, 2, 11] _ 5 _ 3 3 rfl (by decide) (allocs_at _ w 3 _ rfl) (by rw [allocs_size]; simp) rfl (by omega) (by unfold maxLen; omega), by decide, by decide⟩
  · exact ⟨⟨w.heap.size + 4, 0, none⟩, 2, [0, 11], by rw [hc]; rfl, lit_BS w _ [0, 11] _ 5 _ 2 2 rfl (by decide) (allocs_at _ w 4 _ rfl) (by rw [allocs_size]; simp) rfl (by omega) (by unfold maxLen; omega), by decide, by decide⟩
  · exact ⟨⟨w.heap.size + 5, 0, none⟩, 3, [1, 0, 11], by rw [hc]; rfl, lit_BS w _ [1, 0, 11] _ 5 _ 3 3 rfl (by decide) (allocs_at _ w 5 _ rfl) (by rw [allocs_size]; simp) rfl (by omega) (by unfold maxLen; omega), by decide, by decide⟩
  · exact ⟨⟨w.heap.size + 6, 0, none⟩, 4, [1, 2, 3, 11], by rw [hc]; rfl, lit_BS w _ [1, 2, 3, 11] _ 5 _ 4 4 rfl (by decide) (allocs_at _ w 6 _ rfl) (by rw [allocs_size]; simp) rfl (by omega) (by unfold maxLen; omega), by decide, by decide⟩
  · exact ⟨⟨w.heap.size + 7, 0, none⟩, 5, [127, 65, 0, 11, 11], by rw [hc]; rfl, lit_BS w _ [127, 65, 0, 11, 11] _ 5 _ 5 5 rfl (by decide) (allocs_at _ w 7 _ rfl) (by rw [allocs_size]; simp) rfl (by omega) (by unfold maxLen; omega), by decide, by decide⟩
set_option maxRecDepth 100000 in
set_option maxHeartbeats 8000000 in
theorem CodeBytes_walk (A : Option Addr) (n c : Nat) (w : World) (h : Asks w A n) :
    Calls Try.prog 8 #[.slice A n c] w fun e w' => e = .returned (.bool true) ∧ Below w.heap.size w w' := by
  obtain ⟨hn, _⟩ := h
  obtain ⟨i0, hi0, hz0, hz1, hz2⟩ := info_parts u8_info
  unfold maxLen at hn
  go_enter Try.func8, Try.ntmps8
  go_wp2_with fail
  obtain ⟨G, hG⟩ : ∃ G, G = w.heap.size + 8 := ⟨_, rfl⟩
  rw [show w.heap.size + 1 + 1 + 1 + 1 + 1 + 1 + 1 + 1 = G from hG.symm]
  go_loopw [4] (fun i w' => ∃ k : Nat, k ≤ 256 ∧ i = .int .i64 k ∧ Below w.heap.size w w' ∧ Tails w' G) (fun i _ => 256 - (intOf i).toNat)
  case atStart =>
    exact ⟨0, by omega, rfl, (tails_start w).2, by rw [hG]; exact (tails_start w).1⟩
  case round =>
    obtain ⟨op, hop, rfl, hbw, htl⟩ := hrel
    replace hG := Lib.hid hG
    by_cases hlt : op < 256
    · replace htl := Lib.hid htl
      have hbw0 := Lib.hid hbw
      obtain ⟨wo, hwo⟩ : ∃ wo, wo = wr := ⟨wr, rfl⟩
      have hbo : Below w.heap.size w wo := by rw [hwo]; exact hbw
      have hto : Tails wo G := by rw [hwo]; exact htl.out
      have hb0 : Below wo.heap.size wo wr := by rw [hwo]; exact Below.refl _ _
      clear hwo hbw hbw0 htl
      replace hbo := Lib.hid hbo
      replace hto := Lib.hid hto
      replace hb0 := Lib.hid hb0
      have top : decide ((op : Int) < 256) = true := by simp; omega
      go_wp2_with fail
      go_loopw [5] (fun i w' => ∃ k : Nat, k ≤ 8 ∧ i = .int .i64 k ∧ Below wo.heap.size wo w') (fun i _ => 8 - (intOf i).toNat)
      case atStart => exact ⟨0, by omega, rfl, hb0.out⟩
      case round =>
        obtain ⟨k, hk, rfl, hbk⟩ := hrel
        by_cases hk8 : k < 8
        · obtain ⟨ad, ct, ts, hcell, hBT, hl5, hl1⟩ := (hto.out.later hbk).2 k hk8
          have hGl : G < wr.heap.size := (hto.out.later hbk).1
          have hBT0 := Lib.hid hBT
          obtain ⟨AT, cT, eT, hT1, hT2, hT3⟩ := hBT
          cases eT
          replace hT3 := Lib.hid hT3
          have t0 : (0 : Int) ≤ (k : Int) := by omega
          have t1 : (k : Int) < 8 := by omega
          have hlt256 := Lib.hid (hBT0.out.lt)
          replace hbk := Lib.hid hbk
          go_wp2_with (first
            | (at_builtin; refine wpList_append_lies _ rfl _ _ 24 rfl wr.heap.size 5 i0 (.int .u8 0) 1 1 Try.underlying24 hi0 hz0 hz1 hz2 rfl (by decide) (.slice (some ⟨wr.heap.size, 0, none⟩) 1 1) 1 [.int .u8 (op : Nat)] rfl (own_lit (cs := #[.int .u8 (op : Nat)]) rfl (by unfold maxLen; omega)) ad ts.length ct (vals ts) rfl (by simp [vals]) (news_bytes hT3.out) (vals_one ts) (by omega) (by unfold maxLen; omega) (by omega) (by simp) (wr.heap.size + 1) (by simp) ?_; intro g cap w5 hown5 hgr5 hat5 hlt5))
          obtain ⟨hbs, b5⟩ := cat_new hlt hlt256.out hown5 hgr5
          have hln : (op :: ts).length ≤ 100000 := by simp only [List.length_cons]; omega
          clear hown5 hgr5 hat5 hT3 hBT0 hcell
          replace hbs := Lib.hid hbs
          have d5 := hbk.out.trans (b5.mono hbk.out.size)
          have e5 : wr.heap.size ≤ w5.heap.size := b5.size
          replace d5 := Lib.hid d5
          clear b5
          cases hx : M.expr (op :: ts) with
          | none =>
            replace hx := Lib.hid hx
            refine (Decode_no _ _ _ hbs.out hln hx.out).mono ?_
            rintro e w6 ⟨rfl, b6⟩
            have hbs6 := Lib.hid (hbs.out.later b6)
            have d6 := Lib.hid (d5.out.trans (b6.mono d5.out.size))
            clear b6
            go_wp2_with fail
            refine (Expr_no _ _ _ hbs6.out hln hx.out).mono ?_
            rintro e w7 ⟨rfl, b7⟩
            have d7 := Lib.hid (d6.out.trans (b7.mono d6.out.size))
            clear b7
            go_wp2_with (go_at_call 13; refine (num_any _ _).mono ?_; rintro e wn ⟨rfl, rfl⟩)
            refine (EqInstrs_same .nil _ _ _ (nil_LB _) (nil_LB _)).mono ?_
            rintro e w8 ⟨rfl, b8⟩
            have d8 := Lib.hid (d7.out.trans (b8.mono d7.out.size))
            clear b8
            go_wp2_with fail
            exact ⟨⟨k + 1, by omega, by go_num, d8.out⟩, by simp [intOf]; omega⟩
          | some x =>
            obtain ⟨l, m⟩ := x
            obtain ⟨_, _, hm1, hm2⟩ := M.expr_some hx
            have hml : m ≤ (op :: ts).length := (M.expr_sound hx).2.2
            simp only [List.length_cons] at hml
            replace hx := Lib.hid hx
            have tm : decide ((m : Int) > 0) = true := by simp; omega
            have tm2 : decide ((0 : Int) < (m : Int)) = true := by simp; omega
            refine (Decode_yes _ _ l m _ hbs.out hln hx.out).mono ?_
            rintro e w6 ⟨u6, rfl, own6, b6⟩
            obtain ⟨A6, n6, c6, rfl⟩ := own_slice own6
            have l6 := Lib.hid (own_LB own6 (Below.refl _ _) since_lt)
            have hbs6 := Lib.hid (hbs.out.later b6)
            have d6 := Lib.hid (d5.out.trans (b6.mono d5.out.size))
            clear b6 own6
            go_wp2_with fail
            refine (Expr_yes _ _ l m _ hbs6.out hln hx.out).mono ?_
            rintro e w7 ⟨u7, rfl, own7, b7⟩
            obtain ⟨A7, n7, c7, rfl⟩ := own_slice own7
            have l7 := Lib.hid (own_LB own7 (Below.refl _ _) since_lt)
            have l6' := Lib.hid (LS.later l6.out b7)
            have d7 := Lib.hid (d6.out.trans (b7.mono d6.out.size))
            clear b7 own7 hm1
            go_wp2_with (go_at_call 13; refine (num_any _ _).mono ?_; rintro e wn ⟨rfl, rfl⟩)
            refine (EqInstrs_same l _ _ _ l6'.out l7.out).mono ?_
            rintro e w8 ⟨rfl, b8⟩
            have d8 := Lib.hid (d7.out.trans (b8.mono d7.out.size))
            clear b8
            go_wp2_with fail
            exact ⟨⟨k + 1, by omega, by go_num, d8.out⟩, by simp [intOf]; omega⟩
        · have tk : decide ((k : Int) < 8) = false := by simp; omega
          have hLo : ∀ w' : World, LB (w'.alloc (.cells #[.int .i64 (op : Nat), .int .i64 0, .int .i64 0, .int .i64 0, .int .i64 0, .int .i64 0, .slice none 0 0, .slice none 0 0, .slice none 0 0] 48)) (.slice (some ⟨w'.heap.size, 0, none⟩) 1 1) (.cons (M.hd0 (op : Nat)) .nil .nil .nil) := fun w' =>
            ⟨_, 1, rfl, ⟨by simp [M.L.len], by simp [M.L.len], by unfold maxLen; omega⟩, .inr ⟨w'.heap.size, 0, rfl, by simp, _, _, _, item_row (heap_alloc_new w' _) (nine rfl rfl rfl rfl rfl rfl rfl rfl rfl), by constructor <;> (simp only [M.hd0]; omega), nil_NS _ _, nil_Sl _ _, nil_Sl _ _, trivial⟩⟩
          replace hLo := Lib.hid hLo
          replace hbk := Lib.hid hbk
          have hfin := Lib.hid (show ∀ w9, Below wr.heap.size wr w9 → (∃ k : Nat, k ≤ 256 ∧ (.int .i64 ((op : Int) + 1) : Value) = .int .i64 (k : Nat) ∧ Below w.heap.size w w9 ∧ Tails w9 G) from fun w9 b9 => ⟨op + 1, by omega, by go_num, hbo.out.trans ((hbk.out.trans (b9.mono hbk.out.size)).mono hbo.out.size), hto.out.later (hbk.out.trans (b9.mono hbk.out.size))⟩)
          by_cases hok : M.ok 40 (.cons (M.hd0 (op : Nat)) .nil .nil .nil)
          · replace hok := Lib.hid hok
            go_wp2_with fail
            refine (Check_yes _ _ _ (hLo.out wr) hok.out).mono ?_
            rintro e w6 ⟨rfl, b6⟩
            have l6 := Lib.hid (LS.later (hLo.out wr) b6)
            have d6 := Lib.hid (((Below.refl wr.heap.size wr).alloc (Nat.le_refl _) _).trans (b6.mono (by simp)))
            clear b6
            go_wp2_with (go_at_call 13; refine (num_any _ _).mono ?_; rintro e wn ⟨rfl, rfl⟩)
            refine (May_yes _ _ _ l6.out hok.out).mono ?_
            rintro e w7 ⟨rfl, b7⟩
            have d7 := Lib.hid (d6.out.trans (b7.mono d6.out.size))
            clear b7
            go_wp2_with fail
            exact ⟨hfin.out _ d7.out, by simp [intOf]; omega⟩
          · replace hok := Lib.hid hok
            go_wp2_with fail
            refine (Check_no _ _ _ (hLo.out wr) hok.out).mono ?_
            rintro e w6 ⟨rfl, b6⟩
            have l6 := Lib.hid (LS.later (hLo.out wr) b6)
            have d6 := Lib.hid (((Below.refl wr.heap.size wr).alloc (Nat.le_refl _) _).trans (b6.mono (by simp)))
            clear b6
            go_wp2_with (go_at_call 13; refine (num_any _ _).mono ?_; rintro e wn ⟨rfl, rfl⟩)
            refine (May_no _ _ _ l6.out hok.out).mono ?_
            rintro e w7 ⟨rfl, b7⟩
            have d7 := Lib.hid (d6.out.trans (b7.mono d6.out.size))
            clear b7
            go_wp2_with fail
            exact ⟨hfin.out _ d7.out, by simp [intOf]; omega⟩
    · replace htl := Lib.hid htl
      have tn : decide ((n : Int) ≥ 0) = true := by simp
      have tn2 : decide ((0 : Int) ≤ (n : Int)) = true := by simp
      go_wp2_with fail
      refine (wakes_any _).mono ?_
      rintro e w7 ⟨rfl, hb7⟩
      go_wp2
      go_ret
      exact ⟨rfl, hbw.trans (hb7.mono hbw.size)⟩
end Go.Proofs.Ytjapcalndolamaa
