/-
  What the page's reader of one instruction answers for a block, given what its reader of a list answers one block deeper; condition: the place lies in memory that was there at the call.
-/
import Derived.Test.YtjapcalndolamaaPTable
namespace Go.Proofs.Ytjapcalndolamaa
open Go.RowKit
namespace M
/-- Instructions up to the byte that ends them, which it was, and what is left. -/
def endL (d : Nat) (other : Bool) (bs : List Nat) : Option (L × Nat × List Nat) :=
  match dec d bs with
  | some (l, x :: r) => if x = 11 then some (l, 11, r) else if x = 5 ∧ other = true then some (l, 5, r) else none
  | _ => none
theorem endL_end {d : Nat} {other : Bool} {bs r : List Nat} {l : L} {x : Nat} (h : endL d other bs = some (l, x, r)) : x = 11 ∨ (x = 5 ∧ other = true) := by
  unfold endL at h
  split at h
  · split at h
    · cases h; exact .inl rfl
    · split at h
      · rename_i h9; cases h; exact .inr ⟨rfl, h9.2⟩
      · cases h
  · cases h
theorem ins_2 (d op t : Nat) (r : List Nat) (hk : kind op = 2) (ht : tyOk t) : ins (subOf (d + 1)) op (t :: r) =
    (endL d (decide (op = 4)) r).bind fun p => if p.2.1 = 5 then (endL d false p.2.2).bind (fun q => some (({ hd0 op with ty := t }, p.1, q.1), q.2.2)) else some (({ hd0 op with ty := t }, p.1, .nil), p.2.2) := by
  have hsub : subOf (d + 1) = dec d := rfl
  unfold ins
  rw [hk, hsub]
  show blkB (dec d) op (t :: r) = _
  unfold blkB endL
  simp only [if_pos ht]
  cases h1 : dec d r with
  | none => rfl
  | some p =>
    obtain ⟨l, rest⟩ := p
    cases rest with
    | nil => rfl
    | cons x s =>
      simp only [Option.bind_some]
      by_cases hx : x = 11
      · subst hx
        rfl
      · by_cases h5 : x = 5
        · subst h5
          by_cases h4 : op = 4
          · subst h4
            simp only [elsB, if_true, and_self, decide_true, if_neg (show ¬ (5 : Nat) = 11 by decide), Option.bind_some]
            cases h2 : dec d s with
            | none => rfl
            | some q =>
              obtain ⟨e, rest2⟩ := q
              cases rest2 with
              | nil => rfl
              | cons y s2 =>
                simp only [Option.bind_some, endB]
                by_cases hy : y = 11
                · subst hy; rfl
                · simp [hy]
          · simp [elsB, h4, endB]
        · simp [elsB, h5, hx, endB]
theorem ins_2n (sub : Rd) (op : Nat) (r : List Nat) (hk : kind op = 2) (h : ¬ tyOk (bV (some r))) : ins sub op r = none := by
  unfold ins
  rw [hk]
  show blkB sub op r = none
  cases r with
  | nil => rfl
  | cons t s => unfold blkB; exact if_neg h
theorem ins_20 (op : Nat) (r : List Nat) (hk : kind op = 2) : ins (subOf 0) op r = none := by
  unfold ins
  rw [hk]
  show blkB (subOf 0) op r = none
  cases r with
  | nil => rfl
  | cons t s =>
    show (if tyOk t then _ else none) = none
    split
    · rfl
    · rfl
end M
def PListPost (P : Nat) (ad : Addr) (c : Nat) (bs : List Nat) (d : Nat) (other : Bool) (t : List Nat) (w : World) (e : Ending) (w' : World) : Prop :=
  Kb (· = P) w w' ∧ ((∃ l x r v, M.endL d other t = some (l, x, r) ∧ e = .returned (.tuple #[v, .int .i64 (x : Nat)]) ∧ OwnL w' (Since w.heap.size w') v l ∧ St w' P (some ad) c bs (some r)) ∨
    (M.endL d other t = none ∧ e = .returned (.tuple #[.slice none 0 0, .int .i64 0]) ∧ St w' P (some ad) c bs none))
def PListOk (d : Nat) : Prop := ∀ (P : Nat) (ad : Addr) (c : Nat) (bs : List Nat) (t : List Nat) (other : Bool) (w : World), St w P (some ad) c bs (some t) →
  Calls Try.prog 27 #[.pointer (some ⟨P, 0, none⟩), .int .i64 (d : Nat), .bool other] w (PListPost P ad c bs d other t w)
theorem OwnL.sl {w : World} {S : Nat → Prop} {v : Value} {l : M.L} (h : OwnL w S v l) : IsSl v := own_slice h
set_option maxRecDepth 100000 in
set_option maxHeartbeats 8000000 in
theorem pinstr_2 (w : World) (P : Nat) (ad : Addr) (c : Nat) (bs : List Nat) (r : List Nat) (op : Nat) (d : Nat) (h : St w P (some ad) c bs (some r)) (hop : op < 256) (hk : M.kind op = 2) (hd : d ≤ 40) (ih : ∀ d', d = d' + 1 → PListOk d') :
    Calls Try.prog 50 #[.pointer (some ⟨P, 0, none⟩), .int .i64 (op : Nat), .int .i64 (d : Nat)] w (PInsPost P (some ad) c bs (M.ins (M.subOf d) op r) w) := by
  replace h := Lib.hid h
  replace hk := Lib.hid hk
  replace ih := Lib.hid ih
  have hP := h.out.lt
  go_enter Try.func50, Try.ntmps50
  go_wp2_with fail
  refine (shape_is _ 2 _ hk.out).mono ?_
  rintro e1 w1 ⟨rfl, rfl⟩
  obtain ⟨rw0, st0, b0⟩ := two_start h.out (op : Int) zero9 _ rfl rfl
  generalize hw0 : (w.alloc (.cells zero9 48)).alloc _ = w0 at rw0 st0 b0
  rw [show (w.alloc (.cells #[.int .i64 0, .int .i64 0, .int .i64 0, .int .i64 0, .int .i64 0, .int .i64 0, .slice none 0 0, .slice none 0 0, .slice none 0 0] 48)).alloc (.cells #[.int .i64 (op : Nat), .int .i64 0, .int .i64 0, .int .i64 0, .int .i64 0, .int .i64 0, .slice none 0 0, .slice none 0 0, .slice none 0 0] 48) = w0 from hw0]
  clear hw0
  have k0 : Kb (fun k => k = P ∨ w.heap.size ≤ k) w0 w0 := Kb.refl _ _
  have s0 : w.heap.size + 1 < w0.heap.size := (Array.getElem?_eq_some_iff.1 rw0.x).1
  replace b0 := Lib.hid b0
  replace rw0 := Lib.hid rw0
  replace st0 := Lib.hid st0
  replace k0 := Lib.hid k0
  go_wp2_with fail
  refine (pbyte_any _ P (some ad) c bs (some r) st0.out).mono ?_
  rintro e1 v1 ⟨rfl, st1, kb1, hlt⟩
  have s1 : w.heap.size + 1 < v1.heap.size := Nat.lt_of_lt_of_le s0 kb1.size
  have rw1 := rw0.out.agree (kb1.block _ (by omega) (by omega)) (kb1.block _ (by omega) (by omega))
  have k1 : Kb (fun k => k = P ∨ w.heap.size ≤ k) w0 v1 := k0.out.trans (kb1.mono fun _ hk => .inl hk)
  clear kb1
  have hnt := M.ins_2n (M.subOf d) op r hk.out
  obtain ⟨y, hy⟩ : ∃ x, M.bV (some r) = x := ⟨_, rfl⟩
  rw [hy] at hnt hlt ⊢
  have cf1 := rw1.item.c1
  have ff1 := rw1.frozen 1
  simp only [Nat.zero_add, M.hd0] at cf1
  have rw2 : Rows2 (v1.setCell ⟨w.heap.size + 1, 1, none⟩ (.int .i64 (y : Nat))) w.heap.size { M.hd0 (op : Int) with ty := (y : Nat) } (.slice none 0 0) (.slice none 0 0) (.slice none 0 0) := rw1.set (j := 1) (u := .int .i64 (y : Nat)) rfl
  have st2 := st_set st1 (p := ⟨w.heap.size + 1, 1, none⟩) (by show P < w.heap.size + 1; omega) (.int .i64 (y : Nat))
  have k2 := Kb.setCell (T := fun k => k = P ∨ w.heap.size ≤ k) k1 (p := ⟨w.heap.size + 1, 1, none⟩) (.inr (Nat.le_succ _)) (.int .i64 (y : Nat))
  have s2 : w.heap.size + 1 < (v1.setCell ⟨w.heap.size + 1, 1, none⟩ (.int .i64 (y : Nat))).heap.size := by simpa using s1
  clear rw1 k1
  by_cases hb : ¬ M.tyOk y ∨ d = 0
  · have hins : M.ins (M.subOf d) op r = none := by
      rcases hb with h9 | h9
      · exact hnt h9
      · rw [h9]; exact M.ins_20 op r hk.out
    replace hins := Lib.hid hins
    have hbad := st2.bad
    have cP := hbad.1
    have fP := hbad.2
    rw [World.cell?_of_block (w := v1) (heap_setCell_other _ _ _ _ (by show P ≠ w.heap.size + 1; omega))] at cP
    rw [World.frozen?_of_block (w := v1) (heap_setCell_other _ _ _ _ (by show P ≠ w.heap.size + 1; omega))] at fP
    obtain ⟨B, hB⟩ : ∃ B, B = (M.bR (some r)).isNone := ⟨_, rfl⟩
    rw [← hB] at cP
    have st3 := st2.fail
    have k3 := Kb.setCell (T := fun k => k = P ∨ w.heap.size ≤ k) k2 (p := ⟨P, 2, none⟩) (.inl rfl) (.bool true)
    have rw3 := rw2.agree (w' := (v1.setCell ⟨w.heap.size + 1, 1, none⟩ (.int .i64 (y : Nat))).setCell ⟨P, 2, none⟩ (.bool true)) (heap_setCell_other _ _ _ _ (by show w.heap.size ≠ P; omega)) (heap_setCell_other _ _ _ _ (by show w.heap.size + 1 ≠ P; omega))
    replace hB := Lib.hid hB
    replace hbad := Lib.hid hbad
    replace st1 := Lib.hid st1
    replace st2 := Lib.hid st2
    replace rw2 := Lib.hid rw2
    replace k2 := Lib.hid k2
    replace hy := Lib.hid hy
    replace hnt := Lib.hid hnt
    have hPX : ¬ P = w.heap.size + 1 := by omega
    by_cases hty : M.tyOk y
    · have hd0 : d = 0 := by rcases hb with h9 | h9; exact absurd hty h9; exact h9
      subst hd0
      clear hb
      unfold M.tyOk at hty
      have hyv : y = 64 ∨ y = 127 ∨ y = 126 := by omega
      clear hty
      rcases hyv with rfl | rfl | rfl
      · replace rw3 := Lib.hid rw3
        replace st3 := Lib.hid st3
        replace k3 := Lib.hid k3
        go_wp2_with (first
          | (refine wpList_load_row (by rfl) 48 _ (by rfl) (w.heap.size + 1) (by rfl) 48 _ (0, 0) _ rw3.out.x Try.underlying48 rfl instr_size ?_)
          | (refine wpList_store_row (by rfl) 48 _ _ (by rfl) w.heap.size (item9 { M.hd0 (op : Int) with ty := ((64 : Nat) : Int) } (.slice none 0 0) (.slice none 0 0) (.slice none 0 0)).toArray (by rfl) (by rfl) 48 _ rw3.out.r.choose_spec.1 instr_size (by rw [rw3.out.r.choose_spec.2]; rfl) (all_one nil_IsSl nil_IsSl nil_IsSl) ?_))
        refine bodyPost_ret (results_cell_row rfl _ _ w.heap.size 48 _ (0, 0) _ rfl (setRow_heap _ _ _ _ _ _ rw3.out.r.choose_spec.1) Try.underlying48 rfl instr_size) rfl ?_
        refine pins_end b0.out k3.out ?_
        rw [hins.out]
        exact PIns.bad (st_row st3.out hP _)
      · replace rw3 := Lib.hid rw3
        replace st3 := Lib.hid st3
        replace k3 := Lib.hid k3
        go_wp2_with (first
          | (refine wpList_load_row (by rfl) 48 _ (by rfl) (w.heap.size + 1) (by rfl) 48 _ (0, 0) _ rw3.out.x Try.underlying48 rfl instr_size ?_)
          | (refine wpList_store_row (by rfl) 48 _ _ (by rfl) w.heap.size (item9 { M.hd0 (op : Int) with ty := ((127 : Nat) : Int) } (.slice none 0 0) (.slice none 0 0) (.slice none 0 0)).toArray (by rfl) (by rfl) 48 _ rw3.out.r.choose_spec.1 instr_size (by rw [rw3.out.r.choose_spec.2]; rfl) (all_one nil_IsSl nil_IsSl nil_IsSl) ?_))
        refine bodyPost_ret (results_cell_row rfl _ _ w.heap.size 48 _ (0, 0) _ rfl (setRow_heap _ _ _ _ _ _ rw3.out.r.choose_spec.1) Try.underlying48 rfl instr_size) rfl ?_
        refine pins_end b0.out k3.out ?_
        rw [hins.out]
        exact PIns.bad (st_row st3.out hP _)
      · replace rw3 := Lib.hid rw3
        replace st3 := Lib.hid st3
        replace k3 := Lib.hid k3
        go_wp2_with (first
          | (refine wpList_load_row (by rfl) 48 _ (by rfl) (w.heap.size + 1) (by rfl) 48 _ (0, 0) _ rw3.out.x Try.underlying48 rfl instr_size ?_)
          | (refine wpList_store_row (by rfl) 48 _ _ (by rfl) w.heap.size (item9 { M.hd0 (op : Int) with ty := ((126 : Nat) : Int) } (.slice none 0 0) (.slice none 0 0) (.slice none 0 0)).toArray (by rfl) (by rfl) 48 _ rw3.out.r.choose_spec.1 instr_size (by rw [rw3.out.r.choose_spec.2]; rfl) (all_one nil_IsSl nil_IsSl nil_IsSl) ?_))
        refine bodyPost_ret (results_cell_row rfl _ _ w.heap.size 48 _ (0, 0) _ rfl (setRow_heap _ _ _ _ _ _ rw3.out.r.choose_spec.1) Try.underlying48 rfl instr_size) rfl ?_
        refine pins_end b0.out k3.out ?_
        rw [hins.out]
        exact PIns.bad (st_row st3.out hP _)
    · unfold M.tyOk at hty
      have hy1 : ((y : Int) != 64) = true := by simp; omega
      have hy2 : ((y : Int) != 127) = true := by simp; omega
      have hy3 : ((y : Int) != 126) = true := by simp; omega
      replace hb := Lib.hid hb
      replace hty := Lib.hid hty
      replace rw3 := Lib.hid rw3
      replace st3 := Lib.hid st3
      replace k3 := Lib.hid k3
      go_wp2_with (first
        | (refine wpList_load_row (by rfl) 48 _ (by rfl) (w.heap.size + 1) (by rfl) 48 _ (0, 0) _ rw3.out.x Try.underlying48 rfl instr_size ?_)
        | (refine wpList_store_row (by rfl) 48 _ _ (by rfl) w.heap.size (item9 { M.hd0 (op : Int) with ty := (y : Nat) } (.slice none 0 0) (.slice none 0 0) (.slice none 0 0)).toArray (by rfl) (by rfl) 48 _ rw3.out.r.choose_spec.1 instr_size (by rw [rw3.out.r.choose_spec.2]; rfl) (all_one nil_IsSl nil_IsSl nil_IsSl) ?_))
      refine bodyPost_ret (results_cell_row rfl _ _ w.heap.size 48 _ (0, 0) _ rfl (setRow_heap _ _ _ _ _ _ rw3.out.r.choose_spec.1) Try.underlying48 rfl instr_size) rfl ?_
      refine pins_end b0.out k3.out ?_
      rw [hins.out]
      exact PIns.bad (st_row st3.out hP _)
  · obtain ⟨d', hd'⟩ : ∃ d', d = d' + 1 := ⟨d - 1, by omega⟩
    have hty : M.tyOk y := Classical.byContradiction fun h9 => hb (.inl h9)
    have hrr : ∃ r1, r = y :: r1 := by
      cases r with
      | nil =>
        have : y = 0 := hy.symm
        subst this
        exact absurd hty (by decide)
      | cons a r1 => have : a = y := hy; exact ⟨r1, by rw [this]⟩
    obtain ⟨r1, rfl⟩ := hrr
    replace st2 : St _ P (some ad) c bs (some r1) := st2
    have hins := M.ins_2 d' op y r1 hk.out hty
    subst hd'
    have hL := Lib.hid (ih.out d' rfl)
    have td : ((d' : Int) + 1 == 0) = false := by rw [beq_eq_false_iff_ne]; omega
    have hyv : y = 64 ∨ y = 127 ∨ y = 126 := by unfold M.tyOk at hty; omega
    obtain ⟨oth, hoth⟩ : ∃ x, decide (op = 4) = x := ⟨_, rfl⟩
    have hoth2 : ((op : Int) == 4) = oth := by
      rw [← hoth]
      by_cases h4 : op = 4
      · subst h4; rfl
      · have : ((op : Int) == 4) = false := by rw [beq_eq_false_iff_ne]; omega
        rw [this]; simp [h4]
    rw [hoth] at hins
    replace hoth := Lib.hid hoth
    clear hb hty hnt hy st1
    replace rw2 := Lib.hid rw2
    replace st2 := Lib.hid st2
    replace k2 := Lib.hid k2
    replace hins := Lib.hid hins
    rcases hyv with rfl | rfl | rfl
    · go_wp2_with fail
      refine (hL.out P ad c bs r1 oth _ st2.out).mono ?_
      rintro e2 v2 ⟨kb2, hout⟩
      have s3 : w.heap.size + 1 < v2.heap.size := Nat.lt_of_lt_of_le s2 kb2.size
      have rw3 := rw2.out.agree (kb2.block _ (by omega) (by omega)) (kb2.block _ (by omega) (by omega))
      have k3 : Kb (fun k => k = P ∨ w.heap.size ≤ k) w0 v2 := k2.out.trans (kb2.mono fun _ hk => .inl hk)
      have cf3 := rw3.item.c7
      have ff3 := rw3.frozen 7
      simp only [Nat.zero_add] at cf3
      rcases hout with ⟨l, x, s, vB, hend, rfl, own, st3⟩ | ⟨hend, rfl, st3⟩
      · have own3 : OwnL v2 (fun k => w.heap.size + 2 ≤ k ∧ k < v2.heap.size) vB l := own.agree (fun _ _ => rfl) (fun k hk => ⟨by have := hk.1; omega, hk.2⟩)
        clear own kb2
        have hsB := own3.sl
        obtain ⟨AB, nB, cB, rfl⟩ := own_slice own3
        have rw4 : Rows2 (v2.setCell ⟨w.heap.size + 1, 7, none⟩ (.slice AB nB cB)) w.heap.size { M.hd0 (op : Int) with ty := ((64 : Nat) : Int) } (.slice none 0 0) (.slice AB nB cB) (.slice none 0 0) := rw3.set (j := 7) (u := .slice AB nB cB) rfl
        have st4 := st_set st3 (p := ⟨w.heap.size + 1, 7, none⟩) (by show P < w.heap.size + 1; omega) (.slice AB nB cB)
        have k4 := Kb.setCell (T := fun k => k = P ∨ w.heap.size ≤ k) k3 (p := ⟨w.heap.size + 1, 7, none⟩) (.inr (Nat.le_succ _)) (.slice AB nB cB)
        have own4 : OwnL (v2.setCell ⟨w.heap.size + 1, 7, none⟩ (.slice AB nB cB)) (fun k => w.heap.size + 2 ≤ k ∧ k < v2.heap.size) (.slice AB nB cB) l := own3.agree (fun k hk => heap_setCell_other _ _ _ _ (by have := hk.1; show k ≠ w.heap.size + 1; omega)) (fun k hk => hk)
        have s4 : w.heap.size + 1 < (v2.setCell ⟨w.heap.size + 1, 7, none⟩ (.slice AB nB cB)).heap.size := by simpa using s3
        replace own4 := Lib.hid own4
        clear own3 rw3 st3 k3
        rcases M.endL_end hend with rfl | ⟨rfl, ho⟩
        · have hins := Lib.hid (show M.ins (M.subOf (d' + 1)) op (64 :: r1) = some (({ M.hd0 (op : Int) with ty := ((64 : Nat) : Int) }, l, .nil), s) by rw [hins.out, hend]; rfl)
          clear hend
          replace rw4 := Lib.hid rw4
          replace st4 := Lib.hid st4
          replace k4 := Lib.hid k4
          go_wp2_with (first
            | (refine wpList_load_row (by rfl) 48 _ (by rfl) (w.heap.size + 1) (by rfl) 48 _ (0, 0) _ rw4.out.x Try.underlying48 rfl instr_size ?_)
            | (refine wpList_store_row (by rfl) 48 _ _ (by rfl) w.heap.size (item9 { M.hd0 (op : Int) with ty := ((64 : Nat) : Int) } (.slice none 0 0) (.slice AB nB cB) (.slice none 0 0)).toArray (by rfl) (by rfl) 48 _ rw4.out.r.choose_spec.1 instr_size (by rw [rw4.out.r.choose_spec.2]; rfl) (all_one nil_IsSl hsB nil_IsSl) ?_))
          refine bodyPost_ret (results_cell_row rfl _ _ w.heap.size 48 _ (0, 0) _ rfl (setRow_heap _ _ _ _ _ _ rw4.out.r.choose_spec.1) Try.underlying48 rfl instr_size) rfl ?_
          refine pins_end b0.out k4.out ?_
          rw [hins.out]
          refine ⟨rfl, st_row st4.out hP _, by constructor <;> (simp only [M.hd0]; omega), OwnN.nil _ _, own4.out.agree (fun k hk => setRow_other _ _ _ _ (by have := hk.1; omega)) (fun k hk => ⟨by have := hk.1; omega, by have := hk.2; simpa using this⟩), OwnL.nil _ _⟩
        · have hins := Lib.hid (show M.ins (M.subOf (d' + 1)) op (64 :: r1) = (M.endL d' false s).bind (fun q => some (({ M.hd0 (op : Int) with ty := ((64 : Nat) : Int) }, l, q.1), q.2.2)) by rw [hins.out, hend]; rfl)
          clear hend ho
          replace rw4 := Lib.hid rw4
          replace st4 := Lib.hid st4
          replace k4 := Lib.hid k4
          go_wp2_with fail
          refine (hL.out P ad c bs s false _ st4.out).mono ?_
          rintro e3 v3 ⟨kb3, hout⟩
          have s5 : w.heap.size + 1 < v3.heap.size := Nat.lt_of_lt_of_le s4 kb3.size
          have rw5 := rw4.out.agree (kb3.block _ (by omega) (by omega)) (kb3.block _ (by omega) (by omega))
          have k5 : Kb (fun k => k = P ∨ w.heap.size ≤ k) w0 v3 := k4.out.trans (kb3.mono fun _ hk => .inl hk)
          have cf5 := rw5.item.c8
          have ff5 := rw5.frozen 8
          simp only [Nat.zero_add] at cf5
          have own5 : OwnL v3 (fun k => w.heap.size + 2 ≤ k ∧ k < v3.heap.size) (.slice AB nB cB) l := own4.out.agree (fun k hk => kb3.block k (by have := hk.2; simpa using this) (by have := hk.1; omega)) (fun k hk => ⟨hk.1, Nat.lt_of_lt_of_le (by have := hk.2; simpa using this) kb3.size⟩)
          rcases hout with ⟨l2, x2, s2', vE, hend2, rfl, own, st5⟩ | ⟨hend2, rfl, st5⟩
          · have ownE : OwnL v3 (fun k => w.heap.size + 2 ≤ k ∧ k < v3.heap.size) vE l2 := own.agree (fun _ _ => rfl) (fun k hk => ⟨by have := hk.1; simp at this; omega, hk.2⟩)
            clear own kb3
            have hsE := ownE.sl
            obtain ⟨AE, nE, cE, rfl⟩ := own_slice ownE
            have hx2 : x2 = 11 := by rcases M.endL_end hend2 with h9 | ⟨_, h9⟩; exact h9; cases h9
            subst hx2
            have hins := Lib.hid (show M.ins (M.subOf (d' + 1)) op (64 :: r1) = some (({ M.hd0 (op : Int) with ty := ((64 : Nat) : Int) }, l, l2), s2') by rw [hins.out, hend2]; rfl)
            have rw6 : Rows2 (v3.setCell ⟨w.heap.size + 1, 8, none⟩ (.slice AE nE cE)) w.heap.size { M.hd0 (op : Int) with ty := ((64 : Nat) : Int) } (.slice none 0 0) (.slice AB nB cB) (.slice AE nE cE) := rw5.set (j := 8) (u := .slice AE nE cE) rfl
            have st6 := st_set st5 (p := ⟨w.heap.size + 1, 8, none⟩) (by show P < w.heap.size + 1; omega) (.slice AE nE cE)
            have k6 := Kb.setCell (T := fun k => k = P ∨ w.heap.size ≤ k) k5 (p := ⟨w.heap.size + 1, 8, none⟩) (.inr (Nat.le_succ _)) (.slice AE nE cE)
            replace own5 := Lib.hid own5
            replace ownE := Lib.hid ownE
            clear hend2 rw5 st5 k5
            replace rw6 := Lib.hid rw6
            replace st6 := Lib.hid st6
            replace k6 := Lib.hid k6
            go_wp2_with (first
              | (refine wpList_load_row (by rfl) 48 _ (by rfl) (w.heap.size + 1) (by rfl) 48 _ (0, 0) _ rw6.out.x Try.underlying48 rfl instr_size ?_)
              | (refine wpList_store_row (by rfl) 48 _ _ (by rfl) w.heap.size (item9 { M.hd0 (op : Int) with ty := ((64 : Nat) : Int) } (.slice none 0 0) (.slice AB nB cB) (.slice AE nE cE)).toArray (by rfl) (by rfl) 48 _ rw6.out.r.choose_spec.1 instr_size (by rw [rw6.out.r.choose_spec.2]; rfl) (all_one nil_IsSl hsB hsE) ?_))
            refine bodyPost_ret (results_cell_row rfl _ _ w.heap.size 48 _ (0, 0) _ rfl (setRow_heap _ _ _ _ _ _ rw6.out.r.choose_spec.1) Try.underlying48 rfl instr_size) rfl ?_
            refine pins_end b0.out k6.out ?_
            rw [hins.out]
            have sm : ∀ k, w.heap.size + 2 ≤ k → ((v3.setCell ⟨w.heap.size + 1, 8, none⟩ (.slice AE nE cE)).setRow w.heap.size (item9 { M.hd0 (op : Int) with ty := ((64 : Nat) : Int) } (.slice none 0 0) (.slice AB nB cB) (.slice AE nE cE)).toArray).heap[k]? = v3.heap[k]? := fun k hk => by
              rw [setRow_other _ _ _ _ (by omega), heap_setCell_other _ _ _ _ (by show k ≠ w.heap.size + 1; omega)]
            refine ⟨rfl, st_row st6.out hP _, by constructor <;> (simp only [M.hd0]; omega), OwnN.nil _ _, own5.out.agree (fun k hk => sm k hk.1) (fun k hk => ⟨by have := hk.1; omega, by have := hk.2; simpa using this⟩), ownE.out.agree (fun k hk => sm k hk.1) (fun k hk => ⟨by have := hk.1; omega, by have := hk.2; simpa using this⟩)⟩
          · have hins := Lib.hid (show M.ins (M.subOf (d' + 1)) op (64 :: r1) = none by rw [hins.out, hend2]; rfl)
            have rw6 : Rows2 (v3.setCell ⟨w.heap.size + 1, 8, none⟩ (.slice none 0 0)) w.heap.size { M.hd0 (op : Int) with ty := ((64 : Nat) : Int) } (.slice none 0 0) (.slice AB nB cB) (.slice none 0 0) := rw5.set (j := 8) (u := .slice none 0 0) rfl
            have st6 := st_set st5 (p := ⟨w.heap.size + 1, 8, none⟩) (by show P < w.heap.size + 1; omega) (.slice none 0 0)
            have k6 := Kb.setCell (T := fun k => k = P ∨ w.heap.size ≤ k) k5 (p := ⟨w.heap.size + 1, 8, none⟩) (.inr (Nat.le_succ _)) (.slice none 0 0)
            clear own5 kb3 hend2 rw5 st5 k5
            replace rw6 := Lib.hid rw6
            replace st6 := Lib.hid st6
            replace k6 := Lib.hid k6
            go_wp2_with (first
              | (refine wpList_load_row (by rfl) 48 _ (by rfl) (w.heap.size + 1) (by rfl) 48 _ (0, 0) _ rw6.out.x Try.underlying48 rfl instr_size ?_)
              | (refine wpList_store_row (by rfl) 48 _ _ (by rfl) w.heap.size (item9 { M.hd0 (op : Int) with ty := ((64 : Nat) : Int) } (.slice none 0 0) (.slice AB nB cB) (.slice none 0 0)).toArray (by rfl) (by rfl) 48 _ rw6.out.r.choose_spec.1 instr_size (by rw [rw6.out.r.choose_spec.2]; rfl) (all_one nil_IsSl hsB nil_IsSl) ?_))
            refine bodyPost_ret (results_cell_row rfl _ _ w.heap.size 48 _ (0, 0) _ rfl (setRow_heap _ _ _ _ _ _ rw6.out.r.choose_spec.1) Try.underlying48 rfl instr_size) rfl ?_
            refine pins_end b0.out k6.out ?_
            rw [hins.out]
            exact ⟨st_row st6.out hP _, nil_IsSl, hsB, nil_IsSl⟩
      · have hins := Lib.hid (show M.ins (M.subOf (d' + 1)) op (64 :: r1) = none by rw [hins.out, hend]; rfl)
        have rw4 : Rows2 (v2.setCell ⟨w.heap.size + 1, 7, none⟩ (.slice none 0 0)) w.heap.size { M.hd0 (op : Int) with ty := ((64 : Nat) : Int) } (.slice none 0 0) (.slice none 0 0) (.slice none 0 0) := rw3.set (j := 7) (u := .slice none 0 0) rfl
        have st4 := st_set st3 (p := ⟨w.heap.size + 1, 7, none⟩) (by show P < w.heap.size + 1; omega) (.slice none 0 0)
        have k4 := Kb.setCell (T := fun k => k = P ∨ w.heap.size ≤ k) k3 (p := ⟨w.heap.size + 1, 7, none⟩) (.inr (Nat.le_succ _)) (.slice none 0 0)
        clear kb2 hend rw3 st3 k3
        replace rw4 := Lib.hid rw4
        replace st4 := Lib.hid st4
        replace k4 := Lib.hid k4
        go_wp2_with (first
          | (refine wpList_load_row (by rfl) 48 _ (by rfl) (w.heap.size + 1) (by rfl) 48 _ (0, 0) _ rw4.out.x Try.underlying48 rfl instr_size ?_)
          | (refine wpList_store_row (by rfl) 48 _ _ (by rfl) w.heap.size (item9 { M.hd0 (op : Int) with ty := ((64 : Nat) : Int) } (.slice none 0 0) (.slice none 0 0) (.slice none 0 0)).toArray (by rfl) (by rfl) 48 _ rw4.out.r.choose_spec.1 instr_size (by rw [rw4.out.r.choose_spec.2]; rfl) (all_one nil_IsSl nil_IsSl nil_IsSl) ?_))
        refine bodyPost_ret (results_cell_row rfl _ _ w.heap.size 48 _ (0, 0) _ rfl (setRow_heap _ _ _ _ _ _ rw4.out.r.choose_spec.1) Try.underlying48 rfl instr_size) rfl ?_
        refine pins_end b0.out k4.out ?_
        rw [hins.out]
        exact PIns.bad (st_row st4.out hP _)
    · go_wp2_with fail
      refine (hL.out P ad c bs r1 oth _ st2.out).mono ?_
      rintro e2 v2 ⟨kb2, hout⟩
      have s3 : w.heap.size + 1 < v2.heap.size := Nat.lt_of_lt_of_le s2 kb2.size
      have rw3 := rw2.out.agree (kb2.block _ (by omega) (by omega)) (kb2.block _ (by omega) (by omega))
      have k3 : Kb (fun k => k = P ∨ w.heap.size ≤ k) w0 v2 := k2.out.trans (kb2.mono fun _ hk => .inl hk)
      have cf3 := rw3.item.c7
      have ff3 := rw3.frozen 7
      simp only [Nat.zero_add] at cf3
      rcases hout with ⟨l, x, s, vB, hend, rfl, own, st3⟩ | ⟨hend, rfl, st3⟩
      · have own3 : OwnL v2 (fun k => w.heap.size + 2 ≤ k ∧ k < v2.heap.size) vB l := own.agree (fun _ _ => rfl) (fun k hk => ⟨by have := hk.1; omega, hk.2⟩)
        clear own kb2
        have hsB := own3.sl
        obtain ⟨AB, nB, cB, rfl⟩ := own_slice own3
        have rw4 : Rows2 (v2.setCell ⟨w.heap.size + 1, 7, none⟩ (.slice AB nB cB)) w.heap.size { M.hd0 (op : Int) with ty := ((127 : Nat) : Int) } (.slice none 0 0) (.slice AB nB cB) (.slice none 0 0) := rw3.set (j := 7) (u := .slice AB nB cB) rfl
        have st4 := st_set st3 (p := ⟨w.heap.size + 1, 7, none⟩) (by show P < w.heap.size + 1; omega) (.slice AB nB cB)
        have k4 := Kb.setCell (T := fun k => k = P ∨ w.heap.size ≤ k) k3 (p := ⟨w.heap.size + 1, 7, none⟩) (.inr (Nat.le_succ _)) (.slice AB nB cB)
        have own4 : OwnL (v2.setCell ⟨w.heap.size + 1, 7, none⟩ (.slice AB nB cB)) (fun k => w.heap.size + 2 ≤ k ∧ k < v2.heap.size) (.slice AB nB cB) l := own3.agree (fun k hk => heap_setCell_other _ _ _ _ (by have := hk.1; show k ≠ w.heap.size + 1; omega)) (fun k hk => hk)
        have s4 : w.heap.size + 1 < (v2.setCell ⟨w.heap.size + 1, 7, none⟩ (.slice AB nB cB)).heap.size := by simpa using s3
        replace own4 := Lib.hid own4
        clear own3 rw3 st3 k3
        rcases M.endL_end hend with rfl | ⟨rfl, ho⟩
        · have hins := Lib.hid (show M.ins (M.subOf (d' + 1)) op (127 :: r1) = some (({ M.hd0 (op : Int) with ty := ((127 : Nat) : Int) }, l, .nil), s) by rw [hins.out, hend]; rfl)
          clear hend
          replace rw4 := Lib.hid rw4
          replace st4 := Lib.hid st4
          replace k4 := Lib.hid k4
          go_wp2_with (first
            | (refine wpList_load_row (by rfl) 48 _ (by rfl) (w.heap.size + 1) (by rfl) 48 _ (0, 0) _ rw4.out.x Try.underlying48 rfl instr_size ?_)
            | (refine wpList_store_row (by rfl) 48 _ _ (by rfl) w.heap.size (item9 { M.hd0 (op : Int) with ty := ((127 : Nat) : Int) } (.slice none 0 0) (.slice AB nB cB) (.slice none 0 0)).toArray (by rfl) (by rfl) 48 _ rw4.out.r.choose_spec.1 instr_size (by rw [rw4.out.r.choose_spec.2]; rfl) (all_one nil_IsSl hsB nil_IsSl) ?_))
          refine bodyPost_ret (results_cell_row rfl _ _ w.heap.size 48 _ (0, 0) _ rfl (setRow_heap _ _ _ _ _ _ rw4.out.r.choose_spec.1) Try.underlying48 rfl instr_size) rfl ?_
          refine pins_end b0.out k4.out ?_
          rw [hins.out]
          refine ⟨rfl, st_row st4.out hP _, by constructor <;> (simp only [M.hd0]; omega), OwnN.nil _ _, own4.out.agree (fun k hk => setRow_other _ _ _ _ (by have := hk.1; omega)) (fun k hk => ⟨by have := hk.1; omega, by have := hk.2; simpa using this⟩), OwnL.nil _ _⟩
        · have hins := Lib.hid (show M.ins (M.subOf (d' + 1)) op (127 :: r1) = (M.endL d' false s).bind (fun q => some (({ M.hd0 (op : Int) with ty := ((127 : Nat) : Int) }, l, q.1), q.2.2)) by rw [hins.out, hend]; rfl)
          clear hend ho
          replace rw4 := Lib.hid rw4
          replace st4 := Lib.hid st4
          replace k4 := Lib.hid k4
          go_wp2_with fail
          refine (hL.out P ad c bs s false _ st4.out).mono ?_
          rintro e3 v3 ⟨kb3, hout⟩
          have s5 : w.heap.size + 1 < v3.heap.size := Nat.lt_of_lt_of_le s4 kb3.size
          have rw5 := rw4.out.agree (kb3.block _ (by omega) (by omega)) (kb3.block _ (by omega) (by omega))
          have k5 : Kb (fun k => k = P ∨ w.heap.size ≤ k) w0 v3 := k4.out.trans (kb3.mono fun _ hk => .inl hk)
          have cf5 := rw5.item.c8
          have ff5 := rw5.frozen 8
          simp only [Nat.zero_add] at cf5
          have own5 : OwnL v3 (fun k => w.heap.size + 2 ≤ k ∧ k < v3.heap.size) (.slice AB nB cB) l := own4.out.agree (fun k hk => kb3.block k (by have := hk.2; simpa using this) (by have := hk.1; omega)) (fun k hk => ⟨hk.1, Nat.lt_of_lt_of_le (by have := hk.2; simpa using this) kb3.size⟩)
          rcases hout with ⟨l2, x2, s2', vE, hend2, rfl, own, st5⟩ | ⟨hend2, rfl, st5⟩
          · have ownE : OwnL v3 (fun k => w.heap.size + 2 ≤ k ∧ k < v3.heap.size) vE l2 := own.agree (fun _ _ => rfl) (fun k hk => ⟨by have := hk.1; simp at this; omega, hk.2⟩)
            clear own kb3
            have hsE := ownE.sl
            obtain ⟨AE, nE, cE, rfl⟩ := own_slice ownE
            have hx2 : x2 = 11 := by rcases M.endL_end hend2 with h9 | ⟨_, h9⟩; exact h9; cases h9
            subst hx2
            have hins := Lib.hid (show M.ins (M.subOf (d' + 1)) op (127 :: r1) = some (({ M.hd0 (op : Int) with ty := ((127 : Nat) : Int) }, l, l2), s2') by rw [hins.out, hend2]; rfl)
            have rw6 : Rows2 (v3.setCell ⟨w.heap.size + 1, 8, none⟩ (.slice AE nE cE)) w.heap.size { M.hd0 (op : Int) with ty := ((127 : Nat) : Int) } (.slice none 0 0) (.slice AB nB cB) (.slice AE nE cE) := rw5.set (j := 8) (u := .slice AE nE cE) rfl
            have st6 := st_set st5 (p := ⟨w.heap.size + 1, 8, none⟩) (by show P < w.heap.size + 1; omega) (.slice AE nE cE)
            have k6 := Kb.setCell (T := fun k => k = P ∨ w.heap.size ≤ k) k5 (p := ⟨w.heap.size + 1, 8, none⟩) (.inr (Nat.le_succ _)) (.slice AE nE cE)
            replace own5 := Lib.hid own5
            replace ownE := Lib.hid ownE
            clear hend2 rw5 st5 k5
            replace rw6 := Lib.hid rw6
            replace st6 := Lib.hid st6
            replace k6 := Lib.hid k6
            go_wp2_with (first
              | (refine wpList_load_row (by rfl) 48 _ (by rfl) (w.heap.size + 1) (by rfl) 48 _ (0, 0) _ rw6.out.x Try.underlying48 rfl instr_size ?_)
              | (refine wpList_store_row (by rfl) 48 _ _ (by rfl) w.heap.size (item9 { M.hd0 (op : Int) with ty := ((127 : Nat) : Int) } (.slice none 0 0) (.slice AB nB cB) (.slice AE nE cE)).toArray (by rfl) (by rfl) 48 _ rw6.out.r.choose_spec.1 instr_size (by rw [rw6.out.r.choose_spec.2]; rfl) (all_one nil_IsSl hsB hsE) ?_))
            refine bodyPost_ret (results_cell_row rfl _ _ w.heap.size 48 _ (0, 0) _ rfl (setRow_heap _ _ _ _ _ _ rw6.out.r.choose_spec.1) Try.underlying48 rfl instr_size) rfl ?_
            refine pins_end b0.out k6.out ?_
            rw [hins.out]
            have sm : ∀ k, w.heap.size + 2 ≤ k → ((v3.setCell ⟨w.heap.size + 1, 8, none⟩ (.slice AE nE cE)).setRow w.heap.size (item9 { M.hd0 (op : Int) with ty := ((127 : Nat) : Int) } (.slice none 0 0) (.slice AB nB cB) (.slice AE nE cE)).toArray).heap[k]? = v3.heap[k]? := fun k hk => by
              rw [setRow_other _ _ _ _ (by omega), heap_setCell_other _ _ _ _ (by show k ≠ w.heap.size + 1; omega)]
            refine ⟨rfl, st_row st6.out hP _, by constructor <;> (simp only [M.hd0]; omega), OwnN.nil _ _, own5.out.agree (fun k hk => sm k hk.1) (fun k hk => ⟨by have := hk.1; omega, by have := hk.2; simpa using this⟩), ownE.out.agree (fun k hk => sm k hk.1) (fun k hk => ⟨by have := hk.1; omega, by have := hk.2; simpa using this⟩)⟩
          · have hins := Lib.hid (show M.ins (M.subOf (d' + 1)) op (127 :: r1) = none by rw [hins.out, hend2]; rfl)
            have rw6 : Rows2 (v3.setCell ⟨w.heap.size + 1, 8, none⟩ (.slice none 0 0)) w.heap.size { M.hd0 (op : Int) with ty := ((127 : Nat) : Int) } (.slice none 0 0) (.slice AB nB cB) (.slice none 0 0) := rw5.set (j := 8) (u := .slice none 0 0) rfl
            have st6 := st_set st5 (p := ⟨w.heap.size + 1, 8, none⟩) (by show P < w.heap.size + 1; omega) (.slice none 0 0)
            have k6 := Kb.setCell (T := fun k => k = P ∨ w.heap.size ≤ k) k5 (p := ⟨w.heap.size + 1, 8, none⟩) (.inr (Nat.le_succ _)) (.slice none 0 0)
            clear own5 kb3 hend2 rw5 st5 k5
            replace rw6 := Lib.hid rw6
            replace st6 := Lib.hid st6
            replace k6 := Lib.hid k6
            go_wp2_with (first
              | (refine wpList_load_row (by rfl) 48 _ (by rfl) (w.heap.size + 1) (by rfl) 48 _ (0, 0) _ rw6.out.x Try.underlying48 rfl instr_size ?_)
              | (refine wpList_store_row (by rfl) 48 _ _ (by rfl) w.heap.size (item9 { M.hd0 (op : Int) with ty := ((127 : Nat) : Int) } (.slice none 0 0) (.slice AB nB cB) (.slice none 0 0)).toArray (by rfl) (by rfl) 48 _ rw6.out.r.choose_spec.1 instr_size (by rw [rw6.out.r.choose_spec.2]; rfl) (all_one nil_IsSl hsB nil_IsSl) ?_))
            refine bodyPost_ret (results_cell_row rfl _ _ w.heap.size 48 _ (0, 0) _ rfl (setRow_heap _ _ _ _ _ _ rw6.out.r.choose_spec.1) Try.underlying48 rfl instr_size) rfl ?_
            refine pins_end b0.out k6.out ?_
            rw [hins.out]
            exact ⟨st_row st6.out hP _, nil_IsSl, hsB, nil_IsSl⟩
      · have hins := Lib.hid (show M.ins (M.subOf (d' + 1)) op (127 :: r1) = none by rw [hins.out, hend]; rfl)
        have rw4 : Rows2 (v2.setCell ⟨w.heap.size + 1, 7, none⟩ (.slice none 0 0)) w.heap.size { M.hd0 (op : Int) with ty := ((127 : Nat) : Int) } (.slice none 0 0) (.slice none 0 0) (.slice none 0 0) := rw3.set (j := 7) (u := .slice none 0 0) rfl
        have st4 := st_set st3 (p := ⟨w.heap.size + 1, 7, none⟩) (by show P < w.heap.size + 1; omega) (.slice none 0 0)
        have k4 := Kb.setCell (T := fun k => k = P ∨ w.heap.size ≤ k) k3 (p := ⟨w.heap.size + 1, 7, none⟩) (.inr (Nat.le_succ _)) (.slice none 0 0)
        clear kb2 hend rw3 st3 k3
        replace rw4 := Lib.hid rw4
        replace st4 := Lib.hid st4
        replace k4 := Lib.hid k4
        go_wp2_with (first
          | (refine wpList_load_row (by rfl) 48 _ (by rfl) (w.heap.size + 1) (by rfl) 48 _ (0, 0) _ rw4.out.x Try.underlying48 rfl instr_size ?_)
          | (refine wpList_store_row (by rfl) 48 _ _ (by rfl) w.heap.size (item9 { M.hd0 (op : Int) with ty := ((127 : Nat) : Int) } (.slice none 0 0) (.slice none 0 0) (.slice none 0 0)).toArray (by rfl) (by rfl) 48 _ rw4.out.r.choose_spec.1 instr_size (by rw [rw4.out.r.choose_spec.2]; rfl) (all_one nil_IsSl nil_IsSl nil_IsSl) ?_))
        refine bodyPost_ret (results_cell_row rfl _ _ w.heap.size 48 _ (0, 0) _ rfl (setRow_heap _ _ _ _ _ _ rw4.out.r.choose_spec.1) Try.underlying48 rfl instr_size) rfl ?_
        refine pins_end b0.out k4.out ?_
        rw [hins.out]
        exact PIns.bad (st_row st4.out hP _)
    · go_wp2_with fail
      refine (hL.out P ad c bs r1 oth _ st2.out).mono ?_
      rintro e2 v2 ⟨kb2, hout⟩
      have s3 : w.heap.size + 1 < v2.heap.size := Nat.lt_of_lt_of_le s2 kb2.size
      have rw3 := rw2.out.agree (kb2.block _ (by omega) (by omega)) (kb2.block _ (by omega) (by omega))
      have k3 : Kb (fun k => k = P ∨ w.heap.size ≤ k) w0 v2 := k2.out.trans (kb2.mono fun _ hk => .inl hk)
      have cf3 := rw3.item.c7
      have ff3 := rw3.frozen 7
      simp only [Nat.zero_add] at cf3
      rcases hout with ⟨l, x, s, vB, hend, rfl, own, st3⟩ | ⟨hend, rfl, st3⟩
      · have own3 : OwnL v2 (fun k => w.heap.size + 2 ≤ k ∧ k < v2.heap.size) vB l := own.agree (fun _ _ => rfl) (fun k hk => ⟨by have := hk.1; omega, hk.2⟩)
        clear own kb2
        have hsB := own3.sl
        obtain ⟨AB, nB, cB, rfl⟩ := own_slice own3
        have rw4 : Rows2 (v2.setCell ⟨w.heap.size + 1, 7, none⟩ (.slice AB nB cB)) w.heap.size { M.hd0 (op : Int) with ty := ((126 : Nat) : Int) } (.slice none 0 0) (.slice AB nB cB) (.slice none 0 0) := rw3.set (j := 7) (u := .slice AB nB cB) rfl
        have st4 := st_set st3 (p := ⟨w.heap.size + 1, 7, none⟩) (by show P < w.heap.size + 1; omega) (.slice AB nB cB)
        have k4 := Kb.setCell (T := fun k => k = P ∨ w.heap.size ≤ k) k3 (p := ⟨w.heap.size + 1, 7, none⟩) (.inr (Nat.le_succ _)) (.slice AB nB cB)
        have own4 : OwnL (v2.setCell ⟨w.heap.size + 1, 7, none⟩ (.slice AB nB cB)) (fun k => w.heap.size + 2 ≤ k ∧ k < v2.heap.size) (.slice AB nB cB) l := own3.agree (fun k hk => heap_setCell_other _ _ _ _ (by have := hk.1; show k ≠ w.heap.size + 1; omega)) (fun k hk => hk)
        have s4 : w.heap.size + 1 < (v2.setCell ⟨w.heap.size + 1, 7, none⟩ (.slice AB nB cB)).heap.size := by simpa using s3
        replace own4 := Lib.hid own4
        clear own3 rw3 st3 k3
        rcases M.endL_end hend with rfl | ⟨rfl, ho⟩
        · have hins := Lib.hid (show M.ins (M.subOf (d' + 1)) op (126 :: r1) = some (({ M.hd0 (op : Int) with ty := ((126 : Nat) : Int) }, l, .nil), s) by rw [hins.out, hend]; rfl)
          clear hend
          replace rw4 := Lib.hid rw4
          replace st4 := Lib.hid st4
          replace k4 := Lib.hid k4
          go_wp2_with (first
            | (refine wpList_load_row (by rfl) 48 _ (by rfl) (w.heap.size + 1) (by rfl) 48 _ (0, 0) _ rw4.out.x Try.underlying48 rfl instr_size ?_)
            | (refine wpList_store_row (by rfl) 48 _ _ (by rfl) w.heap.size (item9 { M.hd0 (op : Int) with ty := ((126 : Nat) : Int) } (.slice none 0 0) (.slice AB nB cB) (.slice none 0 0)).toArray (by rfl) (by rfl) 48 _ rw4.out.r.choose_spec.1 instr_size (by rw [rw4.out.r.choose_spec.2]; rfl) (all_one nil_IsSl hsB nil_IsSl) ?_))
          refine bodyPost_ret (results_cell_row rfl _ _ w.heap.size 48 _ (0, 0) _ rfl (setRow_heap _ _ _ _ _ _ rw4.out.r.choose_spec.1) Try.underlying48 rfl instr_size) rfl ?_
          refine pins_end b0.out k4.out ?_
          rw [hins.out]
          refine ⟨rfl, st_row st4.out hP _, by constructor <;> (simp only [M.hd0]; omega), OwnN.nil _ _, own4.out.agree (fun k hk => setRow_other _ _ _ _ (by have := hk.1; omega)) (fun k hk => ⟨by have := hk.1; omega, by have := hk.2; simpa using this⟩), OwnL.nil _ _⟩
        · have hins := Lib.hid (show M.ins (M.subOf (d' + 1)) op (126 :: r1) = (M.endL d' false s).bind (fun q => some (({ M.hd0 (op : Int) with ty := ((126 : Nat) : Int) }, l, q.1), q.2.2)) by rw [hins.out, hend]; rfl)
          clear hend ho
          replace rw4 := Lib.hid rw4
          replace st4 := Lib.hid st4
          replace k4 := Lib.hid k4
          go_wp2_with fail
          refine (hL.out P ad c bs s false _ st4.out).mono ?_
          rintro e3 v3 ⟨kb3, hout⟩
          have s5 : w.heap.size + 1 < v3.heap.size := Nat.lt_of_lt_of_le s4 kb3.size
          have rw5 := rw4.out.agree (kb3.block _ (by omega) (by omega)) (kb3.block _ (by omega) (by omega))
          have k5 : Kb (fun k => k = P ∨ w.heap.size ≤ k) w0 v3 := k4.out.trans (kb3.mono fun _ hk => .inl hk)
          have cf5 := rw5.item.c8
          have ff5 := rw5.frozen 8
          simp only [Nat.zero_add] at cf5
          have own5 : OwnL v3 (fun k => w.heap.size + 2 ≤ k ∧ k < v3.heap.size) (.slice AB nB cB) l := own4.out.agree (fun k hk => kb3.block k (by have := hk.2; simpa using this) (by have := hk.1; omega)) (fun k hk => ⟨hk.1, Nat.lt_of_lt_of_le (by have := hk.2; simpa using this) kb3.size⟩)
          rcases hout with ⟨l2, x2, s2', vE, hend2, rfl, own, st5⟩ | ⟨hend2, rfl, st5⟩
          · have ownE : OwnL v3 (fun k => w.heap.size + 2 ≤ k ∧ k < v3.heap.size) vE l2 := own.agree (fun _ _ => rfl) (fun k hk => ⟨by have := hk.1; simp at this; omega, hk.2⟩)
            clear own kb3
            have hsE := ownE.sl
            obtain ⟨AE, nE, cE, rfl⟩ := own_slice ownE
            have hx2 : x2 = 11 := by rcases M.endL_end hend2 with h9 | ⟨_, h9⟩; exact h9; cases h9
            subst hx2
            have hins := Lib.hid (show M.ins (M.subOf (d' + 1)) op (126 :: r1) = some (({ M.hd0 (op : Int) with ty := ((126 : Nat) : Int) }, l, l2), s2') by rw [hins.out, hend2]; rfl)
            have rw6 : Rows2 (v3.setCell ⟨w.heap.size + 1, 8, none⟩ (.slice AE nE cE)) w.heap.size { M.hd0 (op : Int) with ty := ((126 : Nat) : Int) } (.slice none 0 0) (.slice AB nB cB) (.slice AE nE cE) := rw5.set (j := 8) (u := .slice AE nE cE) rfl
            have st6 := st_set st5 (p := ⟨w.heap.size + 1, 8, none⟩) (by show P < w.heap.size + 1; omega) (.slice AE nE cE)
            have k6 := Kb.setCell (T := fun k => k = P ∨ w.heap.size ≤ k) k5 (p := ⟨w.heap.size + 1, 8, none⟩) (.inr (Nat.le_succ _)) (.slice AE nE cE)
            replace own5 := Lib.hid own5
            replace ownE := Lib.hid ownE
            clear hend2 rw5 st5 k5
            replace rw6 := Lib.hid rw6
            replace st6 := Lib.hid st6
            replace k6 := Lib.hid k6
            go_wp2_with (first
              | (refine wpList_load_row (by rfl) 48 _ (by rfl) (w.heap.size + 1) (by rfl) 48 _ (0, 0) _ rw6.out.x Try.underlying48 rfl instr_size ?_)
              | (refine wpList_store_row (by rfl) 48 _ _ (by rfl) w.heap.size (item9 { M.hd0 (op : Int) with ty := ((126 : Nat) : Int) } (.slice none 0 0) (.slice AB nB cB) (.slice AE nE cE)).toArray (by rfl) (by rfl) 48 _ rw6.out.r.choose_spec.1 instr_size (by rw [rw6.out.r.choose_spec.2]; rfl) (all_one nil_IsSl hsB hsE) ?_))
            refine bodyPost_ret (results_cell_row rfl _ _ w.heap.size 48 _ (0, 0) _ rfl (setRow_heap _ _ _ _ _ _ rw6.out.r.choose_spec.1) Try.underlying48 rfl instr_size) rfl ?_
            refine pins_end b0.out k6.out ?_
            rw [hins.out]
            have sm : ∀ k, w.heap.size + 2 ≤ k → ((v3.setCell ⟨w.heap.size + 1, 8, none⟩ (.slice AE nE cE)).setRow w.heap.size (item9 { M.hd0 (op : Int) with ty := ((126 : Nat) : Int) } (.slice none 0 0) (.slice AB nB cB) (.slice AE nE cE)).toArray).heap[k]? = v3.heap[k]? := fun k hk => by
              rw [setRow_other _ _ _ _ (by omega), heap_setCell_other _ _ _ _ (by show k ≠ w.heap.size + 1; omega)]
            refine ⟨rfl, st_row st6.out hP _, by constructor <;> (simp only [M.hd0]; omega), OwnN.nil _ _, own5.out.agree (fun k hk => sm k hk.1) (fun k hk => ⟨by have := hk.1; omega, by have := hk.2; simpa using this⟩), ownE.out.agree (fun k hk => sm k hk.1) (fun k hk => ⟨by have := hk.1; omega, by have := hk.2; simpa using this⟩)⟩
          · have hins := Lib.hid (show M.ins (M.subOf (d' + 1)) op (126 :: r1) = none by rw [hins.out, hend2]; rfl)
            have rw6 : Rows2 (v3.setCell ⟨w.heap.size + 1, 8, none⟩ (.slice none 0 0)) w.heap.size { M.hd0 (op : Int) with ty := ((126 : Nat) : Int) } (.slice none 0 0) (.slice AB nB cB) (.slice none 0 0) := rw5.set (j := 8) (u := .slice none 0 0) rfl
            have st6 := st_set st5 (p := ⟨w.heap.size + 1, 8, none⟩) (by show P < w.heap.size + 1; omega) (.slice none 0 0)
            have k6 := Kb.setCell (T := fun k => k = P ∨ w.heap.size ≤ k) k5 (p := ⟨w.heap.size + 1, 8, none⟩) (.inr (Nat.le_succ _)) (.slice none 0 0)
            clear own5 kb3 hend2 rw5 st5 k5
            replace rw6 := Lib.hid rw6
            replace st6 := Lib.hid st6
            replace k6 := Lib.hid k6
            go_wp2_with (first
              | (refine wpList_load_row (by rfl) 48 _ (by rfl) (w.heap.size + 1) (by rfl) 48 _ (0, 0) _ rw6.out.x Try.underlying48 rfl instr_size ?_)
              | (refine wpList_store_row (by rfl) 48 _ _ (by rfl) w.heap.size (item9 { M.hd0 (op : Int) with ty := ((126 : Nat) : Int) } (.slice none 0 0) (.slice AB nB cB) (.slice none 0 0)).toArray (by rfl) (by rfl) 48 _ rw6.out.r.choose_spec.1 instr_size (by rw [rw6.out.r.choose_spec.2]; rfl) (all_one nil_IsSl hsB nil_IsSl) ?_))
            refine bodyPost_ret (results_cell_row rfl _ _ w.heap.size 48 _ (0, 0) _ rfl (setRow_heap _ _ _ _ _ _ rw6.out.r.choose_spec.1) Try.underlying48 rfl instr_size) rfl ?_
            refine pins_end b0.out k6.out ?_
            rw [hins.out]
            exact ⟨st_row st6.out hP _, nil_IsSl, hsB, nil_IsSl⟩
      · have hins := Lib.hid (show M.ins (M.subOf (d' + 1)) op (126 :: r1) = none by rw [hins.out, hend]; rfl)
        have rw4 : Rows2 (v2.setCell ⟨w.heap.size + 1, 7, none⟩ (.slice none 0 0)) w.heap.size { M.hd0 (op : Int) with ty := ((126 : Nat) : Int) } (.slice none 0 0) (.slice none 0 0) (.slice none 0 0) := rw3.set (j := 7) (u := .slice none 0 0) rfl
        have st4 := st_set st3 (p := ⟨w.heap.size + 1, 7, none⟩) (by show P < w.heap.size + 1; omega) (.slice none 0 0)
        have k4 := Kb.setCell (T := fun k => k = P ∨ w.heap.size ≤ k) k3 (p := ⟨w.heap.size + 1, 7, none⟩) (.inr (Nat.le_succ _)) (.slice none 0 0)
        clear kb2 hend rw3 st3 k3
        replace rw4 := Lib.hid rw4
        replace st4 := Lib.hid st4
        replace k4 := Lib.hid k4
        go_wp2_with (first
          | (refine wpList_load_row (by rfl) 48 _ (by rfl) (w.heap.size + 1) (by rfl) 48 _ (0, 0) _ rw4.out.x Try.underlying48 rfl instr_size ?_)
          | (refine wpList_store_row (by rfl) 48 _ _ (by rfl) w.heap.size (item9 { M.hd0 (op : Int) with ty := ((126 : Nat) : Int) } (.slice none 0 0) (.slice none 0 0) (.slice none 0 0)).toArray (by rfl) (by rfl) 48 _ rw4.out.r.choose_spec.1 instr_size (by rw [rw4.out.r.choose_spec.2]; rfl) (all_one nil_IsSl nil_IsSl nil_IsSl) ?_))
        refine bodyPost_ret (results_cell_row rfl _ _ w.heap.size 48 _ (0, 0) _ rfl (setRow_heap _ _ _ _ _ _ rw4.out.r.choose_spec.1) Try.underlying48 rfl instr_size) rfl ?_
        refine pins_end b0.out k4.out ?_
        rw [hins.out]
        exact PIns.bad (st_row st4.out hP _)
end Go.Proofs.Ytjapcalndolamaa
