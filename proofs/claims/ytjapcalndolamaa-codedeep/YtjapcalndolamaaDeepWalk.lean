/-
  The law on blocks as deep as may be, walked: it returns true and writes nothing that was there; no condition.
-/
import Derived.Test.YtjapcalndolamaaEncode
import Derived.Laws.MakeOwn
namespace Go.Proofs.Ytjapcalndolamaa
open Go.RowKit
namespace M
/-- Blocks within one another. -/
def nest : Nat → L
  | 0 => .nil
  | i + 1 => .cons { hd0 (2 + ((i % 2 : Nat) : Int)) with ty := 64 } (nest i) .nil .nil
theorem nest_kind (i : Nat) : kind (2 + ((i % 2 : Nat) : Int)) = 2 := by rw [kind_block]; omega
theorem nest_ok : ∀ (i d : Nat), i ≤ d → ok d (nest i)
  | 0, _, _ => trivial
  | i + 1, d, h => by
    refine ⟨flat_of (k := 2) (nest_kind i) ⟨rfl, .inl rfl⟩, fun _ => ⟨by omega, nest_ok i (d - 1) (by omega), trivial⟩, fun h2 => absurd (nest_kind i) h2, fun _ => rfl, trivial⟩
theorem nest_not : ∀ (d : Nat), ¬ ok d (nest (d + 1))
  | 0 => fun h => absurd (h.2.1 (nest_kind 0)).1 (by omega)
  | d + 1 => fun h => nest_not d (h.2.1 (nest_kind (d + 1))).2.1
theorem nest_sz : ∀ i, (nest i).sz = i
  | 0 => rfl
  | i + 1 => by simp [nest, L.sz, nest_sz i, hd0]
theorem nest_len : ∀ i, (enc (nest i)).length = 3 * i
  | 0 => rfl
  | i + 1 => by
    show (enc (.cons _ (nest i) .nil .nil)).length = _
    rw [enc_cons, tail_of (nest_kind i)]
    simp only [tailK, List.length_cons, List.length_append, nest_len i, List.length_nil, enc]
    omega
theorem nest_expr (i : Nat) (h : i ≤ 40) : expr (enc (nest i) ++ [11]) = some (nest i, 3 * i + 1) := by
  have := expr_back [] (nest_ok i 40 h) (by rw [nest_sz]; omega)
  rw [nest_len] at this
  exact this
/-- The beginnings of so many blocks. -/
def opens : Nat → List Nat
  | 0 => []
  | k + 1 => opens k ++ [2, 64]
theorem opens_head : ∀ k, opens (k + 1) = [2, 64] ++ opens k
  | 0 => rfl
  | k + 1 => by show opens (k + 1) ++ [2, 64] = [2, 64] ++ (opens k ++ [2, 64]); rw [opens_head k, List.append_assoc]
theorem opens_len : ∀ k, (opens k).length = 2 * k
  | 0 => rfl
  | k + 1 => by simp [opens, opens_len k]; omega
theorem opens_lt : ∀ k, ∀ b ∈ opens k, b < 256
  | 0 => fun b hb => by cases hb
  | k + 1 => fun b hb => by
    rcases List.mem_append.1 hb with hb | hb
    · exact opens_lt k b hb
    · simp at hb; omega
theorem ins_2_40 (sub : Rd) (r : List Nat) (h : sub r = none) : ins sub 2 (64 :: r) = none := by
  unfold ins
  show blkB sub 2 (64 :: r) = none
  show (if tyOk (64 : Nat) then (sub r).bind _ else none) = none
  rw [if_pos (by decide), h]
  rfl
theorem opens_none : ∀ (d : Nat) (t : List Nat), dec d (opens (d + 1) ++ t) = none
  | 0, t => by
    rw [opens_head, List.append_assoc]
    show dec 0 (2 :: 64 :: (opens 0 ++ t)) = none
    rw [dec_step 0 2 _ (by omega), ins_2_40 _ _ rfl]
    rfl
  | d + 1, t => by
    rw [opens_head, List.append_assoc]
    show dec (d + 1) (2 :: 64 :: (opens (d + 1) ++ t)) = none
    rw [dec_step (d + 1) 2 _ (by omega), ins_2_40 (subOf (d + 1)) _ (opens_none d t)]
    rfl
theorem deep_none (t : List Nat) : expr (opens 41 ++ t) = none := by unfold expr; rw [opens_none 40 t]; rfl
end M
set_option maxRecDepth 100000 in
set_option maxHeartbeats 8000000 in
theorem CodeDeep_walk (A : Option Addr) (n c : Nat) (w : World) (h : Asks w A n) :
    Calls Try.prog 6 #[.slice A n c] w fun e w' => e = .returned (.bool true) ∧ Below w.heap.size w w' := by
  obtain ⟨hn, _⟩ := h
  obtain ⟨i0, hi0, hz0, hz1, hz2⟩ := info_parts u8_info
  unfold maxLen at hn
  go_enter Try.func6, Try.ntmps6
  go_wp2_with fail
  go_loopw [3, 4] (fun x i w' => ∃ k : Nat, k ≤ 41 ∧ i = .int .i64 k ∧ LB w' x (M.nest k) ∧ Below w.heap.size w w') (fun _ i _ => 41 - (intOf i).toNat)
  case atStart => exact ⟨0, by omega, rfl, nil_LB _, Below.refl _ _⟩
  case round =>
    obtain ⟨k, hk, rfl, hL, hbw⟩ := hrel
    obtain ⟨AX, cX, rfl, hf1, hf2, hf3⟩ := LS.form hL
    obtain ⟨nx, hnx⟩ : ∃ nx, nx = (M.nest k).len := ⟨_, rfl⟩
    rw [← hnx] at hL hf1 hf2 ⊢
    replace hnx := Lib.hid hnx
    by_cases h41 : k ≤ 40
    · have hok := Lib.hid (M.nest_ok k 40 h41)
      have hel := M.nest_len k
      have hx := Lib.hid (M.nest_expr k h41)
      obtain ⟨bs, hbs⟩ : ∃ bs, bs = M.enc (M.nest k) ++ [11] := ⟨_, rfl⟩
      have hbl : bs.length = 3 * k + 1 := by rw [hbs]; simp [hel]
      replace hL := Lib.hid hL
      replace hbw := Lib.hid hbw
      have tk : decide ((k : Int) ≤ 40) = true := by simp; omega
      go_wp2_with fail
      refine (Encode_yes (M.nest k) _ _ hL.out hok.out (by omega)).mono ?_
      rintro e1 w1 ⟨u1, rfl, own1, bs1, b1⟩
      rw [← hbs] at own1 bs1 hx
      rw [hbl] at own1
      obtain ⟨g1, c1, rfl, _⟩ := own_some own1 (by omega)
      replace hbs := Lib.hid hbs
      have l1 := Lib.hid (LS.later hL.out b1)
      have d1 := Lib.hid (hbw.out.trans (b1.mono hbw.out.size))
      replace bs1 := Lib.hid bs1
      clear own1 b1
      go_wp2_with (go_at_call 13; refine (num_any _ _).mono ?_; rintro e wn ⟨rfl, rfl⟩)
      refine (Decode_yes _ bs (M.nest k) (3 * k + 1) _ bs1.out (by omega) hx.out).mono ?_
      rintro e2 w2 ⟨u2, rfl, own2, b2⟩
      obtain ⟨A2, n2, c2, rfl⟩ := own_slice own2
      have l2 := Lib.hid (own_LB own2 (Below.refl _ _) since_lt)
      have l12 := Lib.hid (LS.later l1.out b2)
      have d2 := Lib.hid (d1.out.trans (b2.mono d1.out.size))
      clear own2 b2
      go_wp2_with (go_at_call 13; refine (num_any _ _).mono ?_; rintro e wn ⟨rfl, rfl⟩)
      refine (EqInstrs_same (M.nest k) _ _ _ l12.out l2.out).mono ?_
      rintro e3 w3 ⟨rfl, b3⟩
      have l13 := Lib.hid (LS.later l12.out b3)
      have d3 := Lib.hid (d2.out.trans (b3.mono d2.out.size))
      clear b3
      go_wp2_with fail
      rw [show ((k : Int) % 2) = ((k % 2 : Nat) : Int) by omega]
      refine ⟨⟨k + 1, by omega, by go_num, ⟨_, 1, rfl, ⟨by simp [M.nest, M.L.len], by simp [M.nest, M.L.len], by unfold maxLen; omega⟩, .inr ⟨w3.heap.size, 0, rfl, by simp, _, _, _, item_row (heap_alloc_new w3 _) (nine rfl rfl rfl rfl rfl rfl rfl rfl rfl), by constructor <;> (simp only [M.hd0]; omega), nil_NS _ _, ?_, nil_Sl _ _, trivial⟩⟩, d3.out.trans ((Below.refl w3.heap.size w3).alloc (Nat.le_refl _) _ |>.mono d3.out.size)⟩, by simp [intOf]; omega⟩
      exact LS.later l13.out ((Below.refl _ _).alloc (Nat.le_refl _) _)
    · have hk41 : k = 41 := by omega
      have hno := Lib.hid (show ¬ M.ok 40 (M.nest k) by rw [hk41]; exact M.nest_not 40)
      have tk : decide ((k : Int) ≤ 40) = false := by simp; omega
      replace hL := Lib.hid hL
      replace hbw := Lib.hid hbw
      replace hk41 := Lib.hid hk41
      go_wp2_with fail
      refine (Encode_no (M.nest k) _ _ hL.out hno.out).mono ?_
      rintro e1 w1 ⟨rfl, b1⟩
      have d1 := Lib.hid (hbw.out.trans (b1.mono hbw.out.size))
      clear b1
      obtain ⟨w2, hmk, own2, gr2⟩ := run_make_own (P := Try.prog) w1 w1.heap.size 24 5 i0 (.int .u8 0) 1 Try.underlying24 hi0 hz0 hz1 .i64 .i64 200 (by rw [hz2]; omega) (by unfold maxLen; omega) (Nat.le_refl _)
      have hmk' : Sem.run Try.prog (Instr.makeSlice 24 (.int .i64 0) (.int .i64 200)) w1 = .ok (.slice (some ⟨w1.heap.size, 0, none⟩) 0 200) w2 := hmk
      have b2 : Below w1.heap.size w1 w2 := ⟨gr2.os, gr2.tape, gr2.output, gr2.size, fun k hk => gr2.block k hk (by simp)⟩
      have hs2 : w1.heap.size ≤ w2.heap.size := gr2.size
      clear hmk gr2
      replace own2 := Lib.hid own2
      replace b2 := Lib.hid b2
      go_wp2_with fail
      go_loopw [13, 14] (fun v i w' => ∃ k : Nat, k ≤ 41 ∧ i = .int .i64 k ∧ w'.ownsRow w1.heap.size 5 1 v (2 * k) (vals (M.opens k)) ∧ Below w1.heap.size w1 w') (fun _ i _ => 41 - (intOf i).toNat)
      case atStart => exact ⟨0, by omega, rfl, own2.out, b2.out⟩
      case round =>
        obtain ⟨j, hj, rfl, own, hbj⟩ := hrel
        have hsj : w1.heap.size ≤ wr.heap.size := hbj.size
        replace own := Lib.hid own
        replace hbj := Lib.hid hbj
        by_cases hj40 : j ≤ 40
        · have tj : decide ((j : Int) ≤ 40) = true := by simp; omega
          go_wp2_with (first
            | (at_builtin; refine wpList_append_lies _ rfl _ _ 24 rfl w1.heap.size 5 i0 (.int .u8 0) 1 1 Try.underlying24 hi0 hz0 hz1 hz2 rfl (by decide) u13 (2 * j) (vals (M.opens j)) rfl (own.out.alloc _) ⟨wr.heap.size, 0, none⟩ 2 2 [.int .u8 2, .int .u8 64] rfl rfl (World.news_of_block (cs := #[.int .u8 2, .int .u8 64]) (t := 5) (fr := (0, 0)) (heap_alloc_new wr _)) (fun y hy => by simp at hy; rcases hy with rfl | rfl <;> rfl) (by omega) (by unfold maxLen; omega) (by omega) (by simp; omega) (wr.heap.size + 1) (by simp) ?_; intro g cap w5 hown5 hgr5 hat5 hlt5))
          refine ⟨⟨j + 1, by omega, by go_num, ?_, (hbj.out.alloc hsj _).grown hgr5 (by simp; omega) (fun q hq => (own.out.lt q hq).1)⟩, by simp [intOf]; omega⟩
          have e1 : vals (M.opens (j + 1)) = vals (M.opens j) ++ [.int .u8 2, .int .u8 64] := by simp [vals, M.opens]
          rw [e1, show 2 * (j + 1) = 2 * j + 2 by omega]
          exact hown5
        · have hj41 : j = 41 := by omega
          have tj : decide ((j : Int) ≤ 40) = false := by simp; omega
          have own0 := Lib.hid (show wr.ownsRow w1.heap.size 5 1 u13 (82 + 0) (vals (M.opens 41 ++ List.replicate 0 11)) by
            have := own.out
            rw [hj41] at this
            simpa using this)
          obtain ⟨w9, hw9⟩ : ∃ w9, w9 = w1 := ⟨w1, rfl⟩
          rw [← hw9] at own0 hbj hsj d1
          replace hj41 := Lib.hid hj41
          replace hw9 := Lib.hid hw9
          clear own
          go_wp2_with fail
          go_loopw [13, 15] (fun v i w' => ∃ k : Nat, k ≤ 42 ∧ i = .int .i64 k ∧ w'.ownsRow w9.heap.size 5 1 v (82 + k) (vals (M.opens 41 ++ List.replicate k 11)) ∧ Below w9.heap.size w9 w') (fun _ i _ => 42 - (intOf i).toNat)
          case atStart => exact ⟨0, by omega, rfl, own0.out, hbj.out⟩
          case round =>
            obtain ⟨q, hq, rfl, own, hbq⟩ := hrel
            have hsq : w9.heap.size ≤ wr.heap.size := hbq.size
            replace own := Lib.hid own
            replace hbq := Lib.hid hbq
            by_cases hq41 : q ≤ 41
            · have tq : decide ((q : Int) ≤ 41) = true := by simp; omega
              go_wp2_with (first
                | (at_builtin; refine wpList_append_lies _ rfl _ _ 24 rfl w9.heap.size 5 i0 (.int .u8 0) 1 1 Try.underlying24 hi0 hz0 hz1 hz2 rfl (by decide) u13 (82 + q) (vals (M.opens 41 ++ List.replicate q 11)) rfl (own.out.alloc _) ⟨wr.heap.size, 0, none⟩ 1 1 [.int .u8 11] rfl rfl (World.news_of_block (cs := #[.int .u8 11]) (t := 5) (fr := (0, 0)) (heap_alloc_new wr _)) (fun y hy => by simp at hy; subst hy; rfl) (by omega) (by unfold maxLen; omega) (by omega) (by simp; omega) (wr.heap.size + 1) (by simp) ?_; intro g cap w5 hown5 hgr5 hat5 hlt5))
              refine ⟨⟨q + 1, by omega, by go_num, ?_, (hbq.out.alloc hsq _).grown hgr5 (by simp; omega) (fun q hq => (own.out.lt q hq).1)⟩, by simp [intOf]; omega⟩
              have e1 : vals (M.opens 41 ++ List.replicate (q + 1) 11) = vals (M.opens 41 ++ List.replicate q 11) ++ [.int .u8 11] := by
                rw [List.replicate_succ', ← List.append_assoc]
                simp only [vals, List.map_append]
                rfl
              rw [e1]
              exact hown5
            · have hq42 : q = 42 := by omega
              have tq : decide ((q : Int) ≤ 41) = false := by simp; omega
              obtain ⟨bs, hbs⟩ : ∃ bs, bs = M.opens 41 ++ List.replicate q 11 := ⟨_, rfl⟩
              have hbl : bs.length = 82 + q := by rw [hbs, List.length_append, M.opens_len, List.length_replicate]
              have hx := Lib.hid (show M.expr bs = none by rw [hbs]; exact M.deep_none _)
              have hB := Lib.hid (show BS wr wr.heap.size u13 bs from own_BS (base := w9.heap.size) (by rw [hbl, hbs]; exact own.out) (by
                rw [hbs]
                intro b hb
                rcases List.mem_append.1 hb with hb | hb
                · exact M.opens_lt 41 b hb
                · have := (List.mem_replicate.1 hb).2; omega))
              replace hbs := Lib.hid hbs
              replace hq42 := Lib.hid hq42
              have tn2 : decide ((0 : Int) ≤ (n : Int)) = true := by simp
              clear own
              go_wp2_with fail
              refine (Decode_no _ bs _ hB.out (by omega) hx.out).mono ?_
              rintro e3 w3 ⟨rfl, b3⟩
              have d3 := Lib.hid (d1.out.trans ((hbq.out.trans (b3.mono hbq.out.size)).mono d1.out.size))
              clear b3
              go_wp2_with (go_at_call 13; refine (num_any _ _).mono ?_; rintro e wn ⟨rfl, rfl⟩)
              refine (wakes_any _).mono ?_
              rintro e7 w7 ⟨rfl, hb7⟩
              go_wp2_with fail
              go_ret
              exact ⟨rfl, d3.out.trans (hb7.mono d3.out.size)⟩
end Go.Proofs.Ytjapcalndolamaa
