/-
  The law on numbers below 2^32, walked: for every list it returns true and writes nothing that was there; condition: the list lies in memory as 'Asks' says.
-/
import Derived.Test.YtpnimgecfmpipaaOpen
import Derived.Test.YtpnimgecfmpipaaPage32
namespace Go.Proofs.Ytpnimgecfmpipaa
open Go.RowKit
def lowv (q : Nat) : Int := [124, 125, 126, 131, 132, 133].getD q 0
theorem lowv_mem (q : Nat) (h : q < 6) : isLow (lowv q) := by
  have : q = 0 ∨ q = 1 ∨ q = 2 ∨ q = 3 ∨ q = 4 ∨ q = 5 := by omega
  unfold isLow
  rcases this with rfl | rfl | rfl | rfl | rfl | rfl <;> decide
def LCells (w : World) (g : Nat) : Prop := g < w.heap.size ∧ ∀ q, q < 6 → w.cell? ⟨g, q, none⟩ = some (.int .i64 (lowv q))
theorem LCells.later {w w' : World} {g : Nat} (h : LCells w g) (b : Below w.heap.size w w') : LCells w' g :=
  ⟨Nat.lt_of_lt_of_le h.1 b.size, fun q hq => by rw [b.cell (by exact h.1)]; exact h.2 q hq⟩
theorem lcells_new (w : World) (t : TypeId) : LCells (w.alloc (.cells #[.int .i64 124, .int .i64 125, .int .i64 126, .int .i64 131, .int .i64 132, .int .i64 133] t)) w.heap.size := by
  refine ⟨by simp, fun q hq => ?_⟩
  rw [cell_of_row _ _ _ _ _ _ (heap_alloc_last w _)]
  have : q = 0 ∨ q = 1 ∨ q = 2 ∨ q = 3 ∨ q = 4 ∨ q = 5 := by omega
  rcases this with rfl | rfl | rfl | rfl | rfl | rfl <;> rfl
def LRelL (g : Nat) (w : World) (v : Value) (w' : World) : Prop := ∃ q : Nat, q ≤ 6 ∧ v = .int .i64 q ∧ LCells w' g ∧ Below w.heap.size w w'
theorem on_below {w w1 w2 : World} (h : Below w.heap.size w w1) (b : Below w1.heap.size w1 w2) : Below w.heap.size w w2 := h.trans (b.mono h.size)
theorem isLow_bin {op : Int} (h : isLow op) : M.isBin op := by unfold isLow at h; unfold M.isBin; omega
theorem isLow_trap {op : Int} (h : isLow op) (a b : Int) : M.trap op a b = 0 := by
  rcases h with rfl | rfl | rfl | rfl | rfl | rfl <;> rfl
theorem Bin_at (op a b v t : Int) (w : World) (ha : U a) (hb : U b) (h : M.isBin op) (hv : M.val op a b = v) (ht : M.trap op a b = t) :
    Calls Try.prog 10 #[.int .i64 op, .int .u64 a, .int .u64 b] w fun e w' => e = .returned (.tuple #[.int .u64 v, .int .i64 t, .int .i64 0]) ∧ Below w.heap.size w w' := by
  subst hv; subst ht
  exact Bin_yes op a b w ha hb h
theorem Conv_at (op a v : Int) (w : World) (ha : U a) (h : M.isConv op) (hv : M.cval op a = v) :
    Calls Try.prog 15 #[.int .i64 op, .int .u64 a] w fun e w' => e = .returned (.tuple #[.int .u64 v, .int .i64 0]) ∧ Below w.heap.size w w' := by
  subst hv
  exact Conv_yes op a w ha h
theorem Bin32_at (op a b v : Int) (w : World) (ha : U32 a) (hb : U32 b) (h : isLow op) (hv : M.lo (M.val op a b) = v) :
    Calls Try.prog 17 #[.int .i64 (op - 18), .int .u32 a, .int .u32 b] w fun e w' => e = .returned (.tuple #[.int .u32 v, .int .i64 0, .bool true]) ∧ w = w' := by
  subst hv
  exact Bin32_low op a b w ha hb h
theorem lo_32 (a : Int) : U32 (M.lo a) := by unfold U32 M.lo; omega
theorem lox_back (a : Int) (h : U32 a) : ∃ x, M.cval 172 a = x ∧ M.cval 167 x = a ∧ M.cval 173 a = a ∧ U x ∧ (x / 4294967296 = 0 ∨ x / 4294967296 = 4294967295) := by
  obtain ⟨h0, h1⟩ := h
  refine ⟨M.lox a, rfl, ?_, ?_, lox_U a, ?_⟩
  · show M.lo (M.lox a) = a
    unfold M.lo M.lox; split <;> omega
  · show M.lo a = a
    unfold M.lo; omega
  · unfold M.lox; split <;> omega
set_option maxRecDepth 100000 in
set_option maxHeartbeats 8000000 in
theorem Num64Low_walk (A : Option Addr) (n c : Nat) (w : World) (h : Asks w A n) :
    Calls Try.prog 6 #[.slice A n c] w fun e w' => e = .returned (.bool true) ∧ Below w.heap.size w w' := by
  obtain ⟨hn, h⟩ := h
  unfold maxLen at hn
  replace h := Lib.hid h
  go_enter Try.func6, Try.ntmps6
  go_wp2
  go_loopw [3] (fun i w' => ∃ k : Nat, k ≤ n ∧ i = .int .i64 k ∧ Below w.heap.size w w') (fun i _ => n - (intOf i).toNat)
  case atStart => exact ⟨0, by omega, rfl, Below.refl _ _⟩
  case round =>
    obtain ⟨k, hk, rfl, hbw⟩ := hrel
    by_cases hlt : k < n
    · obtain ⟨g, o, a0, b0, op, rfl, hg, q0, q1, q2, ha0, hb0, hop⟩ := h.out k hlt
      clear hop q2
      have t0 : (0 : Int) ≤ (k : Int) := by omega
      have t1 : (k : Int) < (n : Int) := by omega
      have p0 : wr.cell? ⟨g, o + k * 3, none⟩ = some (.int .u64 a0) := by rw [hbw.cell (by exact hg)]; exact q0
      have p1 : wr.cell? ⟨g, o + k * 3 + 1, none⟩ = some (.int .u64 b0) := by rw [hbw.cell (by exact hg)]; exact q1
      clear q0 q1
      by_cases h30 : k < 30
      · have t2 : decide ((k : Int) < 30) = true := by simp; omega
        have ea := and32w a0 ha0.1 (by have := ha0.2; omega)
        have eb := and32w b0 hb0.1 (by have := hb0.2; omega)
        have ha : U32 (M.lo a0) := lo_32 a0
        have hb : U32 (M.lo b0) := lo_32 b0
        obtain ⟨a, ea2⟩ : ∃ a, M.lo a0 = a := ⟨_, rfl⟩
        obtain ⟨b, eb2⟩ : ∃ b, M.lo b0 = b := ⟨_, rfl⟩
        rw [ea2] at ea ha
        rw [eb2] at eb hb
        clear ea2 eb2
        have ha1 := ha.1
        have ha2 := ha.2
        have hb1 := hb.1
        have hb2 := hb.2
        obtain ⟨wo, rfl⟩ : ∃ wo, wo = wr := ⟨wr, rfl⟩
        go_wp2
        go_quiet (fail)
        have hbq : Below w.heap.size w (wo.drewN nq) := below_drewN hbw _
        go_wp2
        go_loopw [7] (fun i w' => LRelL wo.heap.size w i w') (fun i _ => 6 - (intOf i).toNat)
        case atStart => exact ⟨0, by omega, rfl, lcells_new (wo.drewN nq) _, hbq.alloc hbq.size _⟩
        case round => as_aux_lemma =>
          obtain ⟨q, hq, rfl, hB, hbb⟩ := hrel
          clear p0 p1 hbq
          by_cases hq5 : q < 6
          · as_aux_lemma =>
              have u0 : (0 : Int) ≤ (q : Int) := by omega
              have u1 : (q : Int) < 6 := by omega
              have hc := hB.2 q hq5
              have hm := lowv_mem q hq5
              obtain ⟨x, hx⟩ : ∃ x, lowv q = x := ⟨_, rfl⟩
              rw [hx] at hc hm
              have x0 : 124 ≤ x := by unfold isLow at hm; omega
              have x1 : x ≤ 133 := by unfold isLow at hm; omega
              obtain ⟨v, hv⟩ : ∃ v, M.val x a b = v := ⟨_, rfl⟩
              have hvU : U v := hv ▸ M.val_range x a b ha.wide.1 ha.wide.2 hb.wide.1 hb.wide.2
              obtain ⟨z, hz⟩ : ∃ z, M.lo v = z := ⟨_, rfl⟩
              have z0 : 0 ≤ z := by rw [← hz]; unfold M.lo; omega
              have z1 : z ≤ 4294967295 := by rw [← hz]; unfold M.lo; omega
              have hw := Lib.hid (show M.lo (M.val x a b) = z from hv ▸ hz)
              replace hz := Lib.hid (show M.cval 167 v = z from hz)
              replace hv := Lib.hid hv
              replace hm := Lib.hid hm
              replace hx := Lib.hid hx
              replace hB := Lib.hid hB
              replace hbb := Lib.hid hbb
              go_wp2_with fail
              refine (Bin_at x a b v 0 _ ha.wide hb.wide (isLow_bin hm.out) hv.out (isLow_trap hm.out a b)).mono ?_
              rintro e w1 ⟨rfl, b1⟩
              have hB1 := hB.out.later b1
              replace hB1 := Lib.hid hB1
              have d1 := Lib.hid (on_below hbb.out b1)
              clear b1 hc
              go_wp2_with fail
              refine (Conv_at 167 v z _ hvU (.inl rfl) hz.out).mono ?_
              rintro e w2 ⟨rfl, b2⟩
              have hB2 := hB1.out.later b2
              have hc2 := hB2.2 q hq5
              rw [hx.out] at hc2
              replace hB2 := Lib.hid hB2
              have d2 := Lib.hid (on_below d1.out b2)
              clear b2
              go_wp2_with fail
              refine (Bin32_at x a b z _ ha hb hm.out hw.out).mono ?_
              rintro e w3 ⟨rfl, rfl⟩
              go_wp2_with (go_at_call 12; refine (num_any _ _).mono ?_; rintro e w4 ⟨rfl, rfl⟩)
              exact ⟨⟨q + 1, by omega, by go_num, hB2.out, d2.out⟩, by simp [intOf]; omega⟩
          · clear hB
            obtain ⟨x, hx1, hx2, hx3, hxU, hx4⟩ := lox_back a ha
            replace hx1 := Lib.hid hx1
            replace hx2 := Lib.hid hx2
            replace hx3 := Lib.hid hx3
            replace hbb := Lib.hid hbb
            rcases hx4 with hx4 | hx4
            all_goals
              go_wp2_with fail
              refine (Conv_at 172 a x _ ha.wide (.inr (.inl rfl)) hx1.out).mono ?_
              rintro e w1 ⟨rfl, b1⟩
              have d1 := Lib.hid (on_below hbb.out b1)
              clear b1
              go_wp2_with fail
              refine (Conv_at 167 x a _ hxU (.inl rfl) hx2.out).mono ?_
              rintro e w2 ⟨rfl, b2⟩
              have d2 := Lib.hid (on_below d1.out b2)
              clear b2
              go_wp2_with fail
              refine (Conv_at 173 a a _ ha.wide (.inr (.inr rfl)) hx3.out).mono ?_
              rintro e w3 ⟨rfl, b3⟩
              have d3 := Lib.hid (on_below d2.out b3)
              clear b3
              go_wp2_with (go_at_call 12; refine (num_any _ _).mono ?_; rintro e w4 ⟨rfl, rfl⟩)
              exact ⟨⟨k + 1, by omega, by go_num, d3.out⟩, by simp [intOf]; omega⟩
      · go_wp2_with fail
        refine (wakes_any _).mono ?_
        rintro e w7 ⟨rfl, hb7⟩
        go_wp2
        go_ret
        exact ⟨rfl, hbw.trans (hb7.mono hbw.size)⟩
    · go_wp2_with fail
      refine (wakes_any _).mono ?_
      rintro e w7 ⟨rfl, hb7⟩
      go_wp2
      go_ret
      exact ⟨rfl, hbw.trans (hb7.mono hbw.size)⟩
end Go.Proofs.Ytpnimgecfmpipaa
