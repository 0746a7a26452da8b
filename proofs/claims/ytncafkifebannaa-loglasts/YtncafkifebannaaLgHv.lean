/-
  What a script weighs: the statements' heavy; condition: the script lies in memory.
-/
import Derived.Test.YtncafkifebannaaLgOp
import Derived.Test.YtncafkifebannaaLgX
namespace Go.Proofs.Ytncafkifebannaa
open Go.RowKit
theorem LAct.len {w : World} {A : Option Addr} {j : Nat} {d i d' i' : Int} {vR vP vR' vP' : Value} {x x' : List Nat} {ps ps' : List Int} (h : LAct w A j d i vR x vP ps) (h' : LAct w A j d' i' vR' x' vP' ps') : x.length = x'.length ∧ ps.length = ps'.length := by
  obtain ⟨g, o, rfl, _, c, _, hR, hP⟩ := h
  obtain ⟨g', o', e, _, c', _, hR', hP'⟩ := h'
  cases e
  have e2 := c.c2.symm.trans c'.c2
  have e3 := c.c3.symm.trans c'.c3
  injection e2 with e2
  injection e3 with e3
  subst e2 e3
  obtain ⟨⟨_, _, q1, _⟩, _⟩ := hR
  obtain ⟨⟨_, _, q2, _⟩, _⟩ := hR'
  obtain ⟨⟨_, _, q3, _⟩, _⟩ := hP
  obtain ⟨⟨_, _, q4, _⟩, _⟩ := hP'
  rw [q1] at q2
  rw [q3] at q4
  injection q2 with _ q2 _
  injection q4 with _ q4 _
  exact ⟨q2, q4⟩
/-- The script is light: few troubles, short records and picks. -/
def Light12 (w : World) (A2 : Option Addr) (l l2 : Nat) : Prop := l ≤ 20 ∧ ∀ j, j < l2 → j < 25 → ∀ d i vR x vP ps, LAct w A2 j d i vR x vP ps → x.length + ps.length ≤ 8000
def HvPost (w : World) (A2 : Option Addr) (l l2 : Nat) (e : Ending) (w' : World) : Prop := ∃ b : Bool, e = .returned (.bool b) ∧ Below w.heap.size w w' ∧ (b = false → Light12 w A2 l l2)
set_option maxRecDepth 100000 in
set_option maxHeartbeats 2000000 in
theorem heavy_any (w : World) (n : Int) (A A2 : Option Addr) (l c l2 c2 : Nat) (hA : l2 ≤ c2 ∧ c2 ≤ maxLen) (hl : l ≤ c ∧ c ≤ maxLen) (ha : LActs w A2 l2) :
    Calls Try.prog 6 #[.agg #[.int .i64 n, .slice A l c, .slice A2 l2 c2]] w (HvPost w A2 l l2) := by
  obtain ⟨G, hG⟩ : ∃ G, G = w.heap.size := ⟨_, rfl⟩
  obtain ⟨W0, hW0⟩ : ∃ W0, W0 = w.alloc (.cells #[.int .i64 n, .slice A l c, .slice A2 l2 c2] 25) := ⟨_, rfl⟩
  have b0 : Below w.heap.size w W0 := by rw [hW0]; exact (Below.refl _ _).alloc (Nat.le_refl _) _
  have hob : W0.heap[G]? = some (.cells #[.int .i64 n, .slice A l c, .slice A2 l2 c2] 25 (0, 0)) := by rw [hW0, hG]; exact heap_alloc_new w _
  have p1 : W0.cell? ⟨G, 1, none⟩ = some (.slice A l c) := by rw [cell_of_row W0 G 1 _ _ (0, 0) hob]; rfl
  have p2 : W0.cell? ⟨G, 2, none⟩ = some (.slice A2 l2 c2) := by rw [cell_of_row W0 G 2 _ _ (0, 0) hob]; rfl
  unfold maxLen at hA hl
  have ha0 := Lib.hid ha
  have b0' := Lib.hid b0
  replace hW0 := Lib.hid hW0
  replace hG := Lib.hid hG
  clear ha hob b0
  go_enter Try.func6, Try.ntmps6
  go_upto_region 1 with fail
  rw [← hW0.out, ← hG.out]
  go_wp2_with fail
  have hG0 : G < W0.heap.size := World.block_lt_of_cell? _ _ p1
  go_loopw [3, 4] (fun s i w' => ∃ (k s0 : Nat), k ≤ l2 ∧ k ≤ 25 ∧ i = .int .i64 k ∧ s = .int .i64 s0 ∧ Below W0.heap.size W0 w' ∧ s0 ≤ k * 281474976710656 ∧ ∀ j, j < k → ∀ d i vR x vP ps, LAct w A2 j d i vR x vP ps → x.length + ps.length ≤ s0) (fun _ i _ => 25 - (intOf i).toNat)
  case atStart => exact ⟨0, 0, by omega, by omega, rfl, rfl, Below.refl _ _, by omega, fun j hj => by omega⟩
  case round =>
    obtain ⟨k, s0, hk1, hk2, rfl, rfl, hb, hs, hall⟩ := hrel
    have t0 : (0 : Int) ≤ (k : Int) := by omega
    have r1 := (hb.cell (p := ⟨G, 1, none⟩) hG0).trans p1
    have r2 := (hb.cell (p := ⟨G, 2, none⟩) hG0).trans p2
    have hbw : Below w.heap.size w wr := b0'.out.trans (hb.mono b0'.out.size)
    replace hb := Lib.hid hb
    replace hall := Lib.hid hall
    by_cases hlt : k < l2 ∧ k < 25
    · have t1 : (k : Int) < (l2 : Int) := by omega
      have t2 : (k : Int) < 25 := by omega
      obtain ⟨d, i, vR, x, vP, ps, hact⟩ := ha0.out k hlt.1
      obtain ⟨g, o, rfl, hg, cc, _, ⟨hR, hRl⟩, ⟨hP, hPl⟩⟩ := id (hact.later hbw)
      have hac := Lib.hid hact
      obtain ⟨AR, cR, rfl, _, _, _⟩ := hR
      obtain ⟨AP, cP, rfl, _, _, _⟩ := hP
      have q2 := cc.c2
      have q3 := cc.c3
      have hw1 : IntKind.i64.wrap ((s0 : Int) + (x.length : Int)) = ((s0 + x.length : Nat) : Int) := by rw [IntKind.wrap_i64]; push_cast; omega
      have hw2 : IntKind.i64.wrap (((s0 + x.length : Nat) : Int) + (ps.length : Int)) = ((s0 + x.length + ps.length : Nat) : Int) := by rw [IntKind.wrap_i64]; push_cast; omega
      have hnew := Lib.hid (show ∀ j, j < k + 1 → ∀ d i vR x' vP ps', LAct w (some ⟨g, o, none⟩) j d i vR x' vP ps' → x'.length + ps'.length ≤ s0 + x.length + ps.length from fun j hj d' i' vR' x' vP' ps' h' => by
        by_cases hjk : j = k
        · subst hjk
          have := hac.out.len h'
          omega
        · have := hall.out j (by omega) d' i' vR' x' vP' ps' h'
          omega)
      have hs2 : s0 + x.length + ps.length ≤ (k + 1) * 281474976710656 := by omega
      replace hbw := Lib.hid hbw
      clear hact cc
      go_wp2_with fail
      go_quiet (fail)
      go_wp2_with fail
      exact ⟨⟨k + 1, s0 + x.length + ps.length, by omega, by omega, by go_num, rfl, hb.out.trans ((below_drewN' wr nq).mono hb.out.size), hs2, hnew.out⟩, by simp [intOf]; omega⟩
    · have hfin : ∀ bb : Bool, (bb = false → s0 ≤ 8000 ∧ l ≤ 20) → bb = false → Light12 w A2 l l2 := fun bb h1 h2 => ⟨(h1 h2).2, fun j hj1 hj2 d i vR x vP ps h => by
        have := hall.out j (by omega) d i vR x vP ps h
        have := (h1 h2).1
        omega⟩
      replace hfin := Lib.hid hfin
      replace hbw := Lib.hid hbw
      by_cases h1 : k < l2
      · have t1 : (k : Int) < (l2 : Int) := by omega
        have t2 : ¬ (k : Int) < 25 := by omega
        by_cases h8 : 8000 < s0
        · have t3 : (8000 : Int) < (s0 : Int) := by omega
          go_wp2_with fail
          go_ret
          exact ⟨true, rfl, hbw.out, by simp⟩
        · have t3 : ¬ (8000 : Int) < (s0 : Int) := by omega
          by_cases h9 : 20 < l
          · have t4 : (20 : Int) < (l : Int) := by omega
            go_wp2_with fail
            go_ret
            exact ⟨true, rfl, hbw.out, by simp⟩
          · have t4 : ¬ (20 : Int) < (l : Int) := by omega
            go_wp2_with fail
            go_ret
            exact ⟨false, rfl, hbw.out, hfin.out false (fun _ => ⟨by omega, by omega⟩)⟩
      · have t1 : ¬ (k : Int) < (l2 : Int) := by omega
        by_cases h8 : 8000 < s0
        · have t3 : (8000 : Int) < (s0 : Int) := by omega
          go_wp2_with fail
          go_ret
          exact ⟨true, rfl, hbw.out, by simp⟩
        · have t3 : ¬ (8000 : Int) < (s0 : Int) := by omega
          by_cases h9 : 20 < l
          · have t4 : (20 : Int) < (l : Int) := by omega
            go_wp2_with fail
            go_ret
            exact ⟨true, rfl, hbw.out, by simp⟩
          · have t4 : ¬ (20 : Int) < (l : Int) := by omega
            go_wp2_with fail
            go_ret
            exact ⟨false, rfl, hbw.out, hfin.out false (fun _ => ⟨by omega, by omega⟩)⟩
end Go.Proofs.Ytncafkifebannaa
