/-
  The law on every byte as an operation, walked: for every list it returns true and writes nothing that was there; conditions: the list lies in memory as 'Asks' says, the library's table reads as it is laid.
-/
import Derived.Test.YtpnimgecfmpipaaDoorUns
namespace Go.Proofs.YtpnimgecfmpipaaDoor
open Go.RowKit
/-- Whether there is the operation, and the number of the error that tells so. -/
def Told (p : Prop) (s : Bool) (e : Int) : Prop := (p ∧ s = true ∧ e = 0) ∨ (¬ p ∧ s = false ∧ e = 100)
theorem told_ex (p : Prop) : ∃ (s : Bool) (e : Int), Told p s e := by
  by_cases h : p
  · exact ⟨true, 0, .inl ⟨h, rfl, rfl⟩⟩
  · exact ⟨false, 100, .inr ⟨h, rfl, rfl⟩⟩
theorem Told.eq {p : Prop} {s : Bool} {e : Int} (h : Told p s e) : (e == 0) = s := by
  rcases h with ⟨_, rfl, rfl⟩ | ⟨_, rfl, rfl⟩ <;> rfl
theorem val_none (op a b : Int) (h : ¬ M.isBin op) : M.val op a b = 0 ∧ M.trap op a b = 0 := by
  unfold M.isBin at h
  constructor
  · unfold M.val
    repeat rw [if_neg (by omega)]
  · unfold M.trap
    rw [if_neg (by omega), if_neg (by omega)]
theorem uval_none (op a : Int) (h : ¬ M.isUn op) : M.uval op a = 0 := by
  unfold M.isUn at h
  unfold M.uval
  repeat rw [if_neg (by omega)]
theorem Bin_all (op a b : Int) (s : Bool) (ec : Int) (w : World) (ha : U a) (hb : U b) (h : Told (M.isBin op) s ec) :
    Calls Tryd.prog 9 #[.int .i64 op, .int .u64 a, .int .u64 b] w fun e w' => e = .returned (.tuple #[.int .u64 (M.val op a b), .int .i64 (M.trap op a b), .int .i64 ec]) ∧ Below w.heap.size w w' := by
  rcases h with ⟨h, rfl, rfl⟩ | ⟨h, rfl, rfl⟩
  · exact Bin_yes op a b w ha hb h
  · obtain ⟨e1, e2⟩ := val_none op a b h
    rw [e1, e2]
    exact Bin_no op a b w h
theorem Bin64_all (op a b : Int) (s : Bool) (ec : Int) (w : World) (ha : U a) (hb : U b) (h : Told (M.isBin op) s ec) :
    Calls Tryd.prog 10 #[.int .i64 op, .int .u64 a, .int .u64 b] w fun e w' => e = .returned (.tuple #[.int .u64 (M.val op a b), .int .i64 (M.trap op a b), .bool s]) ∧ w = w' := by
  rcases h with ⟨h, rfl, rfl⟩ | ⟨h, rfl, rfl⟩
  · exact Bin64_yes op a b w ha hb h
  · obtain ⟨e1, e2⟩ := val_none op a b h
    rw [e1, e2]
    exact Bin64_no op a b w ha hb h
theorem Un_all (op a : Int) (s : Bool) (ec : Int) (w : World) (ha : U a) (hT : Tb w) (h : Told (M.isUn op) s ec) :
    Calls Tryd.prog 5 #[.int .i64 op, .int .u64 a] w fun e w' => e = .returned (.tuple #[.int .u64 (M.uval op a), .int .i64 ec]) ∧ Below w.heap.size w w' := by
  rcases h with ⟨h, rfl, rfl⟩ | ⟨h, rfl, rfl⟩
  · exact Un_yes op a w ha hT h
  · rw [uval_none op a h]
    exact Un_no op a w h
theorem Un64_all (op a : Int) (s : Bool) (ec : Int) (w : World) (ha : U a) (h : Told (M.isUn op) s ec) :
    Calls Tryd.prog 6 #[.int .i64 op, .int .u64 a] w fun e w' => e = .returned (.tuple #[.int .u64 (M.uval op a), .bool s]) ∧ w = w' := by
  rcases h with ⟨h, rfl, rfl⟩ | ⟨h, rfl, rfl⟩
  · exact Un64_yes op a w ha h
  · rw [uval_none op a h]
    exact Un64_no op a w ha h
def ARel (g : Nat) (a b : Int) (w : World) (v : Value) (w' : World) : Prop := ∃ j : Int, -1 ≤ j ∧ j ≤ 257 ∧ v = .int .i64 j ∧ w'.cell? ⟨g, 0, none⟩ = some (.int .u64 a) ∧ w'.cell? ⟨g, 1, none⟩ = some (.int .u64 b) ∧ g < w'.heap.size ∧ Below w.heap.size w w'
set_option maxRecDepth 100000 in
set_option maxHeartbeats 4000000 in
theorem Num64All_walk (A : Option Addr) (n c : Nat) (w : World) (h : Asks w A n) (hT : Tb w) :
    Calls Tryd.prog 4 #[.slice A n c] w fun e w' => e = .returned (.bool true) ∧ Below w.heap.size w w' := by
  obtain ⟨hn, h⟩ := h
  unfold maxLen at hn
  replace h := Lib.hid h
  replace hT := Lib.hid hT
  go_enter Tryd.func4, Tryd.ntmps4
  go_wp2
  go_loopw [3] (fun i w' => ∃ k : Nat, k ≤ n ∧ i = .int .i64 k ∧ Below w.heap.size w w') (fun i _ => n - (intOf i).toNat)
  case atStart => exact ⟨0, by omega, rfl, Below.refl _ _⟩
  case round =>
    obtain ⟨k, hk, rfl, hbw⟩ := hrel
    by_cases hlt : k < n
    · obtain ⟨g, o, a, b, op, rfl, hg, q0, q1, q2, ha, hb, hop⟩ := h.out k hlt
      clear hop
      have t0 : (0 : Int) ≤ (k : Int) := by omega
      have t1 : (k : Int) < (n : Int) := by omega
      have p0 : wr.cell? ⟨g, o + k * 3, none⟩ = some (.int .u64 a) := by rw [hbw.cell (by exact hg)]; exact q0
      have p1 : wr.cell? ⟨g, o + k * 3 + 1, none⟩ = some (.int .u64 b) := by rw [hbw.cell (by exact hg)]; exact q1
      have p2 : wr.cell? ⟨g, o + k * 3 + 2, none⟩ = some (.int .i64 op) := by rw [hbw.cell (by exact hg)]; exact q2
      have hgr : g < wr.heap.size := Nat.lt_of_lt_of_le hg hbw.size
      clear q0 q1 q2
      by_cases h30 : k < 4
      · have t2 : decide ((k : Int) < 4) = true := by simp; omega
        obtain ⟨wo, rfl⟩ : ∃ wo, wo = wr := ⟨wr, rfl⟩
        go_wp2
        have hc3 := cells3 (Below.refl (wo.alloc (.cells #[.int .u64 a, .int .u64 b, .int .i64 op] 25)).heap.size (wo.alloc (.cells #[.int .u64 a, .int .u64 b, .int .i64 op] 25)))
        go_loopw [5] (fun i w' => ARel wo.heap.size a b w i w') (fun i _ => (257 - intOf i).toNat)
        case atStart => exact ⟨-1, by omega, by omega, rfl, hc3.1, hc3.2.1, by simp, hbw.alloc hbw.size _⟩
        case round =>
          obtain ⟨j, hj0, hj1, rfl, r0, r1, r2, hb2⟩ := hrel
          clear hc3 p0 p1 p2
          by_cases hjt : j ≤ 256
          · obtain ⟨s1, e1, T1⟩ := told_ex (M.isBin j)
            obtain ⟨s2, e2, T2⟩ := told_ex (M.isUn j)
            have x1 := T1.eq
            have x2 := T2.eq
            replace T1 := Lib.hid T1
            replace T2 := Lib.hid T2
            replace hb2 := Lib.hid hb2
            go_wp2_with fail
            refine (Bin_all j a b s1 e1 _ ha hb T1.out).mono ?_
            rintro e w1 ⟨rfl, b1⟩
            have k0 : w1.cell? ⟨wo.heap.size, 0, none⟩ = some (.int .u64 a) := by rw [b1.cell (by exact r2)]; exact r0
            have k1 : w1.cell? ⟨wo.heap.size, 1, none⟩ = some (.int .u64 b) := by rw [b1.cell (by exact r2)]; exact r1
            have k2 : wo.heap.size < w1.heap.size := Nat.lt_of_lt_of_le r2 b1.size
            have d1 := Lib.hid (hb2.out.trans (b1.mono hb2.out.size))
            clear b1
            go_wp2_with fail
            refine (Bin64_all j a b s1 e1 _ ha hb T1.out).mono ?_
            rintro e w2 ⟨rfl, rfl⟩
            go_wp2_with fail
            refine (Un_all j a s2 e2 _ ha (hT.out.later d1.out) T2.out).mono ?_
            rintro e w2 ⟨rfl, b2⟩
            have l0 : w2.cell? ⟨wo.heap.size, 0, none⟩ = some (.int .u64 a) := by rw [b2.cell (by exact k2)]; exact k0
            have l1 : w2.cell? ⟨wo.heap.size, 1, none⟩ = some (.int .u64 b) := by rw [b2.cell (by exact k2)]; exact k1
            have l2 : wo.heap.size < w2.heap.size := Nat.lt_of_lt_of_le k2 b2.size
            have d2 := Lib.hid (d1.out.trans (b2.mono d1.out.size))
            clear b2
            go_wp2_with fail
            refine (Un64_all j a s2 e2 _ ha T2.out).mono ?_
            rintro e w3 ⟨rfl, rfl⟩
            go_wp2_with (go_at_call 7; refine (num_any _ _).mono ?_; rintro e w3 ⟨rfl, rfl⟩)
            exact ⟨⟨j + 1, by omega, by omega, by go_num, l0, l1, l2, d2.out⟩, by simp [intOf]; omega⟩
          · go_wp2
            exact ⟨⟨k + 1, by omega, by go_num, hb2⟩, by simp [intOf]; omega⟩
      · go_wp2_with fail
        refine (wakes_any _).mono ?_
        rintro e w7 ⟨rfl, hb7⟩
        go_wp2
        go_ret
        exact ⟨rfl, hbw.trans (hb7.mono hbw.size)⟩
    · go_wp2_with fail
      refine (wakes_any _).mono ?_
      rintro e w7 ⟨rfl, hb7⟩
      go_wp2
      go_ret
      exact ⟨rfl, hbw.trans (hb7.mono hbw.size)⟩
end Go.Proofs.YtpnimgecfmpipaaDoor
