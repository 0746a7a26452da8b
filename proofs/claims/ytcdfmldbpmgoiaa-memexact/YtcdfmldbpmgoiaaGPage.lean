/-
  The page's own memory: what it answers, whatever is asked; bytes held against each other and copied; condition: the memory was made by the call.
-/
import Derived.Test.YtcdfmldbpmgoiaaGGrow
import Derived.Test.YtcdfmldbpmgoiaaGWrite
namespace Go.Proofs.Ytcdfmldbpmgoiaa
open Go.RowKit
theorem pSize_any (T : Nat) (w : World) (B g : Nat) (v : Value) (bs : List Nat) (most : Int) (s : Nat) (h : MAt T w B g v bs most) (hs : s = bs.length / 65536) :
    Calls Try.prog 25 #[Mp g] w fun e w' => e = .returned (.int .i64 (s : Int)) ∧ w' = w := by
  replace hs := Lib.hid hs
  obtain ⟨A, c, rfl, h1, h2⟩ := h.form
  have c0 := h.c0
  have hl := h.len
  replace h := Lib.hid h
  go_enter Try.func25, Try.ntmps25
  go_wp2
  go_ret
  exact ⟨ret_int (by rw [hs.out]; omega), rfl⟩
theorem pHas_any (T : Nat) (w : World) (B g : Nat) (v : Value) (bs : List Nat) (most a n : Int) (r : Bool) (h : MAt T w B g v bs most) (ha : Rg a) (hn : Rg n) (hr : r = decide (0 ≤ a ∧ 0 ≤ n ∧ a + n ≤ bs.length)) :
    Calls Try.prog 14 #[Mp g, .int .i64 a, .int .i64 n] w fun e w' => e = .returned (.bool r) ∧ w' = w := by
  obtain ⟨A, c, rfl, h1, h2⟩ := h.form
  have c0 := h.c0
  have hl := h.len
  replace h := Lib.hid h
  replace hr := Lib.hid hr
  go_enter Try.func14, Try.ntmps14
  go_wp2
  all_goals
    go_ret
    refine ⟨ret_bool ?_, rfl⟩
    rw [hr.out, Bool.eq_iff_iff]
    simp
    try omega
theorem mayMem_any (mn mx limit : Int) (w : World) (r : Bool) (hr : r = decide (0 ≤ limit ∧ limit ≤ 16 ∧ 0 ≤ mn ∧ (mx = -1 ∨ mn ≤ mx))) :
    Calls Try.prog 7 #[Lim mn mx, .int .i64 limit] w fun e w' => e = .returned (.bool r) ∧ Below w.heap.size w w' := by
  replace hr := Lib.hid hr
  go_enter Try.func7, Try.ntmps7
  go_wp2
  all_goals
    go_ret
    refine ⟨ret_bool ?_, (Below.refl _ _).alloc (Nat.le_refl _) _⟩
    rw [hr.out, Bool.eq_iff_iff]
    simp_all
    try omega
theorem zrow_at (w : World) (B n g : Nat) (hg : g = w.heap.size) (hB : B ≤ w.heap.size) (hn : n ≤ 4294967296) : (w.alloc (.cells (zrow n) 5)).ownsRow B 5 1 (.slice (some ⟨g, 0, none⟩) n n) n (vals (List.replicate n 0)) := by
  subst hg
  exact zrow_own w B n hB hn
set_option maxRecDepth 100000 in
theorem newMem_no (mn mx limit : Int) (w : World) (h2 : limit < mn) :
    Calls Try.prog 10 #[Lim mn mx, .int .i64 limit] w fun e w' => e = .returned (.pointer none) ∧ Below w.heap.size w w' := by
  go_enter Try.func10, Try.ntmps10
  go_wp2_with fail
  go_ret
  exact ⟨rfl, (Below.refl _ _).alloc (Nat.le_refl _) _⟩
set_option maxRecDepth 100000 in
theorem newMem_ok (mn mx limit most : Int) (n : Nat) (w : World) (h1 : 0 ≤ limit ∧ limit ≤ 16) (h3 : 0 ≤ mn) (h2 : mn ≤ limit) (hm : most = if 0 ≤ mx then min limit mx else limit) (hn : n = mn.toNat * 65536) :
    Calls Try.prog 10 #[Lim mn mx, .int .i64 limit] w fun e w' => ∃ g v, e = .returned (Mp g) ∧ MAt 48 w' w.heap.size g v (List.replicate n 0) most ∧ Below w.heap.size w w' := by
  have hmk := make_run n (IntKind.i64.wrap (mn * 65536)) (by rw [IntKind.wrap_i64]; omega) (by omega)
  have hmk2 := make_run n (mn * 65536) (by omega) (by omega)
  have hn2 : n ≤ 4294967296 := by omega
  replace hm := Lib.hid hm
  replace hn := Lib.hid hn
  by_cases hx : 0 ≤ mx
  all_goals
    go_enter Try.func10, Try.ntmps10
    go_wp2_with fail
    all_goals go_ret
    all_goals
      have hf := fun most' => new_fin w ((w.alloc (.cells #[.int .i64 mn, .int .i64 mx] 23)).alloc (.cells (zrow n) 5)) n (.slice (some ⟨w.heap.size + 1, 0, none⟩) n n) most' hn2 (((Below.refl _ _).alloc (Nat.le_refl _) _).alloc (by simp) _) (zrow_at _ w.heap.size n (w.heap.size + 1) (by simp) (by simp) hn2) 48 (by decide) (w.heap.size + 1 + 1) (by simp)
      have hmo := hm.out
      first
      | (obtain rfl : most = mx := by (first | (rw [if_pos hx] at hmo; omega) | (rw [if_neg (by omega)] at hmo; omega))
         exact ⟨_, rfl, ⟨_, (hf _).1⟩, (hf _).2⟩)
      | (obtain rfl : most = limit := by (first | (rw [if_pos hx] at hmo; omega) | (rw [if_neg (by omega)] at hmo; omega))
         exact ⟨_, rfl, ⟨_, (hf _).1⟩, (hf _).2⟩)
set_option maxRecDepth 100000 in
theorem pGrow_any (T : Nat) (w : World) (B g : Nat) (v : Value) (bs : List Nat) (most n : Int) (h : MAt T w B g v bs most) (hB : B ≤ w.heap.size) (hm : -1 ≤ most ∧ most ≤ 16) (hl : bs.length ≤ 1048576) (hn : Rg n) :
    Calls Try.prog 21 #[Mp g, .int .i64 n] w (GPost T w B g v bs most n) := by
  have c0 := h.c0
  have c1 := h.c1
  obtain ⟨s, hs⟩ : ∃ s, s = bs.length / 65536 := ⟨_, rfl⟩
  have hs16 : s ≤ 16 := by omega
  by_cases hb : 0 ≤ n ∧ n ≤ most - ((bs.length / 65536 : Nat) : Int)
  · have hgr : M.gr bs most n = true := by unfold M.gr; simpa using hb
    obtain ⟨m, rfl⟩ : ∃ m : Nat, n = m := ⟨n.toNat, by omega⟩
    rw [← hs] at hb
    obtain ⟨v1, w2, hrun, ho, hgb, hfr⟩ := run_zeros w B 38 v bs (m * 65536) h.row (by omega) (by omega) hB
    obtain ⟨q1, q2, q3⟩ := grow_fin h (by omega) ho hgb
    obtain ⟨cs, hcs⟩ : ∃ cs, cs = bs ++ List.replicate (m * 65536) 0 := ⟨_, rfl⟩
    rw [← hcs] at q1 ho
    replace hcs := Lib.hid hcs
    obtain ⟨A1, c1', rfl, _, _⟩ := own_form ho
    have f0 : w2.frozen? ⟨g, 0, none⟩ = false := frozen_of_row w2 g 0 _ _ q3
    have d0 : w2.cell? ⟨g, 0, none⟩ = some v := by rw [cell_of_row w2 g 0 _ _ (0, 0) q3]; rfl
    replace q1 := Lib.hid q1
    replace q2 := Lib.hid q2
    clear q3
    replace h := Lib.hid h
    replace hgr := Lib.hid hgr
    replace hs := Lib.hid hs
    replace ho := Lib.hid ho
    replace hfr := Lib.hid hfr
    clear hgb
    go_enter Try.func21, Try.ntmps21
    go_wp2_with fail
    refine (pSize_any T w B g v bs most s h.out hs.out).mono ?_
    rintro e1 w1 ⟨rfl, rfl⟩
    go_wp2_with (first | (at_builtin; refine Lib.wpList_append_run _ rfl _ _ _ _ rfl _ _ rfl rfl _ w2 hrun ?_))
    go_ret
    exact .inr ⟨hgr.out, ret_int (by rw [hs.out]), _, by rw [Int.toNat_natCast, ← hcs.out]; exact q1.out, q2.out, hfr.out⟩
  · have hgr : M.gr bs most n = false := by unfold M.gr; simpa using hb
    rw [← hs] at hb
    replace hs := Lib.hid hs
    replace h := Lib.hid h
    replace hgr := Lib.hid hgr
    by_cases h0 : n < 0
    all_goals
      go_enter Try.func21, Try.ntmps21
      go_wp2_with fail
      refine (pSize_any T w B g v bs most s h.out hs.out).mono ?_
      rintro e1 w1 ⟨rfl, rfl⟩
    · go_wp2_with fail
      go_ret
      exact .inl ⟨hgr.out, rfl, rfl⟩
    · have h3 : most - (s : Int) < n := by omega
      go_wp2_with fail
      go_ret
      exact .inl ⟨hgr.out, rfl, rfl⟩
theorem EqBytes_same (v1 v2 : Value) (bs : List Nat) (w : World) (h1 : BS w w.heap.size v1 bs) (h2 : BS w w.heap.size v2 bs) :
    Calls Try.prog 16 #[v1, v2] w fun e w' => e = .returned (.bool true) ∧ Below w.heap.size w w' := by
  obtain ⟨A, c, rfl, a1, a2, ha⟩ := h1
  obtain ⟨B, d, rfl, b1, b2, hb⟩ := h2
  obtain ⟨n, hn⟩ : ∃ n, n = bs.length := ⟨_, rfl⟩
  obtain ⟨f, hf⟩ : ∃ f : Nat → Nat, f = fun i => bs.getD i 0 := ⟨_, rfl⟩
  rw [← hn] at a1 ha hb ⊢
  rw [← hf] at ha hb
  clear hn hf b1 b2
  unfold maxLen at a2
  replace ha := Lib.hid ha
  replace hb := Lib.hid hb
  have hne : ((n : Int) != (n : Int)) = false := by simp
  go_enter Try.func16, Try.ntmps16
  go_wp2
  go_loopw [5] (fun i w' => ∃ k : Nat, k ≤ n ∧ i = .int .i64 k ∧ Below w.heap.size w w') (fun i _ => n - (intOf i).toNat)
  case atStart => exact ⟨0, by omega, rfl, Below.refl _ _⟩
  case round =>
    obtain ⟨k, hk, rfl, hbw⟩ := hrel
    by_cases hlt : k < n
    · obtain ⟨a1, rfl, _, _, q1⟩ := ha.out.later hbw k hlt
      obtain ⟨a2, rfl, _, _, q2⟩ := hb.out.later hbw k hlt
      have t0 : (0 : Int) ≤ (k : Int) := by omega
      have t1 : (k : Int) < (n : Int) := by omega
      go_wp2_with fail
      go_quiet (fail)
      go_wp2
      exact ⟨⟨k + 1, by omega, by go_num, below_drewN hbw _⟩, by simp [intOf]; omega⟩
    · go_wp2
      go_ret
      exact ⟨rfl, hbw⟩
def Gives (bs : List Nat) (w : World) (e : Ending) (w' : World) : Prop := ∃ v, e = .returned v ∧ w'.ownsRow w.heap.size 5 1 v bs.length (vals bs) ∧ Below w.heap.size w w'
theorem take_succ' (bs : List Nat) (k : Nat) (h : k < bs.length) : bs.take (k + 1) = bs.take k ++ [bs.getD k 0] := by
  rw [List.take_add_one, List.getElem?_eq_getElem h, List.getD_eq_getElem?_getD, List.getElem?_eq_getElem h]
  rfl
theorem CopyBytes_any (v : Value) (bs : List Nat) (w : World) (hn : bs.length ≤ 1000000) (h : BS w w.heap.size v bs) :
    Calls Try.prog 18 #[v] w (Gives bs w) := by
  obtain ⟨i0, hi0, hz0, hz1, hz2⟩ := info_parts u8_info
  obtain ⟨A, c, rfl, a1, a2, ha⟩ := h
  obtain ⟨n, hN⟩ : ∃ n, n = bs.length := ⟨_, rfl⟩
  obtain ⟨f, hf⟩ : ∃ f : Nat → Nat, f = fun i => bs.getD i 0 := ⟨_, rfl⟩
  rw [← hN] at a1 ha hn ⊢
  rw [← hf] at ha
  replace hf := Lib.hid hf
  replace hN := Lib.hid hN
  unfold maxLen at a2
  replace ha := Lib.hid ha
  go_enter Try.func18, Try.ntmps18
  go_wp2
  go_loopw [3, 4] (fun b i w' => ∃ k : Nat, k ≤ n ∧ i = .int .i64 k ∧ w'.ownsRow w.heap.size 5 1 b k (vals (bs.take k)) ∧ Below w.heap.size w w') (fun _ i _ => n - (intOf i).toNat)
  case atStart => exact ⟨0, by omega, rfl, World.ownsRow_nil _ _ _ _, Below.refl _ _⟩
  case round =>
    obtain ⟨k, hk, rfl, hown, hb⟩ := hrel
    replace hown := Lib.hid hown
    by_cases hlt : k < n
    · obtain ⟨a1, rfl, _, hx, q1⟩ := ha.out.later hb k hlt
      have t0 : (0 : Int) ≤ (k : Int) := by omega
      have t1 : (k : Int) < (n : Int) := by omega
      go_wp2_with (first
        | (at_builtin; refine wpList_append_own _ rfl _ _ 38 rfl w.heap.size 5 i0 (.int .u8 0) 1 1 Try.underlying38 hi0 hz0 hz1 hz2 rfl (by decide) u3 k (vals (bs.take k)) rfl (hown.out.alloc _) ⟨_, 0, none⟩ 1 1 [_] rfl rfl (cell_one_new _ _ _) (fun x hx => by simp at hx; subst hx; rfl) (by unfold maxLen; omega) (by omega) (by have := hb.size; simp; omega) ?_; intro v' w3 hown' hgrow3 hnil3))
      refine ⟨⟨k + 1, by omega, by go_num, ?_, ?_⟩, by simp [intOf]; omega⟩
      · rw [take_succ' bs k (by rw [← hN.out]; exact hlt), vals_append]
        rw [hf.out] at hown'
        exact hown'
      · exact (hb.alloc hb.size _).grown hgrow3 (by have := hb.size; simp; omega) (fun q hq => (hown.out.lt q hq).1)
    · obtain rfl : k = n := by omega
      go_wp2
      go_ret
      refine ⟨_, rfl, ?_, hb⟩
      have := hown.out
      rw [hN.out, List.take_length] at this
      exact this
end Go.Proofs.Ytcdfmldbpmgoiaa
