/-
  The statement on empty sections answers true; condition: its argument is a slice.
-/
import Derived.Test.YtmejgbbdehndaaaGreatMEmpty0
import Derived.Deep.Cut
namespace Go.Proofs.YtmejgbbdehndaaaGreat
open Go.RowKit
theorem wrap8 (id : Nat) (h : id ≤ 12) : IntKind.u8.wrap (id : Int) = (id : Int) := by
  have e : IntKind.u8.bits = 8 := rfl
  simp [IntKind.wrap, e, IntKind.signed]
  omega
theorem wantS (id : Nat) (h1 : 1 ≤ id) (h2 : id ≤ 11) : ∃ s : Int, M.rdModule (M.header ++ M.one id) = some ⟨[], [], [], [], [], [], [], s, [], []⟩ ∧ ((id = 8 ∧ s = 0) ∨ (id ≠ 8 ∧ s = -1)) := by
  have := M.empty_one id h1 h2
  by_cases h8 : id = 8
  · exact ⟨0, by rw [this]; unfold M.wantE; rw [if_pos h8], .inl ⟨h8, rfl⟩⟩
  · exact ⟨-1, by rw [this]; unfold M.wantE; rw [if_neg h8]; rfl, .inr ⟨h8, rfl⟩⟩
theorem one_lt (id : Nat) (h : id ≤ 12) : ∀ b ∈ M.one id, b < 256 := by
  intro b hb
  simp [M.one] at hb
  omega
theorem cat_lt {a b : List Nat} (ha : ∀ x ∈ a, x < 256) (hb : ∀ x ∈ b, x < 256) : ∀ x ∈ a ++ b, x < 256 := by
  intro x hx
  rcases List.mem_append.1 hx with h | h
  · exact ha x h
  · exact hb x h
theorem header_lt : ∀ x ∈ M.header, x < 256 := by decide
theorem one_len (id : Nat) : (M.one id).length = 3 := rfl
theorem header_len : M.header.length = 8 := rfl
set_option maxRecDepth 100000 in
set_option maxHeartbeats 8000000 in
theorem emptyWalk (A : Option Addr) (n c : Nat) (w : World) : Calls Tryz.prog 6 #[.slice A n c] w fun e w' => e = .returned (.bool true) ∧ Below w.heap.size w w' := by
  have tl : (0 : Int) ≤ (n : Int) := by omega
  go_enter Tryz.func6, Tryz.ntmps6
  go_upto_region 2 with fail
  have hB0 : BS (w.alloc (.cells #[.int .u8 0, .int .u8 97, .int .u8 115, .int .u8 109, .int .u8 1, .int .u8 0, .int .u8 0, .int .u8 0] 5)) (w.alloc (.cells #[.int .u8 0, .int .u8 97, .int .u8 115, .int .u8 109, .int .u8 1, .int .u8 0, .int .u8 0, .int .u8 0] 5)).heap.size (.slice (some ⟨w.heap.size, 0, none⟩) 8 8) M.header := lit_BS _ _ _ 5 w.heap.size 8 8 rfl (by decide) (heap_alloc_new w _) (by simp) rfl (by omega) (by unfold maxLen; omega)
  have d0 : Below w.heap.size w (w.alloc (.cells #[.int .u8 0, .int .u8 97, .int .u8 115, .int .u8 109, .int .u8 1, .int .u8 0, .int .u8 0, .int .u8 0] 5)) := (Below.refl _ _).alloc (Nat.le_refl _) _
  generalize hw0 : w.alloc (.cells #[.int .u8 0, .int .u8 97, .int .u8 115, .int .u8 109, .int .u8 1, .int .u8 0, .int .u8 0, .int .u8 0] 5) = w0 at hB0 d0 ⊢
  clear hw0
  replace hB0 := Lib.hid hB0
  replace d0 := Lib.hid d0
  go_wp2_with fail
  go_loopw [4] (fun i w' => ∃ id : Nat, 1 ≤ id ∧ id ≤ 12 ∧ i = .int .i64 id ∧ Below w0.heap.size w0 w') (fun i _ => 12 - (intOf i).toNat)
  case atStart => exact ⟨1, by omega, by omega, rfl, Below.refl _ _⟩
  case round =>
    obtain ⟨id, hi1, hi2, rfl, hb⟩ := hrel
    replace hb := Lib.hid hb
    by_cases hlt : id ≤ 11
    · have t0 : (id : Int) ≤ 11 := by omega
      have t1 := wrap8 id hi2
      go_upto_region 6 with fail
      have dA : Below w0.heap.size w0 (wr.alloc (.cells #[.int .u8 id, .int .u8 1, .int .u8 0] 5)) := hb.out.alloc hb.out.size _
      have oA : BS (wr.alloc (.cells #[.int .u8 id, .int .u8 1, .int .u8 0] 5)) (wr.alloc (.cells #[.int .u8 id, .int .u8 1, .int .u8 0] 5)).heap.size (.slice (some ⟨wr.heap.size, 0, none⟩) 3 3) (M.one id) := lit_BS _ _ _ 5 wr.heap.size 3 3 rfl (one_lt id hi2) (heap_alloc_new wr _) (by simp) rfl (by omega) (by unfold maxLen; omega)
      generalize hwa : wr.alloc (.cells #[.int .u8 id, .int .u8 1, .int .u8 0] 5) = wa at dA oA ⊢
      clear hwa
      have hA := Lib.hid (hB0.out.later dA)
      replace dA := Lib.hid dA
      replace oA := Lib.hid oA
      obtain ⟨s, hs, hs8⟩ := wantS id hi1 hlt
      replace hs := Lib.hid hs
      go_wp2_with fail
      refine (CopyBytes_any _ M.header _ (by decide) (hA.out.later (Below.refl _ _))).mono ?_
      rintro e1 x1 ⟨v1, rfl, own1, b1⟩
      have c1 := Lib.hid b1
      replace own1 := Lib.hid own1
      clear b1
      go_wp2_with (at_builtin; refine wpList_cat rfl _ _ rfl _ v1 (.slice (some ⟨wr.heap.size, 0, none⟩) 3 3) (M.header) (M.one id) rfl own1.out rfl (oA.out.later c1.out) (by simp [header_len, one_len]) c1.out.size ?_; intro v2 x2 own2 gr2; have c2 := Lib.hid (c1.out.grown gr2 c1.out.size (fun q hq => (own1.out.lt q hq).1)); replace own2 := Lib.hid own2; clear gr2)
      refine (dec_empty _ _ s _ (own_BS own2.out (cat_lt header_lt (one_lt id hi2))) hs.out).mono ?_
      rintro e3 w3 ⟨A0, c0, A1, k1, A2, k2, A3, k3, A4, k4, A5, k5, A6, k6, A8, k8, A9, k9, rfl, b3⟩
      have d3 := Lib.hid (c2.out.trans (b3.mono c2.out.size))
      clear b3 own1 own2 c1 c2
      go_upto_region 7 with fail
      have hr : (w3.alloc (.cells #[.slice A0 0 c0, .slice A1 0 k1, .slice A2 0 k2, .slice A3 0 k3, .slice A4 0 k4, .slice A5 0 k5, .slice A6 0 k6, .int .i64 s, .slice A8 0 k8, .slice A9 0 k9] 32)).heap[w3.heap.size]? = some (.cells #[.slice A0 0 c0, .slice A1 0 k1, .slice A2 0 k2, .slice A3 0 k3, .slice A4 0 k4, .slice A5 0 k5, .slice A6 0 k6, .int .i64 s, .slice A8 0 k8, .slice A9 0 k9] 32) := heap_alloc_new w3 _
      have da : Below wa.heap.size wa (w3.alloc (.cells #[.slice A0 0 c0, .slice A1 0 k1, .slice A2 0 k2, .slice A3 0 k3, .slice A4 0 k4, .slice A5 0 k5, .slice A6 0 k6, .int .i64 s, .slice A8 0 k8, .slice A9 0 k9] 32)) := d3.out.alloc d3.out.size _
      have hz : w3.heap.size < (w3.alloc (.cells #[.slice A0 0 c0, .slice A1 0 k1, .slice A2 0 k2, .slice A3 0 k3, .slice A4 0 k4, .slice A5 0 k5, .slice A6 0 k6, .int .i64 s, .slice A8 0 k8, .slice A9 0 k9] 32)).heap.size := by simp
      obtain ⟨ga, hga⟩ : ∃ ga, ga = w3.heap.size := ⟨_, rfl⟩
      rw [← hga] at hr hz ⊢
      generalize hwb : w3.alloc (.cells #[.slice A0 0 c0, .slice A1 0 k1, .slice A2 0 k2, .slice A3 0 k3, .slice A4 0 k4, .slice A5 0 k5, .slice A6 0 k6, .int .i64 s, .slice A8 0 k8, .slice A9 0 k9] 32) = wb at hr da hz ⊢
      clear hwb d3
      replace hr := Lib.hid hr
      replace da := Lib.hid da
      replace hga := Lib.hid hga
      go_wp2_with fail
      refine (CopyBytes_any _ M.header _ (by decide) (hA.out.later da.out)).mono ?_
      rintro e4 x4 ⟨v4, rfl, own4, b4⟩
      have c4 := Lib.hid b4
      replace own4 := Lib.hid own4
      clear b4
      go_wp2_with (first
        | (at_builtin; refine wpList_cat rfl _ _ rfl _ v4 (.slice (some ⟨wr.heap.size, 0, none⟩) 3 3) (M.header) (M.one id) rfl own4.out rfl (oA.out.later (da.out.trans (c4.out.mono da.out.size))) (by simp [header_len, one_len]) c4.out.size ?_; intro v5 x5 own5 gr5; have c5 := Lib.hid (c4.out.grown gr5 c4.out.size (fun q hq => (own4.out.lt q hq).1)); replace own5 := Lib.hid own5; clear gr5)
        | (at_builtin; refine wpList_cat rfl _ _ rfl _ v5 (.slice (some ⟨wr.heap.size, 0, none⟩) 3 3) (M.header ++ M.one id) (M.one id) rfl own5.out rfl (oA.out.later (da.out.trans (c5.out.mono da.out.size))) (by simp [header_len, one_len]) c5.out.size ?_; intro v6 x6 own6 gr6; have c6 := Lib.hid (c5.out.grown gr6 c5.out.size (fun q hq => (own5.out.lt q hq).1)); replace own6 := Lib.hid own6; clear gr6))
      refine (dec_none _ _ _ (own_BS own6.out (cat_lt (cat_lt header_lt (one_lt id hi2)) (one_lt id hi2))) (M.twice_none id hi1 hlt)).mono ?_
      rintro e7 w7 ⟨rfl, b7⟩
      unfold mod0V
      have c7 := Lib.hid (c6.out.trans (b7.mono c6.out.size))
      have d7 := Lib.hid (da.out.trans (c7.out.mono da.out.size))
      have hz7 : ga < w7.heap.size := Nat.lt_of_lt_of_le hz c7.out.size
      have p0 : w7.cell? ⟨ga, 0, none⟩ = some (.slice A0 0 c0) := (c7.out.cell (p := ⟨ga, 0, none⟩) hz).trans (cell_of_row wb ga 0 _ 32 (0, 0) hr.out)
      have p1 : w7.cell? ⟨ga, 1, none⟩ = some (.slice A1 0 k1) := (c7.out.cell (p := ⟨ga, 1, none⟩) hz).trans (cell_of_row wb ga 1 _ 32 (0, 0) hr.out)
      have p2 : w7.cell? ⟨ga, 2, none⟩ = some (.slice A2 0 k2) := (c7.out.cell (p := ⟨ga, 2, none⟩) hz).trans (cell_of_row wb ga 2 _ 32 (0, 0) hr.out)
      have p3 : w7.cell? ⟨ga, 3, none⟩ = some (.slice A3 0 k3) := (c7.out.cell (p := ⟨ga, 3, none⟩) hz).trans (cell_of_row wb ga 3 _ 32 (0, 0) hr.out)
      have p4 : w7.cell? ⟨ga, 4, none⟩ = some (.slice A4 0 k4) := (c7.out.cell (p := ⟨ga, 4, none⟩) hz).trans (cell_of_row wb ga 4 _ 32 (0, 0) hr.out)
      have p5 : w7.cell? ⟨ga, 5, none⟩ = some (.slice A5 0 k5) := (c7.out.cell (p := ⟨ga, 5, none⟩) hz).trans (cell_of_row wb ga 5 _ 32 (0, 0) hr.out)
      have p6 : w7.cell? ⟨ga, 6, none⟩ = some (.slice A6 0 k6) := (c7.out.cell (p := ⟨ga, 6, none⟩) hz).trans (cell_of_row wb ga 6 _ 32 (0, 0) hr.out)
      have p7 : w7.cell? ⟨ga, 7, none⟩ = some (.int .i64 s) := (c7.out.cell (p := ⟨ga, 7, none⟩) hz).trans (cell_of_row wb ga 7 _ 32 (0, 0) hr.out)
      have p8 : w7.cell? ⟨ga, 8, none⟩ = some (.slice A8 0 k8) := (c7.out.cell (p := ⟨ga, 8, none⟩) hz).trans (cell_of_row wb ga 8 _ 32 (0, 0) hr.out)
      have p9 : w7.cell? ⟨ga, 9, none⟩ = some (.slice A9 0 k9) := (c7.out.cell (p := ⟨ga, 9, none⟩) hz).trans (cell_of_row wb ga 9 _ 32 (0, 0) hr.out)
      clear b7 own4 own5 own6 c4 c5 c6 c7
      have t8 : ((id : Int) == 8) = decide (id = 8) := by by_cases h : id = 8 <;> simp [h] <;> omega
      have hk8 : (id = 8 ∧ s = 0 ∧ ((id : Int) == 8) = true) ∨ (id ≠ 8 ∧ s = -1 ∧ ((id : Int) == 8) = false) := by
        rcases hs8 with ⟨h8, e⟩ | ⟨h8, e⟩
        · exact .inl ⟨h8, e, by rw [t8]; simp [h8]⟩
        · exact .inr ⟨h8, e, by rw [t8]; simp [h8]⟩
      clear t8 hs8
      rcases hk8 with ⟨h8, rfl, t8⟩ | ⟨h8, rfl, t8⟩
      all_goals replace h8 := Lib.hid h8
      all_goals go_wp2_with fail
      all_goals (
        go_wp2_with (go_at_call 12; refine (num_any _ _).mono ?_; rintro e wn ⟨rfl, rfl⟩)
        refine (eqMod0 _ _ _ _ _ _ _ _ _ _ _ _ _ _ _ _ _ _ _ _).mono ?_
        rintro e8 w8 ⟨rfl, b8⟩
        have d8 := Lib.hid (((d7.out.alloc d7.out.size _).alloc (by have := d7.out.size; simp; omega) _).trans (b8.mono (by have := d7.out.size; simp; omega)))
        clear b8 p0 p1 p2 p3 p4 p5 p6 p7 p8 p9 d7
        obtain ⟨wo, rfl⟩ : ∃ wo, wo = wr := ⟨wr, rfl⟩
        go_wp2_with (go_at_call 12; refine (num_any _ _).mono ?_; rintro e wn ⟨rfl, rfl⟩)
        go_loopw [11] (fun i w' => ∃ k : Nat, 1 ≤ k ∧ k ≤ id ∧ i = .int .i64 k ∧ Below wa.heap.size wa w') (fun i _ => id - (intOf i).toNat)
        case atStart => exact ⟨1, by omega, by omega, rfl, d8.out⟩
        case round =>
          obtain ⟨k, hk1, hk2, rfl, hbk⟩ := hrel
          replace hbk := Lib.hid hbk
          by_cases hkl : k < id
          · have t2 : (k : Int) < (id : Int) := by omega
            by_cases hk8 : k = 8
            · have t9 : ((k : Int) == 8) = true := by rw [hk8]; rfl
              replace hk8 := Lib.hid hk8
              go_wp2_with fail
              refine ⟨⟨k + 1, by omega, by omega, by go_num, hbk.out⟩, by simp [intOf]; omega⟩
            · have t9 : ((k : Int) == 8) = false := by simp; omega
              have t3 := wrap8 k (by omega)
              have o1 := Lib.hid (one_lt id hi2)
              have o2 := Lib.hid (one_lt k (by omega))
              have m1 := Lib.hid (M.behind_none id k hk1 hkl hlt hk8)
              have m2 := Lib.hid (M.ahead_some id k hk1 hkl hlt hk8)
              go_upto_region 18 with fail
              have dB : Below wa.heap.size wa (wr.alloc (.cells #[.int .u8 k, .int .u8 1, .int .u8 0] 5)) := hbk.out.alloc hbk.out.size _
              have oB : BS (wr.alloc (.cells #[.int .u8 k, .int .u8 1, .int .u8 0] 5)) (wr.alloc (.cells #[.int .u8 k, .int .u8 1, .int .u8 0] 5)).heap.size (.slice (some ⟨wr.heap.size, 0, none⟩) 3 3) (M.one k) := lit_BS _ _ _ 5 wr.heap.size 3 3 rfl o2.out (heap_alloc_new wr _) (by simp) rfl (by omega) (by unfold maxLen; omega)
              generalize hwc : wr.alloc (.cells #[.int .u8 k, .int .u8 1, .int .u8 0] 5) = wc at dB oB ⊢
              clear hwc
              have hC := Lib.hid (hA.out.later dB)
              have oC := Lib.hid (oA.out.later dB)
              replace dB := Lib.hid dB
              replace oB := Lib.hid oB
              go_wp2_with fail
              refine (CopyBytes_any _ M.header _ (by decide) (hC.out.later (Below.refl _ _))).mono ?_
              rintro e11 x11 ⟨v11, rfl, own11, b11⟩
              have c11 := Lib.hid b11
              replace own11 := Lib.hid own11
              clear b11
              go_wp2_with (first
                | (at_builtin; refine wpList_cat rfl _ _ rfl _ v11 (.slice (some ⟨wo.heap.size, 0, none⟩) 3 3) (M.header) (M.one id) rfl own11.out rfl (oC.out.later c11.out) (by simp [header_len, one_len]) c11.out.size ?_; intro v12 x12 own12 gr12; have c12 := Lib.hid (c11.out.grown gr12 c11.out.size (fun q hq => (own11.out.lt q hq).1)); replace own12 := Lib.hid own12; clear gr12)
                | (at_builtin; refine wpList_cat rfl _ _ rfl _ v12 (.slice (some ⟨wr.heap.size, 0, none⟩) 3 3) (M.header ++ M.one id) (M.one k) rfl own12.out rfl (oB.out.later c12.out) (by simp [header_len, one_len]) c12.out.size ?_; intro v13 x13 own13 gr13; have c13 := Lib.hid (c12.out.grown gr13 c12.out.size (fun q hq => (own12.out.lt q hq).1)); replace own13 := Lib.hid own13; clear gr13))
              refine (dec_none _ _ _ (own_BS own13.out (cat_lt (cat_lt header_lt o1.out) o2.out)) m1.out).mono ?_
              rintro e14 w14 ⟨rfl, b14⟩
              unfold mod0V
              have d14 := Lib.hid (c13.out.trans (b14.mono c13.out.size))
              clear b14 own11 own12 own13 c11 c12 c13
              go_wp2_with fail
              refine (CopyBytes_any _ M.header _ (by decide) (hC.out.later (d14.out.alloc d14.out.size _))).mono ?_
              rintro e15 x15 ⟨v15, rfl, own15, b15⟩
              have c15 := Lib.hid b15
              replace own15 := Lib.hid own15
              clear b15
              have d15 := Lib.hid ((d14.out.alloc d14.out.size _).trans (c15.out.mono (d14.out.alloc d14.out.size _).size))
              go_wp2_with (first
                | (at_builtin; refine wpList_cat rfl _ _ rfl _ v15 (.slice (some ⟨wr.heap.size, 0, none⟩) 3 3) (M.header) (M.one k) rfl own15.out rfl (oB.out.later d15.out) (by simp [header_len, one_len]) c15.out.size ?_; intro v16 x16 own16 gr16; have c16 := Lib.hid (c15.out.grown gr16 c15.out.size (fun q hq => (own15.out.lt q hq).1)); replace own16 := Lib.hid own16; clear gr16; have d16 := Lib.hid ((d14.out.alloc d14.out.size _).trans (c16.out.mono (d14.out.alloc d14.out.size _).size)))
                | (at_builtin; refine wpList_cat rfl _ _ rfl _ v16 (.slice (some ⟨wo.heap.size, 0, none⟩) 3 3) (M.header ++ M.one k) (M.one id) rfl own16.out rfl (oC.out.later d16.out) (by simp [header_len, one_len]) c16.out.size ?_; intro v17 x17 own17 gr17; have c17 := Lib.hid (c16.out.grown gr17 c16.out.size (fun q hq => (own16.out.lt q hq).1)); replace own17 := Lib.hid own17; clear gr17))
              refine (dec_some _ _ _ (own_BS own17.out (cat_lt (cat_lt header_lt o2.out) o1.out)) m2.out).mono ?_
              rintro e18 w18 ⟨s18, A0', n0', c0', A1', n1', c1', A2', n2', c2', A3', n3', c3', A4', n4', c4', A5', n5', c5', A6', n6', c6', A8', n8', c8', A9', n9', c9', rfl, b18⟩
              have d18 := Lib.hid (dB.out.trans (((d14.out.alloc d14.out.size _).trans ((c17.out.trans (b18.mono c17.out.size)).mono (d14.out.alloc d14.out.size _).size)).mono dB.out.size))
              clear b18 own15 own16 own17 c15 c16 c17 d15 d16 d14
              go_wp2_with (go_at_call 12; refine (num_any _ _).mono ?_; rintro e wn ⟨rfl, rfl⟩)
              refine ⟨⟨k + 1, by omega, by omega, by go_num, d18.out.alloc d18.out.size _⟩, by simp [intOf]; omega⟩
          · obtain rfl : k = id := by omega
            go_wp2_with fail
            refine ⟨⟨k + 1, by omega, by omega, by go_num, dA.out.trans (hbk.out.mono dA.out.size)⟩, by simp [intOf]; omega⟩)
    · obtain rfl : id = 12 := by omega
      go_wp2_with fail
      refine (CopyBytes_any _ M.header _ (by decide) (hB0.out.later hb.out)).mono ?_
      rintro e1 x1 ⟨v1, rfl, own1, b1⟩
      have c1 := Lib.hid b1
      replace own1 := Lib.hid own1
      clear b1
      go_wp2_with (at_builtin; refine wpList_cat rfl _ _ rfl _ v1 (.slice (some ⟨x1.heap.size, 0, none⟩) 4 4) (M.header) ([3, 2, 1, 0]) rfl (own1.out.alloc _) rfl (lit_BS _ _ _ 5 x1.heap.size 4 4 rfl (by decide) (heap_alloc_new x1 _) (by simp) rfl (by omega) (by unfold maxLen; omega)) (by simp [header_len, one_len]) (Nat.le_trans c1.out.size (by simp)) ?_; intro v2 x2 own2 gr2; have c2 := Lib.hid ((c1.out.alloc c1.out.size _).grown gr2 (Nat.le_trans c1.out.size (by simp)) (fun q hq => (own1.out.lt q hq).1)); replace own2 := Lib.hid own2; clear gr2)
      refine (dec_none _ _ _ (own_BS own2.out (by decide)) M.code_none).mono ?_
      rintro e3 w3 ⟨rfl, b3⟩
      unfold mod0V
      have d3 := Lib.hid (hb.out.trans ((c2.out.trans (b3.mono c2.out.size)).mono hb.out.size))
      clear b3 own1 own2 c1 c2
      go_wp2_with fail
      refine (CopyBytes_any _ M.header _ (by decide) (hB0.out.later (d3.out.alloc d3.out.size _))).mono ?_
      rintro e4 x4 ⟨v4, rfl, own4, b4⟩
      have c4 := Lib.hid b4
      replace own4 := Lib.hid own4
      clear b4
      go_wp2_with (at_builtin; refine wpList_cat rfl _ _ rfl _ v4 (.slice (some ⟨x4.heap.size, 0, none⟩) 3 3) (M.header) ([12, 1, 0]) rfl (own4.out.alloc _) rfl (lit_BS _ _ _ 5 x4.heap.size 3 3 rfl (by decide) (heap_alloc_new x4 _) (by simp) rfl (by omega) (by unfold maxLen; omega)) (by simp [header_len, one_len]) (Nat.le_trans c4.out.size (by simp)) ?_; intro v5 x5 own5 gr5; have c5 := Lib.hid ((c4.out.alloc c4.out.size _).grown gr5 (Nat.le_trans c4.out.size (by simp)) (fun q hq => (own4.out.lt q hq).1)); replace own5 := Lib.hid own5; clear gr5)
      refine (dec_none _ _ _ (own_BS own5.out (by decide)) M.id_none).mono ?_
      rintro e6 w6 ⟨rfl, b6⟩
      unfold mod0V
      have d6 := Lib.hid ((d3.out.alloc d3.out.size _).trans ((c5.out.trans (b6.mono c5.out.size)).mono (d3.out.alloc d3.out.size _).size))
      clear b6 own4 own5 c4 c5
      go_wp2_with (go_at_call 12; refine (num_any _ _).mono ?_; rintro e wn ⟨rfl, rfl⟩)
      refine (wakes_any _).mono ?_
      rintro e7 w7 ⟨rfl, b7⟩
      have d7 := Lib.hid (d0.out.trans (((d6.out.alloc d6.out.size _).trans (b7.mono (d6.out.alloc d6.out.size _).size)).mono d0.out.size))
      clear b7
      go_wp2_with fail
      go_ret
      exact ⟨rfl, d7.out⟩
end Go.Proofs.YtmejgbbdehndaaaGreat
