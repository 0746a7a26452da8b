/-
  The law on numbers read back, walked: for every list of questions it returns true and writes nothing that was there; conditions: the list lies in memory as 'Asks' says, each question's bytes are as few as 'Small' says.
-/
import Derived.Test.YtflchcdafcoenaaReach
import Derived.Test.YtflchcdafcoenaaMore
namespace Go.Proofs.Ytflchcdafcoenaa
open Go.RowKit
theorem ask_cells {wr W : World} {x0 x1 x2 x3 : Value} (hb : Below (wr.heap.size + 1) (wr.alloc (.cells #[x0, x1, x2, x3] 26)) W) :
    W.cell? ⟨wr.heap.size, 0, none⟩ = some x0 ∧ W.cell? ⟨wr.heap.size, 2, none⟩ = some x2 ∧ W.cell? ⟨wr.heap.size, 3, none⟩ = some x3 := by
  refine ⟨?_, ?_, ?_⟩
  · rw [hb.cell (p := ⟨wr.heap.size, 0, none⟩) (by simp)]; simp
  · rw [hb.cell (p := ⟨wr.heap.size, 2, none⟩) (by simp)]; simp
  · rw [hb.cell (p := ⟨wr.heap.size, 3, none⟩) (by simp)]; simp
theorem firsts_lt {w : World} {B : Nat} {A : Option Addr} {m : Nat} {f : Nat → Nat} (h : Bytes w B A m f) : ∀ b ∈ firsts f m, b < 256 := by
  intro b hb
  simp only [firsts, List.mem_map, List.mem_range] at hb
  obtain ⟨i, hi, rfl⟩ := hb
  obtain ⟨_, _, _, h3, _⟩ := h i hi
  exact h3
theorem cell_one_set (w : World) (p : Addr) (y x : Value) (t : TypeId) : ∀ j u, [x][j]? = some u → ((w.setCell p y).alloc (.cells #[x] t)).cell? ((⟨w.heap.size, 0, none⟩ : Addr).add j) = some u := by
  have h := cell_one_new (w.setCell p y) x t
  have e : (w.setCell p y).heap.size = w.heap.size := by simp [World.setCell]
  rw [e] at h
  exact h
theorem goOn_stored {w : World} {base g cap : Nat} {bs : List Nat} (h : w.ownsRow base 5 1 (.slice (some ⟨g, 0, none⟩) bs.length cap) bs.length (vals bs)) (hx : bs.getD (bs.length - 1) 0 < 128) :
    (w.setCell ⟨g, bs.length - 1, none⟩ (.int .u8 (bits .or .u8 ((bs.getD (bs.length - 1) 0 : Nat) : Int) 128))).ownsRow base 5 1 (.slice (some ⟨g, 0, none⟩) bs.length cap) bs.length (vals (goOn bs)) := by
  have := (h.stored (bs.length - 1) (.int .u8 (bits .or .u8 ((bs.getD (bs.length - 1) 0 : Nat) : Int) 128))).1
  rw [M.or128 _ hx] at this ⊢
  unfold goOn vals
  rw [List.map_set]
  exact this
theorem own_form {w : World} {base e size n : Nat} {v : Value} {xs : List Value} (h : w.ownsRow base e size v n xs) (hn : 0 < n) : ∃ g cap, v = .slice (some ⟨g, 0, none⟩) n cap ∧ n ≤ cap ∧ cap ≤ maxLen ∧ base ≤ g := by
  rcases h.2 with ⟨_, h0⟩ | ⟨g, cap, cur, hv, hb, _, h1, h2, _⟩
  · omega
  · exact ⟨g, cap, hv, h1, h2, hb⟩
set_option maxRecDepth 100000 in
set_option maxHeartbeats 4000000 in
theorem LebBack_walk (A : Option Addr) (n c : Nat) (w : World) (h : Asks w A n) (hsm : Small w A n) :
    Calls Try.prog 6 #[.slice A n c] w fun e w' => e = .returned (.bool true) ∧ Below w.heap.size w w' := by
  obtain ⟨i0, hi0, hy0, hy1, hy2⟩ := info_parts u8_info
  obtain ⟨hn, h⟩ := h
  unfold maxLen at hn
  have h := Lib.hid h
  have hsm := Lib.hid hsm
  go_enter Try.func6, Try.ntmps6
  go_wp2
  go_loopw [3] (fun i w' => ∃ k : Nat, k ≤ n ∧ i = .int .i64 k ∧ Below w.heap.size w w') (fun i _ => n - (intOf i).toNat)
  case atStart => exact ⟨0, by omega, rfl, Below.refl _ _⟩
  case round =>
    obtain ⟨k, hk, rfl, hbw⟩ := hrel
    by_cases hlt : k < n
    · obtain ⟨g, o, B, l, cB, f, b, u, s, rfl, hl, q0, q1, q2, q3, hB, hlm, hb, hu, hs⟩ := h.out k hlt
      have hls : l ≤ 140737488351232 := hsm.out k g o B l cB hlt rfl q0
      have t0 : (0 : Int) ≤ (k : Int) := by omega
      have t1 : (k : Int) < (n : Int) := by omega
      have p0 : wr.cell? ⟨g, o + k * 4, none⟩ = some (.slice B l cB) := by rw [hbw.cell (by exact hl)]; exact q0
      have p1 : wr.cell? ⟨g, o + k * 4 + 1, none⟩ = some (.int .i64 b) := by rw [hbw.cell (by exact hl)]; exact q1
      have p2 : wr.cell? ⟨g, o + k * 4 + 2, none⟩ = some (.int .u64 u) := by rw [hbw.cell (by exact hl)]; exact q2
      have p3 : wr.cell? ⟨g, o + k * 4 + 3, none⟩ = some (.int .i64 s) := by rw [hbw.cell (by exact hl)]; exact q3
      have HB := Lib.hid (hB.later (hbw.alloc hbw.size (.cells #[.slice B l cB, .int .i64 b, .int .u64 u, .int .i64 s] 26)))
      have hlU := M.putU_length 10 u
      have hlS := M.putS_length 10 s
      clear q0 q1 q2 q3 hB
      by_cases h30 : k < 30
      · go_wp2_with fail
        refine (PutUint_any u _ hu).mono ?_
        rintro e w1 ⟨v1, rfl, o1, b1⟩
        have d1 : Below (wr.heap.size + 1) (wr.alloc (.cells #[.slice B l cB, .int .i64 b, .int .u64 u, .int .i64 s] 26)) w1 := by simpa using b1
        obtain ⟨ga, ca, rfl, hca, hca2, _⟩ := own_form o1 (by omega)
        unfold maxLen at hca2
        obtain ⟨z0, z2, z3⟩ := ask_cells d1
        have HB1 := Lib.hid (HB.out.later b1)
        have O1 := Lib.hid o1
        have hz1 : wr.heap.size < w1.heap.size := by have := d1.size; simp at this; omega
        clear b1 o1
        go_wp2_with fail
        go_region_held3 (fun w' => w'.cell? ⟨wr.heap.size, 0, none⟩ = some (.slice B l cB))
          (first | exact z0 | exact (ask_cells d2).1 | exact (ask_cells d3).1 | exact (ask_cells d4).1)
          (first
            | (go_at_call 20; (with_reducible refine (CopyBytes_owned O1.out.drew (M.putU_lt 10 u) (by omega)).mono ?_); rintro e w2 ⟨v2, rfl, o2, b2'⟩; have b2 : Below w1.heap.size w1 w2 := ((Below.refl w1.heap.size w1).drew).trans b2'; have d2 := d1.trans (b2.mono hz1))
            | (go_at_call 9; (with_reducible refine (UintC_yes u (firsts f l) o3 (firsts_lt HB1.out) (by rw [firsts_length]; omega) hu).mono ?_); rintro e w4 ⟨rfl, b4⟩; have d4 := d3.trans (b4.mono (Nat.le_trans hz1 e3.size)))
            | (refine step_cat (w := w2) rfl _ _ rfl w1.heap.size v2 (M.putU 10 u) (by rfl) o2 B l cB f (by rfl) (HB1.out.later b2) (by omega) b2.size ?_; intro v3 w3 o3 g3; have e3 : Below w1.heap.size w1 w3 := b2.grown g3 b2.size (fun q hq => (o2.lt q hq).1); have d3 := d1.trans (e3.mono hz1)))
        have e4 : Below w1.heap.size w1 w4 := e3.trans (b4.mono e3.size)
        have O1 := Lib.hid (own_later O1.out e4)
        obtain ⟨z0, z2, z3⟩ := ask_cells d4
        have HB4 := Lib.hid (HB1.out.later e4)
        have hz4 : wr.heap.size + 1 ≤ w4.heap.size := Nat.le_trans hz1 e4.size
        have hU10 := M.putU_groups u 64 (by omega) (by simpa using hu)
        have hS10 := M.putS_groups s 64 (by omega) (by simpa using hs)
        have e1 : ((u : Int) != (u : Int)) = false := by simp
        have e2 : (((M.putU 10 u).length : Int) != ((M.putU 10 u).length : Int)) = false := by simp
        have e5 : (s != s) = false := by simp
        have e6 : (((M.putS 10 s).length : Int) != ((M.putS 10 s).length : Int)) = false := by simp
        clear d1 d2 d3 b2 b4 o2 o3 g3 e3 e4 HB1 hz1
        go_wp2_with fail
        refine (num_any _ _).mono ?_
        rintro e w4' ⟨rfl, rfl⟩
        go_wp2_with fail
        refine (PutSint_any s _ hs).mono ?_
        rintro e w5 ⟨v5, rfl, o5, b5⟩
        obtain ⟨gb, cb, rfl, hcb, hcb2, _⟩ := own_form o5 (by omega)
        unfold maxLen at hcb2
        have d5 := d4.trans (b5.mono hz4)
        have O1 := Lib.hid (own_later O1.out b5)
        have O5 := Lib.hid o5
        obtain ⟨z0, z2, z3⟩ := ask_cells d5
        have HB5 := Lib.hid (HB4.out.later b5)
        have hz5 : wr.heap.size + 1 ≤ w5.heap.size := Nat.le_trans hz4 b5.size
        clear d4 b5 o5 HB4 hz4
        go_wp2_with fail
        go_region_held3 (fun w' => w'.cell? ⟨wr.heap.size, 0, none⟩ = some (.slice B l cB))
          (first | exact z0 | exact (ask_cells d6).1 | exact (ask_cells d7).1 | exact (ask_cells d8).1)
          (first
            | (go_at_call 20; (with_reducible refine (CopyBytes_owned O5.out.drew (M.putS_lt 10 s) (by omega)).mono ?_); rintro e w6 ⟨v6, rfl, o6, b6'⟩; have b6 : Below w5.heap.size w5 w6 := ((Below.refl w5.heap.size w5).drew).trans b6'; have d6 := d5.trans (b6.mono hz5))
            | (go_at_call 13; (with_reducible refine (SintC_yes s (firsts f l) o7 (firsts_lt HB5.out) (by rw [firsts_length]; omega) hs).mono ?_); rintro e w8 ⟨rfl, b8⟩; have d8 := d7.trans (b8.mono (Nat.le_trans hz5 e7.size)))
            | (refine step_cat (w := w6) rfl _ _ rfl w5.heap.size v6 (M.putS 10 s) (by rfl) o6 B l cB f (by rfl) (HB5.out.later b6) (by omega) b6.size ?_; intro v7 w7 o7 g7; have e7 : Below w5.heap.size w5 w7 := b6.grown g7 b6.size (fun q hq => (o6.lt q hq).1); have d7 := d5.trans (e7.mono hz5)))
        have e8 : Below w5.heap.size w5 w8 := e7.trans (b8.mono e7.size)
        have O1 := Lib.hid (own_later O1.out e8)
        have O5 := Lib.hid (own_later O5.out e8)
        obtain ⟨z0, z2, z3⟩ := ask_cells d8
        have hz8 : wr.heap.size + 1 ≤ w8.heap.size := Nat.le_trans hz5 e8.size
        clear d5 d6 d7 b6 b8 o6 o7 g7 e7 e8 HB5 hz5
        go_wp2_with fail
        refine (num_any _ _).mono ?_
        rintro e w8' ⟨rfl, rfl⟩
        go_wp2_with fail
        refine (UintL_no u ga ca O1.out hu).mono ?_
        rintro e w9 ⟨rfl, b9⟩
        have d9 := d8.trans (b9.mono hz8)
        have O1 := Lib.hid (own_later O1.out b9)
        have O5 := Lib.hid (own_later O5.out b9)
        have hz9 : wr.heap.size + 1 ≤ w9.heap.size := Nat.le_trans hz8 b9.size
        clear d8 b9 hz8 z0 z2 z3
        go_wp2_with fail
        refine (SintL_no s gb cb O5.out hs).mono ?_
        rintro e w10 ⟨rfl, b10⟩
        have d10 := d9.trans (b10.mono hz9)
        have O1 := Lib.hid (own_later O1.out b10)
        have O5 := Lib.hid (own_later O5.out b10)
        have hz10 : wr.heap.size + 1 ≤ w10.heap.size := Nat.le_trans hz9 b10.size
        obtain ⟨z0, z2, z3⟩ := ask_cells d10
        clear d9 b10 hz9
        go_wp2_with fail
        refine (num_any _ _).mono ?_
        rintro e w10' ⟨rfl, rfl⟩
        go_wp2_with fail
        refine (num_any _ _).mono ?_
        rintro e w10' ⟨rfl, rfl⟩
        by_cases hUl : (M.putU 10 u).length < 10
        · go_wp2_with fail
          refine (CopyBytes_owned O1.out (M.putU_lt 10 u) (by omega)).mono ?_
          rintro e waA ⟨vaA, rfl, oaA, baA⟩
          obtain ⟨gcA, ccA, rfl, hccA, hcdA, hgcA⟩ := own_form oaA (by omega)
          unfold maxLen at hcdA
          have x1A := oaA.cellAt ((M.putU 10 u).length - 1) (by omega)
          rw [getD_vals _ _ (by omega)] at x1A
          have x2A := oaA.frozenAt ((M.putU 10 u).length - 1)
          have ohA := Lib.hid (goOn_stored oaA (by have := M.putU_flags10 u hu ((M.putU 10 u).length - 1) (by omega); omega))
          generalize (M.putU 10 u).getD ((M.putU 10 u).length - 1) 0 = xA at *
          clear oaA
          go_wp2_with (first
            | (at_builtin; refine wpList_append_own _ rfl _ _ 23 rfl w10.heap.size 5 i0 (.int .u8 0) 1 1 Try.underlying23 hi0 hy0 hy1 hy2 rfl (by decide) (.slice (some ⟨gcA, 0, none⟩) (M.putU 10 u).length ccA) (M.putU 10 u).length (vals (goOn (M.putU 10 u))) rfl (ohA.out.alloc _) ⟨_, 0, none⟩ 1 1 [_] rfl rfl (cell_one_set _ _ _ _ _) (fun x hx => by simp at hx; subst hx; rfl) (by unfold maxLen; omega) (by omega) (by have := baA.size; simp; omega) ?_; intro vA wbA obA hgrowA hnilA)
            | fail)
          have hownA : wbA.ownsRow w10.heap.size 5 1 vA (goOn (M.putU 10 u) ++ [0]).length (vals (goOn (M.putU 10 u) ++ [0])) := by
            rw [vals_append, List.length_append, goOn_length]; exact obA
          have ebA : Below w10.heap.size w10 wbA := ((baA.setCell (p := ⟨gcA, _, none⟩) hgcA _).alloc (by have := baA.size; simp; omega) _).grown hgrowA (by have := baA.size; simp; omega) (fun q hq => by simp [Value.ownBlock] at hq; omega)
          refine (UintM_yes u vA hownA hu hUl).mono ?_
          rintro e wcA ⟨rfl, bcA⟩
          have ecA : Below w10.heap.size w10 wcA := ebA.trans (bcA.mono ebA.size)
          have O1 := Lib.hid (own_later O1.out ecA)
          have O5 := Lib.hid (own_later O5.out ecA)
          have dcA := d10.trans (ecA.mono hz10)
          have hzcA : wr.heap.size + 1 ≤ wcA.heap.size := Nat.le_trans hz10 ecA.size
          obtain ⟨z0, z2, z3⟩ := ask_cells dcA
          have e7A : ((((M.putU 10 u).length + 1 : Nat) : Int) != ((M.putU 10 u).length : Int) + 1) = false := by simp
          clear x1A x2A ohA obA hownA ebA bcA ecA baA
          go_wp2_with fail
          refine (num_any _ _).mono ?_
          rintro e wdA ⟨rfl, rfl⟩
          by_cases hSl : (M.putS 10 s).length < 10
          · by_cases hneg : s < 0
            · go_wp2_with fail
              refine (CopyBytes_owned O5.out (M.putS_lt 10 s) (by omega)).mono ?_
              rintro e waB ⟨vaB, rfl, oaB, baB⟩
              obtain ⟨gcB, ccB, rfl, hccB, hcdB, hgcB⟩ := own_form oaB (by omega)
              have z3B := (ask_cells (dcA.trans (baB.mono hzcA))).2.2
              have hgB : wr.heap.size < gcB := by have := hzcA; omega
              unfold maxLen at hcdB
              have x1B := oaB.cellAt ((M.putS 10 s).length - 1) (by omega)
              rw [getD_vals _ _ (by omega)] at x1B
              have x2B := oaB.frozenAt ((M.putS 10 s).length - 1)
              have ohB := Lib.hid (goOn_stored oaB (by have := M.putS_flags10 s hs ((M.putS 10 s).length - 1) (by omega); omega))
              generalize (M.putS 10 s).getD ((M.putS 10 s).length - 1) 0 = xB at *
              clear oaB
              go_wp2_with (first
                | (at_builtin; refine wpList_append_own _ rfl _ _ 23 rfl wcA.heap.size 5 i0 (.int .u8 0) 1 1 Try.underlying23 hi0 hy0 hy1 hy2 rfl (by decide) (.slice (some ⟨gcB, 0, none⟩) (M.putS 10 s).length ccB) (M.putS 10 s).length (vals (goOn (M.putS 10 s))) rfl (ohB.out.alloc _) ⟨_, 0, none⟩ 1 1 [_] rfl rfl (cell_one_set _ _ _ _ _) (fun x hx => by simp at hx; subst hx; rfl) (by unfold maxLen; omega) (by omega) (by have := baB.size; simp; omega) ?_; intro vB wbB obB hgrowB hnilB)
                | fail)
              have hownB : wbB.ownsRow wcA.heap.size 5 1 vB (goOn (M.putS 10 s) ++ [127]).length (vals (goOn (M.putS 10 s) ++ [127])) := by
                rw [vals_append, List.length_append, goOn_length]; exact obB
              have ebB : Below wcA.heap.size wcA wbB := ((baB.setCell (p := ⟨gcB, _, none⟩) hgcB _).alloc (by have := baB.size; simp; omega) _).grown hgrowB (by have := baB.size; simp; omega) (fun q hq => by simp [Value.ownBlock] at hq; omega)
              refine (SintM_yes s 127 vB hownB hs hSl (by omega)).mono ?_
              rintro e wcB ⟨rfl, bcB⟩
              have ecB : Below wcA.heap.size wcA wcB := ebB.trans (bcB.mono ebB.size)
              have O1 := Lib.hid (own_later O1.out ecB)
              have O5 := Lib.hid (own_later O5.out ecB)
              have dcB := dcA.trans (ecB.mono hzcA)
              have hzcB : wr.heap.size + 1 ≤ wcB.heap.size := Nat.le_trans hzcA ecB.size
              obtain ⟨z0, z2, z3⟩ := ask_cells dcB
              have e7B : ((((M.putS 10 s).length + 1 : Nat) : Int) != ((M.putS 10 s).length : Int) + 1) = false := by simp
              clear x1B x2B ohB obB hownB ebB bcB ecB baB
              go_wp2_with fail
              refine (num_any _ _).mono ?_
              rintro e wdB ⟨rfl, rfl⟩

              go_wp2_with fail
              exact ⟨⟨k + 1, by omega, by go_num, ((hbw.alloc hbw.size _).trans (dcB.mono (by have := hbw.size; omega)))⟩, by simp [intOf]; omega⟩
            · go_wp2_with fail
              refine (CopyBytes_owned O5.out (M.putS_lt 10 s) (by omega)).mono ?_
              rintro e waB ⟨vaB, rfl, oaB, baB⟩
              obtain ⟨gcB, ccB, rfl, hccB, hcdB, hgcB⟩ := own_form oaB (by omega)
              have z3B := (ask_cells (dcA.trans (baB.mono hzcA))).2.2
              have hgB : wr.heap.size < gcB := by have := hzcA; omega
              unfold maxLen at hcdB
              have x1B := oaB.cellAt ((M.putS 10 s).length - 1) (by omega)
              rw [getD_vals _ _ (by omega)] at x1B
              have x2B := oaB.frozenAt ((M.putS 10 s).length - 1)
              have ohB := Lib.hid (goOn_stored oaB (by have := M.putS_flags10 s hs ((M.putS 10 s).length - 1) (by omega); omega))
              generalize (M.putS 10 s).getD ((M.putS 10 s).length - 1) 0 = xB at *
              clear oaB
              go_wp2_with (first
                | (at_builtin; refine wpList_append_own _ rfl _ _ 23 rfl wcA.heap.size 5 i0 (.int .u8 0) 1 1 Try.underlying23 hi0 hy0 hy1 hy2 rfl (by decide) (.slice (some ⟨gcB, 0, none⟩) (M.putS 10 s).length ccB) (M.putS 10 s).length (vals (goOn (M.putS 10 s))) rfl (ohB.out.alloc _) ⟨_, 0, none⟩ 1 1 [_] rfl rfl (cell_one_set _ _ _ _ _) (fun x hx => by simp at hx; subst hx; rfl) (by unfold maxLen; omega) (by omega) (by have := baB.size; simp; omega) ?_; intro vB wbB obB hgrowB hnilB)
                | fail)
              have hownB : wbB.ownsRow wcA.heap.size 5 1 vB (goOn (M.putS 10 s) ++ [0]).length (vals (goOn (M.putS 10 s) ++ [0])) := by
                rw [vals_append, List.length_append, goOn_length]; exact obB
              have ebB : Below wcA.heap.size wcA wbB := ((baB.setCell (p := ⟨gcB, _, none⟩) hgcB _).alloc (by have := baB.size; simp; omega) _).grown hgrowB (by have := baB.size; simp; omega) (fun q hq => by simp [Value.ownBlock] at hq; omega)
              refine (SintM_yes s 0 vB hownB hs hSl (by omega)).mono ?_
              rintro e wcB ⟨rfl, bcB⟩
              have ecB : Below wcA.heap.size wcA wcB := ebB.trans (bcB.mono ebB.size)
              have O1 := Lib.hid (own_later O1.out ecB)
              have O5 := Lib.hid (own_later O5.out ecB)
              have dcB := dcA.trans (ecB.mono hzcA)
              have hzcB : wr.heap.size + 1 ≤ wcB.heap.size := Nat.le_trans hzcA ecB.size
              obtain ⟨z0, z2, z3⟩ := ask_cells dcB
              have e7B : ((((M.putS 10 s).length + 1 : Nat) : Int) != ((M.putS 10 s).length : Int) + 1) = false := by simp
              clear x1B x2B ohB obB hownB ebB bcB ecB baB
              go_wp2_with fail
              refine (num_any _ _).mono ?_
              rintro e wdB ⟨rfl, rfl⟩

              go_wp2_with fail
              exact ⟨⟨k + 1, by omega, by go_num, ((hbw.alloc hbw.size _).trans (dcB.mono (by have := hbw.size; omega)))⟩, by simp [intOf]; omega⟩
          · go_wp2_with fail
            exact ⟨⟨k + 1, by omega, by go_num, ((hbw.alloc hbw.size _).trans (dcA.mono (by have := hbw.size; omega)))⟩, by simp [intOf]; omega⟩
        · by_cases hSl : (M.putS 10 s).length < 10
          · by_cases hneg : s < 0
            · go_wp2_with fail
              refine (CopyBytes_owned O5.out (M.putS_lt 10 s) (by omega)).mono ?_
              rintro e waB ⟨vaB, rfl, oaB, baB⟩
              obtain ⟨gcB, ccB, rfl, hccB, hcdB, hgcB⟩ := own_form oaB (by omega)
              have z3B := (ask_cells (d10.trans (baB.mono hz10))).2.2
              have hgB : wr.heap.size < gcB := by have := hz10; omega
              unfold maxLen at hcdB
              have x1B := oaB.cellAt ((M.putS 10 s).length - 1) (by omega)
              rw [getD_vals _ _ (by omega)] at x1B
              have x2B := oaB.frozenAt ((M.putS 10 s).length - 1)
              have ohB := Lib.hid (goOn_stored oaB (by have := M.putS_flags10 s hs ((M.putS 10 s).length - 1) (by omega); omega))
              generalize (M.putS 10 s).getD ((M.putS 10 s).length - 1) 0 = xB at *
              clear oaB
              go_wp2_with (first
                | (at_builtin; refine wpList_append_own _ rfl _ _ 23 rfl w10.heap.size 5 i0 (.int .u8 0) 1 1 Try.underlying23 hi0 hy0 hy1 hy2 rfl (by decide) (.slice (some ⟨gcB, 0, none⟩) (M.putS 10 s).length ccB) (M.putS 10 s).length (vals (goOn (M.putS 10 s))) rfl (ohB.out.alloc _) ⟨_, 0, none⟩ 1 1 [_] rfl rfl (cell_one_set _ _ _ _ _) (fun x hx => by simp at hx; subst hx; rfl) (by unfold maxLen; omega) (by omega) (by have := baB.size; simp; omega) ?_; intro vB wbB obB hgrowB hnilB)
                | fail)
              have hownB : wbB.ownsRow w10.heap.size 5 1 vB (goOn (M.putS 10 s) ++ [127]).length (vals (goOn (M.putS 10 s) ++ [127])) := by
                rw [vals_append, List.length_append, goOn_length]; exact obB
              have ebB : Below w10.heap.size w10 wbB := ((baB.setCell (p := ⟨gcB, _, none⟩) hgcB _).alloc (by have := baB.size; simp; omega) _).grown hgrowB (by have := baB.size; simp; omega) (fun q hq => by simp [Value.ownBlock] at hq; omega)
              refine (SintM_yes s 127 vB hownB hs hSl (by omega)).mono ?_
              rintro e wcB ⟨rfl, bcB⟩
              have ecB : Below w10.heap.size w10 wcB := ebB.trans (bcB.mono ebB.size)
              have O1 := Lib.hid (own_later O1.out ecB)
              have O5 := Lib.hid (own_later O5.out ecB)
              have dcB := d10.trans (ecB.mono hz10)
              have hzcB : wr.heap.size + 1 ≤ wcB.heap.size := Nat.le_trans hz10 ecB.size
              obtain ⟨z0, z2, z3⟩ := ask_cells dcB
              have e7B : ((((M.putS 10 s).length + 1 : Nat) : Int) != ((M.putS 10 s).length : Int) + 1) = false := by simp
              clear x1B x2B ohB obB hownB ebB bcB ecB baB
              go_wp2_with fail
              refine (num_any _ _).mono ?_
              rintro e wdB ⟨rfl, rfl⟩

              go_wp2_with fail
              exact ⟨⟨k + 1, by omega, by go_num, ((hbw.alloc hbw.size _).trans (dcB.mono (by have := hbw.size; omega)))⟩, by simp [intOf]; omega⟩
            · go_wp2_with fail
              refine (CopyBytes_owned O5.out (M.putS_lt 10 s) (by omega)).mono ?_
              rintro e waB ⟨vaB, rfl, oaB, baB⟩
              obtain ⟨gcB, ccB, rfl, hccB, hcdB, hgcB⟩ := own_form oaB (by omega)
              have z3B := (ask_cells (d10.trans (baB.mono hz10))).2.2
              have hgB : wr.heap.size < gcB := by have := hz10; omega
              unfold maxLen at hcdB
              have x1B := oaB.cellAt ((M.putS 10 s).length - 1) (by omega)
              rw [getD_vals _ _ (by omega)] at x1B
              have x2B := oaB.frozenAt ((M.putS 10 s).length - 1)
              have ohB := Lib.hid (goOn_stored oaB (by have := M.putS_flags10 s hs ((M.putS 10 s).length - 1) (by omega); omega))
              generalize (M.putS 10 s).getD ((M.putS 10 s).length - 1) 0 = xB at *
              clear oaB
              go_wp2_with (first
                | (at_builtin; refine wpList_append_own _ rfl _ _ 23 rfl w10.heap.size 5 i0 (.int .u8 0) 1 1 Try.underlying23 hi0 hy0 hy1 hy2 rfl (by decide) (.slice (some ⟨gcB, 0, none⟩) (M.putS 10 s).length ccB) (M.putS 10 s).length (vals (goOn (M.putS 10 s))) rfl (ohB.out.alloc _) ⟨_, 0, none⟩ 1 1 [_] rfl rfl (cell_one_set _ _ _ _ _) (fun x hx => by simp at hx; subst hx; rfl) (by unfold maxLen; omega) (by omega) (by have := baB.size; simp; omega) ?_; intro vB wbB obB hgrowB hnilB)
                | fail)
              have hownB : wbB.ownsRow w10.heap.size 5 1 vB (goOn (M.putS 10 s) ++ [0]).length (vals (goOn (M.putS 10 s) ++ [0])) := by
                rw [vals_append, List.length_append, goOn_length]; exact obB
              have ebB : Below w10.heap.size w10 wbB := ((baB.setCell (p := ⟨gcB, _, none⟩) hgcB _).alloc (by have := baB.size; simp; omega) _).grown hgrowB (by have := baB.size; simp; omega) (fun q hq => by simp [Value.ownBlock] at hq; omega)
              refine (SintM_yes s 0 vB hownB hs hSl (by omega)).mono ?_
              rintro e wcB ⟨rfl, bcB⟩
              have ecB : Below w10.heap.size w10 wcB := ebB.trans (bcB.mono ebB.size)
              have O1 := Lib.hid (own_later O1.out ecB)
              have O5 := Lib.hid (own_later O5.out ecB)
              have dcB := d10.trans (ecB.mono hz10)
              have hzcB : wr.heap.size + 1 ≤ wcB.heap.size := Nat.le_trans hz10 ecB.size
              obtain ⟨z0, z2, z3⟩ := ask_cells dcB
              have e7B : ((((M.putS 10 s).length + 1 : Nat) : Int) != ((M.putS 10 s).length : Int) + 1) = false := by simp
              clear x1B x2B ohB obB hownB ebB bcB ecB baB
              go_wp2_with fail
              refine (num_any _ _).mono ?_
              rintro e wdB ⟨rfl, rfl⟩

              go_wp2_with fail
              exact ⟨⟨k + 1, by omega, by go_num, ((hbw.alloc hbw.size _).trans (dcB.mono (by have := hbw.size; omega)))⟩, by simp [intOf]; omega⟩
          · go_wp2_with fail
            exact ⟨⟨k + 1, by omega, by go_num, ((hbw.alloc hbw.size _).trans (d10.mono (by have := hbw.size; omega)))⟩, by simp [intOf]; omega⟩
      · go_wp2_with fail
        refine (wakes_any _).mono ?_
        rintro e w7 ⟨rfl, hb7⟩
        go_wp2
        go_ret
        exact ⟨rfl, hbw.trans (hb7.mono hbw.size)⟩
    · go_wp2_with fail
      refine (wakes_any _).mono ?_
      rintro e w7 ⟨rfl, hb7⟩
      go_wp2
      go_ret
      exact ⟨rfl, hbw.trans (hb7.mono hbw.size)⟩
end Go.Proofs.Ytflchcdafcoenaa
