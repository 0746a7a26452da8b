/-
  The law on single bytes and points, walked: for every list of questions it returns true and writes nothing that was there; condition: the list lies in memory as 'Asks' says.
-/
import Derived.Test.YtlppgaaepllbiaaCom
import Derived.Test.YtlppgaaepllbiaaMathB
namespace Go.Proofs.Ytlppgaaepllbiaa
open Go.RowKit
theorem one_IS (z : Int) (w : World) (hz : -2147483648 ≤ z ∧ z ≤ 2147483647) : IS (w.alloc (.cells #[.int .i32 z] 21)) (w.alloc (.cells #[.int .i32 z] 21)).heap.size (.slice (some ⟨w.heap.size, 0, none⟩) 1 1) [z] := by
  refine ⟨some ⟨w.heap.size, 0, none⟩, 1, rfl, by simp, by unfold maxLen; omega, fun i hi => ?_⟩
  simp at hi
  subst hi
  exact ⟨_, rfl, by simp, by simpa using hz, by simp [Addr.add]⟩
theorem one_BS (b : Nat) (w : World) (hb : b < 256) : BS (w.alloc (.cells #[.int .u8 (b : Int)] 5)) (w.alloc (.cells #[.int .u8 (b : Int)] 5)).heap.size (.slice (some ⟨w.heap.size, 0, none⟩) 1 1) [b] := by
  refine ⟨some ⟨w.heap.size, 0, none⟩, 1, rfl, by simp, by unfold maxLen; omega, fun i hi => ?_⟩
  simp at hi
  subst hi
  exact ⟨_, rfl, by simp, by simpa using hb, by simp [Addr.add]⟩
theorem tail_range {p j y : Nat} (h : M.IsP p) (hj : 1 ≤ j) (hw : j < M.wid p) (hy : y = (M.enc p).getD j 0) : 128 ≤ y ∧ y < 192 := by
  have k := M.head_kind (M.head_self h)
  obtain ⟨⟨_, ht, _⟩, _⟩ := M.take_of_head k (M.head_self h)
  have := ht j hj hw
  simp only at this
  rw [← hy] at this
  omega
theorem xor_tab : ∀ y : Fin 256, 128 ≤ y.val → y.val ^^^ 128 = y.val - 128 := by decide +kernel
theorem xor128 (y : Nat) (h1 : 128 ≤ y) (h2 : y < 192) : bits .xor .u8 (y : Int) 128 = ((y - 128 : Nat) : Int) := by
  rw [show (128 : Int) = ((128 : Nat) : Int) from rfl, u8_xor_nat _ _ (by omega) (by omega)]
  have := xor_tab ⟨y, by omega⟩ h1
  simp only at this
  rw [this]
theorem turned_own {w : World} {base g cap jj y : Nat} {bs : List Nat} (h : w.ownsRow base 5 1 (.slice (some ⟨g, 0, none⟩) bs.length cap) bs.length (vals bs)) :
    (w.setCell ⟨g, jj, none⟩ (.int .u8 ((y : Nat) : Int))).ownsRow base 5 1 (.slice (some ⟨g, 0, none⟩) (bs.set jj y).length cap) (bs.set jj y).length (vals (bs.set jj y)) := by
  have := (h.stored jj (.int .u8 ((y : Nat) : Int))).1
  unfold vals
  rw [List.map_set, List.length_set]
  exact this
set_option maxRecDepth 100000 in
set_option maxHeartbeats 4000000 in
theorem UtfOnes_walk (A : Option Addr) (n c : Nat) (w : World) (h : Asks w A n) :
    Calls Try.prog 6 #[.slice A n c] w fun e w' => e = .returned (.bool true) ∧ Below w.heap.size w w' := by
  obtain ⟨hn, h⟩ := h
  unfold maxLen at hn
  replace h := Lib.hid h
  go_enter Try.func6, Try.ntmps6
  go_wp2
  go_loopw [3] (fun i w' => ∃ b : Nat, b ≤ 256 ∧ i = .int .i64 b ∧ Below w.heap.size w w') (fun i _ => 256 - (intOf i).toNat)
  case atStart => exact ⟨0, by omega, rfl, Below.refl _ _⟩
  case round =>
    obtain ⟨b, hb, rfl, hbw⟩ := hrel
    by_cases hlt : b < 256
    · by_cases h128 : b < 128
      · have tb : decide ((b : Int) < 128) = true := by simp; omega
        go_wp2_with fail
        refine (Check_yes _ [b] [b] _ (one_BS b _ hlt) (M.text_one h128)).mono ?_
        rintro e w1 ⟨rfl, b1⟩
        have d1 := Lib.hid ((hbw.alloc hbw.size _).trans (b1.mono (by have := hbw.size; simp; omega)))
        clear b1
        go_wp2_with fail
        refine (num_any _ _).mono ?_
        rintro e wx ⟨rfl, rfl⟩
        go_wp2
        exact ⟨⟨b + 1, by omega, by go_num, d1.out⟩, by simp [intOf]; omega⟩
      · have tb : decide ((b : Int) < 128) = false := by simp; omega
        go_wp2_with fail
        refine (Check_no _ [b] _ (one_BS b _ hlt) (M.text_one_no h128)).mono ?_
        rintro e w1 ⟨rfl, b1⟩
        have d1 := Lib.hid ((hbw.alloc hbw.size _).trans (b1.mono (by have := hbw.size; simp; omega)))
        clear b1
        go_wp2_with fail
        refine (num_any _ _).mono ?_
        rintro e wx ⟨rfl, rfl⟩
        go_wp2
        exact ⟨⟨b + 1, by omega, by go_num, d1.out⟩, by simp [intOf]; omega⟩
    · obtain ⟨w0, hw0⟩ : ∃ w0, w0 = wr := ⟨_, rfl⟩
      rw [← hw0] at hbw ⊢
      clear hw0
      go_wp2
      go_loopw [4] (fun i w' => ∃ k : Nat, k ≤ n ∧ i = .int .i64 k ∧ Below w.heap.size w w') (fun i _ => n - (intOf i).toNat)
      case atStart => exact ⟨0, by omega, rfl, hbw⟩
      case round =>
        clear hbw
        obtain ⟨k, hk, rfl, hbw⟩ := hrel
        by_cases hltk : k < n
        · obtain ⟨g, o, vB, vL, bs, xs, rfl, hg, q0, q1, hB, hL⟩ := h.out k hltk
          have t0 : (0 : Int) ≤ (k : Int) := by omega
          have t1 : (k : Int) < (n : Int) := by omega
          have HL := Lib.hid hL
          obtain ⟨C, dL, rfl, hc1, hc2, _⟩ := hL
          obtain ⟨m, hm⟩ : ∃ m, m = xs.length := ⟨_, rfl⟩
          rw [← hm] at q1 HL hc1
          replace hm := Lib.hid hm
          unfold maxLen at hc2
          have Q1 := Lib.hid q1
          clear q0 hB q1
          by_cases h20 : k < 20
          · have tk : decide ((k : Int) < 20) = true := by simp; omega
            go_wp2_with fail
            go_loopw [5] (fun i w' => ∃ j : Nat, j ≤ m ∧ i = .int .i64 j ∧ Below w.heap.size w w') (fun i _ => m - (intOf i).toNat)
            case atStart => exact ⟨0, by omega, rfl, hbw⟩
            case round =>
              clear hbw
              obtain ⟨j, hj, rfl, hbw⟩ := hrel
              have p1 : wr.cell? ⟨g, o + k * 2 + 1, none⟩ = some (.slice C m dL) := by rw [hbw.cell (by exact hg)]; exact Q1.out
              by_cases hltj : j < m
              · by_cases hj20 : j < 20
                · obtain ⟨f, hf⟩ : ∃ f : Nat → Int, f = fun i => xs.getD i 0 := ⟨_, rfl⟩
                  have hI : Ints wr wr.heap.size C m f := by
                    obtain ⟨C2, c2, e2, _, _, h2⟩ := HL.out.later hbw
                    rw [← hm.out] at e2 h2
                    injection e2 with e3 e4 e5
                    rw [hf, e3]; exact h2
                  obtain ⟨ad, rfl, _, hzr, qx⟩ := hI j hltj
                  clear hI hf
                  obtain ⟨z, hz⟩ : ∃ z, z = f j := ⟨_, rfl⟩
                  rw [← hz] at hzr qx
                  clear hz
                  have s0 : (0 : Int) ≤ (j : Int) := by omega
                  have tj : decide ((j : Int) < 20) = true := by simp; omega
                  have s1 : (j : Int) < (m : Int) := by omega
                  by_cases hp : PI z
                  · have hz0 := hp.1
                    have hz1 := hp.2.1
                    replace hp := Lib.hid hp
                    have hip := Lib.hid ((PI_of z.toNat).1 (by rw [Int.toNat_of_nonneg hz0]; exact hp.out))
                    by_cases c1 : z < 128
                    · have hwd := Lib.hid (show M.wid z.toNat = 1 by unfold M.wid; rw [if_pos (by omega)])
                      have hel := Lib.hid (show (M.enc z.toNat).length = 1 by rw [M.enc_length, hwd.out])
                      go_wp2_with fail
                      refine (Bytes_yes _ [z] _ (one_IS z _ hzr) (by simp) (by intro x hx; simp at hx; subst hx; exact hp.out)).mono ?_
                      rintro e w2 ⟨vx, rfl, o2, b2⟩
                      have henc : M.encs (nats [z]) = M.enc z.toNat := by simp [nats, M.encs]
                      rw [henc] at o2
                      obtain ⟨g2, c2, rfl, g21, g22, g23, g24⟩ := own_form o2 (by rw [hel.out]; omega)
                      have d2 : Below w.heap.size w w2 := (hbw.alloc hbw.size _).trans (b2.mono (by have := hbw.size; simp; omega))
                      have hb2 := Lib.hid (own_BS o2 (M.enc_lt hip.out))
                      replace o2 := Lib.hid o2
                      rw [hel.out] at g21 hb2 o2
                      rw [hel.out]
                      unfold maxLen at g22
                      clear b2 henc hbw
                      go_wp2_with fail
                      refine (num_any _ _).mono ?_
                      rintro e wx ⟨rfl, rfl⟩
                      go_wp2
                      go_loopw [10] (fun i w' => ∃ jj : Nat, 1 ≤ jj ∧ jj ≤ 1 ∧ i = .int .i64 jj ∧ Below w2.heap.size w2 w') (fun i _ => 8 - (intOf i).toNat)
                      case atStart => exact ⟨1, by omega, by omega, rfl, Below.refl _ _⟩
                      case round =>
                        obtain ⟨jj, hj1, hjn, rfl, hbj⟩ := hrel
                        by_cases hlt4 : jj < 1
                        · omega
                        · go_wp2
                          exact ⟨⟨j + 1, by omega, by go_num, d2.trans (hbj.mono d2.size)⟩, by simp [intOf]; omega⟩
                    · by_cases c2 : z < 2048
                      · have hwd := Lib.hid (show M.wid z.toNat = 2 by unfold M.wid; rw [if_neg (by omega), if_pos (by omega)])
                        have hel := Lib.hid (show (M.enc z.toNat).length = 2 by rw [M.enc_length, hwd.out])
                        go_wp2_with fail
                        refine (Bytes_yes _ [z] _ (one_IS z _ hzr) (by simp) (by intro x hx; simp at hx; subst hx; exact hp.out)).mono ?_
                        rintro e w2 ⟨vx, rfl, o2, b2⟩
                        have henc : M.encs (nats [z]) = M.enc z.toNat := by simp [nats, M.encs]
                        rw [henc] at o2
                        obtain ⟨g2, c2, rfl, g21, g22, g23, g24⟩ := own_form o2 (by rw [hel.out]; omega)
                        have d2 : Below w.heap.size w w2 := (hbw.alloc hbw.size _).trans (b2.mono (by have := hbw.size; simp; omega))
                        have hb2 := Lib.hid (own_BS o2 (M.enc_lt hip.out))
                        replace o2 := Lib.hid o2
                        rw [hel.out] at g21 hb2 o2
                        rw [hel.out]
                        unfold maxLen at g22
                        clear b2 henc hbw
                        go_wp2_with fail
                        refine (num_any _ _).mono ?_
                        rintro e wx ⟨rfl, rfl⟩
                        go_wp2_with fail
                        refine (Check_no _ ((M.enc z.toNat).drop 1) _ ?_ (M.text_tail hip.out (by rw [hwd.out]; omega))).mono ?_
                        · refine ⟨some ⟨g2, 1, none⟩, c2 - 1, by rw [List.length_drop, hel.out], by rw [List.length_drop, hel.out]; omega, by unfold maxLen; omega, fun i hi => ⟨⟨g2, 1, none⟩, rfl, g24, ?_, ?_⟩⟩
                          · have := M.enc_lt hip.out
                            show ((M.enc z.toNat).drop 1).getD i 0 < 256
                            rw [getD_drop]
                            rw [List.length_drop] at hi
                            rw [List.getD_eq_getElem?_getD, List.getElem?_eq_getElem (by omega)]
                            exact this _ (List.getElem_mem _)
                          · rw [List.length_drop, hel.out] at hi
                            show w2.cell? _ = some (.int .u8 ((((M.enc z.toNat).drop 1).getD i 0 : Nat) : Int))
                            rw [getD_drop]
                            have h9 := o2.out.cellAt (1 + i) (by omega)
                            rw [getD_vals _ _ (by rw [hel.out]; omega)] at h9
                            rw [add_none]
                            exact h9
                        rintro e w3 ⟨rfl, b3⟩
                        have d3 := d2.trans (b3.mono d2.size)
                        have hb3 := Lib.hid (hb2.out.later b3)
                        clear b3 d2
                        go_wp2_with fail
                        refine (num_any _ _).mono ?_
                        rintro e wx ⟨rfl, rfl⟩
                        go_wp2
                        go_loopw [10] (fun i w' => ∃ jj : Nat, 1 ≤ jj ∧ jj ≤ 2 ∧ i = .int .i64 jj ∧ Below w3.heap.size w3 w') (fun i _ => 8 - (intOf i).toNat)
                        case atStart => exact ⟨1, by omega, by omega, rfl, Below.refl _ _⟩
                        case round =>
                          obtain ⟨jj, hj1, hjn, rfl, hbj⟩ := hrel
                          by_cases hlt4 : jj < 2
                          · have HX := Lib.hid (hb3.out.later hbj)
                            go_wp2_with fail
                            refine (CopyBytes_any _ (M.enc z.toNat) _ (by rw [hel.out]; omega) HX.out).mono ?_
                            rintro e w4 ⟨vy, rfl, o4, b4⟩
                            obtain ⟨g4, c4, rfl, g41, g42, g43, g44⟩ := own_form o4 (by rw [hel.out]; omega)
                            have d4 : Below w.heap.size w w4 := (d3.trans (hbj.mono d3.size)).trans (b4.mono (Nat.le_trans d3.size hbj.size))
                            have eb4 : Below w3.heap.size w3 w4 := hbj.trans (b4.mono hbj.size)
                            have gw4 : w3.heap.size ≤ g4 := Nat.le_trans hbj.size g43
                            have z4 := o4.frozenAt jj
                            have c4' := o4.cellAt jj (by rw [hel.out]; omega)
                            rw [getD_vals _ _ (by rw [hel.out]; omega)] at c4'
                            obtain ⟨y, hy⟩ : ∃ y, y = (M.enc z.toNat).getD jj 0 := ⟨_, rfl⟩
                            rw [← hy] at c4'
                            have hyr := tail_range hip.out hj1 (by rw [hwd.out]; exact hlt4) hy
                            have hxor := Lib.hid (xor128 y hyr.1 hyr.2)
                            have ho4 := Lib.hid (turned_own (jj := jj) (y := y - 128) o4)
                            rw [hel.out]
                            rw [hel.out] at g41
                            have s0 : (0 : Int) ≤ (jj : Int) := by omega
                            have s1 : (jj : Int) < 2 := by omega
                            replace o4 := Lib.hid o4
                            replace hy := Lib.hid hy
                            have hy1 := hyr.1
                            have hy2 := hyr.2
                            clear hyr b4
                            go_wp2_with fail
                            rw [hxor.out]
                            refine (Check_no _ ((M.enc z.toNat).set jj (y - 128)) _ ?_ (M.text_turned hip.out hj1 (by rw [hwd.out]; exact hlt4) (by omega))).mono ?_
                            · have h9 := own_BS ho4.out (fun b hb => by
                                rcases List.mem_or_eq_of_mem_set hb with h | h
                                · exact M.enc_lt hip.out b h
                                · omega)
                              rw [List.length_set, hel.out] at h9
                              exact h9
                            rintro e w5 ⟨rfl, b5⟩
                            have b5' : Below w4.heap.size (w4.setCell ⟨g4, jj, none⟩ (.int .u8 ((y - 128 : Nat) : Int))) w5 := by simpa using b5
                            have eb5 := Lib.hid ((eb4.setCell (p := ⟨g4, jj, none⟩) gw4 _).trans (b5'.mono eb4.size))
                            clear b5 b5'
                            go_wp2_with fail
                            refine (num_any _ _).mono ?_
                            rintro e wx ⟨rfl, rfl⟩
                            go_wp2
                            exact ⟨⟨jj + 1, by omega, by omega, by go_num, eb5.out⟩, by simp [intOf]; omega⟩
                          · go_wp2
                            exact ⟨⟨j + 1, by omega, by go_num, d3.trans (hbj.mono d3.size)⟩, by simp [intOf]; omega⟩
                      · by_cases c3 : z < 65536
                        · have hwd := Lib.hid (show M.wid z.toNat = 3 by unfold M.wid; rw [if_neg (by omega), if_neg (by omega), if_pos (by omega)])
                          have hel := Lib.hid (show (M.enc z.toNat).length = 3 by rw [M.enc_length, hwd.out])
                          go_wp2_with fail
                          refine (Bytes_yes _ [z] _ (one_IS z _ hzr) (by simp) (by intro x hx; simp at hx; subst hx; exact hp.out)).mono ?_
                          rintro e w2 ⟨vx, rfl, o2, b2⟩
                          have henc : M.encs (nats [z]) = M.enc z.toNat := by simp [nats, M.encs]
                          rw [henc] at o2
                          obtain ⟨g2, c2, rfl, g21, g22, g23, g24⟩ := own_form o2 (by rw [hel.out]; omega)
                          have d2 : Below w.heap.size w w2 := (hbw.alloc hbw.size _).trans (b2.mono (by have := hbw.size; simp; omega))
                          have hb2 := Lib.hid (own_BS o2 (M.enc_lt hip.out))
                          replace o2 := Lib.hid o2
                          rw [hel.out] at g21 hb2 o2
                          rw [hel.out]
                          unfold maxLen at g22
                          clear b2 henc hbw
                          go_wp2_with fail
                          refine (num_any _ _).mono ?_
                          rintro e wx ⟨rfl, rfl⟩
                          go_wp2_with fail
                          refine (Check_no _ ((M.enc z.toNat).drop 1) _ ?_ (M.text_tail hip.out (by rw [hwd.out]; omega))).mono ?_
                          · refine ⟨some ⟨g2, 1, none⟩, c2 - 1, by rw [List.length_drop, hel.out], by rw [List.length_drop, hel.out]; omega, by unfold maxLen; omega, fun i hi => ⟨⟨g2, 1, none⟩, rfl, g24, ?_, ?_⟩⟩
                            · have := M.enc_lt hip.out
                              show ((M.enc z.toNat).drop 1).getD i 0 < 256
                              rw [getD_drop]
                              rw [List.length_drop] at hi
                              rw [List.getD_eq_getElem?_getD, List.getElem?_eq_getElem (by omega)]
                              exact this _ (List.getElem_mem _)
                            · rw [List.length_drop, hel.out] at hi
                              show w2.cell? _ = some (.int .u8 ((((M.enc z.toNat).drop 1).getD i 0 : Nat) : Int))
                              rw [getD_drop]
                              have h9 := o2.out.cellAt (1 + i) (by omega)
                              rw [getD_vals _ _ (by rw [hel.out]; omega)] at h9
                              rw [add_none]
                              exact h9
                          rintro e w3 ⟨rfl, b3⟩
                          have d3 := d2.trans (b3.mono d2.size)
                          have hb3 := Lib.hid (hb2.out.later b3)
                          clear b3 d2
                          go_wp2_with fail
                          refine (num_any _ _).mono ?_
                          rintro e wx ⟨rfl, rfl⟩
                          go_wp2
                          go_loopw [10] (fun i w' => ∃ jj : Nat, 1 ≤ jj ∧ jj ≤ 3 ∧ i = .int .i64 jj ∧ Below w3.heap.size w3 w') (fun i _ => 8 - (intOf i).toNat)
                          case atStart => exact ⟨1, by omega, by omega, rfl, Below.refl _ _⟩
                          case round =>
                            obtain ⟨jj, hj1, hjn, rfl, hbj⟩ := hrel
                            by_cases hlt4 : jj < 3
                            · have HX := Lib.hid (hb3.out.later hbj)
                              go_wp2_with fail
                              refine (CopyBytes_any _ (M.enc z.toNat) _ (by rw [hel.out]; omega) HX.out).mono ?_
                              rintro e w4 ⟨vy, rfl, o4, b4⟩
                              obtain ⟨g4, c4, rfl, g41, g42, g43, g44⟩ := own_form o4 (by rw [hel.out]; omega)
                              have d4 : Below w.heap.size w w4 := (d3.trans (hbj.mono d3.size)).trans (b4.mono (Nat.le_trans d3.size hbj.size))
                              have eb4 : Below w3.heap.size w3 w4 := hbj.trans (b4.mono hbj.size)
                              have gw4 : w3.heap.size ≤ g4 := Nat.le_trans hbj.size g43
                              have z4 := o4.frozenAt jj
                              have c4' := o4.cellAt jj (by rw [hel.out]; omega)
                              rw [getD_vals _ _ (by rw [hel.out]; omega)] at c4'
                              obtain ⟨y, hy⟩ : ∃ y, y = (M.enc z.toNat).getD jj 0 := ⟨_, rfl⟩
                              rw [← hy] at c4'
                              have hyr := tail_range hip.out hj1 (by rw [hwd.out]; exact hlt4) hy
                              have hxor := Lib.hid (xor128 y hyr.1 hyr.2)
                              have ho4 := Lib.hid (turned_own (jj := jj) (y := y - 128) o4)
                              rw [hel.out]
                              rw [hel.out] at g41
                              have s0 : (0 : Int) ≤ (jj : Int) := by omega
                              have s1 : (jj : Int) < 3 := by omega
                              replace o4 := Lib.hid o4
                              replace hy := Lib.hid hy
                              have hy1 := hyr.1
                              have hy2 := hyr.2
                              clear hyr b4
                              go_wp2_with fail
                              rw [hxor.out]
                              refine (Check_no _ ((M.enc z.toNat).set jj (y - 128)) _ ?_ (M.text_turned hip.out hj1 (by rw [hwd.out]; exact hlt4) (by omega))).mono ?_
                              · have h9 := own_BS ho4.out (fun b hb => by
                                  rcases List.mem_or_eq_of_mem_set hb with h | h
                                  · exact M.enc_lt hip.out b h
                                  · omega)
                                rw [List.length_set, hel.out] at h9
                                exact h9
                              rintro e w5 ⟨rfl, b5⟩
                              have b5' : Below w4.heap.size (w4.setCell ⟨g4, jj, none⟩ (.int .u8 ((y - 128 : Nat) : Int))) w5 := by simpa using b5
                              have eb5 := Lib.hid ((eb4.setCell (p := ⟨g4, jj, none⟩) gw4 _).trans (b5'.mono eb4.size))
                              clear b5 b5'
                              go_wp2_with fail
                              refine (num_any _ _).mono ?_
                              rintro e wx ⟨rfl, rfl⟩
                              go_wp2
                              exact ⟨⟨jj + 1, by omega, by omega, by go_num, eb5.out⟩, by simp [intOf]; omega⟩
                            · go_wp2
                              exact ⟨⟨j + 1, by omega, by go_num, d3.trans (hbj.mono d3.size)⟩, by simp [intOf]; omega⟩
                        · have hwd := Lib.hid (show M.wid z.toNat = 4 by unfold M.wid; rw [if_neg (by omega), if_neg (by omega), if_neg (by omega)])
                          have hel := Lib.hid (show (M.enc z.toNat).length = 4 by rw [M.enc_length, hwd.out])
                          go_wp2_with fail
                          refine (Bytes_yes _ [z] _ (one_IS z _ hzr) (by simp) (by intro x hx; simp at hx; subst hx; exact hp.out)).mono ?_
                          rintro e w2 ⟨vx, rfl, o2, b2⟩
                          have henc : M.encs (nats [z]) = M.enc z.toNat := by simp [nats, M.encs]
                          rw [henc] at o2
                          obtain ⟨g2, c2, rfl, g21, g22, g23, g24⟩ := own_form o2 (by rw [hel.out]; omega)
                          have d2 : Below w.heap.size w w2 := (hbw.alloc hbw.size _).trans (b2.mono (by have := hbw.size; simp; omega))
                          have hb2 := Lib.hid (own_BS o2 (M.enc_lt hip.out))
                          replace o2 := Lib.hid o2
                          rw [hel.out] at g21 hb2 o2
                          rw [hel.out]
                          unfold maxLen at g22
                          clear b2 henc hbw
                          go_wp2_with fail
                          refine (num_any _ _).mono ?_
                          rintro e wx ⟨rfl, rfl⟩
                          go_wp2_with fail
                          refine (Check_no _ ((M.enc z.toNat).drop 1) _ ?_ (M.text_tail hip.out (by rw [hwd.out]; omega))).mono ?_
                          · refine ⟨some ⟨g2, 1, none⟩, c2 - 1, by rw [List.length_drop, hel.out], by rw [List.length_drop, hel.out]; omega, by unfold maxLen; omega, fun i hi => ⟨⟨g2, 1, none⟩, rfl, g24, ?_, ?_⟩⟩
                            · have := M.enc_lt hip.out
                              show ((M.enc z.toNat).drop 1).getD i 0 < 256
                              rw [getD_drop]
                              rw [List.length_drop] at hi
                              rw [List.getD_eq_getElem?_getD, List.getElem?_eq_getElem (by omega)]
                              exact this _ (List.getElem_mem _)
                            · rw [List.length_drop, hel.out] at hi
                              show w2.cell? _ = some (.int .u8 ((((M.enc z.toNat).drop 1).getD i 0 : Nat) : Int))
                              rw [getD_drop]
                              have h9 := o2.out.cellAt (1 + i) (by omega)
                              rw [getD_vals _ _ (by rw [hel.out]; omega)] at h9
                              rw [add_none]
                              exact h9
                          rintro e w3 ⟨rfl, b3⟩
                          have d3 := d2.trans (b3.mono d2.size)
                          have hb3 := Lib.hid (hb2.out.later b3)
                          clear b3 d2
                          go_wp2_with fail
                          refine (num_any _ _).mono ?_
                          rintro e wx ⟨rfl, rfl⟩
                          go_wp2
                          go_loopw [10] (fun i w' => ∃ jj : Nat, 1 ≤ jj ∧ jj ≤ 4 ∧ i = .int .i64 jj ∧ Below w3.heap.size w3 w') (fun i _ => 8 - (intOf i).toNat)
                          case atStart => exact ⟨1, by omega, by omega, rfl, Below.refl _ _⟩
                          case round =>
                            obtain ⟨jj, hj1, hjn, rfl, hbj⟩ := hrel
                            by_cases hlt4 : jj < 4
                            · have HX := Lib.hid (hb3.out.later hbj)
                              go_wp2_with fail
                              refine (CopyBytes_any _ (M.enc z.toNat) _ (by rw [hel.out]; omega) HX.out).mono ?_
                              rintro e w4 ⟨vy, rfl, o4, b4⟩
                              obtain ⟨g4, c4, rfl, g41, g42, g43, g44⟩ := own_form o4 (by rw [hel.out]; omega)
                              have d4 : Below w.heap.size w w4 := (d3.trans (hbj.mono d3.size)).trans (b4.mono (Nat.le_trans d3.size hbj.size))
                              have eb4 : Below w3.heap.size w3 w4 := hbj.trans (b4.mono hbj.size)
                              have gw4 : w3.heap.size ≤ g4 := Nat.le_trans hbj.size g43
                              have z4 := o4.frozenAt jj
                              have c4' := o4.cellAt jj (by rw [hel.out]; omega)
                              rw [getD_vals _ _ (by rw [hel.out]; omega)] at c4'
                              obtain ⟨y, hy⟩ : ∃ y, y = (M.enc z.toNat).getD jj 0 := ⟨_, rfl⟩
                              rw [← hy] at c4'
                              have hyr := tail_range hip.out hj1 (by rw [hwd.out]; exact hlt4) hy
                              have hxor := Lib.hid (xor128 y hyr.1 hyr.2)
                              have ho4 := Lib.hid (turned_own (jj := jj) (y := y - 128) o4)
                              rw [hel.out]
                              rw [hel.out] at g41
                              have s0 : (0 : Int) ≤ (jj : Int) := by omega
                              have s1 : (jj : Int) < 4 := by omega
                              replace o4 := Lib.hid o4
                              replace hy := Lib.hid hy
                              have hy1 := hyr.1
                              have hy2 := hyr.2
                              clear hyr b4
                              go_wp2_with fail
                              rw [hxor.out]
                              refine (Check_no _ ((M.enc z.toNat).set jj (y - 128)) _ ?_ (M.text_turned hip.out hj1 (by rw [hwd.out]; exact hlt4) (by omega))).mono ?_
                              · have h9 := own_BS ho4.out (fun b hb => by
                                  rcases List.mem_or_eq_of_mem_set hb with h | h
                                  · exact M.enc_lt hip.out b h
                                  · omega)
                                rw [List.length_set, hel.out] at h9
                                exact h9
                              rintro e w5 ⟨rfl, b5⟩
                              have b5' : Below w4.heap.size (w4.setCell ⟨g4, jj, none⟩ (.int .u8 ((y - 128 : Nat) : Int))) w5 := by simpa using b5
                              have eb5 := Lib.hid ((eb4.setCell (p := ⟨g4, jj, none⟩) gw4 _).trans (b5'.mono eb4.size))
                              clear b5 b5'
                              go_wp2_with fail
                              refine (num_any _ _).mono ?_
                              rintro e wx ⟨rfl, rfl⟩
                              go_wp2
                              exact ⟨⟨jj + 1, by omega, by omega, by go_num, eb5.out⟩, by simp [intOf]; omega⟩
                            · go_wp2
                              exact ⟨⟨j + 1, by omega, by go_num, d3.trans (hbj.mono d3.size)⟩, by simp [intOf]; omega⟩
                  · have hpx : z < 0 ∨ 1114111 < z ∨ (0 ≤ z ∧ z ≤ 1114111 ∧ 55296 ≤ z ∧ z ≤ 57343) := by unfold PI at hp; omega
                    replace hp := Lib.hid hp
                    go_wp2_with fail
                    refine (Bytes_no _ [z] _ (one_IS z _ hzr) (by simp) (fun hh => hp.out (hh z (by simp)))).mono ?_
                    rintro e w2 ⟨rfl, b2⟩
                    have d2 : Below w.heap.size w w2 := (hbw.alloc hbw.size _).trans (b2.mono (by have := hbw.size; simp; omega))
                    clear b2 hbw
                    go_wp2_with fail
                    refine (num_any _ _).mono ?_
                    rintro e wx ⟨rfl, rfl⟩
                    rcases hpx with x1 | x1 | ⟨x1, x2, x3, x4⟩
                    · have y1 : decide (0 ≤ z) = false := by simp; omega
                      have y2 : decide (57343 < z) = false := by simp; omega
                      go_wp2
                      exact ⟨⟨j + 1, by omega, by go_num, d2⟩, by simp [intOf]; omega⟩
                    · have y1 : decide (z < 55296) = false := by simp; omega
                      have y2 : decide (z ≤ 1114111) = false := by simp; omega
                      go_wp2
                      exact ⟨⟨j + 1, by omega, by go_num, d2⟩, by simp [intOf]; omega⟩
                    · have y1 : decide (z < 55296) = false := by simp; omega
                      have y2 : decide (57343 < z) = false := by simp; omega
                      go_wp2
                      exact ⟨⟨j + 1, by omega, by go_num, d2⟩, by simp [intOf]; omega⟩
                · go_wp2
                  exact ⟨⟨k + 1, by omega, by go_num, hbw⟩, by simp [intOf]; omega⟩
              · go_wp2
                exact ⟨⟨k + 1, by omega, by go_num, hbw⟩, by simp [intOf]; omega⟩
          · go_wp2_with fail
            refine (wakes_any _).mono ?_
            rintro e w7 ⟨rfl, hb7⟩
            go_wp2
            go_ret
            exact ⟨rfl, hbw.trans (hb7.mono hbw.size)⟩
        · go_wp2_with fail
          refine (wakes_any _).mono ?_
          rintro e w7 ⟨rfl, hb7⟩
          go_wp2
          go_ret
          exact ⟨rfl, hbw.trans (hb7.mono hbw.size)⟩
end Go.Proofs.Ytlppgaaepllbiaa
