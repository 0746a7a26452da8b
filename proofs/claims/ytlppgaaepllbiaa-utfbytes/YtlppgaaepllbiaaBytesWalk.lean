/-
  The law on writing points, walked: for every list of questions it returns true and writes nothing that was there; condition: the list lies in memory as 'Asks' says.
-/
import Derived.Test.YtlppgaaepllbiaaCom
namespace Go.Proofs.Ytlppgaaepllbiaa
open Go.RowKit
def URel (xs : List Int) (m : Nat) (w1 : World) (bad want i : Value) (w' : World) : Prop :=
  ∃ (j : Nat) (bs : List Nat), j ≤ m ∧ i = .int .i64 j ∧ bs.length ≤ 4 * j ∧ ((bad = .int .i64 0 ∧ AllPI (xs.take j) ∧ bs = M.encs (nats (xs.take j))) ∨ (bad = .int .i64 100 ∧ ¬ AllPI (xs.take j))) ∧
    w'.ownsRow w1.heap.size 5 1 want bs.length (vals bs) ∧ Below w1.heap.size w1 w'
theorem allPI_snoc {xs : List Int} {x : Int} : AllPI (xs ++ [x]) ↔ AllPI xs ∧ PI x := by
  unfold AllPI
  constructor
  · intro h
    exact ⟨fun y hy => h y (by simp [hy]), h x (by simp)⟩
  · rintro ⟨h1, h2⟩ y hy
    rcases List.mem_append.1 hy with h | h
    · exact h1 y h
    · simp at h; subst h; exact h2
theorem rPut_pi (z : Int) (w : World) (hz : PI z) : Calls Try.prog 18 #[.int .i32 z] w (Gives (M.enc z.toNat) w) := rPut_int z _ w rfl hz.1 hz.2.1
set_option maxRecDepth 100000 in
set_option maxHeartbeats 2000000 in
theorem UtfBytes_walk (A : Option Addr) (n c : Nat) (w : World) (h : Asks w A n) :
    Calls Try.prog 4 #[.slice A n c] w fun e w' => e = .returned (.bool true) ∧ Below w.heap.size w w' := by
  obtain ⟨i0, hi0, hz0, hz1, hz2⟩ := info_parts u8_info
  obtain ⟨hn, h⟩ := h
  unfold maxLen at hn
  replace h := Lib.hid h
  go_enter Try.func4, Try.ntmps4
  go_wp2
  go_loopw [3] (fun i w' => ∃ k : Nat, k ≤ n ∧ i = .int .i64 k ∧ Below w.heap.size w w') (fun i _ => n - (intOf i).toNat)
  case atStart => exact ⟨0, by omega, rfl, Below.refl _ _⟩
  case round =>
    obtain ⟨k, hk, rfl, hbw⟩ := hrel
    by_cases hlt : k < n
    · obtain ⟨g, o, vB, vL, bs, xs, rfl, hg, q0, q1, hB, hL⟩ := h.out k hlt
      have t0 : (0 : Int) ≤ (k : Int) := by omega
      have t1 : (k : Int) < (n : Int) := by omega
      have HB := Lib.hid (hB.later hbw)
      have HL := Lib.hid (hL.later hbw)
      obtain ⟨C, dL, rfl, hc1, hc2, _⟩ := hL
      obtain ⟨m, hm⟩ : ∃ m, m = xs.length := ⟨_, rfl⟩
      rw [← hm] at q1 HL hc1
      replace hm := Lib.hid hm
      unfold maxLen at hc2
      have p0 : wr.cell? ⟨g, o + k * 2, none⟩ = some vB := by rw [hbw.cell (by exact hg)]; exact q0
      have p1 : wr.cell? ⟨g, o + k * 2 + 1, none⟩ = some (.slice C m dL) := by rw [hbw.cell (by exact hg)]; exact q1
      have hgr : g < wr.heap.size := Nat.lt_of_lt_of_le hg hbw.size
      clear q0 q1 hB
      by_cases h20 : k < 20
      · by_cases hv : 3000 < bs.length ∨ 1000 < xs.length
        · replace hv := Lib.hid hv
          go_wp2_with fail
          refine (heavyW_yes vB _ bs xs _ HB.out HL.out hv.out).mono ?_
          rintro e w1 ⟨rfl, b1⟩
          replace b1 := Lib.hid b1
          go_wp2
          go_ret
          exact ⟨rfl, hbw.trans (b1.out.mono hbw.size)⟩
        · have hv1 : bs.length ≤ 3000 := by omega
          have hv2 : m ≤ 1000 := by rw [hm.out]; omega
          clear hv
          go_wp2_with fail
          refine (heavyW_no vB _ bs xs _ HB.out HL.out hv1 (by rw [← hm.out]; exact hv2)).mono ?_
          rintro e w1 ⟨rfl, b1⟩
          have d1 : Below wr.heap.size wr w1 := b1
          have p1' : w1.cell? ⟨g, o + k * 2 + 1, none⟩ = some (.slice C m dL) := by rw [d1.cell (by exact hgr)]; exact p1
          have D1 : Below w.heap.size w w1 := hbw.trans (d1.mono hbw.size)
          have hg1 : g < w1.heap.size := Nat.lt_of_lt_of_le hgr d1.size
          have HL1 := Lib.hid (HL.out.later d1)
          clear b1 d1 hbw HB HL p0 p1 hgr
          go_wp2
          go_loopw [4, 5, 6] (fun bad want i w' => URel xs m w1 bad want i w') (fun _ _ i _ => m - (intOf i).toNat)
          case atStart => exact ⟨0, [], by omega, rfl, by simp, .inl ⟨rfl, (fun x hx => by simp at hx), rfl⟩, World.ownsRow_nil _ _ _ _, Below.refl _ _⟩
          case round =>
            obtain ⟨j, bs', hj, rfl, hbl, hst, hown, hb⟩ := hrel
            have pr : wr.cell? ⟨g, o + k * 2 + 1, none⟩ = some (.slice C m dL) := by rw [hb.cell (by exact hg1)]; exact p1'
            have HLr := Lib.hid (HL1.out.later hb)
            replace hst := Lib.hid hst
            replace hown := Lib.hid hown
            by_cases hlt2 : j < m
            · obtain ⟨f, hf⟩ : ∃ f : Nat → Int, f = fun i => xs.getD i 0 := ⟨_, rfl⟩
              have hI : Ints wr wr.heap.size C m f := by
                obtain ⟨C2, c2, e2, _, _, h2⟩ := HLr.out
                rw [← hm.out] at e2 h2
                injection e2 with e3 e4 e5
                rw [hf, e3]; exact h2
              obtain ⟨ad, rfl, _, _, qx⟩ := hI j hlt2
              have hfj := Lib.hid (show xs.take (j + 1) = xs.take j ++ [f j] by rw [take_succI xs j (by rw [← hm.out]; exact hlt2), hf])
              clear hI hf
              have s0 : (0 : Int) ≤ (j : Int) := by omega
              have s1 : (j : Int) < (m : Int) := by omega
              by_cases hp : PI (f j)
              · replace hp := Lib.hid hp
                go_wp2_with fail
                refine (rPoint_yes _ _ hp.out).mono ?_
                rintro e wx ⟨rfl, rfl⟩
                go_wp2_with fail
                refine (rPut_pi _ _ hp.out).mono ?_
                rintro e w2 ⟨vp, rfl, o2, b2⟩
                have hel := M.enc_length (f j).toNat
                have hwr := M.wid_range (f j).toNat
                obtain ⟨g2, cap2, rfl, g21, g22, g23, g24⟩ := own_form o2 (by omega)
                have hown2 := Lib.hid (own_later hown.out b2)
                replace o2 := Lib.hid o2
                replace b2 := Lib.hid b2
                obtain ⟨q, hq⟩ : ∃ q, q = (M.enc (f j).toNat).length := ⟨_, rfl⟩
                have hq4 : q ≤ 4 := by omega
                rw [← hq]
                rw [← hq] at o2 g21
                replace hq := Lib.hid hq
                clear hel hwr
                go_wp2_with (first
                  | (at_builtin; refine wpList_append_own _ rfl _ _ 24 rfl w1.heap.size 5 i0 (.int .u8 0) 1 1 Try.underlying24 hi0 hz0 hz1 hz2 rfl (by decide) u5 bs'.length (vals bs') rfl hown2.out ⟨g2, 0, none⟩ q cap2 (vals (M.enc (f j).toNat)) rfl (by rw [vals_length, hq.out]; omega) (fun jj u hu => o2.out.cells rfl jj u hu) (vals_one _) (by unfold maxLen; omega) (by omega) (by have := hb.size; have := b2.out.size; omega) ?_; intro v' w3 hown' hgrow3 hnil3))
                have hb3 : Below w1.heap.size w1 w3 := (hb.trans (b2.out.mono hb.size)).grown hgrow3 (by have := hb.size; have := b2.out.size; omega) (fun q hq => (hown2.out.lt q hq).1)
                refine ⟨⟨j + 1, bs' ++ M.enc (f j).toNat, by omega, by go_num, by rw [List.length_append, ← hq.out]; omega, ?_, ?_, hb3⟩, by simp [intOf]; omega⟩
                · rcases hst.out with ⟨e1, e2, e3⟩ | ⟨e1, e2⟩
                  · refine .inl ⟨e1, by rw [hfj.out]; exact allPI_snoc.2 ⟨e2, hp.out⟩, ?_⟩
                    rw [hfj.out, e3]
                    simp only [nats, List.map_append, List.map_cons, List.map_nil]
                    exact (M.encs_snoc _ _).symm
                  · exact .inr ⟨e1, fun hh => e2 (by rw [hfj.out] at hh; exact (allPI_snoc.1 hh).1)⟩
                · rw [vals_append, List.length_append, ← hq.out]
                  exact hown'
              · replace hp := Lib.hid hp
                go_wp2_with fail
                refine (rPoint_no _ _ hp.out).mono ?_
                rintro e wx ⟨rfl, rfl⟩
                go_wp2
                exact ⟨⟨j + 1, bs', by omega, by go_num, by omega, .inr ⟨rfl, fun hh => hp.out (by rw [hfj.out] at hh; exact (allPI_snoc.1 hh).2)⟩, hown.out, hb⟩, by simp [intOf]; omega⟩
            · have hxl : xs.take j = xs := List.take_of_length_le (by rw [← hm.out]; omega)
              have hst2 := hst.out
              rw [hxl] at hst2
              clear hxl hst
              rcases hst2 with ⟨rfl, e2, e3⟩ | ⟨rfl, e2⟩
              · replace e2 := Lib.hid e2
                subst e3
                go_wp2_with fail
                refine (Bytes_yes _ xs _ HLr.out (by rw [← hm.out]; omega) e2.out).mono ?_
                rintro e w2 ⟨vb, rfl, o2, b2⟩
                have hown2 := Lib.hid (own_later hown.out b2)
                replace o2 := Lib.hid o2
                have hb2 : Below w.heap.size w w2 := (D1.trans (hb.mono D1.size)).trans (b2.mono (Nat.le_trans D1.size hb.size))
                clear b2
                go_wp2_with fail
                refine (num_any _ _).mono ?_
                rintro e wx ⟨rfl, rfl⟩
                go_wp2_with fail
                refine (EqBytes_same _ _ (M.encs (nats xs)) _ (own_BS o2.out (M.encs_lt (nats_isP e2.out))) (own_BS hown2.out (M.encs_lt (nats_isP e2.out)))).mono ?_
                rintro e w3 ⟨rfl, b3⟩
                have hb3 : Below w.heap.size w w3 := hb2.trans (b3.mono hb2.size)
                replace hb3 := Lib.hid hb3
                clear b3
                go_wp2
                exact ⟨⟨k + 1, by omega, by go_num, hb3.out⟩, by simp [intOf]; omega⟩
              · replace e2 := Lib.hid e2
                go_wp2_with fail
                refine (Bytes_no _ xs _ HLr.out (by rw [← hm.out]; omega) e2.out).mono ?_
                rintro e w2 ⟨rfl, b2⟩
                have hb2 : Below w.heap.size w w2 := (D1.trans (hb.mono D1.size)).trans (b2.mono (Nat.le_trans D1.size hb.size))
                clear b2
                go_wp2_with fail
                refine (num_any _ _).mono ?_
                rintro e wx ⟨rfl, rfl⟩
                go_wp2_with fail
                refine (EqBytes_same _ _ [] _ (nil_BS _) (nil_BS _)).mono ?_
                rintro e w3 ⟨rfl, b3⟩
                have hb3 : Below w.heap.size w w3 := hb2.trans (b3.mono hb2.size)
                replace hb3 := Lib.hid hb3
                clear b3
                go_wp2
                exact ⟨⟨k + 1, by omega, by go_num, hb3.out⟩, by simp [intOf]; omega⟩
      · go_wp2_with fail
        refine (wakes_any _).mono ?_
        rintro e w7 ⟨rfl, hb7⟩
        go_wp2
        go_ret
        exact ⟨rfl, hbw.trans (hb7.mono hbw.size)⟩
    · go_wp2_with fail
      refine (wakes_any _).mono ?_
      rintro e w7 ⟨rfl, hb7⟩
      go_wp2
      go_ret
      exact ⟨rfl, hbw.trans (hb7.mono hbw.size)⟩
end Go.Proofs.Ytlppgaaepllbiaa
