/-
  The law LogLasts: what was synced is there, opened again and again, behind crashes; condition: the script lies in memory.
-/
import Derived.Test.YtncafkifebannaaLgPu
import Derived.Deep.AppendLies
namespace Go.Proofs.Ytncafkifebannaa
open Go.RowKit
theorem DAt.base {w : World} {B B' g r q n cS cE : Nat} {S E : List Nat} {k last : Int} (h : DAt w B g r q n cS cE S E k last) (hB : B' ≤ B) : DAt w B' g r q n cS cE S E k last :=
  ⟨h.obj, by have := h.ge; omega, h.rS, h.rE, h.lS, h.lE, h.ap, h.n0⟩
/-- What the loop keeps up. -/
def LaIn (W0 : World) (l2 : Nat) (d s i : Value) (w' : World) : Prop :=
  ∃ (t g r q cS cE h j : Nat) (I : List Nat) (N : List (List Nat)), t ≤ l2 ∧ t ≤ 8 ∧ i = .int .i64 t ∧ d = Mp g ∧ DAt w' W0.heap.size g r q 1500 cS cE I I 0 (M.least []) ∧ M.Good I 1500 h N j ∧ N.length ≤ j + 1 ∧ N.length ≤ 2 * t ∧ (∀ x ∈ N, x.length ≤ 400) ∧
    Recs w' (fun b => b < w'.heap.size ∧ ¬ DX g r q b) s (N.take j) ∧ Below W0.heap.size W0 w'
set_option maxRecDepth 100000 in
set_option maxHeartbeats 8000000 in
theorem lastsWalk (w : World) (n0 : Int) (A A2 : Option Addr) (l c l2 c2 : Nat) (hA : l2 ≤ c2 ∧ c2 ≤ maxLen) (hl : l ≤ c ∧ c ≤ maxLen) (ha : LActs w A2 l2) :
    Calls Try.prog 5 #[.agg #[.int .i64 n0, .slice A l c, .slice A2 l2 c2]] w fun e w' => e = .returned (.bool true) ∧ Below w.heap.size w w' := by
  obtain ⟨G, hG⟩ : ∃ G, G = w.heap.size := ⟨_, rfl⟩
  obtain ⟨W0, hW0⟩ : ∃ W0, W0 = w.alloc (.cells #[.int .i64 n0, .slice A l c, .slice A2 l2 c2] 25) := ⟨_, rfl⟩
  have b0 : Below w.heap.size w W0 := by rw [hW0]; exact (Below.refl _ _).alloc (Nat.le_refl _) _
  have hob : W0.heap[G]? = some (.cells #[.int .i64 n0, .slice A l c, .slice A2 l2 c2] 25 (0, 0)) := by rw [hW0, hG]; exact heap_alloc_new w _
  have p0 : W0.cell? ⟨G, 0, none⟩ = some (.int .i64 n0) := by rw [cell_of_row W0 G 0 _ _ (0, 0) hob]; rfl
  have p1 : W0.cell? ⟨G, 1, none⟩ = some (.slice A l c) := by rw [cell_of_row W0 G 1 _ _ (0, 0) hob]; rfl
  have p2 : W0.cell? ⟨G, 2, none⟩ = some (.slice A2 l2 c2) := by rw [cell_of_row W0 G 2 _ _ (0, 0) hob]; rfl
  have hG0 : G < W0.heap.size := World.block_lt_of_cell? _ _ p2
  have hhv := Lib.hid (heavy_any W0 n0 A A2 l c l2 c2 hA hl (ha.later b0))
  have hwk := Lib.hid (fun W => wakes12_any W)
  unfold maxLen at hA hl
  have ha0 := Lib.hid (ha.later b0)
  have b0' := Lib.hid b0
  replace hW0 := Lib.hid hW0
  replace hG := Lib.hid hG
  clear ha hob b0
  go_enter Try.func5, Try.ntmps5
  go_upto_region 1 with fail
  rw [← hW0.out, ← hG.out]
  go_wp2_with fail
  refine hhv.out.mono ?_
  rintro e1 w1 ⟨bb, rfl, b1, hlight⟩
  have s01 := b0'.out.size
  have bw1 : Below w.heap.size w w1 := b0'.out.trans (b1.mono s01)
  cases bb with
  | true =>
    have hf := Lib.hid bw1
    clear b1 bw1 hlight
    go_wp2_with fail
    go_ret
    exact ⟨rfl, hf.out⟩
  | false =>
    have hlt := Lib.hid (hlight rfl)
    have hdk := Lib.hid (Disk_of w1 1500 (.slice none 0 0) [] (by omega) (nil_NS _ _) (by simp))
    have hgood : M.Good (List.replicate (1500 * 64) 0) 1500 0 [] 0 := (M.Holds.start 1500 (by omega)).good (fun r hr => by simp at hr)
    replace hgood := Lib.hid hgood
    have hs1 := bw1.size
    have b1' := Lib.hid b1
    replace bw1 := Lib.hid bw1
    clear hlight hhv b1
    go_wp2_with fail
    refine hdk.out.mono ?_
    rintro e2 w2 ⟨g, r, q, cS, cE, rfl, d2, b2⟩
    have s12 := b2.size
    have hs01 := b1'.out.size
    have hrel0 := Lib.hid (show LaIn W0 l2 (Mp g) (.slice none 0 0) (.int .i64 ((0 : Nat) : Int)) w2 from ⟨0, g, r, q, cS, cE, 0, 0, _, [], by omega, by omega, rfl, rfl, d2.base hs01, hgood.out, by simp, by simp, fun x hx => by simp at hx, ⟨none, 0, by simp, by simp [maxLen], fun i x hx => by simp at hx⟩, b1'.out.trans (b2.mono hs01)⟩)
    clear d2 b2 hdk
    go_wp2_with fail
    go_loopw [3, 4, 5, 6, 7, 8, 9, 10] (fun d s i _ _ _ _ _ w' => LaIn W0 l2 d s i w') (fun _ _ i _ _ _ _ _ _ => 8 - (intOf i).toNat)
    case atStart => exact hrel0.out
    case round =>
      obtain ⟨t, g', r', q', cS', cE', h, j, I, N, ht1, ht2, rfl, rfl, dk, hg, hN1, hN2, hN3, hs, hb⟩ := hrel
      have r2 := (hb.cell (p := ⟨G, 2, none⟩) hG0).trans p2
      have t0 : (0 : Int) ≤ (t : Int) := by omega
      have hjN := hg.jl
      replace dk := Lib.hid dk
      replace hg := Lib.hid hg
      replace hN3 := Lib.hid hN3
      have hb' := Lib.hid hb
      have sb := hb.size
      clear hrel0
      by_cases hlt2 : t < l2 ∧ t < 8
      · have t1 : (t : Int) < (l2 : Int) := by omega
        have t2 : (t : Int) < 8 := by omega
        obtain ⟨z1, z2, vR, x, vP, ps, hact⟩ := ha0.out t hlt2.1
        have hx8 := hlt.out.2 t hlt2.1 (by omega) z1 z2 vR x vP ps hact
        obtain ⟨ga, o, rfl, hga, cc, hzz, ⟨hR, hRl⟩, ⟨hP, hPl⟩⟩ := id hact
        obtain ⟨_, _, e9, _, cc', _⟩ := hact.later hb
        cases e9
        obtain ⟨AR, cR, rfl, hR3⟩ := id hR
        obtain ⟨AP, cP, rfl, hP3⟩ := id hP
        have q0 := cc'.c0
        have q1 := cc'.c1
        have q2 := cc'.c2
        have q3 := cc'.c3
        obtain ⟨As, cs, rfl, hs3⟩ := id hs
        have hlj : (N.take j).length = j := by rw [List.length_take]; omega
        rw [hlj] at hs ⊢
        replace hR := Lib.hid hR
        replace hP := Lib.hid hP
        replace hs := Lib.hid hs
        clear hR3 hP3 cc hact hs3 hb cc'
        have hcn : M.cnt 1500 * 64 = 47936 := by decide
        obtain ⟨GA, hGA⟩ : ∃ GA, GA = wr.heap.size := ⟨_, rfl⟩
        obtain ⟨W1, hW1⟩ : ∃ W1, W1 = wr.alloc (.cells #[.int .i64 z1, .int .i64 z2, .slice AR x.length cR, .slice AP ps.length cP] 40) := ⟨_, rfl⟩
        have bW1 : Below wr.heap.size wr W1 := by rw [hW1]; exact (Below.refl _ _).alloc (Nat.le_refl _) _
        have sW1 : W1.heap.size = wr.heap.size + 1 := by rw [hW1]; simp
        have hobA : W1.heap[GA]? = some (.cells #[.int .i64 z1, .int .i64 z2, .slice AR x.length cR, .slice AP ps.length cP] 40 (0, 0)) := by rw [hW1, hGA]; exact heap_alloc_new wr _
        have hA2 : W1.cell? ⟨GA, 2, none⟩ = some (.slice AR x.length cR) := by rw [cell_of_row W1 GA 2 _ _ (0, 0) hobA]; rfl
        have hA3 : W1.cell? ⟨GA, 3, none⟩ = some (.slice AP ps.length cP) := by rw [cell_of_row W1 GA 3 _ _ (0, 0) hobA]; rfl
        have bb1 : Below W0.heap.size W0 W1 := hb'.out.trans (bW1.mono sb)
        have hDl := Lib.hid dk.out.lt
        have hDg := Lib.hid dk.out.ft
        have hGAw : GA < W1.heap.size := by omega
        have hGAD : ¬ DX g' r' q' GA := fun e => by have := hDl.out _ e; omega
        have hop := Lib.hid (open_on W1 (dk.out.later bW1) bb1.size hg.out (by rw [hcn]; omega) (by rw [hcn, M.least_none]; omega))
        have hs1w := Lib.hid (show Recs W1 (fun b => b < wr.heap.size ∧ ¬ DX g' r' q' b) (.slice As j cs) (N.take j) from hs.out.to (fun b hb => bW1.block b hb.1) (fun _ h => h))
        replace hW1 := Lib.hid hW1
        replace hGA := Lib.hid hGA
        replace bb1 := Lib.hid bb1
        clear hobA bW1 hlj
        go_wp2_with fail
        rw [← hW1.out, ← hGA.out]
        refine hop.out.mono ?_
        rintro e3 w3 ⟨j', GL, b0, v3, us3, Z, k3, E3, rfl, hj1, hj2, hk1, hk2, hL3, hH3, hR3, hZb, hb0, hZ, x3⟩
        rw [hcn] at hk2
        obtain ⟨A3, c3, rfl, _⟩ := own_form hR3.own
        have hlj' : (N.take j').length = j' := by rw [List.length_take]; omega
        rw [hlj']
        have s3 := x3.size
        have bb3 : Below W0.heap.size W0 w3 := bb1.out.trans (x3.below hDg.out bb1.out.size)
        have A23 : w3.cell? ⟨GA, 2, none⟩ = some (.slice AR x.length cR) := (World.cell?_of_block (x3.block GA hGAw hGAD)).trans hA2
        have A33 : w3.cell? ⟨GA, 3, none⟩ = some (.slice AP ps.length cP) := (World.cell?_of_block (x3.block GA hGAw hGAD)).trans hA3
        have hZG : ∀ b, Z b → W0.heap.size ≤ b := fun b hb => by
          rcases hZ b hb with e | e
          · exact hDg.out b e
          · have := bb1.out.size; omega
        have hZA : ¬ Z GA := fun e => by
          rcases hZ _ e with e | e
          · exact hGAD e
          · omega
        have ok3 := hL3.ok
        have hr3 : Recs w3 (fun k => b0 ≤ k ∧ k < w3.heap.size) (.slice A3 j' c3) (N.take j') := by
          have := hR3.recs (fun r hr => (ok3 r hr).1)
          rwa [hlj'] at this
        have hs3w : Recs w3 (fun b => b < wr.heap.size ∧ ¬ DX g' r' q' b) (.slice As j cs) (N.take j) := hs1w.out.to (fun b hb => x3.block b (by omega) hb.2) (fun _ h => h)
        have htt : (N.take j').take j = N.take j := by rw [List.take_take, Nat.min_eq_left hj1]
        have heq := EqCells_any w3 (fun k => b0 ≤ k ∧ k < w3.heap.size) (fun b => b < wr.heap.size ∧ ¬ DX g' r' q' b) (.slice A3 j c3) (.slice As j cs) (N.take j) (N.take j) true (by have := hr3.front j hj1; rwa [htt] at this) hs3w (fun b hb => hb.2) (fun b hb => by omega) (by simp)
        have hj16 : j' ≤ 16 := by omega
        have hc3 := hR3.own
        replace heq := Lib.hid heq
        replace hL3 := Lib.hid hL3
        replace hH3 := Lib.hid hH3
        replace hR3 := Lib.hid hR3
        replace hr3 := Lib.hid hr3
        replace hZG := Lib.hid hZG
        replace bb3 := Lib.hid bb3
        replace ok3 := Lib.hid ok3
        replace hZb := Lib.hid hZb
        obtain ⟨_, _, ec3, hcap3⟩ := own_form hc3
        cases ec3
        rw [hlj'] at hcap3
        unfold maxLen at hcap3
        clear hop hc3 x3 hs3w htt hZ ok3 hlj'
        have hGA3 : GA < w3.heap.size := by omega
        by_cases hx4 : 400 < x.length
        · have t3 : (400 : Int) < (x.length : Int) := by omega
          go_wp2_with (first
            | (go_at_call 10; refine (num12_any _ _).mono ?_; rintro e wn ⟨rfl, rfl⟩)
            | (go_at_call 24; refine heq.out.mono ?_; rintro e4 w4 ⟨rfl, b4⟩; have A24 : w4.cell? ⟨GA, 2, none⟩ = some (.slice AR x.length cR) := (b4.cell (p := ⟨GA, 2, none⟩) hGA3).trans A23))
          go_ret
          exact ⟨rfl, b0'.out.trans ((bb3.out.trans (b4.mono bb3.out.size)).mono s01)⟩
        · have t3 : ¬ (400 : Int) < (x.length : Int) := by omega
          go_wp2_with (first
            | (go_at_call 10; refine (num12_any _ _).mono ?_; rintro e wn ⟨rfl, rfl⟩)
            | (go_at_call 24; refine heq.out.mono ?_; rintro e4 w4 ⟨rfl, b4⟩; have A24 : w4.cell? ⟨GA, 2, none⟩ = some (.slice AR x.length cR) := (b4.cell (p := ⟨GA, 2, none⟩) hGA3).trans A23))
          have bb4 := bb3.out.trans (b4.mono bb3.out.size)
          have s4 := b4.size
          have A34 : w4.cell? ⟨GA, 3, none⟩ = some (.slice AP ps.length cP) := (b4.cell (p := ⟨GA, 3, none⟩) hGA3).trans A33
          have hcb := Lib.hid (CopyBytes_any (.slice AR x.length cR) x w4 (by omega) (hR.out.later bb4))
          have hxb := Lib.hid hR.out.lt
          have hL4 := Lib.hid (hL3.out.later b4)
          have hr4 := Lib.hid (show Recs w4 (fun k => b0 ≤ k ∧ k < w3.heap.size) (.slice A3 j' c3) (N.take j') from hr3.out.to (fun b hb => b4.block b hb.2) (fun _ h => h))
          have hZ3 := Lib.hid hL3.out.zl
          replace bb4 := Lib.hid bb4
          clear heq b4 hL3 hr3 A23 A33 hR3
          refine hcb.out.mono ?_
          rintro e5 w5 ⟨u5, rfl, o5, b5⟩
          obtain ⟨A5, c5, rfl, _⟩ := own_form o5
          have s5 := b5.size
          have hrm : M.room (N.take j' ++ [x]) ≤ 10000 := by
            have h1 := M.room_le (rs := N.take j') (m := 400) (fun y hy => hN3.out y (List.mem_of_mem_take hy))
            have h2 := M.room_snoc (N.take j') x
            have h3 : (N.take j').length ≤ 16 := by rw [List.length_take]; omega
            have h4 : (N.take j').length * (16 + 400) ≤ 16 * (16 + 400) := Nat.mul_le_mul_right _ h3
            omega
          have hap := Lib.hid (append_ok w5 (.slice A5 x.length c5) x (hL4.out.later b5) hH3.out ((own_bsp o5 hxb.out).to (fun _ _ => rfl) (fun b hb => ⟨hb.2, fun e => by have := hZ3.out b e; omega⟩)) hxb.out (by omega) (by rw [hcn]; omega) (by rw [hcn, M.least_none]; omega) (by omega))
          have bb5 := Lib.hid (bb4.out.trans (b5.mono bb4.out.size))
          have A25 := (b5.cell (p := ⟨GA, 2, none⟩) (show GA < w4.heap.size by omega)).trans A24
          have A35 := (b5.cell (p := ⟨GA, 3, none⟩) (show GA < w4.heap.size by omega)).trans A34
          have hr5 := Lib.hid (show Recs w5 (fun k => b0 ≤ k ∧ k < w3.heap.size) (.slice A3 j' c3) (N.take j') from hr4.out.to (fun b hb => b5.block b (by omega)) (fun _ h => h))
          clear hcb o5 b5 hL4 hH3 A24 A34 hr4 bb4
          go_wp2_with fail
          refine hap.out.mono ?_
          rintro e6 w6 ⟨rfl, ⟨k6, E6, h61, h62, hL6, hH6⟩, x6⟩
          rw [hcn] at h62
          have s6 := x6.size
          have hsy := Lib.hid (sync_on w6 hL6 (by omega) (by rw [M.least_none]; omega))
          have A26 : w6.cell? ⟨GA, 2, none⟩ = some (.slice AR x.length cR) := (World.cell?_of_block (x6.block GA (by omega) hZA)).trans A25
          have A36 : w6.cell? ⟨GA, 3, none⟩ = some (.slice AP ps.length cP) := (World.cell?_of_block (x6.block GA (by omega) hZA)).trans A35
          have bb6 := Lib.hid (bb5.out.trans (x6.below hZG.out bb5.out.size))
          have hnZ : ∀ k, (b0 ≤ k ∧ k < w3.heap.size) → ¬ Z k := fun k hk e => by have := hZb.out k e; omega
          have hr6 := Lib.hid (show Recs w6 (fun k => b0 ≤ k ∧ k < w3.heap.size) (.slice A3 j' c3) (N.take j') from hr5.out.to (fun b hb => x6.block b (by omega) (hnZ b hb)) (fun _ h => h))
          have hG6 : ∀ b, Grow Z w5 w6 b → Z b ∨ w5.heap.size ≤ b := fun b hb => by
            rcases hb with hb | hb
            · exact .inl hb
            · exact .inr hb.1
          replace hnZ := Lib.hid hnZ
          replace hG6 := Lib.hid hG6
          replace hH6 := Lib.hid hH6
          clear hap hL6 x6 A25 A35 hr5
          go_wp2_with (first
            | (go_at_call 10; refine (num12_any _ _).mono ?_; rintro e wn ⟨rfl, rfl⟩)
            | (go_at_call 15; refine hsy.out.mono ?_; rintro e7 w7 ⟨rfl, hL7, x7⟩; replace hL7 := Lib.hid hL7; replace x7 := Lib.hid x7))
          have s7 := x7.out.size
          have hGA5 : GA < w5.heap.size := by omega
          have hGG : ¬ Grow Z w5 w6 GA := fun e => by
            rcases e with e | e
            · exact hZA e
            · omega
          have A27 : w7.cell? ⟨GA, 2, none⟩ = some (.slice AR x.length cR) := (World.cell?_of_block (x7.out.block GA (by omega) hGG)).trans A26
          have A37 : w7.cell? ⟨GA, 3, none⟩ = some (.slice AP ps.length cP) := (World.cell?_of_block (x7.out.block GA (by omega) hGG)).trans A36
          have hZ6g : ∀ b, Grow Z w5 w6 b → W0.heap.size ≤ b := fun b hb => by
            rcases hG6.out b hb with e | e
            · exact hZG.out b e
            · have := bb5.out.size; omega
          have bb7 := Lib.hid (bb6.out.trans (x7.out.below hZ6g bb6.out.size))
          have hr7 : Recs w7 (fun k => b0 ≤ k ∧ k < w3.heap.size) (.slice A3 j' c3) (N.take j') := hr6.out.to (fun b hb => x7.out.block b (by omega) (fun e => by
            rcases hG6.out b e with e | e
            · exact hnZ.out b hb e
            · omega)) (fun _ h => h)
          have hcc := CopyCells_any w7.drew (fun k => b0 ≤ k ∧ k < w3.heap.size) (.slice A3 j' c3) (N.take j') (hr7.to (fun _ _ => rfl) (fun _ h => h)) (fun b hb => by show b < w7.heap.size; omega) (fun r hr => by have := hN3.out r (List.mem_of_mem_take hr); omega) (by rw [List.length_take]; omega)
          have hlj' : (N.take j').length = j' := by rw [List.length_take]; omega
          have hcb7 := Lib.hid (fun W (hW : Below w7.heap.size w7 W) => CopyBytes_any (.slice AR x.length cR) x W (by omega) (hR.out.later (bb7.out.trans (hW.mono bb7.out.size))))
          obtain ⟨i0, hi0, hz0, hz1, hz2⟩ := info_parts row_info
          have hGA7 : GA < w7.heap.size := by omega
          replace hcc := Lib.hid hcc
          replace hZ6g := Lib.hid hZ6g
          have hln : (N.take j').length ≤ 16 := by omega
          have hnl : (N.take j').length + 1 ≤ 17 := by omega
          replace hlj' := Lib.hid hlj'
          have hGA7' : w7.heap.size ≤ GA → False := fun e => by omega
          replace hGA7' := Lib.hid hGA7'
          have hb24 : ((N.take j').length + 1) * 24 ≤ 140737488355328 := by omega
          have hb63 : (N.take j').length + 1 ≤ maxLen := by unfold maxLen; omega
          replace hb24 := Lib.hid hb24
          replace hb63 := Lib.hid hb63
          clear hnl hln
          clear hsy hr6 A26 A36 hr7
          go_region_held3 (fun w' => w'.cell? ⟨GA, 2, none⟩ = some (.slice AR x.length cR))
            (first | exact A27 | exact (bA'.out.cell (p := ⟨GA, 2, none⟩) hGA7).trans A27 | exact (bB'.out.cell (p := ⟨GA, 2, none⟩) hGA7).trans A27 | exact ((bB'.out.alloc bB'.out.size _).cell (p := ⟨GA, 2, none⟩) hGA7).trans A27 | exact A29)
            (first
              | (go_at_call 13; refine hcc.out.mono ?_; rintro ex wA ⟨vA, usA, rfl, rA, bA⟩; have bA' := Lib.hid ((Below.refl w7.heap.size w7).drew.trans bA); have rA' := Lib.hid rA; have bA2 := Lib.hid bA)
              | (go_at_call 20; refine (hcb7.out wA bA'.out).mono ?_; rintro ex wB ⟨vB, rfl, oB, bB⟩; obtain ⟨AB, cB, rfl, hcB⟩ := own_form oB; have bB' := Lib.hid (bA'.out.trans (bB.mono bA'.out.size)); have oB' := Lib.hid oB; have bB2 := Lib.hid bB; have ownB := Lib.hid (own_later rA'.out.own bB))
              | (refine step_append_lies _ (by rfl) _ _ _ (by rfl) w7.heap.size 37 i0 _ 1 24 Try.underlying31 hi0 hz0 hz1 hz2 rfl (by omega) vA (N.take j').length usA (by rfl) (ownB.out.alloc _) ⟨wB.heap.size, 0, none⟩ 1 1 [.slice AB x.length cB] (by rfl) (by rfl) (World.news_of_block (cs := #[.slice AB x.length cB]) (t := 37) (fr := (0, 0)) (heap_alloc_new wB _)) (by simp [Value.oneCell']) (Nat.zero_lt_one) hb63.out hb24.out (Nat.le_trans bB'.out.size ((Below.refl wB.heap.size wB).alloc (Nat.le_refl _) (.cells #[.slice AB x.length cB] 37)).size) (wB.heap.size + 1) (by simp) ?_; intro gg cap w9 hown9 hgrow9 hat9 hlt9; have hg9 := Lib.hid ((But.alloc _ wB _).trans (But.grown hgrow9)); have A29 : w9.cell? ⟨GA, 2, none⟩ = some (.slice AR x.length cR) := (World.cell?_of_block (hg9.out.block GA (Nat.lt_of_lt_of_le hGA7 bB'.out.size) (fun e => hGA7'.out (rA'.out.own.lt _ e).1))).trans ((bB'.out.cell (p := ⟨GA, 2, none⟩) hGA7).trans A27)))
          have b7B := bB'.out
          have b79 : Below w7.heap.size w7 w9 := b7B.trans (hg9.out.below (fun k hk => (rA'.out.own.lt _ hk).1) b7B.size)
          have s79 := b79.size
          have hrow9 := rows_push rA'.out bB2.out oB'.out (Nat.le_trans (Nat.le_refl _) (show w7.heap.size ≤ wA.heap.size from bA'.out.size)) hown9 hg9.out
          have hok6 := hL7.out.ok
          have hrec9 := hrow9.recs (fun r hr => (hok6 r hr).1)
          have hL9 := Lib.hid (hL7.out.later b79)
          have A39 := (b79.cell (p := ⟨GA, 3, none⟩) hGA7).trans A37
          have bb9 := Lib.hid (bb7.out.trans (b79.mono bb7.out.size))
          have hgw9 := hlt9
          have hZ7 := Lib.hid hL7.out.zl
          have hcv : ∀ W : World, (convert 37 37 (.slice (some ⟨W.heap.size, 0, none⟩) 5 5)).run Try.prog (W.alloc (.cells #[.int .u8 108, .int .u8 97, .int .u8 116, .int .u8 101, .int .u8 114] 5)) = .ok (.slice (some ⟨W.heap.size, 0, none⟩) 5 5) (W.alloc (.cells #[.int .u8 108, .int .u8 97, .int .u8 116, .int .u8 101, .int .u8 114] 5 (5, 6))) := fun W => (const_bs W #[.int .u8 108, .int .u8 97, .int .u8 116, .int .u8 101, .int .u8 114] [108, 97, 116, 101, 114] 5 6 ⟨rfl, rfl⟩ rfl (by decide) (by decide)).1
          have hcbs := (const_bs w9 #[.int .u8 108, .int .u8 97, .int .u8 116, .int .u8 101, .int .u8 114] [108, 97, 116, 101, 114] 5 6 ⟨rfl, rfl⟩ rfl (by decide) (by decide)).2
          have b9X : Below w9.heap.size w9 (w9.alloc (.cells #[.int .u8 108, .int .u8 97, .int .u8 116, .int .u8 101, .int .u8 114] 5 (5, 6))) := (Below.refl _ _).alloc (Nat.le_refl _) _
          obtain ⟨WX, hWX⟩ : ∃ WX, WX = w9.alloc (.cells #[.int .u8 108, .int .u8 97, .int .u8 116, .int .u8 101, .int .u8 114] 5 (5, 6)) := ⟨_, rfl⟩
          have sX : WX.heap.size = w9.heap.size + 1 := by rw [hWX]; simp
          rw [← hWX] at hcbs b9X
          have hrm2 : M.room (N.take j' ++ [x] ++ [[108, 97, 116, 101, 114]]) ≤ 10021 := by
            rw [M.room_snoc]
            simp only [List.length_cons, List.length_nil]
            omega
          have hap2 := append_ok WX (.slice (some ⟨w9.heap.size, 0, none⟩) 5 5) [108, 97, 116, 101, 114] (hL9.out.later b9X) hH6.out (hcbs.to (fun _ _ => rfl) (fun b hb => by
            subst hb
            exact ⟨by omega, fun e => by have := hZ7.out _ e; omega⟩)) (by decide) (by decide) (by rw [hcn]; omega) (by rw [hcn, M.least_none]; omega) (by omega)
          rw [hWX] at hap2
          have hrecX : Recs WX (fun k => w7.heap.size ≤ k ∧ k < w9.heap.size) (.slice (some ⟨gg, 0, none⟩) (j' + 1) cap) (N.take j' ++ [x]) := by
            have e1 : (N.take j').length + 1 = j' + 1 := by rw [hlj'.out]
            rw [← e1]
            exact hrec9.to (fun b hb => b9X.block b hb.2) (fun _ h => h)
          have A3X := (b9X.cell (p := ⟨GA, 3, none⟩) (show GA < w9.heap.size by omega)).trans A39
          have bbX := Lib.hid (bb9.out.trans (b9X.mono bb9.out.size))
          replace hWX := Lib.hid hWX
          replace hap2 := Lib.hid hap2
          replace hrecX := Lib.hid hrecX
          replace hok6 := Lib.hid hok6
          clear hcc hcb7 rA' oB' bB2 ownB hown9 hgrow9 hg9 hat9 hrow9 hrec9 hcbs b9X bA' bB' bA2 b7B b79 A27 A29 hL9 A39 hL7 x7 hi0 hz0 hz1 hz2
          go_wp2_with (first
            | (go_at_call 10; refine (num12_any _ _).mono ?_; rintro e wn ⟨rfl, rfl⟩)
            | (go_at_call 21; refine hap2.out.mono ?_; rintro e11 w11 ⟨rfl, h11, x11⟩; replace h11 := Lib.hid h11; rw [← hWX.out] at x11; replace x11 := Lib.hid x11; have A3Y : w11.cell? ⟨GA, 3, none⟩ = some (.slice AP ps.length cP) := (World.cell?_of_block (x11.out.block GA (Nat.lt_of_lt_of_le hGA7 (Nat.le_trans s79 (by omega))) hGG)).trans A3X))
          obtain ⟨k11, E11, h111, h112, hL11, hH11⟩ := h11.out
          have s11 := x11.out.size
          have bb11 : Below W0.heap.size W0 w11 := bbX.out.trans (x11.out.below hZ6g.out bbX.out.size)
          have hag := Lib.hid (Again_of w11 (.slice AP ps.length cP) ps hL11.disk (hP.out.later bb11))
          have hok11 := hL11.ok
          have hlt1 : (N.take j' ++ [x]).length = j' + 1 := by rw [List.length_append, hlj'.out]; rfl
          have htk : (N.take j' ++ [x] ++ [[108, 97, 116, 101, 114]]).take (j' + 1) = N.take j' ++ [x] := List.take_left' hlt1
          have hlen2 : (N.take j' ++ [x] ++ [[108, 97, 116, 101, 114]]).length = j' + 2 := by rw [List.length_append, hlt1]; rfl
          have hmix := M.crash_mix (S := E6) (E := E11) (n := 1500) (ps := ps) hH6.out.len hH11.len
          have hgood2 : M.Good (M.crash E6 E11 1500 0 ps) 1500 h (N.take j' ++ [x] ++ [[108, 97, 116, 101, 114]]) (j' + 1) :=
            M.Holds.mix (by rw [htk]; exact hH6.out) hH11 hok11 (by omega) hmix.1 hmix.2
          have hall4 : ∀ y ∈ N.take j' ++ [x] ++ [[108, 97, 116, 101, 114]], y.length ≤ 400 := fun y hy => by
            rcases List.mem_append.1 hy with hy | hy
            · rcases List.mem_append.1 hy with hy | hy
              · exact hN3.out y (List.mem_of_mem_take hy)
              · have : y = x := by simpa using hy
                subst this; omega
            · have : y = [108, 97, 116, 101, 114] := by simpa using hy
              subst this; decide
          have hrec11 : Recs w11 (fun k => w7.heap.size ≤ k ∧ k < w9.heap.size) (.slice (some ⟨gg, 0, none⟩) (j' + 1) cap) (N.take j' ++ [x]) := hrecX.out.to (fun b hb => x11.out.block b (by omega) (fun e => by have := hZ7.out b e; omega)) (fun _ h => h)
          have hfin := Lib.hid (show ∀ e12 w12, DkPost 1500 (M.crash E6 E11 1500 0 ps) [] w11 e12 w12 → ∃ g2, e12 = .returned (Mp g2) ∧ LaIn W0 l2 (Mp g2) (.slice (some ⟨gg, 0, none⟩) (j' + 1) cap) (.int .i64 ((t + 1 : Nat) : Int)) w12 from fun e12 w12 ⟨g2, r2, q2, cS2, cE2, he, d12, b12⟩ => by
            have s12' := b12.size
            refine ⟨g2, he, t + 1, g2, r2, q2, cS2, cE2, h, j' + 1, _, _, by omega, by omega, rfl, rfl, d12.base bb11.size, hgood2, by omega, by omega, hall4, ?_, bb11.trans (b12.mono bb11.size)⟩
            rw [htk]
            exact hrec11.to (fun b hb => b12.block b (by omega)) (fun b hb => ⟨by omega, fun e => by have := d12.ft b e; omega⟩))
          clear hL11 hH11 h11 hmix hgood2 hall4 hrec11 hok11 hlen2 htk hlt1 hrecX bbX hap2 hcv A3X
          refine hag.out.mono ?_
          rintro e12 w12 h12
          obtain ⟨g2, rfl, hla⟩ := hfin.out e12 w12 h12
          replace hla := Lib.hid hla
          clear h12 hag hfin
          go_wp2_with fail
          exact ⟨by have := hla.out; simpa using this, by simp [intOf]; omega⟩
      · replace hb' := Lib.hid (b0'.out.trans (hb'.out.mono s01))
        have hb2 := Lib.hid hb
        clear hb
        by_cases h1 : t < l2
        · have t1 : (t : Int) < (l2 : Int) := by omega
          have t2 : ¬ (t : Int) < 8 := by omega
          go_wp2_with fail
          refine (hwk.out wr).mono ?_
          rintro e9 w9 ⟨rfl, b9⟩
          replace b9 := Lib.hid b9
          go_wp2_with fail
          go_ret
          exact ⟨rfl, hb'.out.trans (b9.out.mono hb'.out.size)⟩
        · have t1 : ¬ (t : Int) < (l2 : Int) := by omega
          go_wp2_with fail
          refine (hwk.out wr).mono ?_
          rintro e9 w9 ⟨rfl, b9⟩
          replace b9 := Lib.hid b9
          go_wp2_with fail
          go_ret
          exact ⟨rfl, hb'.out.trans (b9.out.mono hb'.out.size)⟩
theorem lastsLaw (cs : Array Value) (w : World) (hs : IsScript w (.agg cs)) : Calls Try.prog 5 #[.agg cs] w fun e w' => e = .returned (.bool true) ∧ Below w.heap.size w w' := by
  obtain ⟨n, A, l, c, ts, A2, l2, c2, hv, _, ⟨htl, hts⟩, hA, ha⟩ := hs
  injection hv with hv
  subst hv
  obtain ⟨_, _, e, h1, h2, _⟩ := hts
  cases e
  exact lastsWalk w n A A2 _ c l2 c2 hA ⟨h1, h2⟩ ha
end Go.Proofs.Ytncafkifebannaa
