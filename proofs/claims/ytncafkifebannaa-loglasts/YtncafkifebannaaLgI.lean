/-
  How the log reads a half; condition: the log's block and its disk lie in memory.
-/
import Derived.Test.YtncafkifebannaaLgH
namespace Go.Proofs.Ytncafkifebannaa
open Go.RowKit
section
variable {w w' : World} {B G g r q n cS cE : Nat} {S E : List Nat} {k last : Int} {h : Nat} {v2 v3 v4 : Value}
/-- A half's bytes on a disk. -/
def M.reg (E : List Nat) (n h : Nat) : List Nat := (E.drop ((1 + h * M.cnt n) * 64)).take (M.cnt n * 64)
theorem M.reg_length {E : List Nat} {n h : Nat} (hE : E.length = n * 64) (h2 : h < 2) : (M.reg E n h).length = M.cnt n * 64 := by
  unfold M.reg
  rw [List.length_take, List.length_drop, hE]
  have : M.cnt n * 2 ≤ n - 1 := by unfold M.cnt; omega
  rcases (show h = 0 ∨ h = 1 by omega) with rfl | rfl
  · by_cases hn : n = 0
    · subst hn; simp [M.cnt]
    · omega
  · by_cases hn : n = 0
    · subst hn; simp [M.cnt]
    · omega
/-- What reading a half answers. -/
def RdPost (n : Nat) (bs : List Nat) (k last : Int) (w : World) (e : Ending) (w' : World) : Prop :=
  ((∃ gb, e = .returned (.tuple #[.slice (some ⟨gb, 0, none⟩) bs.length bs.length, .int .i64 0]) ∧ RowAt w' gb bs.length bs ∧ w.heap.size ≤ gb ∧ (¬ last ≤ k ∨ M.cnt n = 0)) ∨
    (e = .returned (.tuple #[.slice none 0 0, .int .i64 103]) ∧ last ≤ k ∧ M.cnt n ≠ 0)) ∧ Below w.heap.size w w'
set_option maxRecDepth 100000 in
set_option maxHeartbeats 2000000 in
theorem read_of (w : World) (a : HAt w B G g r q n cS cE S E k last h v2 v3 v4) : Calls Try.prog 50 #[Mp G] w (RdPost n (M.reg E n h) k last w) := by
  have hn := a.disk.n0
  have hc : M.cnt n ≤ 8192 := by unfold M.cnt; omega
  have h2 := a.h2
  have hGl : G < w.heap.size := (Array.getElem?_eq_some_iff.1 a.obj).1
  obtain ⟨bs, hbs⟩ : ∃ bs, bs = M.reg E n h := ⟨_, rfl⟩
  rw [← hbs]
  obtain ⟨N, hNN⟩ : ∃ N, N = M.cnt n := ⟨_, rfl⟩
  obtain ⟨C, hC⟩ : ∃ C, C = N * 64 := ⟨_, rfl⟩
  have hbl : bs.length = C := by rw [hbs, M.reg_length a.disk.lE h2, hC, hNN]
  have hCi : (N : Int) * 64 = (C : Int) := by rw [hC]; push_cast; rfl
  have hC9 : C ≤ 524288 := by omega
  have hend : 1 + h * N + N ≤ n := by
    have : M.cnt n * 2 + 1 ≤ n := by unfold M.cnt; omega
    rcases (show h = 0 ∨ h = 1 by omega) with rfl | rfl <;> omega
  have hmk := make_run 0 C (C : Int) 0 rfl rfl (by omega) (by omega) w
  have h0 := zrow_at w C (by omega)
  obtain ⟨W0, hW0⟩ : ∃ W0, W0 = w.alloc (.cells (zrow C) 5) := ⟨_, rfl⟩
  have b0 : Below w.heap.size w W0 := by rw [hW0]; exact (Below.refl _ _).alloc (Nat.le_refl _) _
  rw [← hW0] at h0 hmk
  obtain ⟨gb, hgb⟩ : ∃ gb, gb = w.heap.size := ⟨_, rfl⟩
  rw [← hgb] at h0 hmk
  have hgD : ¬ DX g r q gb := fun e => by have := a.disk.lt gb e; omega
  have hGg : G ≠ gb := by omega
  have hcnt := Lib.hid (fun W (hW : HAt W B G g r q n cS cE S E k last h v2 v3 v4) => count_any W hW)
  rw [← hNN] at hcnt
  have hA0 := Lib.hid (a.later b0)
  have hgbs : w.heap.size ≤ gb := by omega
  have hsecs := Lib.hid (show ∀ i, i < N → M.lay (List.replicate C 0) 0 (bs.take (i * 64)) = M.lay (List.replicate C 0) 0 (bs.take (i * 64)) ∧ bs.take ((i + 1) * 64) = bs.take (i * 64) ++ M.sec E (1 + h * N + i) from fun i hi => ⟨rfl, by
    have hsl : (M.sec E (1 + h * N + i)).length = 64 := M.sec_length (by rw [a.disk.lE]; omega)
    rw [show (i + 1) * 64 = i * 64 + 64 by omega, List.take_add]
    congr 1
    rw [hbs]
    unfold M.reg M.sec
    rw [List.drop_take, List.drop_drop, List.take_take, Nat.min_eq_left (by rw [← hNN]; omega), ← hNN]
    congr 2
    omega⟩)
  have hsl := Lib.hid (show ∀ i, i < N → (M.sec E (1 + h * N + i)).length = 64 from fun i hi => M.sec_length (by rw [a.disk.lE]; omega))
  have ha := Lib.hid a
  replace hW0 := Lib.hid hW0
  replace hgb := Lib.hid hgb
  replace b0 := Lib.hid b0
  replace hC := Lib.hid hC
  replace hNN := Lib.hid hNN
  replace hbs := Lib.hid hbs
  replace hbl := Lib.hid hbl
  clear a
  go_enter Try.func50, Try.ntmps50
  go_wp2_with fail
  refine (hcnt.out w ha.out).mono ?_
  rintro e w1 ⟨rfl, rfl⟩
  go_wp2_with fail
  refine (hcnt.out W0 hA0.out).mono ?_
  rintro e w2 ⟨rfl, hw2⟩
  subst hw2
  go_wp2_with fail
  go_loopw [4, 14] (fun b s w' => ∃ i : Nat, i ≤ N ∧ s = .int .i64 i ∧ b = .slice (some ⟨gb, 0, none⟩) (i * 64) C ∧ RowAt w' gb C (M.lay (List.replicate C 0) 0 (bs.take (i * 64))) ∧ But (· = gb) w2 w' ∧ (i = 0 ∨ ¬ last ≤ k)) (fun _ s _ => N - (intOf s).toNat)
  case atStart => exact ⟨0, by omega, rfl, by simp, by rw [Nat.zero_mul, List.take_zero, M.lay_nil _ _ (by omega)]; exact h0, But.refl _ _, .inl rfl⟩
  case round =>
    obtain ⟨i, hi, rfl, rfl, hrow, hb, hon⟩ := hrel
    by_cases hlt : i < N
    · have hdk : DAt wr B g r q n cS cE S E k last := hA0.out.disk.but hb (fun b hb' e => hgD (e ▸ hb'))
      have hGW : G < w2.heap.size := Nat.lt_of_lt_of_le hGl b0.out.size
      have hAr : HAt wr B G g r q n cS cE S E k last h v2 v3 v4 := ⟨hdk, (hb.block G hGW hGg).trans hA0.out.obj, hA0.out.gB, hA0.out.gD, hA0.out.h2⟩
      have c0 := hAr.c0
      have hGw : G < wr.heap.size := Nat.lt_of_lt_of_le hGW hb.size
      have hAd := Lib.hid (hAr.later (Below.refl _ _).drew)
      have hsec := Lib.hid (show ∀ W, HAt W B G g r q n cS cE S E k last h v2 v3 v4 → Calls Try.prog 58 #[Mp G, .int .i64 (i : Int)] W fun e w' => e = .returned (.int .i64 ((1 + h * N + i : Nat) : Int)) ∧ Below W.heap.size W w' from fun W hW => by rw [hNN.out]; exact sector_of W i hW (by omega))
      obtain ⟨jj, hjj⟩ : ∃ jj, jj = 1 + h * N + i := ⟨_, rfl⟩
      rw [← hjj] at hsec
      have hjn : jj < n := by omega
      have t0 : (0 : Int) ≤ (i : Int) := by omega
      have t1 : (i : Int) < (N : Int) := by omega
      have hw0 : Below w1.heap.size w1 wr := b0.out.trans (hb.below (fun b e => by rw [e]; exact hgbs) b0.out.size)
      have hsec2 := (hsecs.out i hlt).2
      have hsl2 := hsl.out i hlt
      rw [← hjj] at hsec2 hsl2
      replace hsec2 := Lib.hid hsec2
      replace hsl2 := Lib.hid hsl2
      by_cases hoff : last ≤ k
      · have hrd := Lib.hid (fun W (hW : Below wr.heap.size wr W) => Read_off W (jj : Int) (hdk.later hW) ⟨by omega, by omega⟩ hoff)
        have hcn : M.cnt n ≠ 0 := by rw [← hNN.out]; omega
        replace hw0 := Lib.hid hw0
        replace hb := Lib.hid hb
        replace hrow := Lib.hid hrow
        have hoff' : Unit → last ≤ k := fun _ => hoff
        clear hon hdk hAr hjj hoff
        go_wp2_with fail
        go_region_held3 (fun w' => w'.cell? ⟨G, 0, none⟩ = some (Mp g))
          (first | exact c0 | exact (b2'.out.cell (p := ⟨G, 0, none⟩) hGw).trans c0 | exact (b3'.out.cell (p := ⟨G, 0, none⟩) hGw).trans c0)
          (first
            | (go_at_call 58; (with_reducible refine (hsec.out _ hAd.out).mono ?_); rintro ex w4 ⟨rfl, b2⟩; have b2' := Lib.hid ((Below.refl wr.heap.size wr).drew.trans b2))
            | (go_at_call 47; (with_reducible refine (hrd.out _ b2'.out).mono ?_); rintro ex w5 ⟨rfl, b3⟩; have b3' := Lib.hid (b2'.out.trans (b3.mono b2'.out.size))))
        have hfin := Lib.hid (show RdPost n bs k last w1 (.returned (.tuple #[.slice none 0 0, .int .i64 103])) w5 from ⟨.inr ⟨rfl, hoff' (), hcn⟩, hw0.out.trans (b3'.out.mono hw0.out.size)⟩)
        clear hcn b3'
        go_wp2_with fail
        go_ret2
        exact hfin.out
      · have hrd := Lib.hid (fun W (hW : Below wr.heap.size wr W) => Read_ok W (jj : Int) jj _ (hdk.later hW) rfl hjn hoff rfl)
        have hoff' : Unit → ¬ last ≤ k := fun _ => hoff
        replace hw0 := Lib.hid hw0
        replace hb := Lib.hid hb
        replace hrow := Lib.hid hrow
        have hfull := Lib.hid (show (M.lay (List.replicate C 0) 0 (bs.take (i * 64))).length = C by rw [M.lay_length (by rw [List.length_replicate, List.length_take, hbl.out]; omega), List.length_replicate])
        have hroom := Lib.hid (show i * 64 + (M.sec E jj).length ≤ C by rw [hsl2.out, hC.out]; omega)
        have hnext := Lib.hid (show M.lay (M.lay (List.replicate C 0) 0 (bs.take (i * 64))) (i * 64) (M.sec E jj) = M.lay (List.replicate C 0) 0 (bs.take ((i + 1) * 64)) by
          have hlt3 : (bs.take (i * 64)).length = i * 64 := by rw [List.length_take, hbl.out, hC.out]; omega
          have := M.lay_lay (bs := List.replicate C 0) (xs := bs.take (i * 64)) (ys := M.sec E jj) (a := 0) (by rw [List.length_replicate, hlt3, hsl2.out, hC.out]; omega)
          rw [Nat.zero_add, hlt3] at this
          rw [this, hsec2.out])
        clear hon hdk hAr hjj hoff
        go_wp2_with fail
        go_region_held3 (fun w' => w'.cell? ⟨G, 0, none⟩ = some (Mp g))
          (first | exact c0 | exact (b2'.out.cell (p := ⟨G, 0, none⟩) hGw).trans c0 | exact (b3'.out.cell (p := ⟨G, 0, none⟩) hGw).trans c0)
          (first
            | (go_at_call 58; (with_reducible refine (hsec.out _ hAd.out).mono ?_); rintro ex w4 ⟨rfl, b2⟩; have b2' := Lib.hid ((Below.refl wr.heap.size wr).drew.trans b2))
            | (go_at_call 47; (with_reducible refine (hrd.out _ b2'.out).mono ?_); rintro ex w5 ⟨r5, c5, rfl, ro5, _, b3⟩; have b3' := Lib.hid (b2'.out.trans (b3.mono b2'.out.size))))
        have erb := Lib.hid (ro5.all (n := 64) hsl2.out.symm)
        have hrow2 := Lib.hid (hrow.out.later b3'.out)
        have hb2 := Lib.hid (hb.out.trans (But.ofBelow (X := (· = gb)) b3'.out))
        have hlen4 := Lib.hid (show (i + 1) * 64 = i * 64 + 64 by omega)
        clear ro5 b3'
        go_wp2_with (at_builtin; refine wpList_push rfl _ _ rfl gb C (i * 64) c5 (some ⟨r5, 0, none⟩) (M.lay (List.replicate C 0) 0 (bs.take (i * 64))) (M.sec E jj) rfl hrow2.out hfull.out ?_ ?_ ?_ hroom.out ?_; (rw [hsl2.out]; rfl); (rw [hsl2.out]; exact erb.out); (rw [hsl2.out]; decide); intro w6 r6 x6; rw [hsl2.out])
        exact ⟨⟨i + 1, by omega, by go_num, by rw [hlen4.out], by rw [← hnext.out]; exact r6, hb2.out.trans x6, .inr (by have := hoff' (); omega)⟩, by simp [intOf]; omega⟩
    · obtain rfl : i = N := by omega
      have hall : M.lay (List.replicate C 0) 0 (bs.take (i * 64)) = bs := by
        rw [← hC.out, ← hbl.out, List.take_length]
        have := M.lay_app [] (List.replicate bs.length 0) [] bs (by simp)
        simpa using this
      rw [hall] at hrow
      have hw0 : Below w1.heap.size w1 wr := b0.out.trans (hb.below (fun b e => by rw [e]; exact hgbs) b0.out.size)
      have hfin : RdPost n bs k last w1 (.returned (.tuple #[.slice (some ⟨gb, 0, none⟩) (i * 64) C, .int .i64 0])) wr := by
        refine ⟨.inl ⟨gb, by rw [hbl.out, ← hC.out], by rw [hbl.out]; exact hrow, hgbs, ?_⟩, hw0⟩
        rcases hon with h9 | h9
        · exact .inr (by rw [← hNN.out]; exact h9)
        · exact .inl h9
      replace hfin := Lib.hid hfin
      have t1 : ¬ (i : Int) < (i : Int) := by omega
      clear hall hrow hb hw0 hon
      go_wp2_with fail
      go_ret2
      exact hfin.out
end
end Go.Proofs.Ytncafkifebannaa
