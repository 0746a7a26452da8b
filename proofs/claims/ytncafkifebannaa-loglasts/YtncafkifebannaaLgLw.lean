/-
  The statements' small helpers: numbers of errors, a new disk, a disk of a crash, copies of records, whether records are the same; condition: all lies in memory.
-/
import Derived.Test.YtncafkifebannaaLgHv
import Derived.Test.YtncafkifebannaaDWakes
import Derived.StillTailTactics
namespace Go.Proofs.Ytncafkifebannaa
open Go.RowKit
theorem num12_any (e : Int) (w : World) : Calls Try.prog 10 #[.int .i64 e] w fun r w' => r = .returned (.int .i64 e) ∧ w = w' := by
  go_enter Try.func10, Try.ntmps10
  go_wp2
  go_ret
  exact ⟨rfl, rfl⟩
/-- A new disk of noughts. -/
def DkPost (n : Nat) (bs : List Nat) (ts : List Int) (w : World) (e : Ending) (w' : World) : Prop := ∃ g r q cS cE, e = .returned (Mp g) ∧ DAt w' w.heap.size g r q n cS cE bs bs 0 (M.least ts) ∧ Below w.heap.size w w'
set_option maxRecDepth 100000 in
theorem Disk_of (w : World) (n : Nat) (vt : Value) (ts : List Int) (hn : 0 < n ∧ n ≤ 16384) (ht : NS w w.heap.size vt ts) (h1 : ∀ t ∈ ts, 1 ≤ t) : Calls Try.prog 8 #[.int .i64 (n : Int), vt] w (DkPost n (List.replicate (n * 64) 0) ts w) := by
  obtain ⟨C, hC⟩ : ∃ C, C = n * 64 := ⟨_, rfl⟩
  have hCi : (n : Int) * 64 = (C : Int) := by rw [hC]; push_cast; rfl
  have hmk := make_run C C (C : Int) (C : Int) rfl rfl (by omega) (by omega) w
  have h0 := zrow_at w C (by omega)
  obtain ⟨W0, hW0⟩ : ∃ W0, W0 = w.alloc (.cells (zrow C) 5) := ⟨_, rfl⟩
  have b0 : Below w.heap.size w W0 := by rw [hW0]; exact (Below.refl _ _).alloc (Nat.le_refl _) _
  rw [← hW0] at h0 hmk
  obtain ⟨gb, hgb⟩ : ∃ gb, gb = w.heap.size := ⟨_, rfl⟩
  rw [← hgb] at h0 hmk
  have hC9 : C ≤ 1048576 := by omega
  have hnew := Lib.hid (New_any W0 (.slice (some ⟨gb, 0, none⟩) C C) vt (List.replicate C 0) ts n hn (by simp [hC]) (h0.all (by simp)) (ht.later b0))
  rw [← hC]
  replace hgb := Lib.hid hgb
  replace hW0 := Lib.hid hW0
  replace hC := Lib.hid hC
  replace h1 := Lib.hid h1
  replace b0 := Lib.hid b0
  clear h0 ht
  go_enter Try.func8, Try.ntmps8
  go_wp2_with fail
  refine hnew.out.mono ?_
  rintro e1 w1 hp
  obtain ⟨g, r, q, cS, cE, rfl, d, b1⟩ := new_rows hp h1.out
  have hs := b0.out.size
  have hf := Lib.hid (show DkPost n (List.replicate C 0) ts w (.returned (Mp g)) w1 from ⟨g, r, q, cS, cE, rfl, ⟨d.obj, by have := d.ge; omega, d.rS, d.rE, d.lS, d.lE, d.ap, d.n0⟩, b0.out.trans (b1.mono hs)⟩)
  clear hp d b1
  go_wp2_with (go_at_call 10; refine (num12_any _ _).mono ?_; rintro e wn ⟨rfl, rfl⟩)
  go_ret
  exact hf.out
set_option maxRecDepth 100000 in
theorem Again_of (w : World) (vp : Value) (ps : List Int) {B g r q n cS cE : Nat} {S E : List Nat} {k last : Int} (h : DAt w B g r q n cS cE S E k last) (hp : NS w w.heap.size vp ps) : Calls Try.prog 26 #[Mp g, vp] w (DkPost n (M.crash S E n 0 ps) [] w) := by
  have hn := h.n0
  have hl : (M.crash S E n 0 ps).length = n * 64 := M.crash_length (by rw [h.lS]; omega) (by rw [h.lE]; omega)
  have hlt : ∀ b ∈ M.crash S E n 0 ps, b < 256 := M.crash_lt h.rS.small h.rE.small
  have hcr := Lib.hid (Crash_any w vp ps h hp)
  obtain ⟨I, hI⟩ : ∃ I, I = M.crash S E n 0 ps := ⟨_, rfl⟩
  rw [← hI] at hl hlt hcr ⊢
  have hnew := Lib.hid (fun W v (hv : BS W W.heap.size v I) => New_any W v (.slice none 0 0) I [] n hn hl hv (nil_NS _ _))
  replace hI := Lib.hid hI
  replace hlt := Lib.hid hlt
  clear h hp
  go_enter Try.func26, Try.ntmps26
  go_wp2_with fail
  refine hcr.out.mono ?_
  rintro e0 w0 ⟨v, rfl, hown, b0⟩
  have hbs := Lib.hid (own_BS hown hlt.out)
  clear hown
  go_wp2_with fail
  refine (hnew.out _ _ hbs.out).mono ?_
  rintro e1 w1 hp
  obtain ⟨g', r', q', cS', cE', rfl, d, b1⟩ := new_rows hp (by simp)
  have hs := b0.size
  have hf := Lib.hid (show DkPost n I [] w (.returned (Mp g')) w1 from ⟨g', r', q', cS', cE', rfl, ⟨d.obj, by have := d.ge; omega, d.rS, d.rE, d.lS, d.lE, d.ap, d.n0⟩, b0.trans (b1.mono hs)⟩)
  clear hp d b1
  go_wp2_with (go_at_call 10; refine (num12_any _ _).mono ?_; rintro e wn ⟨rfl, rfl⟩)
  go_ret
  exact hf.out
theorem Recs.get {w : World} {P : Nat → Prop} {A : Option Addr} {n c : Nat} {rs : List (List Nat)} (h : Recs w P (.slice A n c) rs) (k : Nat) (hk : k < n) : ∃ ad A1 x d, A = some ad ∧ P ad.block ∧ rs[k]? = some x ∧ w.cell? (ad.add k) = some (.slice A1 x.length d) ∧ BSP w P (.slice A1 x.length d) x := by
  obtain ⟨A', c', e, h1, h2⟩ := h
  cases e
  have hx := List.getElem?_eq_getElem hk
  obtain ⟨ad, u, q1, q2, q3, q4⟩ := h2 k _ hx
  obtain ⟨A1, d, rfl, _⟩ := id q4
  exact ⟨ad, A1, _, d, q1, q2, hx, q3, q4⟩
set_option maxRecDepth 100000 in
set_option maxHeartbeats 2000000 in
theorem EqCells_any (w : World) (P Q : Nat → Prop) (v1 v2 : Value) (xs ys : List (List Nat)) (r : Bool) (h1 : Recs w P v1 xs) (h2 : Recs w Q v2 ys) (hP : ∀ b, P b → b < w.heap.size) (hQ : ∀ b, Q b → b < w.heap.size) (hr : r = decide (xs = ys)) :
    Calls Try.prog 24 #[v1, v2] w fun e w' => e = .returned (.bool r) ∧ Below w.heap.size w w' := by
  obtain ⟨A1, c1, rfl, a1, a2⟩ := id h1
  obtain ⟨A2, c2, rfl, b1, b2⟩ := id h2
  clear a2 b2
  obtain ⟨n, hn⟩ : ∃ n, n = xs.length := ⟨_, rfl⟩
  obtain ⟨m, hm⟩ : ∃ m, m = ys.length := ⟨_, rfl⟩
  rw [← hn] at h1 a1
  rw [← hm] at h2 b1
  rw [← hn, ← hm]
  unfold maxLen at a1 b1
  by_cases hne : n = m
  · have hr' := Lib.hid hr
    have g1 := Lib.hid (fun W (hW : Below w.heap.size w W) => Recs.get (h1.to (w' := W) (Q := P) (fun b hb => hW.block b (hP b hb)) (fun _ h => h)))
    have g2 := Lib.hid (fun W (hW : Below w.heap.size w W) => Recs.get (h2.to (w' := W) (Q := Q) (fun b hb => hW.block b (hQ b hb)) (fun _ h => h)))
    replace hn := Lib.hid hn
    replace hm := Lib.hid hm
    subst hne
    replace hP := Lib.hid hP
    replace hQ := Lib.hid hQ
    clear h1 h2 hr
    go_enter Try.func24, Try.ntmps24
    go_wp2_with fail
    go_loopw [5] (fun i w' => ∃ k : Nat, k ≤ n ∧ i = .int .i64 k ∧ Below w.heap.size w w' ∧ ∀ j, j < k → xs[j]? = ys[j]?) (fun i _ => n - (intOf i).toNat)
    case atStart => exact ⟨0, by omega, rfl, Below.refl _ _, fun j hj => by omega⟩
    case round =>
      obtain ⟨k, hk, rfl, hb, hall⟩ := hrel
      have hs := hb.size
      by_cases hlt : k < n
      · obtain ⟨ad1, B1, x, d1, rfl, p1, e1, q1, s1⟩ := g1.out wr hb k hlt
        obtain ⟨ad2, B2, y, d2, rfl, p2, e2, q2, s2⟩ := g2.out wr hb k hlt
        have t0 : (0 : Int) ≤ (k : Int) := by omega
        have t1 : (k : Int) < (n : Int) := by omega
        have s1' := s1.bs (fun b hb' => Nat.lt_of_lt_of_le (hP.out b hb') hs)
        have s2' := s2.bs (fun b hb' => Nat.lt_of_lt_of_le (hQ.out b hb') hs)
        have hbh := Lib.hid hb
        replace hall := Lib.hid hall
        by_cases hxy : x = y
        · subst hxy
          have heq := Lib.hid (EqBytes_any _ _ x x true wr.drew (s1'.later (Below.refl _ _).drew) (s2'.later (Below.refl _ _).drew) (by simp))
          have hall2 := Lib.hid (show ∀ j, j < k + 1 → xs[j]? = ys[j]? from fun j hj => by
            by_cases hjk : j = k
            · rw [hjk, e1, e2]
            · exact hall.out j (by omega))
          clear s1 s2 s1' s2' hb e1 e2
          go_wp2_with fail
          go_still_tail 8, (by kernel_rfl)
          change wpList _ _ _ _ _ wr.drew
          replace q1 : wr.drew.cell? (ad1.add k) = some (.slice B1 x.length d1) := q1
          replace q2 : wr.drew.cell? (ad2.add k) = some (.slice B2 x.length d2) := q2
          go_wp2_with fail
          refine heq.out.mono ?_
          rintro ex w5 ⟨rfl, b5⟩
          have b5' := Lib.hid ((Below.refl wr.heap.size wr).drew.trans b5)
          have hb6 := Lib.hid (hbh.out.trans (b5'.out.mono hs))
          clear b5 b5' heq
          go_wp2_with fail
          exact ⟨⟨k + 1, by omega, by go_num, hb6.out, hall2.out⟩, by simp [intOf]; omega⟩
        · have heq := Lib.hid (EqBytes_any _ _ x y false wr.drew (s1'.later (Below.refl _ _).drew) (s2'.later (Below.refl _ _).drew) (by simp [hxy]))
          have hrf : r = false := by
            rw [hr'.out, decide_eq_false_iff_not]
            intro e
            rw [e, e2] at e1
            injection e1 with e1
            exact hxy e1.symm
          subst hrf
          clear hxy
          clear s1 s2 s1' s2' hb e1 e2
          go_wp2_with fail
          go_still_tail 8, (by kernel_rfl)
          change wpList _ _ _ _ _ wr.drew
          replace q1 : wr.drew.cell? (ad1.add k) = some (.slice B1 x.length d1) := q1
          replace q2 : wr.drew.cell? (ad2.add k) = some (.slice B2 y.length d2) := q2
          go_wp2_with fail
          refine heq.out.mono ?_
          rintro ex w5 ⟨rfl, b5⟩
          have b5' := Lib.hid ((Below.refl wr.heap.size wr).drew.trans b5)
          have hb6 := Lib.hid (hbh.out.trans (b5'.out.mono hs))
          clear b5 b5' heq
          go_wp2_with fail
          go_ret
          exact ⟨rfl, hb6.out⟩
      · obtain rfl : k = n := by omega
        have hrt : r = true := by
          rw [hr'.out, decide_eq_true_iff]
          apply List.ext_getElem?
          intro j
          by_cases hj : j < k
          · exact hall j hj
          · rw [List.getElem?_eq_none (by have := hn.out; omega), List.getElem?_eq_none (by have := hm.out; omega)]
        subst hrt
        replace hb := Lib.hid hb
        clear hall
        go_wp2_with fail
        go_ret
        exact ⟨rfl, hb.out⟩
  · have hrf : r = false := by
      rw [hr, decide_eq_false_iff_not]
      intro e
      rw [e] at hn
      omega
    subst hrf
    have hd : ((n : Int) != (m : Int)) = true := by simp; omega
    clear h1 h2 hr hn hm
    go_enter Try.func24, Try.ntmps24
    go_wp2_with fail
    go_ret
    exact ⟨rfl, Below.refl _ _⟩
end Go.Proofs.Ytncafkifebannaa
