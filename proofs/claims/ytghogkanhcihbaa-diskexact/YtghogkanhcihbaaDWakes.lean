/-
  The statements' small helpers: what wakes, a sector or noughts; no condition.
-/
import Derived.Test.YtghogkanhcihbaaDNew
import Derived.Test.YtghogkanhcihbaaDCrash
namespace Go.Proofs.Ytghogkanhcihbaa
open Go.RowKit
theorem nil_NS (w : World) (N : Nat) : NS w N (.slice none 0 0) [] := ⟨none, 0, rfl, by simp, by unfold maxLen; omega, fun i hi => by simp at hi⟩
theorem new_rows {w w1 : World} {bs : List Nat} {ts : List Int} {n : Nat} {e : Ending} (h : NewPost bs ts n w e w1) (ht : ∀ t ∈ ts, 1 ≤ t) : ∃ g r q cS cE, e = .returned (.tuple #[Mp g, .int .i64 0]) ∧ DAt w1 w.heap.size g r q n cS cE bs bs 0 (M.least ts) ∧ Below w.heap.size w w1 := by
  obtain ⟨⟨_, g, r, q, cS, cE, he, hd⟩ | ⟨⟨t, h1, h2⟩, _⟩, hb⟩ := h
  · exact ⟨g, r, q, cS, cE, he, hd, hb⟩
  · have := ht t h1
    omega
theorem DAt.since {w w1 w2 : World} {B g r q n cS cE : Nat} {S E : List Nat} {k last : Int} (h : DAt w1 B g r q n cS cE S E k last) (hb : Below B w w1) (hB : B ≤ w.heap.size) (hx : But (DX g r q) w1 w2) : Below B w w2 :=
  hb.trans (hx.below h.ft (Nat.le_trans hB hb.size))
set_option maxRecDepth 100000 in
theorem wakes_any (w : World) : Calls Try.prog 11 #[] w fun e w' => e = .returned (.bool true) ∧ Below w.heap.size w w' := by
  have hmk := make_run 128 128 128 128 rfl rfl (by omega) (by omega) w
  obtain ⟨im, him⟩ : ∃ im, im = List.replicate 128 0 := ⟨_, rfl⟩
  have hl : im.length = 2 * 64 := by rw [him]; simp
  have hz := zrow_at w 128 (by omega)
  rw [← him] at hz
  have hb0 := (Below.refl w.heap.size w).alloc (Nat.le_refl _) (.cells (zrow 128) 5)
  obtain ⟨W0, hW0⟩ : ∃ W0, W0 = w.alloc (.cells (zrow 128) 5) := ⟨_, rfl⟩
  rw [← hW0] at hmk hz hb0
  have hw0 : w.heap.size ≤ W0.heap.size := hb0.size
  have hB := hz.all (n := 128) hl.symm
  obtain ⟨E', hE'⟩ : ∃ E', E' = M.lay im (1 * 64) (M.pat 3) := ⟨_, rfl⟩
  have hs3 : M.pat 3 = M.sec E' 1 := by rw [hE', M.sec_lay_same (M.pat_length 3) (by omega)]
  have hE2 : E' = if M.least [] ≤ 0 then im else M.lay im (1 * 64) (M.pat 3) := by rw [hE', M.least_none, if_neg (by omega)]
  clear hW0 him hE' hz
  replace hB := Lib.hid hB
  replace hl := Lib.hid hl
  replace hb0 := Lib.hid hb0
  replace hs3 := Lib.hid hs3
  replace hE2 := Lib.hid hE2
  go_enter Try.func11, Try.ntmps11
  go_wp2_with fail
  refine (New_any _ _ _ im [] 2 (by omega) hl.out hB.out (nil_NS _ _)).mono ?_
  rintro e1 w1 h1
  obtain ⟨g, r, q, cS, cE, rfl, d1, b1⟩ := new_rows h1 (by simp)
  clear h1
  replace d1 := Lib.hid d1
  replace b1 := Lib.hid b1
  go_wp2_with (go_at_call 10; refine (num_any _ _).mono ?_; rintro e wn ⟨rfl, rfl⟩)
  refine (sector_any 3 _).mono ?_
  rintro e2 w2 ⟨rfl, r2, b2⟩
  have d2 := Lib.hid (d1.out.later b2)
  have bb2 := Lib.hid (b1.out.trans (b2.mono b1.out.size))
  have s2 := Lib.hid (r2.all (n := 64) (M.pat_length 3).symm)
  have p3 := Lib.hid (M.pat_length 3)
  clear r2 b2
  go_wp2_with fail
  refine (Write_any _ 1 1 _ (M.pat 3) E' 1 0 d2.out s2.out rfl (by omega) p3.out (by omega) hE2.out rfl (by rw [M.least_none, if_neg (by omega)])).mono ?_
  rintro e3 w3 ⟨rfl, d3, x3⟩
  have bb3 := Lib.hid (d2.out.since bb2.out (Nat.le_refl _) x3)
  replace d3 := Lib.hid d3
  clear x3
  go_wp2_with (go_at_call 10; refine (num_any _ _).mono ?_; rintro e wn ⟨rfl, rfl⟩)
  refine (Read_ok _ 1 1 (M.pat 3) d3.out rfl (by omega) (by rw [M.least_none]; omega) hs3.out).mono ?_
  rintro e4 w4 ⟨r4, c4, rfl, q4, g4, b4⟩
  have bb4 := Lib.hid (bb3.out.trans (b4.mono bb3.out.size))
  replace q4 := Lib.hid q4
  clear b4
  go_wp2_with (go_at_call 10; refine (num_any _ _).mono ?_; rintro e wn ⟨rfl, rfl⟩)
  refine (sector_any 3 _).mono ?_
  rintro e5 w5 ⟨rfl, r5, b5⟩
  have bb5 := Lib.hid (bb4.out.trans (b5.mono bb4.out.size))
  have s5 := Lib.hid (r5.all (n := 64) p3.out.symm)
  have q5 := Lib.hid ((q4.out.later b5).all (n := 64) p3.out.symm)
  clear b5 r5
  go_wp2_with fail
  refine (EqBytes_any _ _ (M.pat 3) (M.pat 3) true _ q5.out s5.out (by simp)).mono ?_
  rintro e6 w6 ⟨rfl, b6⟩
  have bb6 := Lib.hid (bb5.out.trans (b6.mono bb5.out.size))
  clear b6
  go_wp2_with fail
  go_ret
  exact ⟨rfl, hb0.out.trans (bb6.out.mono hw0)⟩
theorem is_any (w : World) (v : Value) (bs : List Nat) (b : Int) (r : Bool) (h : BS w w.heap.size v bs) (hr : r = decide (bs = M.fill b)) :
    Calls Try.prog 28 #[v, .int .i64 b] w fun e w' => e = .returned (.bool r) ∧ Below w.heap.size w w' := by
  have hmk := make_run 64 64 64 64 rfl rfl (by omega) (by omega) w
  have hz := zrow_at w 64 (by omega)
  have hb0 := (Below.refl w.heap.size w).alloc (Nat.le_refl _) (.cells (zrow 64) 5)
  have hv := Lib.hid (h.later hb0)
  have hZ := Lib.hid (hz.all (n := 64) (by simp))
  replace hb0 := Lib.hid hb0
  clear hz
  replace h := Lib.hid h
  by_cases hb : b < 0
  · rw [show M.fill b = List.replicate 64 0 by unfold M.fill; rw [if_pos hb]] at hr
    replace hr := Lib.hid hr
    go_enter Try.func28, Try.ntmps28
    go_wp2_with fail
    refine (EqBytes_any _ _ bs (List.replicate 64 0) r _ hv.out hZ.out hr.out).mono ?_
    rintro e6 w6 ⟨rfl, b6⟩
    have bb6 := Lib.hid (hb0.out.trans (b6.mono hb0.out.size))
    clear b6
    go_wp2_with fail
    go_ret
    exact ⟨rfl, bb6.out⟩
  · rw [show M.fill b = M.pat b by unfold M.fill; rw [if_neg hb]] at hr
    replace hr := Lib.hid hr
    clear hmk
    go_enter Try.func28, Try.ntmps28
    go_wp2_with fail
    refine (sector_any b _).mono ?_
    rintro e5 w5 ⟨rfl, r5, b5⟩
    have h5 := Lib.hid (h.out.later b5)
    have s5 := Lib.hid (r5.all (n := 64) (M.pat_length b).symm)
    replace b5 := Lib.hid b5
    clear r5
    go_wp2_with fail
    refine (EqBytes_any _ _ bs (M.pat b) r _ h5.out s5.out hr.out).mono ?_
    rintro e6 w6 ⟨rfl, b6⟩
    have bb6 := Lib.hid (b5.out.trans (b6.mono b5.out.size))
    clear b6
    go_wp2_with fail
    go_ret
    exact ⟨rfl, bb6.out⟩
end Go.Proofs.Ytghogkanhcihbaa
