/-
  A memory read and written by bytes; condition: the memory was made by the call.
-/
import Derived.Test.YtcdfmldbpmgoiaaGMake
namespace Go.Proofs.Ytcdfmldbpmgoiaa
open Go.RowKit
theorem zrow_arr (n : Nat) : zrow n = (vals (List.replicate n 0)).toArray := by rw [← zrow_list]
theorem getD_take_drop (bs : List Nat) (a n j : Nat) (hj : j < n) : ((bs.drop a).take n).getD j 0 = bs.getD (a + j) 0 := by
  rw [List.getD_eq_getElem?_getD, List.getElem?_take_of_lt hj, List.getElem?_drop, List.getD_eq_getElem?_getD]
/-- The cells of a part of the memory's bytes. -/
theorem MAt.part {T : Nat} {w : World} {B g L c : Nat} {A : Option Addr} {bs : List Nat} {most : Int} (h : MAt T w B g (.slice A L c) bs most) (a n : Nat) (hn : a + n ≤ bs.length) (hp : 0 < n) :
    ∃ r, A = some ⟨r, 0, none⟩ ∧ r < w.heap.size ∧ ∀ (j : Nat) (u : Value), (vals ((bs.drop a).take n))[j]? = some u → w.cell? ((⟨r, a, none⟩ : Addr).add j) = some u := by
  obtain ⟨r, rfl, q, _⟩ := h.byte a (by omega)
  have hr : r < w.heap.size := World.block_lt_of_cell? w ⟨r, a, none⟩ q
  refine ⟨r, rfl, hr, fun j u hu => ?_⟩
  have hlen : ((bs.drop a).take n).length = n := by simp; omega
  have hj : j < ((bs.drop a).take n).length := by
    have := (List.getElem?_eq_some_iff.1 hu).1
    rwa [vals_length] at this
  rw [getD_vals _ _ hj] at hu
  obtain ⟨r', e, q', _⟩ := h.byte (a + j) (by omega)
  injection e with e
  injection e with e
  subst e
  rw [add_none, q', ← hu, getD_take_drop _ _ _ _ (by omega)]
theorem splice_all {α : Type} (L cs : List α) (h : cs.length = L.length) : splice L 0 cs = cs := by
  unfold splice
  rw [List.take_zero, List.nil_append, Nat.zero_add, h, List.drop_length, List.append_nil]
theorem run_copy_ex (w : World) (gd off : Nat) (dp sp : Option Addr) (dLen dCap sLen sCap : Nat) (cur cs : List Value) (hg : w.heap[gd]? = some (.cells cur.toArray 5 (0, 0))) (hn : cs.length = Nat.min sLen dLen)
    (hpos : 0 < cs.length → dp = some ⟨gd, off, none⟩ ∧ ∃ ad, sp = some ad ∧ ∀ j v, cs[j]? = some v → w.cell? (ad.add j) = some v) (hfit : off + cs.length ≤ cur.length) (h1 : ∀ v ∈ cs, v.oneCell' = true) :
    ∃ w2, (Builtin.copy_ #[38, 38] 3 #[.slice dp dLen dCap, .slice sp sLen sCap]).run Try.prog w = .ok (goInt cs.length) w2 ∧ w2.heap[gd]? = some (.cells (splice cur off cs).toArray 5 (0, 0)) ∧ But (fun k => k = gd) w w2 := by
  have hsz : (Try.prog.info? 5).map (·.size) = some 1 := by kernel_rfl
  by_cases h0 : cs.length = 0
  · obtain rfl : cs = [] := List.eq_nil_of_length_eq_zero h0
    exact ⟨w, run_copy_none (P := Try.prog) w 38 38 3 5 dp sp dLen dCap sLen sCap Try.underlying38 hsz (by simpa using hn.symm), by simpa [splice] using hg, But.refl _ _⟩
  · obtain ⟨rfl, ad, rfl, hsrc⟩ := hpos (by omega)
    have hrun := run_copy_row (P := Try.prog) w 38 38 3 5 gd off dLen dCap ad sLen sCap cur.toArray 5 cs Try.underlying38 hsz hg hn hsrc (by simpa using hfit) h1
    exact ⟨_, hrun, by simpa [splice] using setRow_heap w gd _ _ _ _ hg, ⟨rfl, rfl, rfl, by simp, fun k _ hk => setRow_other w gd k _ hk⟩⟩
set_option maxRecDepth 100000 in
theorem Read_ok (T : Nat) (w : World) (B g : Nat) (v : Value) (bs xs : List Nat) (most : Int) (a n : Nat) (ai ni : Int) (hai : ai = (a : Nat)) (hni : ni = (n : Nat)) (h : MAt T w B g v bs most) (hn : a + n ≤ bs.length) (hxs : xs = (bs.drop a).take n) :
    Calls Try.prog 15 #[Mp g, .int .i64 ai, .int .i64 ni] w fun e w' => ∃ u, e = .returned (.tuple #[u, .int .i64 0]) ∧ w'.ownsRow w.heap.size 5 1 u xs.length (vals xs) ∧ Below w.heap.size w w' := by
  subst hai
  subst hni
  obtain ⟨A, c, rfl, h1, h2⟩ := h.form
  have c0 := h.c0
  have hl := h.len
  have hmk := make_run n (n : Int) rfl (by omega)
  have c0' : (w.alloc (.cells (zrow n) 5)).cell? ⟨g, 0, none⟩ = some (.slice A bs.length c) := (((Below.refl w.heap.size w).alloc (Nat.le_refl _) _).cell (p := ⟨g, 0, none⟩) h.size).trans h.c0
  have hxl : xs.length = n := by rw [hxs]; simp; omega
  have hpart : 0 < n → ∃ r, A = some ⟨r, 0, none⟩ ∧ r < w.heap.size ∧ ∀ (j : Nat) (u : Value), (vals xs)[j]? = some u → w.cell? ((⟨r, a, none⟩ : Addr).add j) = some u := fun hp => by rw [hxs]; exact h.part a n hn hp
  clear hxs
  replace hpart := Lib.hid hpart
  replace h := Lib.hid h
  obtain ⟨L, hL⟩ : ∃ L, L = bs.length := ⟨_, rfl⟩
  rw [← hL] at h1 hl hn c0 c0' h
  have hz := Lib.hid (zrow_arr n)
  obtain ⟨Z, hZ⟩ : ∃ Z, Z = vals (List.replicate n 0) := ⟨_, rfl⟩
  have hZl := Lib.hid (show Z.length = n by rw [hZ]; simp [vals])
  rw [← hZ] at hz
  clear hZ
  obtain ⟨X, hX⟩ : ∃ X, X = vals xs := ⟨_, rfl⟩
  have hXl := Lib.hid (show X.length = n by rw [hX, vals_length]; exact hxl)
  have hX1 := Lib.hid (show ∀ u ∈ X, u.oneCell' = true by rw [hX]; exact vals_one _)
  rw [← hX] at hpart ⊢
  have hXX := Lib.hid hX
  clear hX
  replace hL := Lib.hid hL
  replace hxl := Lib.hid hxl
  have hg := Lib.hid (show (w.alloc (.cells (zrow n) 5)).heap[w.heap.size]? = some (.cells Z.toArray 5 (0, 0)) by rw [heap_alloc_new w _, hz.out])
  have hbw := Lib.hid (show Below w.heap.size w (w.alloc (.cells (zrow n) 5)) from (Below.refl w.heap.size w).alloc (Nat.le_refl _) _)
  have hfin : ∀ w2 : World, w2.heap[w.heap.size]? = some (.cells (splice Z 0 X).toArray 5 (0, 0)) → w2.ownsRow w.heap.size 5 1 (.slice (some ⟨w.heap.size, 0, none⟩) n n) xs.length X := fun w2 hg2 => by
    rw [splice_all Z X (by rw [hXl.out, hZl.out])] at hg2
    rw [hxl.out]
    exact ⟨by rw [hXl.out, Nat.mul_one], .inr ⟨w.heap.size, n, X.toArray, rfl, Nat.le_refl _, hg2, Nat.le_refl _, by unfold maxLen; omega, by simp [hXl.out], by rw [Nat.mul_one, ← hXl.out]; exact List.take_length⟩⟩
  replace hfin := Lib.hid hfin
  by_cases hca : c = a
  · obtain rfl : n = 0 := by omega
    have hLa : L - a = 0 := by omega
    have hmk0 := make_run 0 0 rfl (by omega)
    obtain ⟨w2, hcp, hg2, hb2⟩ := run_copy_ex (w.alloc (.cells (zrow 0) 5)) w.heap.size 0 (some ⟨w.heap.size, 0, none⟩) A 0 0 0 0 Z X hg.out (by rw [hXl.out]; rfl) (fun hp => by rw [hXl.out] at hp; omega) (by rw [hXl.out, hZl.out]; omega) hX1.out
    replace hg2 := Lib.hid (hfin.out w2 hg2)
    replace hb2 := Lib.hid (hbw.out.trans (hb2.below (B := w.heap.size) (fun k hk => by omega) (by simp)))
    go_enter Try.func15, Try.ntmps15
    go_wp2_with fail
    refine (has_any T w B g _ bs most _ _ true h.out (by omega) (by omega) (by rw [← hL.out]; simp; omega)).mono ?_
    rintro e1 w1 ⟨rfl, rfl⟩
    go_wp2_with fail
    go_ret2
    exact ⟨_, rfl, hg2.out, hb2.out⟩
  · obtain ⟨w2, hcp, hg2, hb2⟩ := run_copy_ex (w.alloc (.cells (zrow n) 5)) w.heap.size 0 (some ⟨w.heap.size, 0, none⟩) (Option.map (fun x => x.add a) A) n n (L - a) (c - a) Z X hg.out (by rw [hXl.out]; show n = min (L - a) n; omega) (fun hp => by
      rw [hXl.out] at hp
      obtain ⟨r, hA, hr, hc⟩ := hpart.out hp
      exact ⟨rfl, ⟨r, a, none⟩, by rw [hA]; simp [add_none], fun j u hu => (hbw.out.cell (by rw [addr_block]; exact hr)).trans (hc j u hu)⟩) (by rw [hXl.out, hZl.out]; omega) hX1.out
    replace hg2 := Lib.hid (hfin.out w2 hg2)
    replace hb2 := Lib.hid (hbw.out.trans (hb2.below (B := w.heap.size) (fun k hk => by omega) (by simp)))
    go_enter Try.func15, Try.ntmps15
    go_wp2_with fail
    refine (has_any T w B g _ bs most _ _ true h.out (by omega) (by omega) (by rw [← hL.out]; simp; omega)).mono ?_
    rintro e1 w1 ⟨rfl, rfl⟩
    go_wp2_with fail
    go_ret2
    exact ⟨_, rfl, hg2.out, hb2.out⟩
theorem Read_no (T : Nat) (w : World) (B g : Nat) (v : Value) (bs : List Nat) (most ai ni : Int) (h : MAt T w B g v bs most) (ha : Rg ai) (hn : Rg ni) (hno : ¬ (0 ≤ ai ∧ 0 ≤ ni ∧ ai + ni ≤ bs.length)) :
    Calls Try.prog 15 #[Mp g, .int .i64 ai, .int .i64 ni] w fun e w' => e = .returned (.tuple #[.slice none 0 0, .int .i64 21]) ∧ w' = w := by
  replace h := Lib.hid h
  replace hno := Lib.hid hno
  go_enter Try.func15, Try.ntmps15
  go_wp2_with fail
  refine (has_any T w B g _ bs most _ _ false h.out ha hn (by simpa using hno.out)).mono ?_
  rintro e1 w1 ⟨rfl, rfl⟩
  go_wp2_with fail
  go_ret2
  exact ⟨rfl, rfl⟩
end Go.Proofs.Ytcdfmldbpmgoiaa
