/-
  What New answers, whatever image and troubles; condition: both lie in memory that was there at the call.
-/
import Derived.Test.YtncafkifebannaaDOps
import Derived.Test.YtncafkifebannaaDOpen
namespace Go.Proofs.Ytncafkifebannaa
open Go.RowKit
def M.image (bs : List Nat) : Bool := decide (bs.length % 64 = 0 ∧ 1 ≤ bs.length / 64 ∧ bs.length / 64 ≤ 16384)
theorem isImage_any (w : World) (A : Option Addr) (c : Nat) (bs : List Nat) (b : Bool) (hc : bs.length ≤ 4503599627370496) (hb : b = M.image bs) :
    Calls Try.prog 42 #[.slice A bs.length c] w fun e w' => e = .returned (.bool b) ∧ w' = w := by
  unfold M.image at hb
  obtain ⟨n, hN⟩ : ∃ n, n = bs.length := ⟨_, rfl⟩
  rw [← hN] at hb hc ⊢
  clear hN
  replace hb := Lib.hid hb
  by_cases h1 : n % 64 = 0
  · by_cases h2 : 1 ≤ n / 64
    · go_enter Try.func42, Try.ntmps42
      go_wp2_with fail
      go_ret
      exact ⟨ret_bool (by rw [hb.out, Bool.eq_iff_iff]; simp; omega), rfl⟩
    · go_enter Try.func42, Try.ntmps42
      go_wp2_with fail
      all_goals
        go_ret
        exact ⟨ret_bool (by rw [hb.out, Bool.eq_iff_iff]; simp; omega), rfl⟩
  · go_enter Try.func42, Try.ntmps42
    go_wp2_with fail
    all_goals
      go_ret
      exact ⟨ret_bool (by rw [hb.out, Bool.eq_iff_iff]; simp; omega), rfl⟩
theorem New_form (w : World) (A : Option Addr) (c : Nat) (bs : List Nat) (vt : Value) (hc : bs.length ≤ 4503599627370496) (hb : M.image bs = false) :
    Calls Try.prog 17 #[.slice A bs.length c, vt] w fun e w' => e = .returned (.tuple #[.pointer none, .int .i64 100]) ∧ w' = w := by
  have h1 := isImage_any w A c bs false hc hb.symm
  clear hb
  obtain ⟨n, hN⟩ : ∃ n, n = bs.length := ⟨_, rfl⟩
  rw [← hN] at h1 hc ⊢
  clear hN
  replace h1 := Lib.hid h1
  go_enter Try.func17, Try.ntmps17
  go_wp2_with fail
  refine h1.out.mono ?_
  rintro e1 w1 ⟨rfl, rfl⟩
  go_wp2_with fail
  go_ret2
  exact ⟨rfl, rfl⟩
/-- What New answers of an image: a disk, or none for a trouble that may not be. -/
def NewPost (bs : List Nat) (ts : List Int) (n : Nat) (w : World) (e : Ending) (w' : World) : Prop :=
  (((∀ t ∈ ts, 1 ≤ t) ∧ ∃ g r q cS cE, e = .returned (.tuple #[Mp g, .int .i64 0]) ∧ DAt w' w.heap.size g r q n cS cE bs bs 0 (M.least ts)) ∨ ((∃ t ∈ ts, t < 1) ∧ e = .returned (.tuple #[.pointer none, .int .i64 100]))) ∧ Below w.heap.size w w'
theorem M.least_none : M.least [] = 9223372036854775807 := rfl
set_option maxRecDepth 100000 in
theorem New_any (w : World) (v vt : Value) (bs : List Nat) (ts : List Int) (n : Nat) (hn : 0 < n ∧ n ≤ 16384) (hl : bs.length = n * 64) (hv : BS w w.heap.size v bs) (ht : NS w w.heap.size vt ts) :
    Calls Try.prog 17 #[v, vt] w (NewPost bs ts n w) := by
  obtain ⟨A, c, rfl, v1, v2, _⟩ := id hv
  have h1 := isImage_any w A c bs true (by rw [hl]; omega) (by unfold M.image; rw [hl]; simp; omega)
  rw [hl] at h1 v1 hv ⊢
  obtain ⟨T, d, rfl, t1, t2, hT⟩ := ht
  unfold maxLen at t2
  have hst := Lib.hid (fun j hj => M.least_step ts j hj)
  have hmem : ∀ j, j < ts.length → ts.getD j 0 ∈ ts := fun j hj => by rw [List.getD_eq_getElem?_getD, List.getElem?_eq_getElem hj]; exact List.getElem_mem hj
  have hget : ∀ j, j < ts.length → ∀ t ∈ ts.take (j + 1), t ∈ ts.take j ∨ t = ts.getD j 0 := fun j hj t ht => by
    rw [List.take_add_one, List.getElem?_eq_getElem hj] at ht
    rcases List.mem_append.1 ht with h | h
    · exact .inl h
    · refine .inr ?_
      rw [List.getD_eq_getElem?_getD, List.getElem?_eq_getElem hj]
      simpa using h
  have hall : ts.take ts.length = ts := List.take_length
  have ht0 : M.least (ts.take 0) = 9223372036854775807 := rfl
  replace hall := Lib.hid hall
  replace ht0 := Lib.hid ht0
  replace hmem := Lib.hid hmem
  replace hget := Lib.hid hget
  replace h1 := Lib.hid h1
  replace hl := Lib.hid hl
  replace hv := Lib.hid hv
  replace hT := Lib.hid hT
  obtain ⟨m, hm⟩ : ∃ m, m = ts.length := ⟨_, rfl⟩
  rw [← hm] at t1 hst hmem hget hall hT ⊢
  clear hm
  go_enter Try.func17, Try.ntmps17
  go_wp2_with fail
  refine h1.out.mono ?_
  rintro e1 w1 ⟨rfl, rfl⟩
  go_wp2_with fail
  go_loopw [6, 14] (fun u i w' => ∃ j : Nat, j ≤ m ∧ i = .int .i64 j ∧ u = .int .i64 (M.least (ts.take j)) ∧ (∀ t ∈ ts.take j, 1 ≤ t) ∧ Below w1.heap.size w1 w') (fun _ i _ => m - (intOf i).toNat)
  case atStart => exact ⟨0, by omega, rfl, by rw [ht0.out], fun t h => by simp at h, Below.refl _ _⟩
  case round =>
    obtain ⟨j, hj, rfl, rfl, hge, hbel⟩ := hrel
    have hlr := M.least_rg _ hge
    by_cases hlt : j < m
    · obtain ⟨⟨b, o, s⟩, rfl, hbl, hrg0, hc0⟩ := hT.out j hlt
      have hs : s = none := by
        obtain ⟨ad, e, _, _, hz⟩ := hT.out 0 (by omega)
        injection e with e
        subst e
        have := World.cell?_spot hz
        simpa [Addr.add] using this
      subst hs
      have hrg : -9223372036854775808 ≤ ts.getD j 0 ∧ ts.getD j 0 ≤ 9223372036854775807 := hrg0
      clear hrg0
      rw [add_none] at hc0
      have hc : wr.cell? ⟨b, o + j, none⟩ = some (.int .i64 (ts.getD j 0)) := (hbel.cell (p := ⟨b, o + j, none⟩) hbl).trans hc0
      have hst' := hst.out j hlt
      have hm' := hmem.out j hlt
      have hg' := hget.out j hlt
      obtain ⟨t, ht⟩ : ∃ t, t = ts.getD j 0 := ⟨_, rfl⟩
      rw [← ht] at hc hrg hst' hm' hg'
      obtain ⟨L, hL⟩ : ∃ L, L = M.least (ts.take j) := ⟨_, rfl⟩
      rw [← hL] at hlr hst' ⊢
      clear hL ht hc0
      replace hst' := Lib.hid hst'
      replace hm' := Lib.hid hm'
      replace hg' := Lib.hid hg'
      have hb2 := Lib.hid (show Below w1.heap.size w1 (wr.alloc (.cells #[.int .i64 t] 58)) from hbel.alloc hbel.size _)
      replace hbel := Lib.hid hbel
      replace hge := Lib.hid hge
      have s0 : (0 : Int) ≤ (j : Int) := by omega
      have s1 : (j : Int) < (m : Int) := by omega
      by_cases h1t : t < 1
      · go_wp2_with fail
        go_ret2
        exact ⟨.inr ⟨⟨t, hm'.out, h1t⟩, rfl⟩, hb2.out⟩
      · go_wp2_with fail
        refine ⟨⟨j + 1, by omega, by go_num, by rw [hst'.out]; congr 1; split <;> omega, fun x hx => ?_, hb2.out⟩, by simp [intOf]; omega⟩
        rcases hg'.out x hx with h | h
        · exact hge.out x h
        · omega
    · obtain rfl : j = m := by omega
      rw [hall.out] at hge hlr ⊢
      have hv1 := hv.out.later hbel
      obtain ⟨L, hL⟩ : ∃ L, L = M.least ts := ⟨_, rfl⟩
      rw [← hL] at hlr ⊢
      replace hL := Lib.hid hL
      replace hge := Lib.hid hge
      replace hv1 := Lib.hid hv1
      replace hbel := Lib.hid hbel
      have hcl := hl.out
      replace hcl := Lib.hid hcl
      go_wp2_with fail
      refine (Clone_any _ _ bs hv1.out (by rw [hcl.out]; omega) (by rw [hcl.out]; omega)).mono ?_
      rintro e2 w2 ⟨r2, c2, rfl, q2, g2, b2⟩
      rw [hcl.out]
      have hv2 := Lib.hid (hv1.out.later b2)
      have bb2 := Lib.hid (hbel.out.trans (b2.mono hbel.out.size))
      replace q2 := Lib.hid q2
      replace b2 := Lib.hid b2
      go_wp2_with fail
      refine (Clone_any _ _ bs hv2.out (by rw [hcl.out]; omega) (by rw [hcl.out]; omega)).mono ?_
      rintro e3 w3 ⟨r3, c3, rfl, q3, g3, b3⟩
      rw [hcl.out]
      have q2' := Lib.hid (q2.out.later b3)
      have bb3 := Lib.hid (bb2.out.trans (b3.mono bb2.out.size))
      have hne : r2 ≠ r3 := by have := q2.out.lt; omega
      replace hne := Lib.hid hne
      have g2' := Lib.hid (Nat.le_trans hbel.out.size g2)
      have g3' := Lib.hid (Nat.le_trans bb2.out.size g3)
      replace q3 := Lib.hid q3
      clear b3 g2 g3
      go_wp2_with fail
      go_ret2
      have hd : DAt (w3.alloc (.cells #[.slice (some ⟨r2, 0, none⟩) (n * 64) c2, .slice (some ⟨r3, 0, none⟩) (n * 64) c3, .int .i64 0, .int .i64 L] 69)) w1.heap.size w3.heap.size r2 r3 n c2 c3 bs bs 0 L :=
        ⟨heap_alloc_new w3 _, ⟨bb3.out.size, g2'.out, g3'.out⟩, q2'.out.but (But.alloc (fun _ => False) w3 _) (fun h => h), q3.out.but (But.alloc (fun _ => False) w3 _) (fun h => h), hcl.out, hcl.out, hne.out, hn⟩
      rw [hL.out] at hd ⊢
      exact ⟨.inl ⟨hge.out, _, _, _, _, _, rfl, hd⟩, bb3.out.alloc bb3.out.size _⟩
end Go.Proofs.Ytncafkifebannaa
