/-
  What the disk's Read, Write and Flush answer; condition: the disk was made by the call.
-/
import Derived.Test.YtncafkifebannaaDRead
namespace Go.Proofs.Ytncafkifebannaa
open Go.RowKit
section
variable {B g r q n cS cE : Nat} {S E : List Nat} {k last : Int}
set_option maxRecDepth 100000 in
theorem isSafe_any (w : World) (i : Int) (j : Nat) (b : Bool) (h : DAt w B g r q n cS cE S E k last) (hi : i = (j : Nat)) (hj : j < n) (hb : b = decide (M.sec S j = M.sec E j)) :
    Calls Try.prog 40 #[Mp g, .int .i64 i] w fun e w' => e = .returned (.bool b) ∧ Below w.heap.size w w' := by
  subst hi
  have c0 := h.c0
  have c1 := h.c1
  have hn := h.n0
  obtain ⟨k1, k2⟩ := h.cap
  have hs := Lib.hid (h.secS j hj)
  have he := Lib.hid (h.secE j hj)
  have ls := M.sec_length (bs := S) (i := j) (by rw [h.lS]; omega)
  have le := M.sec_length (bs := E) (i := j) (by rw [h.lE]; omega)
  obtain ⟨sS, hsS⟩ : ∃ s, s = M.sec S j := ⟨_, rfl⟩
  obtain ⟨sE, hsE⟩ : ∃ s, s = M.sec E j := ⟨_, rfl⟩
  rw [← hsS] at hs hb ls
  rw [← hsE] at he hb le
  clear hsS hsE
  replace hb := Lib.hid hb
  replace ls := Lib.hid ls
  replace le := Lib.hid le
  clear h
  go_enter Try.func40, Try.ntmps40
  go_wp2_with fail
  go_quiet ((first
    | (go_at_call 39; exact Calls.quiet_of_same (at_any _ _ n _ _ j rfl hj hn.2 ⟨by omega, by omega⟩))
    | (go_at_call 48; exact Calls.quiet_of_same (Equal_any _ _ _ _ _ sS sE b hs.out he.out (by have := ls.out; omega) (by have := le.out; omega) hb.out))))
  go_wp2_with fail
  go_ret
  exact ⟨rfl, below_drewN' _ _⟩
theorem Write_bad (w : World) (i : Int) (u : Value) (xs : List Nat) (h : DAt w B g r q n cS cE S E k last) (hu : BS w w.heap.size u xs) (hbad : ¬ ((0 ≤ i ∧ i < n) ∧ xs.length = 64)) :
    Calls Try.prog 55 #[Mp g, .int .i64 i, u] w fun e w' => e = .returned (.int .i64 100) ∧ w' = w := by
  obtain ⟨U, d, rfl, u1, u2, hU⟩ := hu
  clear hU
  obtain ⟨m, hm⟩ : ∃ m, m = xs.length := ⟨_, rfl⟩
  rw [← hm] at u1 hbad ⊢
  clear hm
  replace h := Lib.hid h
  by_cases hi : 0 ≤ i ∧ i < n
  · have hne : m ≠ 64 := fun e => hbad ⟨hi, e⟩
    have hd : ((m : Int) != 64) = true := by simp; omega
    clear hbad
    replace hi := Lib.hid hi
    go_enter Try.func55, Try.ntmps55
    go_wp2_with fail
    refine (has_any _ i true h.out (by simpa using hi.out)).mono ?_
    rintro e1 w1 ⟨rfl, rfl⟩
    go_wp2_with fail
    go_ret
    exact ⟨rfl, rfl⟩
  · clear hbad
    replace hi := Lib.hid hi
    go_enter Try.func55, Try.ntmps55
    go_wp2_with fail
    refine (has_any _ i false h.out (by simpa using hi.out)).mono ?_
    rintro e1 w1 ⟨rfl, rfl⟩
    go_wp2_with fail
    go_ret
    exact ⟨rfl, rfl⟩
/-- What a stroke leaves. -/
def WPost (w : World) (B g r q n cS cE : Nat) (S E : List Nat) (k last c : Int) (e : Ending) (w' : World) : Prop := e = .returned (.int .i64 c) ∧ DAt w' B g r q n cS cE S E k last ∧ But (DX g r q) w w'
theorem DAt.write {w w' : World} {E' : List Nat} (h : DAt w B g r q n cS cE S E k last) (hr : RowAt w' q cE E') (hl : E'.length = n * 64) (hb : But (· = q) w w') : DAt w' B g r q n cS cE S E' k last :=
  ⟨obj_but h.obj hb h.gq, h.ge, h.rS.but hb h.ap, hr, h.lS, hl, h.ap, h.n0⟩
theorem DAt.flush {w w' : World} {S' : List Nat} (h : DAt w B g r q n cS cE S E k last) (hr : RowAt w' r cS S') (hl : S'.length = n * 64) (hb : But (· = r) w w') : DAt w' B g r q n cS cE S' E k last :=
  ⟨obj_but h.obj hb h.gr, h.ge, hr, h.rE.but hb (Ne.symm h.ap), hl, h.lE, h.ap, h.n0⟩
set_option maxRecDepth 100000 in
theorem Write_any (w : World) (i : Int) (j : Nat) (u : Value) (xs E' : List Nat) (k' c : Int) (h : DAt w B g r q n cS cE S E k last) (hu : BS w w.heap.size u xs) (hi : i = (j : Nat)) (hj : j < n) (hx : xs.length = 64) (hk : 0 ≤ k ∧ k < 1000000)
    (hE : E' = if last ≤ k then E else M.lay E (j * 64) xs) (hk' : k' = k + 1) (hc : c = if last ≤ k' then 103 else 0) :
    Calls Try.prog 55 #[Mp g, .int .i64 i, u] w (WPost w B g r q n cS cE S E' k' last c) := by
  subst hi
  obtain ⟨U, d, rfl, u1, u2, _⟩ := id hu
  have hn := h.n0
  obtain ⟨k1, k2⟩ := h.cap
  replace hk' := Lib.hid hk'
  replace hc := Lib.hid hc
  rw [hx] at u1 ⊢
  by_cases hoff : last ≤ k
  · rw [if_pos hoff] at hE
    subst hE
    clear hu hx
    replace h := Lib.hid h
    replace hoff := Lib.hid hoff
    go_enter Try.func55, Try.ntmps55
    go_wp2_with fail
    refine (has_any _ (j : Int) true h.out (by simp; omega)).mono ?_
    rintro e1 w1 ⟨rfl, rfl⟩
    go_wp2_with fail
    refine (power_any _ 103 h.out (by rw [if_pos (by have := hoff.out; omega)])).mono ?_
    rintro e2 w2 ⟨rfl, b2⟩
    have h2 := Lib.hid (h.out.later b2)
    replace b2 := Lib.hid b2
    go_wp2_with fail
    refine (stroke_any _ c k' h2.out hk hk'.out hc.out).mono ?_
    rintro e3 w3 ⟨rfl, h3, b3⟩
    replace h3 := Lib.hid h3
    replace b3 := Lib.hid b3
    go_wp2_with fail
    go_ret
    exact ⟨rfl, h3.out, (But.ofBelow b2.out).trans b3.out⟩
  · rw [if_neg hoff] at hE
    replace h := Lib.hid h
    replace hoff := Lib.hid hoff
    replace hu := Lib.hid hu
    replace hE := Lib.hid hE
    replace hx := Lib.hid hx
    go_enter Try.func55, Try.ntmps55
    go_wp2_with fail
    refine (has_any _ (j : Int) true h.out (by simp; omega)).mono ?_
    rintro e1 w1 ⟨rfl, rfl⟩
    go_wp2_with fail
    refine (power_any _ 0 h.out (by rw [if_neg (by have := hoff.out; omega)])).mono ?_
    rintro e2 w2 ⟨rfl, b2⟩
    have h2 := h.out.later b2
    have c1 := h2.c1
    have hu2 := hu.out.later b2
    obtain ⟨w3, hcp, hr3, b3⟩ := h2.rE.copy 37 Try.underlying37 (j * 64) 64 (cE - j * 64) d (U := U) hu2 (by rw [hx.out, h2.lE]; omega) (by rw [hx.out]; omega) (by rw [hx.out]; omega)
    rw [hx.out] at hcp
    have h3 := Lib.hid (h2.write (E' := E') (by rw [hE.out]; exact hr3) (by rw [hE.out, M.lay_length (by rw [hx.out, h2.lE]; omega), h2.lE]) b3)
    have b3' := Lib.hid ((But.ofBelow (X := DX g r q) b2).trans (b3.mono fun _ _ e => .inr (.inr e)))
    clear h2 hu2 hr3 b3 b2
    go_wp2_with fail
    refine (at_any _ _ n _ _ j rfl hj hn.2 ⟨by omega, by omega⟩).mono ?_
    rintro e4 w4 ⟨rfl, rfl⟩
    go_wp2_with fail
    refine (stroke_any _ c k' h3.out hk hk'.out hc.out).mono ?_
    rintro e5 w5 ⟨rfl, h5, b5⟩
    replace h5 := Lib.hid h5
    replace b5 := Lib.hid b5
    go_wp2_with fail
    go_ret
    exact ⟨rfl, h5.out, b3'.out.trans b5.out⟩
theorem Read_bad (w : World) (i : Int) (h : DAt w B g r q n cS cE S E k last) (hbad : ¬ (0 ≤ i ∧ i < n)) :
    Calls Try.prog 47 #[Mp g, .int .i64 i] w fun e w' => e = .returned (.tuple #[.slice none 0 0, .int .i64 100]) ∧ w' = w := by
  replace h := Lib.hid h
  replace hbad := Lib.hid hbad
  go_enter Try.func47, Try.ntmps47
  go_wp2_with fail
  refine (has_any _ i false h.out (by simpa using hbad.out)).mono ?_
  rintro e1 w1 ⟨rfl, rfl⟩
  go_wp2_with fail
  go_ret2
  exact ⟨rfl, rfl⟩
theorem Read_off (w : World) (i : Int) (h : DAt w B g r q n cS cE S E k last) (hi : 0 ≤ i ∧ i < n) (hoff : last ≤ k) :
    Calls Try.prog 47 #[Mp g, .int .i64 i] w fun e w' => e = .returned (.tuple #[.slice none 0 0, .int .i64 103]) ∧ Below w.heap.size w w' := by
  replace h := Lib.hid h
  replace hi := Lib.hid hi
  replace hoff := Lib.hid hoff
  go_enter Try.func47, Try.ntmps47
  go_wp2_with fail
  refine (has_any _ i true h.out (by simpa using hi.out)).mono ?_
  rintro e1 w1 ⟨rfl, rfl⟩
  go_wp2_with fail
  refine (power_any _ 103 h.out (by rw [if_pos (by have := hoff.out; omega)])).mono ?_
  rintro e2 w2 ⟨rfl, b2⟩
  replace b2 := Lib.hid b2
  go_wp2_with fail
  go_ret2
  exact ⟨rfl, b2.out⟩
/-- A row of the disk's bytes, handed out. -/
def RPost (bs : List Nat) (w : World) (e : Ending) (w' : World) : Prop := ∃ r c, e = .returned (.tuple #[.slice (some ⟨r, 0, none⟩) 64 c, .int .i64 0]) ∧ RowAt w' r c bs ∧ w.heap.size ≤ r ∧ Below w.heap.size w w'
theorem Read_ok (w : World) (i : Int) (j : Nat) (bs : List Nat) (h : DAt w B g r q n cS cE S E k last) (hi : i = (j : Nat)) (hj : j < n) (hon : ¬ last ≤ k) (hbs : bs = M.sec E j) :
    Calls Try.prog 47 #[Mp g, .int .i64 i] w (RPost bs w) := by
  subst hi
  have hn := h.n0
  obtain ⟨k1, k2⟩ := h.cap
  have hl : bs.length = 64 := by rw [hbs]; exact M.sec_length (by rw [h.lE]; omega)
  replace h := Lib.hid h
  replace hon := Lib.hid hon
  replace hbs := Lib.hid hbs
  replace hl := Lib.hid hl
  go_enter Try.func47, Try.ntmps47
  go_wp2_with fail
  refine (has_any _ (j : Int) true h.out (by simp; omega)).mono ?_
  rintro e1 w1 ⟨rfl, rfl⟩
  go_wp2_with fail
  refine (power_any _ 0 h.out (by rw [if_neg (by have := hon.out; omega)])).mono ?_
  rintro e2 w2 ⟨rfl, b2⟩
  have h2 := Lib.hid (h.out.later b2)
  have c1 := h2.out.c1
  replace b2 := Lib.hid b2
  go_wp2_with fail
  refine (at_any _ _ n _ _ j rfl hj hn.2 ⟨by omega, by omega⟩).mono ?_
  rintro e4 w4 ⟨rfl, rfl⟩
  go_wp2_with fail
  refine (Clone_any _ _ bs (by rw [hbs.out]; exact h2.out.secE j hj) (by rw [hl.out]; omega) (by rw [hl.out]; omega)).mono ?_
  rintro e5 w5 ⟨r5, c5, rfl, h5, g5, b5⟩
  replace h5 := Lib.hid h5
  have b6 := Lib.hid (b2.out.trans (b5.mono b2.out.size))
  have g6 := Lib.hid (Nat.le_trans b2.out.size g5)
  clear b5 g5
  rw [hl.out]
  go_wp2_with fail
  go_ret2
  exact ⟨r5, c5, rfl, h5.out, g6.out, b6.out⟩
set_option maxRecDepth 100000 in
theorem Flush_any (w : World) (S' : List Nat) (k' c : Int) (h : DAt w B g r q n cS cE S E k last) (hk : 0 ≤ k ∧ k < 1000000) (hS : S' = if last ≤ k' then S else E) (hk' : k' = k + 1) (hc : c = if last ≤ k' then 103 else 0) :
    Calls Try.prog 31 #[Mp g] w (WPost w B g r q n cS cE S' E k' last c) := by
  have hn := h.n0
  obtain ⟨k1, k2⟩ := h.cap
  replace hk' := Lib.hid hk'
  by_cases hoff : last ≤ k'
  · rw [if_pos hoff] at hS hc
    subst hS
    subst hc
    replace h := Lib.hid h
    replace hoff := Lib.hid hoff
    go_enter Try.func31, Try.ntmps31
    go_wp2_with fail
    refine (stroke_any _ 103 k' h.out hk hk'.out (by rw [if_pos (by have := hoff.out; omega)])).mono ?_
    rintro e3 w3 ⟨rfl, h3, b3⟩
    replace h3 := Lib.hid h3
    replace b3 := Lib.hid b3
    go_wp2_with fail
    go_ret
    exact ⟨rfl, h3.out, b3.out⟩
  · rw [if_neg hoff] at hS hc
    subst hS
    subst hc
    replace h := Lib.hid h
    replace hoff := Lib.hid hoff
    go_enter Try.func31, Try.ntmps31
    go_wp2_with fail
    refine (stroke_any _ 0 k' h.out hk hk'.out (by rw [if_neg (by have := hoff.out; omega)])).mono ?_
    rintro e3 w3 ⟨rfl, h3, b3⟩
    have hL := h3.lE
    have c0 := h3.c0
    have c1 := h3.c1
    have hd := h3.later (w' := w3.drew) (below_drewN' w3 1)
    obtain ⟨w4, hcp, hr4, b4⟩ := hd.rS.copy 67 Try.underlying67 0 (n * 64) cS cE (by rw [hL]; exact hd.rE.all hL.symm) (by rw [hL, hd.lS]; omega) (by rw [hL]; omega) (by rw [hL]; omega)
    rw [hL] at hcp
    have e4 : M.lay S 0 S' = S' := by
      unfold M.lay splice
      rw [List.take_zero, List.nil_append, Nat.zero_add, hL, ← hd.lS, List.drop_length, List.append_nil]
    have h4 := Lib.hid (hd.flush (S' := S') (by rw [← e4]; exact hr4) hL b4)
    have b5 := Lib.hid (b3.trans ((But.ofBelow (X := DX g r q) (below_drewN' w3 1)).trans (b4.mono (Y := DX g r q) fun _ _ e => .inr (.inl e))))
    clear hd hr4 b4 b3 e4 hL
    replace h3 := Lib.hid h3
    go_wp2_with fail
    go_still_tail 8, (by kernel_rfl)
    change wpList _ _ _ _ _ w3.drew
    go_wp2_with fail
    go_ret
    exact ⟨rfl, h4.out, b5.out⟩
end
end Go.Proofs.Ytncafkifebannaa
