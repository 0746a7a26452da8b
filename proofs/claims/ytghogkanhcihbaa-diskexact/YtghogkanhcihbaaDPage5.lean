/-
  What the page's Read and Write answer, how many sectors and strokes; condition: the page's disk was made by the call.
-/
import Derived.Test.YtghogkanhcihbaaDPage4
namespace Go.Proofs.Ytghogkanhcihbaa
open Go.RowKit
/-- A page's disk of n sectors, its safe and its seen bytes. -/
structure PAt (w : World) (B g ps cs pe ce : Nat) (vt : Value) (ss es : List Value) (ts : List Int) (n : Nat) (S E : List Nat) (off : Bool) (k : Int) : Prop where
  raw : PRaw w B g (.slice (some ⟨ps, 0, none⟩) n cs) (.slice (some ⟨pe, 0, none⟩) n ce) vt ss es ts n n off k
  sS : Secs w B n ss S
  sE : Secs w B n es E
theorem PAt.of {w : World} {B g : Nat} {vs ve vt : Value} {ss es : List Value} {ts : List Int} {n : Nat} {S E : List Nat} {off : Bool} {k : Int} (h : PRaw w B g vs ve vt ss es ts n n off k) (h1 : Secs w B n ss S) (h2 : Secs w B n es E) (hn : 0 < n) : ∃ ps cs pe ce, PAt w B g ps cs pe ce vt ss es ts n S E off k := by
  obtain ⟨A, c, rfl, _, _⟩ := own_form h.rs
  obtain ⟨A2, c2, rfl, _, _⟩ := own_form h.re
  obtain ⟨ps, _, rfl, _⟩ := own_at h.rs hn
  obtain ⟨pe, _, rfl, _⟩ := own_at h.re hn
  exact ⟨ps, c, pe, c2, h, h1, h2⟩
section
variable {w w' : World} {B g ps cs pe ce : Nat} {vt : Value} {ss es : List Value} {ts : List Int} {n : Nat} {S E : List Nat} {off : Bool} {k : Int} {X : Nat → Prop}
def PXX (g ps pe z : Nat) : Prop := z = g ∨ z = ps ∨ z = pe
theorem PAt.px (z : Nat) : PX g (.slice (some ⟨ps, 0, none⟩) n cs) (.slice (some ⟨pe, 0, none⟩) n ce) z ↔ PXX g ps pe z := by
  unfold PX PXX
  simp [Value.ownBlock, eq_comm]
theorem PAt.later (h : PAt w B g ps cs pe ce vt ss es ts n S E off k) (hb : Below w.heap.size w w') : PAt w' B g ps cs pe ce vt ss es ts n S E off k :=
  ⟨h.raw.later hb, h.sS.later hb, h.sE.later hb⟩
/-- What lies lower turns nothing of the page's. -/
theorem PAt.but (h : PAt w B g ps cs pe ce vt ss es ts n S E off k) (hb : But X w w') (hX : ∀ z, B ≤ z → z < w.heap.size → ¬ X z) : PAt w' B g ps cs pe ce vt ss es ts n S E off k :=
  ⟨h.raw.but hb (fun z e => by
    rcases e with e | e
    · exact hX z (h.raw.ft z e) (h.raw.lt z e)
    · exact hX z (h.raw.rt.lt z e).1 (h.raw.rt.lt z e).2), h.sS.but hb (fun r c bs hr hB => hX r hB hr.lt), h.sE.but hb (fun r c bs hr hB => hX r hB hr.lt)⟩
theorem PAt.ft (h : PAt w B g ps cs pe ce vt ss es ts n S E off k) : ∀ z, PXX g ps pe z → B ≤ z := fun z e => h.raw.ft z ((PAt.px z).2 e)
theorem PAt.lt (h : PAt w B g ps cs pe ce vt ss es ts n S E off k) : ∀ z, PXX g ps pe z → z < w.heap.size := fun z e => h.raw.lt z ((PAt.px z).2 e)
theorem PAt.cap (h : PAt w B g ps cs pe ce vt ss es ts n S E off k) : (n ≤ cs ∧ cs ≤ maxLen) ∧ (n ≤ ce ∧ ce ≤ maxLen) := by
  obtain ⟨A, c, e, h1, h2⟩ := own_form h.raw.rs
  obtain ⟨A2, c2, e2, h3, h4⟩ := own_form h.raw.re
  cases e
  cases e2
  exact ⟨⟨h1, h2⟩, h3, h4⟩
theorem PAt.secE (h : PAt w B g ps cs pe ce vt ss es ts n S E off k) (i : Nat) (hi : i < n) : ∃ r c, w.cell? ⟨pe, i, none⟩ = some (.slice (some ⟨r, 0, none⟩) 64 c) ∧ RowAt w r c (M.sec E i) := by
  obtain ⟨r, c, h1, h2, _⟩ := h.sE i hi
  have := h.raw.re.cells (g := pe) rfl i _ h1
  rw [add_none, Nat.zero_add] at this
  exact ⟨r, c, this, h2⟩
theorem PAt.secS (h : PAt w B g ps cs pe ce vt ss es ts n S E off k) (i : Nat) (hi : i < n) : ∃ r c, w.cell? ⟨ps, i, none⟩ = some (.slice (some ⟨r, 0, none⟩) 64 c) ∧ RowAt w r c (M.sec S i) := by
  obtain ⟨r, c, h1, h2, _⟩ := h.sS i hi
  have := h.raw.rs.cells (g := ps) rfl i _ h1
  rw [add_none, Nat.zero_add] at this
  exact ⟨r, c, this, h2⟩
theorem pCount_any (w : World) (h : PAt w B g ps cs pe ce vt ss es ts n S E off k) : Calls Try.prog 27 #[Mp g] w fun e w' => e = .returned (.int .i64 (n : Int)) ∧ w = w' := by
  have c1 := h.raw.c1
  clear h
  go_enter Try.func27, Try.ntmps27
  go_wp2
  go_ret
  exact ⟨rfl, rfl⟩
theorem pStrokes_any (w : World) (h : PAt w B g ps cs pe ce vt ss es ts n S E off k) : Calls Try.prog 25 #[Mp g] w fun e w' => e = .returned (.int .i64 k) ∧ w = w' := by
  have c4 := h.raw.c4
  clear h
  go_enter Try.func25, Try.ntmps25
  go_wp2
  go_ret
  exact ⟨rfl, rfl⟩
theorem pRead_bad (w : World) (i : Int) (h : PAt w B g ps cs pe ce vt ss es ts n S E off k) (hi : ¬ (0 ≤ i ∧ i < n)) : Calls Try.prog 17 #[Mp g, .int .i64 i] w fun e w' => e = .returned (.tuple #[.slice none 0 0, .int .i64 100]) ∧ w = w' := by
  have c1 := h.raw.c1
  clear h
  by_cases h0 : i < 0
  · clear hi
    go_enter Try.func17, Try.ntmps17
    go_wp2_with fail
    go_ret2
    exact ⟨rfl, rfl⟩
  · have h1 : (n : Int) ≤ i := by omega
    clear hi
    go_enter Try.func17, Try.ntmps17
    go_wp2_with fail
    go_ret2
    exact ⟨rfl, rfl⟩
theorem pRead_off (w : World) (i : Int) (h : PAt w B g ps cs pe ce vt ss es ts n S E true k) (hi : 0 ≤ i ∧ i < n) : Calls Try.prog 17 #[Mp g, .int .i64 i] w fun e w' => e = .returned (.tuple #[.slice none 0 0, .int .i64 103]) ∧ w = w' := by
  have c1 := h.raw.c1
  have c3 := h.raw.c3
  obtain ⟨h0, h1⟩ := hi
  clear h
  go_enter Try.func17, Try.ntmps17
  go_wp2_with fail
  go_ret2
  exact ⟨rfl, rfl⟩
theorem pRead_ok (w : World) (i : Int) (j : Nat) (bs : List Nat) (h : PAt w B g ps cs pe ce vt ss es ts n S E false k) (hi : i = (j : Nat)) (hj : j < n) (hl : E.length = n * 64) (hbs : bs = M.sec E j) : Calls Try.prog 17 #[Mp g, .int .i64 i] w (RPost bs w) := by
  subst hi
  have c1 := h.raw.c1
  have c3 := h.raw.c3
  obtain ⟨r, c, q1, q2⟩ := h.secE j hj
  have hl2 : bs.length = 64 := by rw [hbs]; exact M.sec_length (by omega)
  rw [← hbs] at q2
  have hBS := Lib.hid (q2.all (n := 64) hl2.symm)
  replace hl2 := Lib.hid hl2
  have t0 : (0 : Int) ≤ (j : Int) := by omega
  have t1 : (j : Int) < (n : Int) := by omega
  clear h q2 hbs hl
  go_enter Try.func17, Try.ntmps17
  go_wp2_with fail
  refine (CopyBytes_row _ bs _ (by rw [hl2.out]; omega) (by rw [hl2.out]; omega) hBS.out).mono ?_
  rintro e2 w2 ⟨r2, c2, rfl, q2, g2, b2⟩
  rw [hl2.out]
  replace q2 := Lib.hid q2
  replace b2 := Lib.hid b2
  replace g2 := Lib.hid g2
  go_wp2_with fail
  go_ret2
  exact ⟨r2, c2, rfl, q2.out, g2.out, b2.out⟩
theorem pWrite_bad (w : World) (i : Int) (u : Value) (xs : List Nat) (h : PAt w B g ps cs pe ce vt ss es ts n S E off k) (hu : BS w w.heap.size u xs) (hbad : ¬ ((0 ≤ i ∧ i < n) ∧ xs.length = 64)) :
    Calls Try.prog 23 #[Mp g, .int .i64 i, u] w fun e w' => e = .returned (.int .i64 100) ∧ w = w' := by
  obtain ⟨U, d, rfl, u1, u2, hU⟩ := hu
  clear hU
  have c1 := h.raw.c1
  clear h
  obtain ⟨m, hm⟩ : ∃ m, m = xs.length := ⟨_, rfl⟩
  rw [← hm] at u1 hbad ⊢
  clear hm
  by_cases h0 : i < 0
  · clear hbad
    go_enter Try.func23, Try.ntmps23
    go_wp2_with fail
    go_ret
    exact ⟨rfl, rfl⟩
  · by_cases h1 : (n : Int) ≤ i
    · clear hbad
      go_enter Try.func23, Try.ntmps23
      go_wp2_with fail
      go_ret
      exact ⟨rfl, rfl⟩
    · have hd : ((m : Int) != 64) = true := by simp; omega
      clear hbad
      go_enter Try.func23, Try.ntmps23
      go_wp2_with fail
      go_ret
      exact ⟨rfl, rfl⟩
end
end Go.Proofs.Ytghogkanhcihbaa
