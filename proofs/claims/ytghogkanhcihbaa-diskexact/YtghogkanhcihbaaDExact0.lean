/-
  Two disks of the same bytes, the program's and the page's, that lie apart from each other; condition: both were made by the call.
-/
import Derived.Test.YtghogkanhcihbaaDSpoil
namespace Go.Proofs.Ytghogkanhcihbaa
open Go.RowKit
theorem off_step {ts : List Int} {k : Int} (hk : k < 1000000) (h : ¬ M.least ts ≤ k) : ts.any (· == k + 1) = decide (M.least ts ≤ k + 1) := by
  rw [M.least_le ts k (by omega)] at h
  rw [Bool.eq_iff_iff, decide_eq_true_eq, M.least_le ts (k + 1) (by omega), List.any_eq_true]
  constructor
  · rintro ⟨t, h1, h2⟩
    exact ⟨t, h1, by have : t = k + 1 := by simpa using h2
                     omega⟩
  · rintro ⟨t, h1, h2⟩
    refine ⟨t, h1, ?_⟩
    have : ¬ t ≤ k := fun e => h ⟨t, h1, e⟩
    simp; omega
/-- Both disks. -/
structure XK (W w : World) (Bd g r q n cS cE Bp gp ps cs pe ce : Nat) (vt : Value) (ts : List Int) (S E : List Nat) (k : Int) : Prop where
  d : DAt w Bd g r q n cS cE S E k (M.least ts)
  p : ∃ ss es, PAt w Bp gp ps cs pe ce vt ss es ts n S E (decide (M.least ts ≤ k)) k
  low : ∀ z, DX g r q z → z < Bp
  lo : W.heap.size ≤ Bd ∧ W.heap.size ≤ Bp
  bel : Below W.heap.size W w
section
variable {W w w1 w2 : World} {Bd g r q n cS cE Bp gp ps cs pe ce : Nat} {vt : Value} {ts : List Int} {S E S' E' : List Nat} {k k' : Int}
theorem XK.later (h : XK W w Bd g r q n cS cE Bp gp ps cs pe ce vt ts S E k) (hb : Below w.heap.size w w1) : XK W w1 Bd g r q n cS cE Bp gp ps cs pe ce vt ts S E k := by
  obtain ⟨ss, es, hp⟩ := h.p
  exact ⟨h.d.later hb, ⟨ss, es, hp.later hb⟩, h.low, h.lo, h.bel.trans (hb.mono h.bel.size)⟩
/-- The program's disk has turned: the page's is as it was. -/
theorem XK.mid {ss es : List Value} {off : Bool} (h : XK W w Bd g r q n cS cE Bp gp ps cs pe ce vt ts S E k) (hp : PAt w Bp gp ps cs pe ce vt ss es ts n S E off k) (hb : But (DX g r q) w w1) : PAt w1 Bp gp ps cs pe ce vt ss es ts n S E off k ∧ Below W.heap.size W w1 :=
  ⟨hp.but hb (fun z hz _ e => by have := h.low z e; omega), h.bel.trans (hb.below (fun z e => Nat.le_trans h.lo.1 (h.d.ft z e)) h.bel.size)⟩
/-- The page's disk has turned, too. -/
theorem XK.fin (hd : DAt w1 Bd g r q n cS cE S' E' k' (M.least ts)) (low : ∀ z, DX g r q z → z < Bp) (lo : W.heap.size ≤ Bd ∧ W.heap.size ≤ Bp) (bel : Below W.heap.size W w1) (hft : ∀ z, PXX gp ps pe z → Bp ≤ z) (hb : But (PXX gp ps pe) w1 w2) (hp : ∃ ss es, PAt w2 Bp gp ps cs pe ce vt ss es ts n S' E' (decide (M.least ts ≤ k')) k') : XK W w2 Bd g r q n cS cE Bp gp ps cs pe ce vt ts S' E' k' :=
  ⟨hd.but hb (fun z hz e => by have := low z hz; have := hft z e; omega), hp, low, lo, bel.trans (hb.below (fun z e => Nat.le_trans lo.2 (hft z e)) bel.size)⟩
/-- A row that is none of its own is written over. -/
theorem PAt.spoil {ss es : List Value} {off : Bool} {z c : Nat} {bs : List Nat} (h : PAt w Bp gp ps cs pe ce vt ss es ts n S E off k) (hr : RowAt w z c bs) (hb : But (· = z) w w1) (h1 : ∀ (i r c : Nat), ss[i]? = some (Value.slice (some ⟨r, 0, none⟩) 64 c) → r ≠ z) (h2 : ∀ (i r c : Nat), es[i]? = some (Value.slice (some ⟨r, 0, none⟩) 64 c) → r ≠ z) : PAt w1 Bp gp ps cs pe ce vt ss es ts n S E off k := by
  refine ⟨h.raw.but hb (fun x hx e => ?_), fun i hi => ?_, fun i hi => ?_⟩
  · subst e
    rcases hx with hx | hx
    · exact h.raw.sec_ne hr hx
    · obtain ⟨cur, hc⟩ := own_objT h.raw.rt hx
      obtain ⟨cur2, hc2, _⟩ := hr
      exact absurd (typ_ne hc hc2) (by decide)
  · obtain ⟨r, c, q1, q2, q3⟩ := h.sS i hi
    exact ⟨r, c, q1, q2.but hb (h1 i r c q1), q3⟩
  · obtain ⟨r, c, q1, q2, q3⟩ := h.sE i hi
    exact ⟨r, c, q1, q2.but hb (h2 i r c q1), q3⟩
theorem PAt.lows {ss es : List Value} {off : Bool} (h : PAt w Bp gp ps cs pe ce vt ss es ts n S E off k) : (∀ (i r c : Nat), ss[i]? = some (Value.slice (some ⟨r, 0, none⟩) 64 c) → r < w.heap.size) ∧ (∀ (i r c : Nat), es[i]? = some (Value.slice (some ⟨r, 0, none⟩) 64 c) → r < w.heap.size) := by
  have l1 := h.raw.rs.1
  have l2 := h.raw.re.1
  constructor
  · intro i r c e
    have hi := (List.getElem?_eq_some_iff.1 e).1
    obtain ⟨r1, c1, q1, q2, _⟩ := h.sS i (by omega)
    rw [q1] at e
    cases e
    exact q2.lt
  · intro i r c e
    have hi := (List.getElem?_eq_some_iff.1 e).1
    obtain ⟨r1, c1, q1, q2, _⟩ := h.sE i (by omega)
    rw [q1] at e
    cases e
    exact q2.lt
theorem XK.spoilW {ss es : List Value} {z c : Nat} {bs : List Nat} (hd : DAt w1 Bd g r q n cS cE S' E' k' (M.least ts)) (low : ∀ z, DX g r q z → z < Bp) (lo : W.heap.size ≤ Bd ∧ W.heap.size ≤ Bp) (bel : Below W.heap.size W w1) (hft : ∀ z, PXX gp ps pe z → Bp ≤ z) (hb : But (PXX gp ps pe) w1 w2) (hp : PAt w2 Bp gp ps cs pe ce vt ss es ts n S' E' (decide (M.least ts ≤ k')) k') (hr : RowAt w2 z c bs) (hz : Bp ≤ z) {w3 : World} (hs : But (· = z) w2 w3) (h1 : ∀ (i r c : Nat), ss[i]? = some (Value.slice (some ⟨r, 0, none⟩) 64 c) → r ≠ z) (h2 : ∀ (i r c : Nat), es[i]? = some (Value.slice (some ⟨r, 0, none⟩) 64 c) → r ≠ z) : XK W w3 Bd g r q n cS cE Bp gp ps cs pe ce vt ts S' E' k' := by
  have X2 := XK.fin hd low lo bel hft hb ⟨ss, es, hp⟩
  exact ⟨X2.d.but hs (fun x hx e => by have := low x hx; omega), ⟨ss, es, hp.spoil hr hs h1 h2⟩, low, lo, X2.bel.trans (hs.below (fun x e => by rw [e]; exact Nat.le_trans lo.2 hz) X2.bel.size)⟩
end
theorem Strokes_is {B g r q n cS cE : Nat} {S E : List Nat} {k last : Int} (w : World) (h : DAt w B g r q n cS cE S E k last) : Calls Try.prog 24 #[Mp g] w fun e w' => e = .returned (.int .i64 k) ∧ w = w' := (Strokes_any w h).mono fun _ _ ⟨a, b⟩ => ⟨a, b.symm⟩
theorem Count_is {B g r q n cS cE : Nat} {S E : List Nat} {k last : Int} (w : World) (h : DAt w B g r q n cS cE S E k last) : Calls Try.prog 26 #[Mp g] w fun e w' => e = .returned (.int .i64 (n : Int)) ∧ w = w' := (Count_any w h).mono fun _ _ ⟨a, b⟩ => ⟨a, b.symm⟩
end Go.Proofs.Ytghogkanhcihbaa
