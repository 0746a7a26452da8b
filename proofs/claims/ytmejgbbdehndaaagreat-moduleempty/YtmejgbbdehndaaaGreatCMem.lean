/-
  How instructions lie in memory, and that what is there stays behind what leaves it alone; no condition.
-/
import Derived.Test.YtmejgbbdehndaaaGreatSmall
namespace Go.Proofs.YtmejgbbdehndaaaGreat
open Go.RowKit
/-- The blocks of S are the same in both worlds. -/
def Agree (S : Nat → Prop) (w w' : World) : Prop := ∀ k, S k → w'.heap[k]? = w.heap[k]?
theorem Agree.cell {S : Nat → Prop} {w w' : World} (h : Agree S w w') {a : Addr} (ha : S a.block) : w'.cell? a = w.cell? a := World.cell?_of_block (w := w) (h a.block ha)
theorem Agree.mono {S T : Nat → Prop} {w w' : World} (h : Agree S w w') (hT : ∀ k, T k → S k) : Agree T w w' := fun k hk => h k (hT k hk)
theorem Agree.trans {S : Nat → Prop} {a b c : World} (h : Agree S a b) (k : Agree S b c) : Agree S a c := fun i hi => (k i hi).trans (h i hi)
theorem below_agree {B : Nat} {w w' : World} (h : Below B w w') : Agree (· < B) w w' := fun k hk => h.block k hk
/-- The value is a slice of these numbers, in blocks of S. -/
def NS (w : World) (S : Nat → Prop) (v : Value) (xs : List Int) : Prop :=
  ∃ A c, v = .slice A xs.length c ∧ (xs.length ≤ 140737488355328 ∧ xs.length ≤ c ∧ c ≤ maxLen) ∧ ∀ i, i < xs.length → ∃ ad, A = some ad ∧ S ad.block ∧ (-9223372036854775808 ≤ xs.getD i 0 ∧ xs.getD i 0 ≤ 9223372036854775807) ∧ w.cell? (ad.add i) = some (.int .i64 (xs.getD i 0))
theorem NS.agree {w w' : World} {S T : Nat → Prop} {v : Value} {xs : List Int} (h : NS w S v xs) (ha : Agree S w w') (hT : ∀ k, S k → T k) : NS w' T v xs := by
  obtain ⟨A, c, e, h1, h3⟩ := h
  refine ⟨A, c, e, h1, fun i hi => ?_⟩
  obtain ⟨ad, e1, h4, h5, h6⟩ := h3 i hi
  exact ⟨ad, e1, hT _ h4, h5, by rw [ha.cell (by rw [addr_block]; exact h4)]; exact h6⟩
/-- What an instruction's nine cells hold. -/
structure ItemAt (w : World) (g o : Nat) (h : M.Hd) (vL vB vE : Value) : Prop where
  c0 : w.cell? ⟨g, o, none⟩ = some (.int .i64 h.op)
  c1 : w.cell? ⟨g, o + 1, none⟩ = some (.int .i64 h.ty)
  c2 : w.cell? ⟨g, o + 2, none⟩ = some (.int .i64 h.ix)
  c3 : w.cell? ⟨g, o + 3, none⟩ = some (.int .i64 h.al)
  c4 : w.cell? ⟨g, o + 4, none⟩ = some (.int .i64 h.ofs)
  c5 : w.cell? ⟨g, o + 5, none⟩ = some (.int .i64 h.val)
  c6 : w.cell? ⟨g, o + 6, none⟩ = some vL
  c7 : w.cell? ⟨g, o + 7, none⟩ = some vB
  c8 : w.cell? ⟨g, o + 8, none⟩ = some vE
/-- The numbers have 64 bits. -/
structure Rng (h : M.Hd) : Prop where
  r0 : -9223372036854775808 ≤ h.op ∧ h.op ≤ 9223372036854775807
  r1 : -9223372036854775808 ≤ h.ty ∧ h.ty ≤ 9223372036854775807
  r2 : -9223372036854775808 ≤ h.ix ∧ h.ix ≤ 9223372036854775807
  r3 : -9223372036854775808 ≤ h.al ∧ h.al ≤ 9223372036854775807
  r4 : -9223372036854775808 ≤ h.ofs ∧ h.ofs ≤ 9223372036854775807
  r5 : -9223372036854775808 ≤ h.val ∧ h.val ≤ 9223372036854775807
theorem ItemAt.agree {w w' : World} {g o : Nat} {h : M.Hd} {vL vB vE : Value} (hi : ItemAt w g o h vL vB vE) (ha : w'.heap[g]? = w.heap[g]?) : ItemAt w' g o h vL vB vE := by
  have e : ∀ j, w'.cell? ⟨g, j, none⟩ = w.cell? ⟨g, j, none⟩ := fun j => World.cell?_of_block (w := w) ha
  obtain ⟨c0, c1, c2, c3, c4, c5, c6, c7, c8⟩ := hi
  constructor <;> (rw [e]; assumption)
/-- A slice value of n elements, in a block of S, where P holds. -/
def Sl (S : Nat → Prop) (P : Nat → Nat → Prop) (n : Nat) (v : Value) : Prop :=
  ∃ A c, v = .slice A n c ∧ (n ≤ 140737488355328 ∧ n ≤ c ∧ c ≤ maxLen) ∧ (n = 0 ∨ ∃ g o, A = some ⟨g, o, none⟩ ∧ S g ∧ P g o)
/-- Instructions lie from this place on. -/
def LA (w : World) (S : Nat → Prop) : M.L → Nat → Nat → Prop
  | .nil, _, _ => True
  | .cons h b e r, g, o => ∃ vL vB vE, ItemAt w g o h vL vB vE ∧ Rng h ∧ NS w S vL h.labels ∧ Sl S (LA w S b) b.len vB ∧ Sl S (LA w S e) e.len vE ∧ LA w S r g (o + 9)
/-- The value is a slice of these instructions, all in blocks of S. -/
def LS (w : World) (S : Nat → Prop) (v : Value) (l : M.L) : Prop := Sl S (LA w S l) l.len v
theorem Sl.imp {S T : Nat → Prop} {P Q : Nat → Nat → Prop} {n : Nat} {v : Value} (h : Sl S P n v) (hT : ∀ k, S k → T k) (hP : ∀ g o, S g → P g o → Q g o) : Sl T Q n v := by
  obtain ⟨A, c, e, h1, h3⟩ := h
  refine ⟨A, c, e, h1, ?_⟩
  rcases h3 with h3 | ⟨g, o, h4, h5, h6⟩
  · exact .inl h3
  · exact .inr ⟨g, o, h4, hT g h5, hP g o h5 h6⟩
theorem LA.agree {w w' : World} {S T : Nat → Prop} (ha : Agree S w w') (hT : ∀ k, S k → T k) (l : M.L) : ∀ g o, S g → LA w S l g o → LA w' T l g o := by
  induction l with
  | nil => intro _ _ _ _; trivial
  | cons h b e r ihb ihe ihr =>
    intro g o hg ⟨vL, vB, vE, h1, h2, h3, h4, h5, h6⟩
    exact ⟨vL, vB, vE, h1.agree (ha g hg), h2, h3.agree ha hT, h4.imp hT ihb, h5.imp hT ihe, ihr g (o + 9) hg h6⟩
theorem LS.agree {w w' : World} {S T : Nat → Prop} {v : Value} {l : M.L} (h : LS w S v l) (ha : Agree S w w') (hT : ∀ k, S k → T k) : LS w' T v l := Sl.imp h hT (LA.agree ha hT l)
theorem LA.nth {w : World} {S : Nat → Prop} (l : M.L) : ∀ {g o k : Nat} {h : M.Hd} {b e : M.L}, LA w S l g o → l.nth k = some (h, b, e) →
    ∃ vL vB vE, ItemAt w g (o + k * 9) h vL vB vE ∧ Rng h ∧ NS w S vL h.labels ∧ LS w S vB b ∧ LS w S vE e := by
  induction l with
  | nil => intro g o k h b e _ hn; cases hn
  | cons h' b' e' r _ _ ih =>
    intro g o k h b e ⟨vL, vB, vE, h1, h2, h3, h4, h5, h6⟩ hn
    cases k with
    | zero =>
      simp only [M.L.nth, Option.some.injEq, Prod.mk.injEq] at hn
      obtain ⟨rfl, rfl, rfl⟩ := hn
      exact ⟨vL, vB, vE, by simpa using h1, h2, h3, h4, h5⟩
    | succ k =>
      obtain ⟨vL', vB', vE', a1, a2⟩ := ih h6 hn
      refine ⟨vL', vB', vE', ?_, a2⟩
      rw [show o + (k + 1) * 9 = o + 9 + k * 9 by omega]
      exact a1
theorem LS.nth {w : World} {S : Nat → Prop} {v : Value} {l : M.L} (hl : LS w S v l) {k : Nat} {h : M.Hd} {b e : M.L} (hn : l.nth k = some (h, b, e)) :
    ∃ g o c vL vB vE, v = .slice (some ⟨g, o, none⟩) l.len c ∧ S g ∧ ItemAt w g (o + k * 9) h vL vB vE ∧ Rng h ∧ NS w S vL h.labels ∧ LS w S vB b ∧ LS w S vE e := by
  obtain ⟨A, c, e1, h1, h3⟩ := hl
  have hk := (M.nth_some hn).1
  rcases h3 with h3 | ⟨g, o, h4, h5, h6⟩
  · omega
  · obtain ⟨vL, vB, vE, h7⟩ := h6.nth l hn
    exact ⟨g, o, c, vL, vB, vE, by rw [e1, h4], h5, h7⟩
theorem LS.nth' {w : World} {S : Nat → Prop} {A : Option Addr} {n c : Nat} {l : M.L} (hl : LS w S (.slice A n c) l) {k : Nat} {h : M.Hd} {b e : M.L} (hn : l.nth k = some (h, b, e)) :
    ∃ g o vL vB vE, A = some ⟨g, o, none⟩ ∧ S g ∧ ItemAt w g (o + k * 9) h vL vB vE ∧ Rng h ∧ NS w S vL h.labels ∧ LS w S vB b ∧ LS w S vE e := by
  obtain ⟨g, o, c', vL, vB, vE, h1, h2⟩ := hl.nth hn
  injection h1 with h1
  exact ⟨g, o, vL, vB, vE, h1, h2⟩
theorem LS.form {w : World} {S : Nat → Prop} {v : Value} {l : M.L} (hl : LS w S v l) : ∃ A c, v = .slice A l.len c ∧ (l.len ≤ 140737488355328 ∧ l.len ≤ c ∧ c ≤ maxLen) := by
  obtain ⟨A, c, e1, h1, _⟩ := hl
  exact ⟨A, c, e1, h1⟩
theorem NS.form {w : World} {S : Nat → Prop} {v : Value} {l : List Int} (hl : NS w S v l) : ∃ A c, v = .slice A l.length c ∧ (l.length ≤ 140737488355328 ∧ l.length ≤ c ∧ c ≤ maxLen) := by
  obtain ⟨A, c, e1, h1, _⟩ := hl
  exact ⟨A, c, e1, h1⟩
/-- What lies in memory that is there. -/
abbrev LB (w : World) (v : Value) (l : M.L) : Prop := LS w (· < w.heap.size) v l
abbrev NB (w : World) (v : Value) (l : List Int) : Prop := NS w (· < w.heap.size) v l
theorem LS.later {w w' : World} {v : Value} {l : M.L} (h : LB w v l) (hb : Below w.heap.size w w') : LB w' v l := LS.agree h (below_agree hb) fun _ hk => Nat.lt_of_lt_of_le hk hb.size
theorem NS.later {w w' : World} {v : Value} {l : List Int} (h : NB w v l) (hb : Below w.heap.size w w') : NB w' v l := NS.agree h (below_agree hb) fun _ hk => Nat.lt_of_lt_of_le hk hb.size
end Go.Proofs.YtmejgbbdehndaaaGreat
