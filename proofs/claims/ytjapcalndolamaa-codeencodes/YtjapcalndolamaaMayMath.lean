/-
  What an instruction of each kind must be, number by number; no condition; nothing of the program is called here.
-/
import Derived.Test.YtjapcalndolamaaChk2
namespace Go.Proofs.Ytjapcalndolamaa
theorem len_zero_iff (l : M.L) : l.len = 0 ↔ l = .nil := ⟨M.len_zero, fun h => by subst h; rfl⟩
theorem op_ne4 {op : Int} {k : Nat} (hk : M.kind op = k) (h2 : k ≠ 2) : op ≠ 4 := by
  intro h; subst h; exact h2 (by rw [← hk]; decide)
theorem I1 (d : Nat) (h : M.Hd) (b e : M.L) (hk : M.kind h.op = 1 ∨ M.kind h.op = 7) :
    (h.ty = 0 ∧ h.ix = 0 ∧ h.al = 0 ∧ h.ofs = 0 ∧ h.val = 0 ∧ h.labels.length = 0 ∧ b.len = 0 ∧ e.len = 0) ↔ okI d h b e := by
  obtain ⟨op, ty, ix, al, ofs, val, labels⟩ := h
  rcases hk with hk | hk
  all_goals
    have n4 := op_ne4 hk (by decide)
    simp only at hk n4
    unfold okI M.flat
    simp only [hk, M.flatK, M.hd0, M.Hd.mk.injEq, len_zero_iff, List.length_eq_zero_iff]
    constructor
    · intro hh; simp_all
    · intro hh; simp_all
theorem I3 (d : Nat) (h : M.Hd) (b e : M.L) (hk : M.kind h.op = 3 ∨ M.kind h.op = 5) :
    (M.inR h.ix ∧ h.ty = 0 ∧ h.al = 0 ∧ h.ofs = 0 ∧ h.val = 0 ∧ h.labels.length = 0 ∧ b.len = 0 ∧ e.len = 0) ↔ okI d h b e := by
  obtain ⟨op, ty, ix, al, ofs, val, labels⟩ := h
  rcases hk with hk | hk
  all_goals
    have n4 := op_ne4 hk (by decide)
    simp only at hk n4
    unfold okI M.flat
    simp only [hk, M.flatK, M.hd0, M.Hd.mk.injEq, len_zero_iff, List.length_eq_zero_iff]
    constructor
    · intro hh; simp_all
    · intro hh; simp_all
theorem I4 (d : Nat) (h : M.Hd) (b e : M.L) (hk : M.kind h.op = 4) :
    (M.inR h.ix ∧ (∀ x ∈ h.labels, M.inR x) ∧ h.ty = 0 ∧ h.al = 0 ∧ h.ofs = 0 ∧ h.val = 0 ∧ b.len = 0 ∧ e.len = 0) ↔ okI d h b e := by
  obtain ⟨op, ty, ix, al, ofs, val, labels⟩ := h
  have n4 := op_ne4 hk (by decide)
  simp only at hk n4
  unfold okI M.flat
  simp only [hk, M.flatK, M.hd0, M.Hd.mk.injEq, len_zero_iff]
  constructor
  · rintro ⟨a1, a2, rfl, rfl, rfl, rfl, rfl, rfl⟩
    exact ⟨⟨⟨trivial, rfl, trivial, rfl, rfl, rfl, trivial⟩, a1, a2⟩, fun h => absurd h (by decide), fun _ => rfl, fun _ => rfl⟩
  · rintro ⟨⟨⟨_, a1, _, a2, a3, a4, _⟩, a5, a6⟩, _, a7, a8⟩
    exact ⟨a5, a6, a1, a2, a3, a4, a7 (by decide), a8 n4⟩
theorem I6 (d : Nat) (h : M.Hd) (b e : M.L) (hk : M.kind h.op = 6) :
    (M.inR h.al ∧ M.inR h.ofs ∧ h.ty = 0 ∧ h.ix = 0 ∧ h.val = 0 ∧ h.labels.length = 0 ∧ b.len = 0 ∧ e.len = 0) ↔ okI d h b e := by
  obtain ⟨op, ty, ix, al, ofs, val, labels⟩ := h
  have n4 := op_ne4 hk (by decide)
  simp only at hk n4
  unfold okI M.flat
  simp only [hk, M.flatK, M.hd0, M.Hd.mk.injEq, len_zero_iff, List.length_eq_zero_iff]
  constructor
  · intro hh; simp_all
  · intro hh; simp_all
theorem I8 (d : Nat) (h : M.Hd) (b e : M.L) (hk : M.kind h.op = 8) :
    (((-2147483648 : Int) ≤ h.val ∧ h.val < 2147483648) ∧ h.ty = 0 ∧ h.ix = 0 ∧ h.al = 0 ∧ h.ofs = 0 ∧ h.labels.length = 0 ∧ b.len = 0 ∧ e.len = 0) ↔ okI d h b e := by
  obtain ⟨op, ty, ix, al, ofs, val, labels⟩ := h
  have n4 := op_ne4 hk (by decide)
  simp only at hk n4
  unfold okI M.flat
  simp only [hk, M.flatK, M.hd0, M.Hd.mk.injEq, len_zero_iff, List.length_eq_zero_iff]
  constructor
  · intro hh; simp_all
  · intro hh; simp_all
theorem I9 (d : Nat) (h : M.Hd) (b e : M.L) (hk : M.kind h.op = 9) (hR : Rng h) :
    (h.ty = 0 ∧ h.ix = 0 ∧ h.al = 0 ∧ h.ofs = 0 ∧ h.labels.length = 0 ∧ b.len = 0 ∧ e.len = 0) ↔ okI d h b e := by
  have r5 := hR.r5
  obtain ⟨op, ty, ix, al, ofs, val, labels⟩ := h
  have n4 := op_ne4 hk (by decide)
  simp only at hk n4 r5
  unfold okI M.flat
  simp only [hk, M.flatK, M.hd0, M.Hd.mk.injEq, len_zero_iff, List.length_eq_zero_iff]
  constructor
  · intro hh; simp_all <;> omega
  · intro hh; simp_all
theorem I2 (d : Nat) (h : M.Hd) (b e : M.L) (hk : M.kind h.op = 2) :
    (0 < d ∧ M.tyOk h.ty ∧ M.ok (d - 1) b ∧ (h.op = 4 → M.ok (d - 1) e) ∧ (h.op ≠ 4 → e.len = 0) ∧ h.ix = 0 ∧ h.al = 0 ∧ h.ofs = 0 ∧ h.val = 0 ∧ h.labels.length = 0) ↔ okI d h b e := by
  obtain ⟨op, ty, ix, al, ofs, val, labels⟩ := h
  simp only at hk
  unfold okI M.flat
  simp only [hk, M.flatK, M.hd0, M.Hd.mk.injEq, len_zero_iff, List.length_eq_zero_iff]
  constructor
  · rintro ⟨a1, a2, a3, a4, a5, rfl, rfl, rfl, rfl, rfl⟩
    refine ⟨⟨⟨trivial, trivial, rfl, rfl, rfl, rfl, rfl⟩, a2⟩, fun _ => ⟨a1, a3, ?_⟩, fun h => absurd rfl h, a5⟩
    by_cases h4 : op = 4
    · exact a4 h4
    · rw [a5 h4]; trivial
  · rintro ⟨⟨⟨_, _, a1, a2, a3, a4, a5⟩, a6⟩, a7, _, a8⟩
    obtain ⟨b1, b2, b3⟩ := a7 trivial
    exact ⟨b1, a6, b2, fun _ => b3, a8, a1, a2, a3, a4, a5⟩
end Go.Proofs.Ytjapcalndolamaa
