/-
  Plain facts on reading instructions: the reader, that it reads what was written, that it reads on whatever stands behind, and that what it reads may be and is written no longer. No condition; nothing of the program is named here.
-/
import Derived.Test.YtjapcalndolamaaCMath
namespace Go.Proofs.Ytjapcalndolamaa.M
/-- One instruction, read: what it has, its body, what stands behind else. -/
abbrev It := Hd × L × L
abbrev Rd := List Nat → Option (L × List Nat)
def endB : List Nat → Option (List Nat)
  | [] => none
  | b :: r => if b = 11 then some r else none
def elsB (sub : Rd) (op : Nat) : List Nat → Option (L × List Nat)
  | [] => some (.nil, [])
  | b :: r => if b = 5 ∧ op = 4 then sub r else some (.nil, b :: r)
def blkB (sub : Rd) (op : Nat) : List Nat → Option (It × List Nat)
  | [] => none
  | t :: r => if tyOk t then (sub r).bind fun p => (elsB sub op p.2).bind fun q => (endB q.2).bind fun s => some (({ hd0 op with ty := t }, p.1, q.1), s) else none
def zeroB : List Nat → Option (List Nat)
  | [] => none
  | b :: r => if b = 0 then some r else none
/-- What stands behind the byte op. -/
def ins (sub : Rd) (op : Nat) (bs : List Nat) : Option (It × List Nat) :=
  match kind op with
  | 1 => some ((hd0 op, .nil, .nil), bs)
  | 2 => blkB sub op bs
  | 3 => (num bs).bind fun p => some (({ hd0 op with ix := p.1 }, .nil, .nil), p.2)
  | 4 => (num bs).bind fun c => (nums c.1.toNat c.2).bind fun t => (num t.2).bind fun p => some (({ hd0 op with ix := p.1, labels := t.1 }, .nil, .nil), p.2)
  | 5 => (num bs).bind fun p => (zeroB p.2).bind fun r => some (({ hd0 op with ix := p.1 }, .nil, .nil), r)
  | 6 => (num bs).bind fun p => (num p.2).bind fun q => some (({ hd0 op with al := p.1, ofs := q.1 }, .nil, .nil), q.2)
  | 7 => (zeroB bs).bind fun r => some ((hd0 op, .nil, .nil), r)
  | 8 => (sgn 32 bs).bind fun p => some (({ hd0 op with val := p.1 }, .nil, .nil), p.2)
  | 9 => (sgn 64 bs).bind fun p => some (({ hd0 op with val := p.1 }, .nil, .nil), p.2)
  | _ => none
def lst (sub : Rd) : Nat → List Nat → Option (L × List Nat)
  | 0, _ => none
  | _ + 1, [] => some (.nil, [])
  | n + 1, b :: r => if b = 5 ∨ b = 11 then some (.nil, b :: r) else (ins sub b r).bind fun p => (lst sub n p.2).bind fun q => some (.cons p.1.1 p.1.2.1 p.1.2.2 q.1, q.2)
/-- Instructions with which bytes begin, up to 5, 11 or the end; d: how many blocks may still be opened. -/
def dec : Nat → Rd
  | 0 => fun bs => lst (fun _ => none) (bs.length + 1) bs
  | d + 1 => fun bs => lst (dec d) (bs.length + 1) bs
def subOf : Nat → Rd
  | 0 => fun _ => none
  | d + 1 => dec d
theorem dec_eq (d : Nat) (bs : List Nat) : dec d bs = lst (subOf d) (bs.length + 1) bs := by cases d <;> rfl
/-- The expression with which bytes begin, and how many bytes it has. -/
def expr (bs : List Nat) : Option (L × Nat) := (dec 40 bs).bind fun p => (endB p.2).bind fun r => some (p.1, bs.length - r.length)
/-- A reader that leaves no more than there was. -/
def Less (sub : Rd) : Prop := ∀ bs p, sub bs = some p → p.2.length ≤ bs.length
theorem endB_some {bs r : List Nat} (h : endB bs = some r) : bs = 11 :: r := by
  cases bs with
  | nil => cases h
  | cons b t =>
    simp only [endB] at h
    split at h
    · rename_i hb; subst hb; cases h; rfl
    · cases h
theorem zeroB_some {bs r : List Nat} (h : zeroB bs = some r) : bs = 0 :: r := by
  cases bs with
  | nil => cases h
  | cons b t =>
    simp only [zeroB] at h
    split at h
    · rename_i hb; subst hb; cases h; rfl
    · cases h
theorem nums_some {k : Nat} {bs : List Nat} {p : List Int × List Nat} (h : nums k bs = some p) : p.1.length = k ∧ (∀ x ∈ p.1, inR x) ∧ (Us p.1).length + p.2.length ≤ bs.length ∧ p.1.length + p.2.length ≤ bs.length := by
  induction k generalizing bs p with
  | zero =>
    simp only [nums, Option.some.injEq] at h
    subst h
    simp [Us]
  | succ k ih =>
    simp only [nums, Option.bind_eq_some_iff] at h
    obtain ⟨⟨v, r⟩, h1, ⟨t, r'⟩, h2, h3⟩ := h
    cases h3
    obtain ⟨a1, a2, a3⟩ := num_short h1
    obtain ⟨b1, b2, b3, b4⟩ := ih h2
    simp only at *
    refine ⟨by simp [b1], ?_, ?_, ?_⟩
    · intro x hx
      rcases List.mem_cons.1 hx with rfl | hx
      · exact a1
      · exact b2 x hx
    · simp only [Us, List.length_append]; omega
    · simp only [List.length_cons]; omega
theorem ins_less {sub : Rd} (hs : Less sub) {op : Nat} {bs : List Nat} {p : It × List Nat} (h : ins sub op bs = some p) : p.2.length ≤ bs.length := by
  unfold ins at h
  split at h
  case h_1 => cases h; exact Nat.le_refl _
  case h_2 =>
    cases bs with
    | nil => cases h
    | cons t r =>
      simp only [blkB] at h
      split at h
      · simp only [Option.bind_eq_some_iff] at h
        obtain ⟨⟨b, r1⟩, h1, ⟨e, r2⟩, h2, r3, h3, h4⟩ := h
        cases h4
        have a1 := hs _ _ h1
        have a3 := endB_some h3
        simp only at a1 a3 h2 ⊢
        have a2 : r2.length ≤ r1.length := by
          cases r1 with
          | nil => simp only [elsB] at h2; cases h2; exact Nat.le_refl _
          | cons c t' =>
            simp only [elsB] at h2
            split at h2
            · have := hs _ _ h2; simp only [List.length_cons] at this ⊢; omega
            · cases h2; exact Nat.le_refl _
        rw [a3] at a2
        simp only [List.length_cons] at a2 ⊢
        omega
      · cases h
  case h_10 => cases h
  all_goals
    simp only [Option.bind_eq_some_iff] at h
  case h_3 =>
    obtain ⟨⟨v, r⟩, h1, h2⟩ := h
    cases h2
    have := (num_short h1).2.2
    simp only; omega
  case h_4 =>
    obtain ⟨⟨c, r⟩, h1, ⟨t, r1⟩, h2, ⟨v, r2⟩, h3, h4⟩ := h
    cases h4
    have a1 := (num_short h1).2.2
    have a2 := (nums_some h2).2.2.1
    have a3 := (num_short h3).2.2
    simp only at *; omega
  case h_5 =>
    obtain ⟨⟨v, r⟩, h1, r1, h2, h3⟩ := h
    cases h3
    have a1 := (num_short h1).2.2
    have a2 := zeroB_some h2
    simp only at a2 ⊢
    rw [a2] at a1
    simp only [List.length_cons] at a1; omega
  case h_6 =>
    obtain ⟨⟨v, r⟩, h1, ⟨v2, r2⟩, h2, h3⟩ := h
    cases h3
    have a1 := (num_short h1).2.2
    have a2 := (num_short h2).2.2
    simp only at *; omega
  case h_7 =>
    obtain ⟨r, h1, h2⟩ := h
    cases h2
    have a2 := zeroB_some h1
    rw [a2]
    simp
  all_goals
    obtain ⟨⟨v, r⟩, h1, h2⟩ := h
    cases h2
    have := (sgn_short h1).2.2
    simp only; omega
theorem lst_fuel {sub : Rd} (hs : Less sub) : ∀ (n m : Nat) (bs : List Nat), bs.length < n → bs.length < m → lst sub n bs = lst sub m bs := by
  intro n
  induction n with
  | zero => intro m bs h; omega
  | succ n ih =>
    intro m bs h1 h2
    cases m with
    | zero => omega
    | succ m =>
      cases bs with
      | nil => rfl
      | cons b r =>
        simp only [lst]
        split
        · rfl
        · cases hi : ins sub b r with
          | none => rfl
          | some p =>
            have h3 := ins_less hs hi
            simp only [List.length_cons] at h1 h2
            simp only [Option.bind_some]
            rw [ih m p.2 (by omega) (by omega)]
theorem lst_less {sub : Rd} (hs : Less sub) : ∀ (n : Nat), Less (lst sub n) := by
  intro n
  induction n with
  | zero => intro bs p h; cases h
  | succ n ih =>
    intro bs p h
    cases bs with
    | nil => simp only [lst] at h; cases h; exact Nat.le_refl _
    | cons b r =>
      simp only [lst] at h
      split at h
      · cases h; exact Nat.le_refl _
      · simp only [Option.bind_eq_some_iff] at h
        obtain ⟨x, h1, q, h2, h3⟩ := h
        cases h3
        have a1 := ins_less hs h1
        have a2 := ih _ _ h2
        simp only [List.length_cons]; omega
theorem sub_less : ∀ d, Less (subOf d)
  | 0 => fun _ _ h => by cases h
  | d + 1 => by
    intro bs p h
    have h : dec d bs = some p := h
    rw [dec_eq] at h
    exact lst_less (sub_less d) _ _ _ h
theorem dec_less (d : Nat) : Less (dec d) := sub_less (d + 1)
/-- One step of reading. -/
theorem dec_nil (d : Nat) : dec d [] = some (.nil, []) := by rw [dec_eq]; rfl
theorem dec_stop (d : Nat) (b : Nat) (r : List Nat) (h : b = 5 ∨ b = 11) : dec d (b :: r) = some (.nil, b :: r) := by rw [dec_eq]; simp only [List.length_cons, lst, if_pos h]
theorem dec_step (d : Nat) (b : Nat) (r : List Nat) (h : ¬ (b = 5 ∨ b = 11)) : dec d (b :: r) = (ins (subOf d) b r).bind fun p => (dec d p.2).bind fun q => some (.cons p.1.1 p.1.2.1 p.1.2.2 q.1, q.2) := by
  rw [dec_eq]
  simp only [List.length_cons, lst, if_neg h]
  cases hi : ins (subOf d) b r with
  | none => rfl
  | some p =>
    have h3 := ins_less (sub_less d) hi
    simp only [Option.bind_some]
    rw [dec_eq, lst_fuel (sub_less d) (r.length + 1) (p.2.length + 1) p.2 (by omega) (by omega)]
/-- What is left begins with 5 or 11, or nothing is left. -/
def Ends (r : List Nat) : Prop := r = [] ∨ ∃ b t, r = b :: t ∧ (b = 5 ∨ b = 11)
theorem dec_ends (d : Nat) : ∀ (n : Nat) (bs : List Nat) (p : L × List Nat), bs.length ≤ n → dec d bs = some p → Ends p.2 := by
  intro n
  induction n with
  | zero =>
    intro bs p hn h
    have : bs = [] := List.eq_nil_of_length_eq_zero (by omega)
    subst this
    rw [dec_nil] at h
    cases h
    exact .inl rfl
  | succ n ih =>
    intro bs p hn h
    cases bs with
    | nil => rw [dec_nil] at h; cases h; exact .inl rfl
    | cons b r =>
      by_cases hb : b = 5 ∨ b = 11
      · rw [dec_stop d b r hb] at h; cases h; exact .inr ⟨b, r, rfl, hb⟩
      · rw [dec_step d b r hb] at h
        simp only [Option.bind_eq_some_iff] at h
        obtain ⟨x, h1, q, h2, h3⟩ := h
        cases h3
        have := ins_less (sub_less d) h1
        simp only [List.length_cons] at hn
        exact ih x.2 q (by omega) h2
end Go.Proofs.Ytjapcalndolamaa.M
