/-
  Plain facts: readers and writers of bytes that undo each other, and how greater ones are put together of smaller ones. No condition; nothing of the program is named here.
-/
import Derived.Test.YtmejgbbdehndaaaGreatLMath
namespace Go.Proofs.YtmejgbbdehndaaaGreat.M
/-- A reader and a writer: what is written is read, whatever stands behind; what is read may be, and is written no longer. -/
structure Codec (α : Type) where
  rd : List Nat → Option (α × List Nat)
  wr : α → List Nat
  ok : α → Prop
  back : ∀ x r, ok x → rd (wr x ++ r) = some (x, r)
  app : ∀ bs x r t, rd bs = some (x, r) → rd (bs ++ t) = some (x, r ++ t)
  sound : ∀ bs x r, bs.length ≤ 2147483648 → rd bs = some (x, r) → ok x ∧ (wr x).length + r.length ≤ bs.length
theorem U_short (n : Int) (k : Nat) (h0 : 0 ≤ n) (h : n.toNat < 2 ^ (7 * (k + 1))) : (U n).length ≤ k + 1 := by
  unfold U
  exact putU_short k 10 n.toNat h
/-- A number. -/
def cNum : Codec Int where
  rd := num
  wr := U
  ok := inR
  back := fun x r h => num_back x r h
  app := fun _ _ _ t h => num_app t h
  sound := fun _ _ _ _ h => ⟨(num_short h).1, (num_short h).2.1⟩
/-- A byte of some. -/
def cByte (p : Nat → Bool) : Codec Nat where
  rd := fun bs => match bs with | [] => none | b :: r => if p b then some (b, r) else none
  wr := fun b => [b]
  ok := fun b => p b = true
  back := fun x r h => by simp [h]
  app := fun bs x r t h => by
    cases bs with
    | nil => cases h
    | cons b s =>
      simp only [List.cons_append] at h ⊢
      split at h
      · cases h; rename_i hp; rw [if_pos hp]
      · cases h
  sound := fun bs x r _ h => by
    cases bs with
    | nil => cases h
    | cons b s =>
      simp only at h
      by_cases hp : p b = true
      · rw [if_pos hp] at h
        cases h
        exact ⟨hp, by simp; omega⟩
      · rw [if_neg hp] at h; cases h
/-- One behind the other, the second as the first says. -/
def cSeq {α β : Type} (a : Codec α) (b : α → Codec β) : Codec (α × β) where
  rd := fun bs => (a.rd bs).bind fun p => ((b p.1).rd p.2).bind fun q => some ((p.1, q.1), q.2)
  wr := fun x => a.wr x.1 ++ (b x.1).wr x.2
  ok := fun x => a.ok x.1 ∧ (b x.1).ok x.2
  back := fun x r h => by rw [List.append_assoc, a.back _ _ h.1, Option.bind_some, (b x.1).back _ _ h.2]; rfl
  app := fun bs x r t h => by
    obtain ⟨⟨x1, r1⟩, h1, h2⟩ := Option.bind_eq_some_iff.1 h
    obtain ⟨⟨x2, r2⟩, h3, h4⟩ := Option.bind_eq_some_iff.1 h2
    cases h4
    rw [a.app _ _ _ t h1, Option.bind_some, (b x1).app _ _ _ t h3]
    rfl
  sound := fun bs x r hl h => by
    obtain ⟨⟨x1, r1⟩, h1, h2⟩ := Option.bind_eq_some_iff.1 h
    obtain ⟨⟨x2, r2⟩, h3, h4⟩ := Option.bind_eq_some_iff.1 h2
    cases h4
    obtain ⟨q1, q2⟩ := a.sound _ _ _ hl h1
    have h3' : (b x1).rd r1 = some (x2, r2) := h3
    obtain ⟨q3, q4⟩ := (b x1).sound _ _ _ (by omega) h3'
    refine ⟨⟨q1, q3⟩, ?_⟩
    show (a.wr x1 ++ (b x1).wr x2).length + r2.length ≤ bs.length
    rw [List.length_append]; omega
/-- Said in other words. -/
def cMap {α β : Type} (a : Codec α) (f : α → β) (g : β → α) (hg : ∀ x, a.ok x → g (f x) = x) (hf : ∀ y, a.ok (g y) → f (g y) = y) : Codec β where
  rd := fun bs => (a.rd bs).bind fun p => some (f p.1, p.2)
  wr := fun y => a.wr (g y)
  ok := fun y => a.ok (g y)
  back := fun y r h => by rw [a.back _ _ h, Option.bind_some, hf y h]
  app := fun bs x r t h => by
    obtain ⟨⟨x1, r1⟩, h1, h2⟩ := Option.bind_eq_some_iff.1 h
    cases h2
    rw [a.app _ _ _ t h1]
    rfl
  sound := fun bs x r hl h => by
    obtain ⟨⟨x1, r1⟩, h1, h2⟩ := Option.bind_eq_some_iff.1 h
    cases h2
    obtain ⟨q1, q2⟩ := a.sound _ _ _ hl h1
    simp only [hg x1 q1]
    exact ⟨q1, q2⟩
/-- Only some. -/
def cIf {α : Type} (a : Codec α) (p : α → Bool) : Codec α where
  rd := fun bs => (a.rd bs).bind fun q => if p q.1 then some q else none
  wr := a.wr
  ok := fun x => a.ok x ∧ p x = true
  back := fun x r h => by rw [a.back _ _ h.1, Option.bind_some, if_pos h.2]
  app := fun bs x r t h => by
    obtain ⟨⟨x1, r1⟩, h1, h2⟩ := Option.bind_eq_some_iff.1 h
    simp only at h2
    split at h2
    · cases h2; rename_i hp; rw [a.app _ _ _ t h1, Option.bind_some, if_pos hp]
    · cases h2
  sound := fun bs x r hl h => by
    obtain ⟨⟨x1, r1⟩, h1, h2⟩ := Option.bind_eq_some_iff.1 h
    simp only at h2
    split at h2
    · cases h2; rename_i hp
      obtain ⟨q1, q2⟩ := a.sound _ _ _ hl h1
      exact ⟨⟨q1, hp⟩, q2⟩
    · cases h2
/-- So many. -/
def rTimes {α : Type} (a : Codec α) : Nat → List Nat → Option (List α × List Nat)
  | 0, bs => some ([], bs)
  | n + 1, bs => (a.rd bs).bind fun p => (rTimes a n p.2).bind fun q => some (p.1 :: q.1, q.2)
def wTimes {α : Type} (a : Codec α) : List α → List Nat
  | [] => []
  | x :: t => a.wr x ++ wTimes a t
theorem times_back {α : Type} (a : Codec α) (r : List Nat) : ∀ xs : List α, (∀ x ∈ xs, a.ok x) → rTimes a xs.length (wTimes a xs ++ r) = some (xs, r)
  | [], _ => rfl
  | x :: t, h => by
    show (a.rd (a.wr x ++ wTimes a t ++ r)).bind _ = _
    rw [List.append_assoc, a.back _ _ (h x (List.mem_cons_self ..)), Option.bind_some, times_back a r t (fun y hy => h y (List.mem_cons_of_mem _ hy))]
    rfl
theorem times_app {α : Type} (a : Codec α) (t : List Nat) : ∀ (n : Nat) (bs : List Nat) (xs : List α) (r : List Nat), rTimes a n bs = some (xs, r) → rTimes a n (bs ++ t) = some (xs, r ++ t)
  | 0, bs, xs, r, h => by cases h; rfl
  | n + 1, bs, xs, r, h => by
    obtain ⟨⟨x1, r1⟩, h1, h2⟩ := Option.bind_eq_some_iff.1 h
    obtain ⟨⟨x2, r2⟩, h3, h4⟩ := Option.bind_eq_some_iff.1 h2
    cases h4
    show (a.rd (bs ++ t)).bind _ = _
    rw [a.app _ _ _ t h1, Option.bind_some, times_app a t n _ _ _ h3]
    rfl
theorem times_sound {α : Type} (a : Codec α) : ∀ (n : Nat) (bs : List Nat) (xs : List α) (r : List Nat), bs.length ≤ 2147483648 → rTimes a n bs = some (xs, r) → xs.length = n ∧ (∀ x ∈ xs, a.ok x) ∧ (wTimes a xs).length + r.length ≤ bs.length
  | 0, bs, xs, r, _, h => by cases h; exact ⟨rfl, (fun x hx => by cases hx), by simp [wTimes]⟩
  | n + 1, bs, xs, r, hl, h => by
    obtain ⟨⟨x1, r1⟩, h1, h2⟩ := Option.bind_eq_some_iff.1 h
    obtain ⟨⟨x2, r2⟩, h3, h4⟩ := Option.bind_eq_some_iff.1 h2
    cases h4
    obtain ⟨q1, q2⟩ := a.sound _ _ _ hl h1
    have h3' : rTimes a n r1 = some (x2, r2) := h3
    obtain ⟨q3, q4, q5⟩ := times_sound a n _ _ _ (by omega) h3'
    refine ⟨by simp [q3], fun x hx => ?_, by simp only [wTimes, List.length_append]; omega⟩
    rcases List.mem_cons.1 hx with rfl | hx
    · exact q1
    · exact q4 x hx
/-- A vector of at most so many. -/
def cVec {α : Type} (a : Codec α) (most : Nat) (hm : most < 4294967296) : Codec (List α) where
  rd := fun bs => (num bs).bind fun p => if p.1 ≤ most then rTimes a p.1.toNat p.2 else none
  wr := fun xs => U xs.length ++ wTimes a xs
  ok := fun xs => xs.length ≤ most ∧ ∀ x ∈ xs, a.ok x
  back := fun xs r h => by
    rw [List.append_assoc, num_back _ _ ⟨by omega, by have := h.1; omega⟩, Option.bind_some, if_pos (by have := h.1; omega), Int.toNat_natCast]
    exact times_back a r xs h.2
  app := fun bs x r t h => by
    obtain ⟨⟨x1, r1⟩, h1, h2⟩ := Option.bind_eq_some_iff.1 h
    simp only at h2
    split at h2
    · rename_i hp
      rw [num_app t h1, Option.bind_some, if_pos hp]
      exact times_app a t _ _ _ _ h2
    · cases h2
  sound := fun bs x r hl h => by
    obtain ⟨⟨x1, r1⟩, h1, h2⟩ := Option.bind_eq_some_iff.1 h
    simp only at h2
    split at h2
    · rename_i hp
      obtain ⟨q1, q2, q3⟩ := num_short h1
      have h2' : rTimes a x1.toNat r1 = some (x, r) := h2
      obtain ⟨q4, q5, q6⟩ := times_sound a _ _ _ _ (by omega) h2'
      have e : ((x.length : Nat) : Int) = x1 := by rw [q4]; have := q1.1; omega
      exact ⟨⟨by omega, q5⟩, by rw [List.length_append, e]; omega⟩
    · cases h2
/-- Bytes, as many as are said. -/
def cPiece : Codec (List Nat) where
  rd := fun bs => (num bs).bind fun p => if p.1.toNat ≤ p.2.length then some (p.2.take p.1.toNat, p.2.drop p.1.toNat) else none
  wr := fun xs => U xs.length ++ xs
  ok := fun xs => xs.length < 4294967296
  back := fun xs r h => by
    rw [List.append_assoc, num_back _ _ ⟨by omega, by omega⟩, Option.bind_some]
    simp
  app := fun bs x r t h => by
    obtain ⟨⟨x1, r1⟩, h1, h2⟩ := Option.bind_eq_some_iff.1 h
    simp only at h2
    split at h2
    · rename_i hp
      cases h2
      rw [num_app t h1, Option.bind_some]
      simp only [List.length_append]
      rw [if_pos (by omega), List.take_append_of_le_length hp, List.drop_append_of_le_length hp]
    · cases h2
  sound := fun bs x r hl h => by
    obtain ⟨⟨x1, r1⟩, h1, h2⟩ := Option.bind_eq_some_iff.1 h
    simp only at h2
    split at h2
    · rename_i hp
      cases h2
      obtain ⟨q1, q2, q3⟩ := num_short h1
      have e : ((r1.take x1.toNat).length : Int) = x1 := by rw [List.length_take, Nat.min_eq_left hp]; have := q1.1; omega
      have e2 : (r1.take x1.toNat).length = x1.toNat := by rw [List.length_take, Nat.min_eq_left hp]
      refine ⟨by rw [e2]; have := q1.2; omega, ?_⟩
      rw [List.length_append, e, e2, List.length_drop]
      omega
    · cases h2
theorem putU_mono : ∀ (j n m : Nat), n ≤ m → (putU j n).length ≤ (putU j m).length
  | 0, n, m, _ => by simp [putU]
  | j + 1, n, m, h => by
    unfold putU
    by_cases hm : m < 128
    · rw [if_pos hm, if_pos (show n < 128 by omega)]; exact Nat.le_refl _
    · rw [if_neg hm]
      by_cases hn : n < 128
      · rw [if_pos hn]; simp
      · rw [if_neg hn]
        have := putU_mono j (n / 128) (m / 128) (Nat.div_le_div_right h)
        simp only [List.length_cons]
        omega
theorem U_mono {n m : Nat} (h : n ≤ m) : (U n).length ≤ (U m).length := by
  unfold U
  rw [Int.toNat_natCast, Int.toNat_natCast]
  exact putU_mono 10 n m h
/-- How many bytes it has, and then it, which has just these. -/
def cSized {α : Type} (a : Codec α) : Codec α where
  rd := fun bs => (cPiece.rd bs).bind fun p => (a.rd p.1).bind fun q => match q.2 with | [] => some (q.1, p.2) | _ => none
  wr := fun x => U (a.wr x).length ++ a.wr x
  ok := fun x => a.ok x ∧ (a.wr x).length < 4294967296
  back := fun x r h => by
    have h1 := cPiece.back (a.wr x) r h.2
    have h2 := a.back x [] h.1
    rw [List.append_nil] at h2
    show (cPiece.rd (U (a.wr x).length ++ a.wr x ++ r)).bind _ = _
    rw [show cPiece.rd (U (a.wr x).length ++ a.wr x ++ r) = some (a.wr x, r) from h1, Option.bind_some, h2]
    rfl
  app := fun bs x r t h => by
    obtain ⟨⟨x1, r1⟩, h1, h2⟩ := Option.bind_eq_some_iff.1 h
    obtain ⟨⟨x2, r2⟩, h3, h4⟩ := Option.bind_eq_some_iff.1 h2
    rw [cPiece.app _ _ _ t h1, Option.bind_some, h3, Option.bind_some]
    cases r2 with
    | nil => cases h4; rfl
    | cons => cases h4
  sound := fun bs x r hl h => by
    obtain ⟨⟨x1, r1⟩, h1, h2⟩ := Option.bind_eq_some_iff.1 h
    obtain ⟨⟨x2, r2⟩, h3, h4⟩ := Option.bind_eq_some_iff.1 h2
    obtain ⟨q1, q2⟩ := cPiece.sound _ _ _ hl h1
    have q2 : (U x1.length ++ x1).length + r1.length ≤ bs.length := q2
    have q1 : x1.length < 4294967296 := q1
    rw [List.length_append] at q2
    obtain ⟨q3, q4⟩ := a.sound _ _ _ (by show x1.length ≤ _; omega) h3
    have q4 : (a.wr x2).length + r2.length ≤ x1.length := q4
    cases r2 with
    | nil =>
      obtain ⟨rfl, rfl⟩ : x2 = x ∧ r1 = r := by simpa using h4
      have q5 := U_mono (show (a.wr x2).length ≤ x1.length by simp at q4; omega)
      refine ⟨⟨q3, by simp at q4; omega⟩, ?_⟩
      rw [List.length_append]
      simp at q4
      omega
    | cons => cases h4
theorem labels_le (xs : List Int) : xs.length ≤ (Us xs).length := by
  induction xs with
  | nil => simp
  | cons x t ih =>
    simp only [Us, List.length_cons, List.length_append]
    have := (putU_length 10 x.toNat).1
    have e : (U x).length = (putU 10 x.toNat).length := rfl
    omega
/-- Each instruction, and each label, has a byte at least. -/
theorem sz_le (l : L) : ∀ d, ok d l → l.sz ≤ (enc l).length := by
  induction l with
  | nil => intro d _; simp [L.sz]
  | cons h b e r ihb ihe ihr =>
    intro d hok
    obtain ⟨hf, h2, hb, he, hr⟩ := hok
    rw [enc_cons]
    simp only [L.sz, List.length_cons, List.length_append]
    have q := ihr d hr
    have hl : h.labels.length + b.sz + e.sz ≤ (tailOf h b e).length := by
      rcases kind_cases h.op with k | k | k | k | k | k | k | k | k | k
      all_goals have hfk := flat_to k hf
      all_goals rw [tail_of k]
      · exact absurd hfk (by simp [flatK])
      case inr.inr.inl =>
        obtain ⟨_, hb1, he1⟩ := h2 k
        have q1 := ihb _ hb1
        have q2 := ihe _ he1
        have hlab : h.labels = [] := by rw [hfk.1]; rfl
        rw [hlab]
        cases e with
        | nil => simp [tailK, L.sz]; omega
        | cons a1 a2 a3 a4 => simp only [tailK, List.length_cons, List.length_append, List.length_nil]; omega
      all_goals (
        have hb0 := hb (by rw [k]; decide)
        have he0 := he (fun e4 => by rw [(kind_block h.op).2 (by omega)] at k; cases k)
        subst hb0 he0)
      case inr.inr.inr.inr.inl =>
        have := labels_le h.labels
        simp [tailK, L.sz]
        omega
      all_goals (
        have hlab : h.labels = [] := by first | (rw [hfk.1]; rfl) | (rw [hfk]; rfl)
        rw [hlab]
        simp [L.sz])
    omega
/-- An expression. -/
def cExpr : Codec L where
  rd := fun bs => (expr bs).bind fun p => some (p.1, bs.drop p.2)
  wr := fun l => enc l ++ [11]
  ok := fun l => ok 40 l ∧ l.sz < 4294967296
  back := fun l r h => by
    have := expr_back r h.1 h.2
    rw [List.append_assoc]
    show (expr (enc l ++ 11 :: r)).bind _ = _
    rw [this, Option.bind_some]
    simp
  app := fun bs x r t h => by
    obtain ⟨⟨l, n⟩, h1, h2⟩ := Option.bind_eq_some_iff.1 h
    cases h2
    rw [expr_app t h1, Option.bind_some]
    have := (expr_sound h1).2.2
    simp only
    rw [List.drop_append_of_le_length this]
  sound := fun bs x r hl h => by
    obtain ⟨⟨l, n⟩, h1, h2⟩ := Option.bind_eq_some_iff.1 h
    obtain ⟨rfl, rfl⟩ : l = x ∧ bs.drop n = r := by simpa using h2
    obtain ⟨q1, q2, q3⟩ := expr_sound h1
    have := sz_le l 40 q1
    refine ⟨⟨q1, by omega⟩, ?_⟩
    rw [List.length_append, List.length_drop]
    simp
    omega
end Go.Proofs.YtmejgbbdehndaaaGreat.M
