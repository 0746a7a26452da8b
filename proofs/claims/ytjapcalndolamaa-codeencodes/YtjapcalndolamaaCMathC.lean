/-
  Plain facts: what is written is read, whatever stands behind; no beginning of it is; what is read may be, and is written no longer. No condition; nothing of the program is named here.
-/
import Derived.Test.YtjapcalndolamaaCMathB
namespace Go.Proofs.Ytjapcalndolamaa.M
/-- A reader that reads the same with more behind. -/
def Ext (sub : Rd) : Prop := ∀ bs l b r x, sub bs = some (l, b :: r) → sub (bs ++ x) = some (l, b :: r ++ x)
theorem nums_app {k : Nat} {bs r : List Nat} {t : List Int} (x : List Nat) (h : nums k bs = some (t, r)) : nums k (bs ++ x) = some (t, r ++ x) := by
  induction k generalizing bs t with
  | zero => simp only [nums, Option.some.injEq, Prod.mk.injEq] at h ⊢; exact ⟨h.1, by rw [h.2]⟩
  | succ k ih =>
    simp only [nums, Option.bind_eq_some_iff] at h ⊢
    obtain ⟨⟨v, r1⟩, h1, ⟨t', r2⟩, h2, h3⟩ := h
    cases h3
    exact ⟨_, num_app x h1, _, ih h2, rfl⟩
theorem zeroB_app {bs r : List Nat} (x : List Nat) (h : zeroB bs = some r) : zeroB (bs ++ x) = some (r ++ x) := by rw [zeroB_some h]; rfl
theorem endB_app {bs r : List Nat} (x : List Nat) (h : endB bs = some r) : endB (bs ++ x) = some (r ++ x) := by rw [endB_some h]; rfl
theorem ins_app {sub : Rd} (hs : Ext sub) {op : Nat} {bs r : List Nat} {p : It} (x : List Nat) (h : ins sub op bs = some (p, r)) : ins sub op (bs ++ x) = some (p, r ++ x) := by
  unfold ins at h ⊢
  split at h
  case h_1 => cases h; rfl
  case h_10 => cases h
  case h_2 =>
    cases bs with
    | nil => cases h
    | cons t r0 =>
      simp only [blkB] at h
      split at h
      case isFalse => cases h
      case isTrue ht =>
        simp only [Option.bind_eq_some_iff] at h
        obtain ⟨⟨b, r1⟩, h1, ⟨e, r2⟩, h2, r3, h3, h4⟩ := h
        simp only at h2 h3 h4
        cases h4
        simp only [List.cons_append, blkB, if_pos ht]
        have a3 := endB_some h3
        cases r1 with
        | nil =>
          simp only [elsB, Option.some.injEq, Prod.mk.injEq] at h2
          rw [← h2.2] at a3
          cases a3
        | cons c t' =>
          rw [hs _ _ _ _ x h1]
          simp only [Option.bind_some]
          have a2 : elsB sub op (c :: t' ++ x) = some (e, r2 ++ x) := by
            simp only [elsB, List.cons_append] at h2 ⊢
            split at h2
            · rename_i hc
              rw [if_pos hc]
              rw [a3] at h2 ⊢
              exact hs _ _ _ _ x h2
            · rename_i hc
              rw [if_neg hc]
              cases h2
              rfl
          rw [a2]
          simp only [Option.bind_some, endB_app x h3]
  all_goals
    simp only [Option.bind_eq_some_iff] at h ⊢
  case h_3 =>
    obtain ⟨⟨v, r1⟩, h1, h2⟩ := h
    cases h2
    exact ⟨_, num_app x h1, rfl⟩
  case h_4 =>
    obtain ⟨⟨c, r1⟩, h1, ⟨t, r2⟩, h2, ⟨v, r3⟩, h3, h4⟩ := h
    cases h4
    exact ⟨_, num_app x h1, _, nums_app x h2, _, num_app x h3, rfl⟩
  case h_5 =>
    obtain ⟨⟨v, r1⟩, h1, r2, h2, h3⟩ := h
    cases h3
    exact ⟨_, num_app x h1, _, zeroB_app x h2, rfl⟩
  case h_6 =>
    obtain ⟨⟨v, r1⟩, h1, ⟨v2, r2⟩, h2, h3⟩ := h
    cases h3
    exact ⟨_, num_app x h1, _, num_app x h2, rfl⟩
  case h_7 =>
    obtain ⟨r1, h1, h2⟩ := h
    cases h2
    exact ⟨_, zeroB_app x h1, rfl⟩
  all_goals
    obtain ⟨⟨v, r1⟩, h1, h2⟩ := h
    cases h2
    exact ⟨_, sgn_app x h1, rfl⟩
theorem dec_ext_of {d : Nat} (hs : Ext (subOf d)) : ∀ (n : Nat) (bs : List Nat) (l : L) (b : Nat) (r x : List Nat), bs.length ≤ n → dec d bs = some (l, b :: r) → dec d (bs ++ x) = some (l, b :: r ++ x) := by
  intro n
  induction n with
  | zero =>
    intro bs l b r x hn h
    have : bs = [] := List.eq_nil_of_length_eq_zero (by omega)
    subst this
    rw [dec_nil] at h
    cases h
  | succ n ih =>
    intro bs l b r x hn h
    cases bs with
    | nil => rw [dec_nil] at h; cases h
    | cons c t =>
      rw [List.cons_append]
      by_cases hb : c = 5 ∨ c = 11
      · rw [dec_stop d c _ hb] at h ⊢
        cases h
        rfl
      · rw [dec_step d c _ hb] at h ⊢
        simp only [Option.bind_eq_some_iff] at h ⊢
        obtain ⟨⟨y, ry⟩, h1, ⟨q, rq⟩, h2, h3⟩ := h
        cases h3
        have := ins_less (sub_less d) h1
        simp only [List.length_cons] at hn
        exact ⟨_, ins_app hs x h1, _, ih ry q b r x (by simp only at this; omega) h2, rfl⟩
theorem sub_ext : ∀ d, Ext (subOf d)
  | 0 => fun _ _ _ _ _ h => by cases h
  | d + 1 => fun bs l b r x h => dec_ext_of (sub_ext d) bs.length bs l b r x (Nat.le_refl _) h
theorem dec_ext (d : Nat) : Ext (dec d) := sub_ext (d + 1)
theorem nums_back (t : List Int) (r : List Nat) (h : ∀ x ∈ t, inR x) : nums t.length (Us t ++ r) = some (t, r) := by
  induction t with
  | nil => rfl
  | cons x t ih =>
    simp only [List.length_cons, nums, Us, List.append_assoc]
    rw [num_back x _ (h x (by simp))]
    simp only [Option.bind_some]
    rw [ih (fun y hy => h y (by simp [hy]))]
    rfl
theorem hd_ty {h : Hd} (e : h = { hd0 h.op with ty := h.ty }) : { hd0 h.op with ty := h.ty } = h := e.symm
theorem toNat_cast {x : Int} (h : 0 ≤ x) : ((x.toNat : Nat) : Int) = x := by omega
/-- What is written is read. -/
theorem dec_enc (l : L) : ∀ (d : Nat) (r : List Nat), ok d l → l.sz < 4294967296 → Ends r → dec d (enc l ++ r) = some (l, r) := by
  induction l with
  | nil =>
    intro d r _ _ hr
    simp only [enc, List.nil_append]
    rcases hr with rfl | ⟨b, t, rfl, hb⟩
    · exact dec_nil d
    · exact dec_stop d b t hb
  | cons h b e rest ihb ihe ihr =>
    intro d r hok hsz hr
    simp only [ok] at hok
    obtain ⟨hf, h2, h3, h4, h5⟩ := hok
    simp only [L.sz] at hsz
    have hk : kind h.op ≠ 0 := fun hk => flat_to hk hf
    have hop := kind_op h.op hk
    have hc := toNat_cast hop.1
    have hst : ¬ (h.op.toNat = 5 ∨ h.op.toNat = 11) := by
      rintro (h6 | h6)
      · exact hk (by rw [show h.op = 5 by omega]; decide)
      · exact hk (by rw [show h.op = 11 by omega]; decide)
    simp only [enc, List.cons_append]
    rw [dec_step d _ _ hst]
    have key : ∀ p, ins (subOf d) h.op.toNat (p ++ enc rest ++ r) = some ((h, b, e), enc rest ++ r) →
        ((ins (subOf d) h.op.toNat (p ++ enc rest ++ r)).bind fun p => (dec d p.2).bind fun q => some (L.cons p.1.1 p.1.2.1 p.1.2.2 q.1, q.2)) = some (L.cons h b e rest, r) := by
      intro p hp
      rw [hp]
      simp only [Option.bind_some]
      rw [ihr d r h5 (by omega) hr]
      rfl
    refine key _ ?_
    have hnil : kind h.op ≠ 2 → b = .nil ∧ e = .nil := fun hn => ⟨h3 hn, h4 fun h6 => hn (by rw [h6]; decide)⟩
    unfold ins
    rw [hc]
    rcases kind_cases h.op with k | k | k | k | k | k | k | k | k | k
    · exact absurd k hk
    all_goals replace hf := flat_to k hf; rw [k]; simp only [flatK] at hf ⊢
    case inr.inr.inl =>
      obtain ⟨h6, h7, h8⟩ := h2 k
      obtain ⟨h9, h10⟩ := hf
      obtain ⟨d', rfl⟩ : ∃ d', d = d' + 1 := ⟨d - 1, by omega⟩
      simp only [Nat.add_sub_cancel] at h7 h8
      have ht : ((h.ty.toNat : Nat) : Int) = h.ty := toNat_cast (by unfold tyOk at h10; omega)
      have hsub : subOf (d' + 1) = dec d' := rfl
      simp only [List.cons_append, List.append_assoc, blkB, hsub]
      rw [ht, if_pos h10]
      cases e with
      | nil =>
        simp only [List.nil_append]
        rw [ihb d' _ h7 (by omega) (.inr ⟨11, _, rfl, .inr rfl⟩)]
        simp only [Option.bind_some, elsB]
        rw [if_neg (by omega)]
        simp only [Option.bind_some, endB, if_true]
        rw [hc, ← h9]
      | cons he1 eb ee er =>
        simp only [List.cons_append]
        have h11 : h.op.toNat = 4 := by
          have : h.op = 4 := Decidable.byContradiction fun hn => by cases h4 hn
          omega
        rw [ihb d' _ h7 (by simp only [L.sz] at *; omega) (.inr ⟨5, _, rfl, .inl rfl⟩)]
        simp only [Option.bind_some, elsB]
        rw [if_pos ⟨trivial, h11⟩]
        have := ihe d' ([11] ++ (enc rest ++ r)) h8 (by simp only [L.sz] at *; omega) (.inr ⟨11, _, rfl, .inr rfl⟩)
        simp only [List.cons_append, List.nil_append] at this ⊢
        rw [this]
        simp only [Option.bind_some, endB, if_true]
        rw [hc, ← h9]
    all_goals
      obtain ⟨hb0, he0⟩ := hnil (by omega)
      subst hb0
      subst he0
    case inr.inl =>
      rw [← hf]; rfl
    case inr.inr.inr.inl =>
      rw [List.append_assoc, num_back _ _ hf.2]
      simp only [Option.bind_some]
      rw [← hf.1]
    case inr.inr.inr.inr.inl =>
      obtain ⟨a1, a2, a3⟩ := hf
      simp only [List.append_assoc]
      rw [num_back _ _ ⟨by omega, by omega⟩]
      simp only [Option.bind_some, Int.toNat_natCast]
      rw [nums_back _ _ a3]
      simp only [Option.bind_some]
      rw [num_back _ _ a2]
      simp only [Option.bind_some]
      rw [← a1]
    case inr.inr.inr.inr.inr.inl =>
      simp only [List.append_assoc]
      rw [num_back _ _ hf.2]
      simp only [Option.bind_some, List.cons_append, List.nil_append, zeroB, if_true]
      rw [← hf.1]
    case inr.inr.inr.inr.inr.inr.inl =>
      obtain ⟨a1, a2, a3⟩ := hf
      simp only [List.append_assoc]
      rw [num_back _ _ a2]
      simp only [Option.bind_some]
      rw [num_back _ _ a3]
      simp only [Option.bind_some]
      rw [← a1]
    case inr.inr.inr.inr.inr.inr.inr.inl =>
      simp only [List.cons_append, List.nil_append, zeroB, if_true, Option.bind_some]
      rw [← hf]
    case inr.inr.inr.inr.inr.inr.inr.inr.inl =>
      rw [List.append_assoc, sgn_back 32 _ _ (by omega) (by omega) (by simpa using hf.2)]
      simp only [Option.bind_some]
      rw [← hf.1]
    case inr.inr.inr.inr.inr.inr.inr.inr.inr =>
      rw [List.append_assoc, sgn_back 64 _ _ (by omega) (by omega) (by simpa using hf.2)]
      simp only [Option.bind_some]
      rw [← hf.1]
/-- What one instruction's bytes are behind the first. -/
def tailK (k : Nat) (h : Hd) (b e : L) : List Nat :=
  match k with
  | 2 => h.ty.toNat :: (enc b ++ (match e with | .nil => [] | .cons .. => 5 :: enc e) ++ [11])
  | 3 => U h.ix
  | 4 => U h.labels.length ++ Us h.labels ++ U h.ix
  | 5 => U h.ix ++ [0]
  | 6 => U h.al ++ U h.ofs
  | 7 => [0]
  | 8 => S h.val
  | 9 => S h.val
  | _ => []
def tailOf (h : Hd) (b e : L) : List Nat := tailK (kind h.op) h b e
theorem tail_of {h : Hd} {b e : L} {k : Nat} (hk : kind h.op = k) : tailOf h b e = tailK k h b e := by unfold tailOf; rw [hk]
theorem enc_cons (h : Hd) (b e r : L) : enc (.cons h b e r) = h.op.toNat :: (tailOf h b e ++ enc r) := rfl
/-- What a reader reads may be, and is written no longer. -/
def Sound (d : Nat) (sub : Rd) : Prop := ∀ bs l r, sub bs = some (l, r) → 0 < d ∧ ok (d - 1) l ∧ (enc l).length + r.length ≤ bs.length
theorem els_len (e : L) : (match e with | .nil => [] | .cons .. => 5 :: enc e).length ≤ (enc e).length + 1 := by cases e <;> simp
theorem ins_sound {d : Nat} {sub : Rd} (hs : Sound d sub) {op : Nat} {bs r : List Nat} {h : Hd} {b e : L} (hi : ins sub op bs = some ((h, b, e), r)) :
    h.op = op ∧ flat h ∧ (kind h.op = 2 → 0 < d ∧ ok (d - 1) b ∧ ok (d - 1) e) ∧ (kind h.op ≠ 2 → b = .nil) ∧ (h.op ≠ 4 → e = .nil) ∧ (tailOf h b e).length + r.length ≤ bs.length := by
  unfold ins at hi
  rcases kind_cases (op : Int) with k | k | k | k | k | k | k | k | k | k
  all_goals rw [k] at hi; simp only at hi
  case inl => cases hi
  case inr.inr.inl =>
    cases bs with
    | nil => cases hi
    | cons t r0 =>
      simp only [blkB] at hi
      split at hi
      case isFalse => cases hi
      case isTrue ht =>
        simp only [Option.bind_eq_some_iff] at hi
        obtain ⟨⟨b1, r1⟩, h1, ⟨e1, r2⟩, h2, r3, h3, h4⟩ := hi
        cases h4
        have a3 := endB_some h3
        obtain ⟨s1, s2, s3⟩ := hs _ _ _ h1
        simp only at a3 h2
        have a2 : ok (d - 1) e1 ∧ (¬ (op : Int) = 4 → e1 = .nil) ∧ (match e1 with | .nil => [] | .cons .. => 5 :: enc e1).length + r2.length ≤ r1.length := by
          cases r1 with
          | nil =>
            simp only [elsB, Option.some.injEq, Prod.mk.injEq] at h2
            rw [← h2.2] at a3
            cases a3
          | cons c t' =>
            simp only [elsB] at h2
            split at h2
            · rename_i hc
              obtain ⟨u1, u2, u3⟩ := hs _ _ _ h2
              have := els_len e1
              simp only [List.length_cons]
              exact ⟨u2, fun h6 => absurd (by omega) h6, by omega⟩
            · cases h2
              exact ⟨trivial, fun _ => rfl, by simp⟩
        obtain ⟨v1, v2, v3⟩ := a2
        have hf : flat { hd0 op with ty := t } := by
          exact flat_of k ⟨rfl, ht⟩
        refine ⟨rfl, hf, fun _ => ⟨s1, s2, v1⟩, fun h6 => absurd k h6, v2, ?_⟩
        rw [tail_of k]
        simp only [tailK, List.length_cons, List.length_append, List.length_nil]
        rw [a3] at v3
        simp only [List.length_cons] at v3
        omega
  all_goals try simp only [Option.bind_eq_some_iff] at hi
  case inr.inl =>
    cases hi
    refine ⟨rfl, ?_, fun h6 => ?_, fun _ => rfl, fun _ => rfl, ?_⟩
    · exact flat_of k rfl
    · have h6 : kind (op : Int) = 2 := h6
      omega
    · rw [tail_of k]; simp [tailK]
  case inr.inr.inr.inl =>
    obtain ⟨⟨v, r1⟩, h1, h2⟩ := hi
    cases h2
    obtain ⟨a1, a2, _⟩ := num_short h1
    refine ⟨rfl, ?_, fun h6 => ?_, fun _ => rfl, fun _ => rfl, ?_⟩
    · exact flat_of k ⟨rfl, a1⟩
    · have h6 : kind (op : Int) = 2 := h6
      omega
    · rw [tail_of k]; exact a2
  case inr.inr.inr.inr.inl =>
    obtain ⟨⟨c, r1⟩, h1, ⟨t, r2⟩, h2, ⟨v, r3⟩, h3, h4⟩ := hi
    cases h4
    obtain ⟨a1, a2, _⟩ := num_short h1
    obtain ⟨b1, b2, b3, _⟩ := nums_some h2
    obtain ⟨c1, c2, _⟩ := num_short h3
    simp only at a1 a2 b1 b2 b3 c1 c2
    refine ⟨rfl, ?_, fun h6 => ?_, fun _ => rfl, fun _ => rfl, ?_⟩
    · exact flat_of k ⟨rfl, c1, b2⟩
    · have h6 : kind (op : Int) = 2 := h6
      omega
    · rw [tail_of k]
      simp only [tailK, List.length_append]
      rw [show ((t.length : Nat) : Int) = c by have := a1.1; omega]
      omega
  case inr.inr.inr.inr.inr.inl =>
    obtain ⟨⟨v, r1⟩, h1, r2, h2, h3⟩ := hi
    cases h3
    obtain ⟨a1, a2, _⟩ := num_short h1
    have a3 := zeroB_some h2
    simp only at a3
    rw [a3] at a2
    refine ⟨rfl, ?_, fun h6 => ?_, fun _ => rfl, fun _ => rfl, ?_⟩
    · exact flat_of k ⟨rfl, a1⟩
    · have h6 : kind (op : Int) = 2 := h6
      omega
    · rw [tail_of k]
      simp only [tailK, List.length_append, List.length_cons, List.length_nil] at a2 ⊢
      omega
  case inr.inr.inr.inr.inr.inr.inl =>
    obtain ⟨⟨v, r1⟩, h1, ⟨v2, r2⟩, h2, h3⟩ := hi
    cases h3
    obtain ⟨a1, a2, _⟩ := num_short h1
    obtain ⟨b1, b2, _⟩ := num_short h2
    simp only at a1 a2 b1 b2
    refine ⟨rfl, ?_, fun h6 => ?_, fun _ => rfl, fun _ => rfl, ?_⟩
    · exact flat_of k ⟨rfl, a1, b1⟩
    · have h6 : kind (op : Int) = 2 := h6
      omega
    · rw [tail_of k]
      simp only [tailK, List.length_append]
      omega
  case inr.inr.inr.inr.inr.inr.inr.inl =>
    obtain ⟨r1, h1, h2⟩ := hi
    cases h2
    rw [zeroB_some h1]
    refine ⟨rfl, ?_, fun h6 => ?_, fun _ => rfl, fun _ => rfl, ?_⟩
    · exact flat_of k rfl
    · have h6 : kind (op : Int) = 2 := h6
      omega
    · rw [tail_of k]
      simp only [tailK, List.length_cons, List.length_nil]
      omega
  case inr.inr.inr.inr.inr.inr.inr.inr.inl =>
    obtain ⟨⟨v, r1⟩, h1, h2⟩ := hi
    cases h2
    obtain ⟨a1, a2, _⟩ := sgn_short h1
    refine ⟨rfl, ?_, fun h6 => ?_, fun _ => rfl, fun _ => rfl, ?_⟩
    · exact flat_of k ⟨rfl, by simpa using a1⟩
    · have h6 : kind (op : Int) = 2 := h6
      omega
    · rw [tail_of k]; exact a2
  case inr.inr.inr.inr.inr.inr.inr.inr.inr =>
    obtain ⟨⟨v, r1⟩, h1, h2⟩ := hi
    cases h2
    obtain ⟨a1, a2, _⟩ := sgn_short h1
    refine ⟨rfl, ?_, fun h6 => ?_, fun _ => rfl, fun _ => rfl, ?_⟩
    · exact flat_of k ⟨rfl, by simpa using a1⟩
    · have h6 : kind (op : Int) = 2 := h6
      omega
    · rw [tail_of k]; exact a2
theorem dec_sound_of {d : Nat} (hs : Sound d (subOf d)) : ∀ (n : Nat) (bs : List Nat) (l : L) (r : List Nat), bs.length ≤ n → dec d bs = some (l, r) → ok d l ∧ (enc l).length + r.length ≤ bs.length := by
  intro n
  induction n with
  | zero =>
    intro bs l r hn h
    have : bs = [] := List.eq_nil_of_length_eq_zero (by omega)
    subst this
    rw [dec_nil] at h
    cases h
    exact ⟨trivial, by simp [enc]⟩
  | succ n ih =>
    intro bs l r hn h
    cases bs with
    | nil => rw [dec_nil] at h; cases h; exact ⟨trivial, by simp [enc]⟩
    | cons c t =>
      by_cases hb : c = 5 ∨ c = 11
      · rw [dec_stop d c _ hb] at h
        cases h
        exact ⟨trivial, by simp [enc]⟩
      · rw [dec_step d c _ hb] at h
        simp only [Option.bind_eq_some_iff] at h
        obtain ⟨⟨⟨y, yb, ye⟩, ry⟩, h1, ⟨q, rq⟩, h2, h3⟩ := h
        cases h3
        have hl := ins_less (sub_less d) h1
        simp only [List.length_cons] at hn hl
        obtain ⟨s0, s1, s2, s3, s4, s5⟩ := ins_sound hs h1
        obtain ⟨t1, t2⟩ := ih ry q rq (by omega) h2
        refine ⟨⟨s1, s2, s3, s4, t1⟩, ?_⟩
        simp only
        rw [enc_cons]
        simp only [List.length_cons, List.length_append]
        omega
theorem sub_sound : ∀ d, Sound d (subOf d)
  | 0 => fun _ _ _ h => by cases h
  | d + 1 => fun bs l r h => ⟨by omega, by simpa using dec_sound_of (sub_sound d) bs.length bs l r (Nat.le_refl _) h⟩
theorem dec_sound {d : Nat} {bs r : List Nat} {l : L} (h : dec d bs = some (l, r)) : ok d l ∧ (enc l).length + r.length ≤ bs.length := dec_sound_of (sub_sound d) bs.length bs l r (Nat.le_refl _) h
theorem expr_some {bs : List Nat} {l : L} {n : Nat} (h : expr bs = some (l, n)) : ∃ r, dec 40 bs = some (l, 11 :: r) ∧ r.length + n = bs.length ∧ 1 ≤ n := by
  simp only [expr, Option.bind_eq_some_iff] at h
  obtain ⟨⟨m, r1⟩, h1, r2, h2, h3⟩ := h
  cases h3
  have h4 := endB_some h2
  simp only at h4
  rw [h4] at h1
  have := dec_less 40 _ _ h1
  simp only [List.length_cons] at this
  exact ⟨r2, h1, by omega, by omega⟩
theorem expr_of {bs : List Nat} {l : L} {r : List Nat} (h : dec 40 bs = some (l, 11 :: r)) : expr bs = some (l, bs.length - r.length) := by
  unfold expr
  rw [h]
  rfl
theorem expr_app {bs : List Nat} {l : L} {n : Nat} (x : List Nat) (h : expr bs = some (l, n)) : expr (bs ++ x) = some (l, n) := by
  obtain ⟨r, h1, h2, h3⟩ := expr_some h
  have h4 := dec_ext 40 _ _ _ _ x h1
  rw [List.cons_append] at h4
  rw [expr_of h4]
  simp only [List.length_append, Option.some.injEq, Prod.mk.injEq, true_and]
  omega
theorem expr_back {l : L} (x : List Nat) (h : ok 40 l) (hs : l.sz < 4294967296) : expr (enc l ++ 11 :: x) = some (l, (enc l).length + 1) := by
  rw [expr_of (dec_enc l 40 (11 :: x) h hs (.inr ⟨11, x, rfl, .inr rfl⟩))]
  simp only [List.length_append, List.length_cons, Option.some.injEq, Prod.mk.injEq, true_and]
  omega
theorem expr_cut {l : L} {k : Nat} (h : ok 40 l) (hs : l.sz < 4294967296) (hk : k < (enc l).length + 1) : expr ((enc l ++ [11]).take k) = none := by
  cases hx : expr ((enc l ++ [11]).take k) with
  | none => rfl
  | some p =>
    obtain ⟨m, n⟩ := p
    have h1 := expr_app ((enc l ++ [11]).drop k) hx
    rw [List.take_append_drop, expr_back [] h hs] at h1
    obtain ⟨r, _, h2, _⟩ := expr_some hx
    simp only [List.length_take, List.length_append, List.length_cons, List.length_nil] at h2
    simp only [Option.some.injEq, Prod.mk.injEq] at h1
    omega
theorem expr_sound {bs : List Nat} {l : L} {n : Nat} (h : expr bs = some (l, n)) : ok 40 l ∧ (enc l).length + 1 ≤ n ∧ n ≤ bs.length := by
  obtain ⟨r, h1, h2, h3⟩ := expr_some h
  obtain ⟨h4, h5⟩ := dec_sound h1
  simp only [List.length_cons] at h5
  exact ⟨h4, by omega, by omega⟩
theorem num_nil : num [] = none := by
  unfold num
  rw [if_neg]
  simp [lenOf]
theorem sgn_nil (b : Nat) : sgn b [] = none := by
  unfold sgn
  rw [if_neg]
  simp [lenOf]
/-- Numbers in parts. -/
theorem nums_add (j k : Nat) (bs : List Nat) : nums (j + k) bs = (nums j bs).bind fun p => (nums k p.2).bind fun q => some (p.1 ++ q.1, q.2) := by
  induction j generalizing bs with
  | zero =>
    simp only [Nat.zero_add, nums, Option.bind_some, List.nil_append]
    cases nums k bs <;> rfl
  | succ j ih =>
    rw [Nat.succ_add]
    simp only [nums]
    cases num bs with
    | none => rfl
    | some p =>
      simp only [Option.bind_some]
      rw [ih]
      cases nums j p.2 with
      | none => rfl
      | some q =>
        simp only [Option.bind_some]
        cases nums k q.2 <;> rfl
/-- How long things are. -/
theorem app_len (l m : L) : (l.app m).len = l.len + m.len := by
  induction l with
  | nil => simp [L.app, L.len]
  | cons h b e r _ _ ih => simp only [L.app, L.len, ih]; omega
theorem app_nil (l : L) : l.app .nil = l := by
  induction l with
  | nil => rfl
  | cons h b e r _ _ ih => simp only [L.app, ih]
theorem app_assoc (l m n : L) : (l.app m).app n = l.app (m.app n) := by
  induction l with
  | nil => rfl
  | cons h b e r _ _ ih => simp only [L.app, ih]
theorem sz_len (l : L) : l.len ≤ l.sz := by
  induction l with
  | nil => simp [L.len, L.sz]
  | cons h b e r _ _ ih => simp only [L.len, L.sz]; omega
theorem nth_some {l : L} {k : Nat} {h : Hd} {b e : L} (hn : l.nth k = some (h, b, e)) : k < l.len ∧ h.labels.length + b.sz + e.sz + 1 ≤ l.sz := by
  induction l generalizing k with
  | nil => cases hn
  | cons h' b' e' r _ _ ih =>
    cases k with
    | zero => simp only [L.nth, Option.some.injEq, Prod.mk.injEq] at hn; obtain ⟨rfl, rfl, rfl⟩ := hn; simp only [L.len, L.sz]; omega
    | succ k => have := ih hn; simp only [L.len, L.sz]; omega
theorem nth_of {l : L} {k : Nat} (hk : k < l.len) : ∃ h b e, l.nth k = some (h, b, e) := by
  induction l generalizing k with
  | nil => simp [L.len] at hk
  | cons h' b' e' r _ _ ih =>
    cases k with
    | zero => exact ⟨h', b', e', rfl⟩
    | succ k => exact ih (by simp only [L.len] at hk; omega)
def L.drop : Nat → L → L
  | 0, l => l
  | _ + 1, .nil => .nil
  | k + 1, .cons _ _ _ r => L.drop k r
def L.take : Nat → L → L
  | 0, _ => .nil
  | _ + 1, .nil => .nil
  | k + 1, .cons h b e r => .cons h b e (L.take k r)
theorem drop_zero (l : L) : L.drop 0 l = l := by cases l <;> rfl
theorem take_zero (l : L) : L.take 0 l = .nil := by cases l <;> rfl
theorem drop_nth {l : L} {k : Nat} {h : Hd} {b e : L} (hn : l.nth k = some (h, b, e)) : L.drop k l = .cons h b e (L.drop (k + 1) l) := by
  induction l generalizing k with
  | nil => cases hn
  | cons h' b' e' r _ _ ih =>
    cases k with
    | zero => simp only [L.nth, Option.some.injEq, Prod.mk.injEq] at hn; obtain ⟨rfl, rfl, rfl⟩ := hn; simp only [L.drop]
    | succ k => simp only [L.drop]; exact ih hn
theorem take_nth {l : L} {k : Nat} {h : Hd} {b e : L} (hn : l.nth k = some (h, b, e)) : L.take (k + 1) l = (L.take k l).app (.cons h b e .nil) := by
  induction l generalizing k with
  | nil => cases hn
  | cons h' b' e' r _ _ ih =>
    cases k with
    | zero => simp only [L.nth, Option.some.injEq, Prod.mk.injEq] at hn; obtain ⟨rfl, rfl, rfl⟩ := hn; simp only [L.take, L.app]
    | succ k => rw [show L.take (k + 1 + 1) (L.cons h' b' e' r) = .cons h' b' e' (L.take (k + 1) r) from rfl, ih hn]; rfl
theorem drop_all (l : L) {k : Nat} (h : l.len ≤ k) : L.drop k l = .nil := by
  induction l generalizing k with
  | nil => cases k <;> rfl
  | cons h' b' e' r _ _ ih =>
    cases k with
    | zero => simp [L.len] at h
    | succ k => exact ih (by simp only [L.len] at h; omega)
theorem take_all (l : L) {k : Nat} (h : l.len ≤ k) : L.take k l = l := by
  induction l generalizing k with
  | nil => cases k <;> rfl
  | cons h' b' e' r _ _ ih =>
    cases k with
    | zero => simp [L.len] at h
    | succ k => simp only [L.take]; rw [ih (by simp only [L.len] at h; omega)]
theorem len_zero {l : L} (h : l.len = 0) : l = .nil := by cases l with | nil => rfl | cons => simp [L.len] at h
theorem sz_app (l m : L) : (l.app m).sz = l.sz + m.sz := by
  induction l with
  | nil => simp [L.app, L.sz]
  | cons h b e r _ _ ih => simp only [L.app, L.sz, ih]; omega
theorem enc_app (l m : L) : enc (l.app m) = enc l ++ enc m := by
  induction l with
  | nil => rfl
  | cons h b e r _ _ ih => simp only [L.app]; rw [enc_cons, enc_cons, ih]; simp
theorem ok_app (d : Nat) (l m : L) : ok d (l.app m) ↔ ok d l ∧ ok d m := by
  induction l with
  | nil => simp [L.app, ok]
  | cons h b e r _ _ ih => 
    simp only [L.app, ok, ih]
    exact ⟨fun ⟨a, b, c, d, e, f⟩ => ⟨⟨a, b, c, d, e⟩, f⟩, fun ⟨⟨a, b, c, d, e⟩, f⟩ => ⟨a, b, c, d, e, f⟩⟩
end Go.Proofs.Ytjapcalndolamaa.M
