/-
  Plain facts on code points and their bytes: which bytes a point has, that two texts with the same bytes are the same, and what is read off bytes. No condition; nothing of the program is named here.
-/
import Derived.Laws.BitsAllLaws
import Derived.Laws.BitsLemmas
namespace Go.Proofs.YtmejgbbdehndaaaGreat.Utf.M
/-- A code point that may be. -/
def IsP (p : Nat) : Prop := p ≤ 1114111 ∧ (p < 55296 ∨ 57343 < p)
instance (p : Nat) : Decidable (IsP p) := by unfold IsP; infer_instance
/-- A point's bytes. -/
def enc (p : Nat) : List Nat :=
  if p < 128 then [p]
  else if p < 2048 then [192 + p / 64, 128 + p % 64]
  else if p < 65536 then [224 + p / 4096, 128 + p / 64 % 64, 128 + p % 64]
  else [240 + p / 262144, 128 + p / 4096 % 64, 128 + p / 64 % 64, 128 + p % 64]
/-- How many bytes a point has. -/
def wid (p : Nat) : Nat := if p < 128 then 1 else if p < 2048 then 2 else if p < 65536 then 3 else 4
theorem enc1 {p : Nat} (h : p < 128) : enc p = [p] := by unfold enc; rw [if_pos h]
theorem enc2 {p : Nat} (h : 128 ≤ p) (h' : p < 2048) : enc p = [192 + p / 64, 128 + p % 64] := by
  unfold enc; rw [if_neg (by omega), if_pos h']
theorem enc3 {p : Nat} (h : 2048 ≤ p) (h' : p < 65536) : enc p = [224 + p / 4096, 128 + p / 64 % 64, 128 + p % 64] := by
  unfold enc; rw [if_neg (by omega), if_neg (by omega), if_pos h']
theorem enc4 {p : Nat} (h : 65536 ≤ p) : enc p = [240 + p / 262144, 128 + p / 4096 % 64, 128 + p / 64 % 64, 128 + p % 64] := by
  unfold enc; rw [if_neg (by omega), if_neg (by omega), if_neg (by omega)]
theorem parts (p : Nat) : (p < 128) ∨ (128 ≤ p ∧ p < 2048) ∨ (2048 ≤ p ∧ p < 65536) ∨ 65536 ≤ p := by omega
theorem enc_length (p : Nat) : (enc p).length = wid p := by
  unfold wid
  rcases parts p with h | ⟨h, h'⟩ | ⟨h, h'⟩ | h
  · rw [enc1 h, if_pos h]; rfl
  · rw [enc2 h h', if_neg (by omega), if_pos h']; rfl
  · rw [enc3 h h', if_neg (by omega), if_neg (by omega), if_pos h']; rfl
  · rw [enc4 h, if_neg (by omega), if_neg (by omega), if_neg (by omega)]; rfl
theorem wid_range (p : Nat) : 1 ≤ wid p ∧ wid p ≤ 4 := by
  unfold wid
  split
  · omega
  · split
    · omega
    · split <;> omega
theorem enc_lt {p : Nat} (hp : IsP p) : ∀ b ∈ enc p, b < 256 := by
  have h1 := hp.1
  rcases parts p with h | ⟨h, h'⟩ | ⟨h, h'⟩ | h
  · rw [enc1 h]; intro b hb; simp at hb; omega
  · rw [enc2 h h']; intro b hb; simp at hb; omega
  · rw [enc3 h h']; intro b hb; simp at hb; omega
  · rw [enc4 h]; intro b hb; simp at hb; omega
theorem enc_unique {p q : Nat} {x y : List Nat} (hp : IsP p) (hq : IsP q) (h : enc p ++ x = enc q ++ y) : p = q ∧ x = y := by
  have h1 := hp.1
  have h2 := hq.1
  rcases parts p with a | ⟨a, a'⟩ | ⟨a, a'⟩ | a <;> rcases parts q with b | ⟨b, b'⟩ | ⟨b, b'⟩ | b
  all_goals
    first | rw [enc1 a] at h | rw [enc2 a a'] at h | rw [enc3 a a'] at h | rw [enc4 a] at h
    first | rw [enc1 b] at h | rw [enc2 b b'] at h | rw [enc3 b b'] at h | rw [enc4 b] at h
    simp only [List.cons_append, List.nil_append, List.cons.injEq] at h
  · exact h
  · omega
  · omega
  · omega
  · omega
  · exact ⟨by omega, h.2.2⟩
  · omega
  · omega
  · omega
  · omega
  · exact ⟨by omega, h.2.2.2⟩
  · omega
  · omega
  · omega
  · omega
  · exact ⟨by omega, h.2.2.2.2⟩
/-- The bytes of points. -/
def encs : List Nat → List Nat
  | [] => []
  | p :: r => enc p ++ encs r
theorem encs_append (a b : List Nat) : encs (a ++ b) = encs a ++ encs b := by
  induction a with
  | nil => rfl
  | cons p r ih => simp [encs, ih]
theorem encs_snoc (a : List Nat) (p : Nat) : encs (a ++ [p]) = encs a ++ enc p := by rw [encs_append]; simp [encs]
/-- The bytes bs are the text of the points ps. -/
def Text (bs ps : List Nat) : Prop := (∀ p ∈ ps, IsP p) ∧ bs = encs ps
theorem encs_lt {ps : List Nat} (h : ∀ p ∈ ps, IsP p) : ∀ b ∈ encs ps, b < 256 := by
  induction ps with
  | nil => intro b hb; simp [encs] at hb
  | cons p r ih =>
    intro b hb
    simp only [encs, List.mem_append] at hb
    rcases hb with hb | hb
    · exact enc_lt (h p (by simp)) b hb
    · exact ih (fun q hq => h q (by simp [hq])) b hb
theorem encs_length_le (ps : List Nat) : ps.length ≤ (encs ps).length ∧ (encs ps).length ≤ 4 * ps.length := by
  induction ps with
  | nil => simp [encs]
  | cons p r ih =>
    have h1 := enc_length p
    have h2 := wid_range p
    simp only [encs, List.length_append, List.length_cons]
    omega
theorem enc_ne (p : Nat) : enc p ≠ [] := by
  intro h
  have := enc_length p
  have h2 := wid_range p
  rw [h] at this
  simp at this
  omega
/-- A text that begins with a text's bytes begins with its points. -/
theorem encs_front {d rest ps : List Nat} (hd : ∀ p ∈ d, IsP p) (hp : ∀ p ∈ ps, IsP p) (h : encs d ++ rest = encs ps) : ∃ qs, ps = d ++ qs ∧ rest = encs qs := by
  induction d generalizing ps with
  | nil => exact ⟨ps, rfl, h⟩
  | cons p r ih =>
    cases ps with
    | nil =>
      simp only [encs, List.append_assoc, List.append_eq_nil_iff] at h
      exact absurd h.1 (enc_ne p)
    | cons q s =>
      simp only [encs, List.append_assoc] at h
      obtain ⟨rfl, h2⟩ := enc_unique (hd p (by simp)) (hp q (by simp)) h
      obtain ⟨qs, rfl, h3⟩ := ih (fun x hx => hd x (by simp [hx])) (fun x hx => hp x (by simp [hx])) h2
      exact ⟨qs, rfl, h3⟩
theorem text_unique {bs ps qs : List Nat} (h1 : Text bs ps) (h2 : Text bs qs) : ps = qs := by
  obtain ⟨a, rfl⟩ := h1
  obtain ⟨b, h⟩ := h2
  obtain ⟨rs, rfl, h3⟩ := encs_front (rest := []) a b (by simpa using h)
  cases rs with
  | nil => simp
  | cons r s =>
    simp only [encs] at h3
    have h4 := congrArg List.length h3
    simp only [List.length_append, List.length_nil] at h4
    have := enc_length r
    have := wid_range r
    omega
/-- The bytes begin with the point p; r stand behind it. -/
def Head (bs : List Nat) (p : Nat) (r : List Nat) : Prop := IsP p ∧ bs = enc p ++ r
theorem text_stuck {d rest ps : List Nat} (hd : ∀ p ∈ d, IsP p) (hne : rest ≠ []) (h : ∀ p r, ¬ Head rest p r) : ¬ Text (encs d ++ rest) ps := by
  rintro ⟨hp, h2⟩
  obtain ⟨qs, rfl, h3⟩ := encs_front hd hp h2
  cases qs with
  | nil => exact hne h3
  | cons q s => exact h q (encs s) ⟨hp q (by simp), h3⟩
/-- The first byte of n, without its mark. -/
def lead (n b : Nat) : Nat := if n = 1 then b % 128 else b % 2 ^ (7 - n)
def acc (f : Nat → Nat) (n : Nat) : Nat → Nat
  | 0 => lead n (f 0)
  | k + 1 => acc f n k * 64 + f (k + 1) % 64
def least (n : Nat) : Nat := if n = 1 then 0 else if n = 2 then 128 else if n = 3 then 2048 else 65536
/-- The first byte says that there are n. -/
def Kind (n b : Nat) : Prop := (n = 1 ∧ b < 128) ∨ (n = 2 ∧ 192 ≤ b ∧ b < 224) ∨ (n = 3 ∧ 224 ≤ b ∧ b < 240) ∨ (n = 4 ∧ 240 ≤ b ∧ b < 248)
/-- Of n bytes a point is read: all further ones begin with 10, and fewer would not do. -/
def TakeOk (f : Nat → Nat) (l n p : Nat) : Prop := n ≤ l ∧ (∀ i, 1 ≤ i → i < n → f i / 64 = 2) ∧ p = acc f n (n - 1) ∧ least n ≤ p ∧ IsP p
theorem lead_lt (n b : Nat) (h1 : 1 ≤ n) : lead n b < 128 := by
  unfold lead
  split
  · omega
  · have : (2 : Nat) ^ (7 - n) ≤ 2 ^ 7 := Nat.pow_le_pow_right (by omega) (by omega)
    have h2 : b % 2 ^ (7 - n) < 2 ^ (7 - n) := Nat.mod_lt _ (Nat.pow_pos (by omega))
    omega
theorem acc_lt (f : Nat → Nat) (n k : Nat) (h1 : 1 ≤ n) (hk : k ≤ 3) : acc f n k < 33554432 ∧ (k ≤ 2 → acc f n k < 524288) := by
  have h0 := lead_lt n (f 0) h1
  match k, hk with
  | 0, _ => simp only [acc]; omega
  | 1, _ => simp only [acc]; omega
  | 2, _ => simp only [acc]; omega
  | 3, _ => simp only [acc]; omega
theorem head_of_take {bs : List Nat} {n p : Nat} (hb : ∀ b ∈ bs, b < 256) (hk : Kind n (bs.getD 0 0)) (h : TakeOk (fun i => bs.getD i 0) bs.length n p) :
    Head bs p (bs.drop n) ∧ wid p = n := by
  obtain ⟨hl, ht, rfl, hle, hp⟩ := h
  have h1 := hp.1
  rcases hk with ⟨rfl, k⟩ | ⟨rfl, k1, k2⟩ | ⟨rfl, k1, k2⟩ | ⟨rfl, k1, k2⟩
  · match bs, hl with
    | a :: r, _ =>
      simp [acc, lead] at *
      have e : a % 128 = a := by omega
      rw [e] at hp ⊢
      exact ⟨⟨hp, by rw [enc1 (by omega)]; rfl⟩, by unfold wid; rw [if_pos k]⟩
  · match bs, hl with
    | a :: b :: r, _ =>
      have t1 := ht 1 (by omega) (by omega)
      simp [acc, lead, least] at *
      refine ⟨⟨hp, ?_⟩, by unfold wid; rw [if_neg (by omega), if_pos (by omega)]⟩
      rw [enc2 (by omega) (by omega)]
      simp only [List.cons_append, List.nil_append, List.cons.injEq, and_true]
      omega
  · match bs, hl with
    | a :: b :: c :: r, _ =>
      have t1 := ht 1 (by omega) (by omega)
      have t2 := ht 2 (by omega) (by omega)
      simp [acc, lead, least] at *
      refine ⟨⟨hp, ?_⟩, by unfold wid; rw [if_neg (by omega), if_neg (by omega), if_pos (by omega)]⟩
      rw [enc3 (by omega) (by omega)]
      simp only [List.cons_append, List.nil_append, List.cons.injEq, and_true]
      omega
  · match bs, hl with
    | a :: b :: c :: d :: r, _ =>
      have t1 := ht 1 (by omega) (by omega)
      have t2 := ht 2 (by omega) (by omega)
      have t3 := ht 3 (by omega) (by omega)
      simp [acc, lead, least] at *
      refine ⟨⟨hp, ?_⟩, by unfold wid; rw [if_neg (by omega), if_neg (by omega), if_neg (by omega)]⟩
      rw [enc4 (by omega)]
      simp only [List.cons_append, List.nil_append, List.cons.injEq, and_true]
      omega
theorem take_of_head {bs : List Nat} {n p : Nat} {r : List Nat} (hk : Kind n (bs.getD 0 0)) (h : Head bs p r) : TakeOk (fun i => bs.getD i 0) bs.length n p ∧ r = bs.drop n := by
  obtain ⟨hp, rfl⟩ := h
  have h1 := hp.1
  rcases parts p with a | ⟨a, a'⟩ | ⟨a, a'⟩ | a
  · rw [enc1 a] at hk ⊢
    have : n = 1 := by simp [Kind] at hk; omega
    subst this
    refine ⟨⟨by simp, fun i h1 h2 => by omega, ?_, by simp [least], hp⟩, rfl⟩
    simp [acc, lead]; omega
  · rw [enc2 a a'] at hk ⊢
    have : n = 2 := by simp [Kind] at hk; omega
    subst this
    refine ⟨⟨by simp, fun i h1 h2 => ?_, ?_, by simp [least]; omega, hp⟩, rfl⟩
    · obtain rfl : i = 1 := by omega
      simp; omega
    · simp [acc, lead]; omega
  · rw [enc3 a a'] at hk ⊢
    have : n = 3 := by simp [Kind] at hk; omega
    subst this
    refine ⟨⟨by simp, fun i h1 h2 => ?_, ?_, by simp [least]; omega, hp⟩, rfl⟩
    · match i, h1, h2 with
      | 1, _, _ => simp; omega
      | 2, _, _ => simp; omega
    · simp [acc, lead]; omega
  · rw [enc4 a] at hk ⊢
    have : n = 4 := by simp [Kind] at hk; omega
    subst this
    refine ⟨⟨by simp, fun i h1 h2 => ?_, ?_, by simp [least]; omega, hp⟩, rfl⟩
    · match i, h1, h2 with
      | 1, _, _ => simp; omega
      | 2, _, _ => simp; omega
      | 3, _, _ => simp; omega
    · simp [acc, lead]; omega
theorem head_kind {bs r : List Nat} {p : Nat} (h : Head bs p r) : Kind (wid p) (bs.getD 0 0) := by
  obtain ⟨hp, rfl⟩ := h
  have h1 := hp.1
  unfold wid Kind
  rcases parts p with a | ⟨a, a'⟩ | ⟨a, a'⟩ | a
  · rw [enc1 a, if_pos a]; simp; omega
  · rw [enc2 a a', if_neg (by omega), if_pos a']; simp; omega
  · rw [enc3 a a', if_neg (by omega), if_neg (by omega), if_pos a']; simp; omega
  · rw [enc4 a, if_neg (by omega), if_neg (by omega), if_neg (by omega)]; simp; omega
end Go.Proofs.YtmejgbbdehndaaaGreat.Utf.M
