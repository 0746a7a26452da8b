/-
  The ground of the proofs of this seat, put together: UMath, MMath, XRuns, Mem, Small, CMem, LebU, Puts, Tools. No condition beyond what each text names.
-/
import Derived.Laws.BitsAllLaws
import Derived.Laws.BitsLemmas
import Derived.Test.YtilaheifccjjeaaGreatChecked
import Derived.WalkKit
import Derived.Deep.RegionHeld3
import Derived.Deep.QuietTactic
import Derived.BigQuiet
import Derived.Outline
import Derived.WalkSmall
import Derived.Lib.Hide
import Derived.Below
import Derived.Maps.AppendAt
import Derived.OwnWalk
import Derived.OpenShut
import Derived.Deep.AppendLies
import Derived.Laws.EntriesVeiled
import Derived.StillTailTactics
import Derived.Test.YtilaheifccjjeaaGreatXGA
namespace Go.Proofs.YtilaheifccjjeaaGreat.Utf.M
/-- A code point that may be. -/
def IsP (p : Nat) : Prop := p ≤ 1114111 ∧ (p < 55296 ∨ 57343 < p)
instance (p : Nat) : Decidable (IsP p) := by unfold IsP; infer_instance
/-- A point's bytes. -/
def enc (p : Nat) : List Nat :=
  if p < 128 then [p]
  else if p < 2048 then [192 + p / 64, 128 + p % 64]
  else if p < 65536 then [224 + p / 4096, 128 + p / 64 % 64, 128 + p % 64]
  else [240 + p / 262144, 128 + p / 4096 % 64, 128 + p / 64 % 64, 128 + p % 64]
/-- How many bytes a point has. -/
def wid (p : Nat) : Nat := if p < 128 then 1 else if p < 2048 then 2 else if p < 65536 then 3 else 4
theorem enc1 {p : Nat} (h : p < 128) : enc p = [p] := by unfold enc; rw [if_pos h]
theorem enc2 {p : Nat} (h : 128 ≤ p) (h' : p < 2048) : enc p = [192 + p / 64, 128 + p % 64] := by
  unfold enc; rw [if_neg (by omega), if_pos h']
theorem enc3 {p : Nat} (h : 2048 ≤ p) (h' : p < 65536) : enc p = [224 + p / 4096, 128 + p / 64 % 64, 128 + p % 64] := by
  unfold enc; rw [if_neg (by omega), if_neg (by omega), if_pos h']
theorem enc4 {p : Nat} (h : 65536 ≤ p) : enc p = [240 + p / 262144, 128 + p / 4096 % 64, 128 + p / 64 % 64, 128 + p % 64] := by
  unfold enc; rw [if_neg (by omega), if_neg (by omega), if_neg (by omega)]
theorem parts (p : Nat) : (p < 128) ∨ (128 ≤ p ∧ p < 2048) ∨ (2048 ≤ p ∧ p < 65536) ∨ 65536 ≤ p := by omega
theorem enc_length (p : Nat) : (enc p).length = wid p := by
  unfold wid
  rcases parts p with h | ⟨h, h'⟩ | ⟨h, h'⟩ | h
  · rw [enc1 h, if_pos h]; rfl
  · rw [enc2 h h', if_neg (by omega), if_pos h']; rfl
  · rw [enc3 h h', if_neg (by omega), if_neg (by omega), if_pos h']; rfl
  · rw [enc4 h, if_neg (by omega), if_neg (by omega), if_neg (by omega)]; rfl
theorem wid_range (p : Nat) : 1 ≤ wid p ∧ wid p ≤ 4 := by
  unfold wid
  split
  · omega
  · split
    · omega
    · split <;> omega
theorem enc_unique {p q : Nat} {x y : List Nat} (hp : IsP p) (hq : IsP q) (h : enc p ++ x = enc q ++ y) : p = q ∧ x = y := by
  have h1 := hp.1
  have h2 := hq.1
  rcases parts p with a | ⟨a, a'⟩ | ⟨a, a'⟩ | a <;> rcases parts q with b | ⟨b, b'⟩ | ⟨b, b'⟩ | b
  all_goals
    first | rw [enc1 a] at h | rw [enc2 a a'] at h | rw [enc3 a a'] at h | rw [enc4 a] at h
    first | rw [enc1 b] at h | rw [enc2 b b'] at h | rw [enc3 b b'] at h | rw [enc4 b] at h
    simp only [List.cons_append, List.nil_append, List.cons.injEq] at h
  · exact h
  · omega
  · omega
  · omega
  · omega
  · exact ⟨by omega, h.2.2⟩
  · omega
  · omega
  · omega
  · omega
  · exact ⟨by omega, h.2.2.2⟩
  · omega
  · omega
  · omega
  · omega
  · exact ⟨by omega, h.2.2.2.2⟩
/-- The bytes of points. -/
def encs : List Nat → List Nat
  | [] => []
  | p :: r => enc p ++ encs r
theorem encs_append (a b : List Nat) : encs (a ++ b) = encs a ++ encs b := by
  induction a with
  | nil => rfl
  | cons p r ih => simp [encs, ih]
theorem encs_snoc (a : List Nat) (p : Nat) : encs (a ++ [p]) = encs a ++ enc p := by rw [encs_append]; simp [encs]
/-- The bytes bs are the text of the points ps. -/
def Text (bs ps : List Nat) : Prop := (∀ p ∈ ps, IsP p) ∧ bs = encs ps
theorem enc_ne (p : Nat) : enc p ≠ [] := by
  intro h
  have := enc_length p
  have h2 := wid_range p
  rw [h] at this
  simp at this
  omega
/-- A text that begins with a text's bytes begins with its points. -/
theorem encs_front {d rest ps : List Nat} (hd : ∀ p ∈ d, IsP p) (hp : ∀ p ∈ ps, IsP p) (h : encs d ++ rest = encs ps) : ∃ qs, ps = d ++ qs ∧ rest = encs qs := by
  induction d generalizing ps with
  | nil => exact ⟨ps, rfl, h⟩
  | cons p r ih =>
    cases ps with
    | nil =>
      simp only [encs, List.append_assoc, List.append_eq_nil_iff] at h
      exact absurd h.1 (enc_ne p)
    | cons q s =>
      simp only [encs, List.append_assoc] at h
      obtain ⟨rfl, h2⟩ := enc_unique (hd p (by simp)) (hp q (by simp)) h
      obtain ⟨qs, rfl, h3⟩ := ih (fun x hx => hd x (by simp [hx])) (fun x hx => hp x (by simp [hx])) h2
      exact ⟨qs, rfl, h3⟩
/-- The bytes begin with the point p; r stand behind it. -/
def Head (bs : List Nat) (p : Nat) (r : List Nat) : Prop := IsP p ∧ bs = enc p ++ r
theorem text_stuck {d rest ps : List Nat} (hd : ∀ p ∈ d, IsP p) (hne : rest ≠ []) (h : ∀ p r, ¬ Head rest p r) : ¬ Text (encs d ++ rest) ps := by
  rintro ⟨hp, h2⟩
  obtain ⟨qs, rfl, h3⟩ := encs_front hd hp h2
  cases qs with
  | nil => exact hne h3
  | cons q s => exact h q (encs s) ⟨hp q (by simp), h3⟩
/-- The first byte of n, without its mark. -/
def lead (n b : Nat) : Nat := if n = 1 then b % 128 else b % 2 ^ (7 - n)
def acc (f : Nat → Nat) (n : Nat) : Nat → Nat
  | 0 => lead n (f 0)
  | k + 1 => acc f n k * 64 + f (k + 1) % 64
def least (n : Nat) : Nat := if n = 1 then 0 else if n = 2 then 128 else if n = 3 then 2048 else 65536
/-- The first byte says that there are n. -/
def Kind (n b : Nat) : Prop := (n = 1 ∧ b < 128) ∨ (n = 2 ∧ 192 ≤ b ∧ b < 224) ∨ (n = 3 ∧ 224 ≤ b ∧ b < 240) ∨ (n = 4 ∧ 240 ≤ b ∧ b < 248)
/-- Of n bytes a point is read: all further ones begin with 10, and fewer would not do. -/
def TakeOk (f : Nat → Nat) (l n p : Nat) : Prop := n ≤ l ∧ (∀ i, 1 ≤ i → i < n → f i / 64 = 2) ∧ p = acc f n (n - 1) ∧ least n ≤ p ∧ IsP p
theorem lead_lt (n b : Nat) (h1 : 1 ≤ n) : lead n b < 128 := by
  unfold lead
  split
  · omega
  · have : (2 : Nat) ^ (7 - n) ≤ 2 ^ 7 := Nat.pow_le_pow_right (by omega) (by omega)
    have h2 : b % 2 ^ (7 - n) < 2 ^ (7 - n) := Nat.mod_lt _ (Nat.pow_pos (by omega))
    omega
theorem acc_lt (f : Nat → Nat) (n k : Nat) (h1 : 1 ≤ n) (hk : k ≤ 3) : acc f n k < 33554432 ∧ (k ≤ 2 → acc f n k < 524288) := by
  have h0 := lead_lt n (f 0) h1
  match k, hk with
  | 0, _ => simp only [acc]; omega
  | 1, _ => simp only [acc]; omega
  | 2, _ => simp only [acc]; omega
  | 3, _ => simp only [acc]; omega
theorem head_of_take {bs : List Nat} {n p : Nat} (hb : ∀ b ∈ bs, b < 256) (hk : Kind n (bs.getD 0 0)) (h : TakeOk (fun i => bs.getD i 0) bs.length n p) :
    Head bs p (bs.drop n) ∧ wid p = n := by
  obtain ⟨hl, ht, rfl, hle, hp⟩ := h
  have h1 := hp.1
  rcases hk with ⟨rfl, k⟩ | ⟨rfl, k1, k2⟩ | ⟨rfl, k1, k2⟩ | ⟨rfl, k1, k2⟩
  · match bs, hl with
    | a :: r, _ =>
      simp [acc, lead] at *
      have e : a % 128 = a := by omega
      rw [e] at hp ⊢
      exact ⟨⟨hp, by rw [enc1 (by omega)]; rfl⟩, by unfold wid; rw [if_pos k]⟩
  · match bs, hl with
    | a :: b :: r, _ =>
      have t1 := ht 1 (by omega) (by omega)
      simp [acc, lead, least] at *
      refine ⟨⟨hp, ?_⟩, by unfold wid; rw [if_neg (by omega), if_pos (by omega)]⟩
      rw [enc2 (by omega) (by omega)]
      simp only [List.cons_append, List.nil_append, List.cons.injEq, and_true]
      omega
  · match bs, hl with
    | a :: b :: c :: r, _ =>
      have t1 := ht 1 (by omega) (by omega)
      have t2 := ht 2 (by omega) (by omega)
      simp [acc, lead, least] at *
      refine ⟨⟨hp, ?_⟩, by unfold wid; rw [if_neg (by omega), if_neg (by omega), if_pos (by omega)]⟩
      rw [enc3 (by omega) (by omega)]
      simp only [List.cons_append, List.nil_append, List.cons.injEq, and_true]
      omega
  · match bs, hl with
    | a :: b :: c :: d :: r, _ =>
      have t1 := ht 1 (by omega) (by omega)
      have t2 := ht 2 (by omega) (by omega)
      have t3 := ht 3 (by omega) (by omega)
      simp [acc, lead, least] at *
      refine ⟨⟨hp, ?_⟩, by unfold wid; rw [if_neg (by omega), if_neg (by omega), if_neg (by omega)]⟩
      rw [enc4 (by omega)]
      simp only [List.cons_append, List.nil_append, List.cons.injEq, and_true]
      omega
theorem take_of_head {bs : List Nat} {n p : Nat} {r : List Nat} (hk : Kind n (bs.getD 0 0)) (h : Head bs p r) : TakeOk (fun i => bs.getD i 0) bs.length n p ∧ r = bs.drop n := by
  obtain ⟨hp, rfl⟩ := h
  have h1 := hp.1
  rcases parts p with a | ⟨a, a'⟩ | ⟨a, a'⟩ | a
  · rw [enc1 a] at hk ⊢
    have : n = 1 := by simp [Kind] at hk; omega
    subst this
    refine ⟨⟨by simp, fun i h1 h2 => by omega, ?_, by simp [least], hp⟩, rfl⟩
    simp [acc, lead]; omega
  · rw [enc2 a a'] at hk ⊢
    have : n = 2 := by simp [Kind] at hk; omega
    subst this
    refine ⟨⟨by simp, fun i h1 h2 => ?_, ?_, by simp [least]; omega, hp⟩, rfl⟩
    · obtain rfl : i = 1 := by omega
      simp; omega
    · simp [acc, lead]; omega
  · rw [enc3 a a'] at hk ⊢
    have : n = 3 := by simp [Kind] at hk; omega
    subst this
    refine ⟨⟨by simp, fun i h1 h2 => ?_, ?_, by simp [least]; omega, hp⟩, rfl⟩
    · match i, h1, h2 with
      | 1, _, _ => simp; omega
      | 2, _, _ => simp; omega
    · simp [acc, lead]; omega
  · rw [enc4 a] at hk ⊢
    have : n = 4 := by simp [Kind] at hk; omega
    subst this
    refine ⟨⟨by simp, fun i h1 h2 => ?_, ?_, by simp [least]; omega, hp⟩, rfl⟩
    · match i, h1, h2 with
      | 1, _, _ => simp; omega
      | 2, _, _ => simp; omega
      | 3, _, _ => simp; omega
    · simp [acc, lead]; omega
theorem head_kind {bs r : List Nat} {p : Nat} (h : Head bs p r) : Kind (wid p) (bs.getD 0 0) := by
  obtain ⟨hp, rfl⟩ := h
  have h1 := hp.1
  unfold wid Kind
  rcases parts p with a | ⟨a, a'⟩ | ⟨a, a'⟩ | a
  · rw [enc1 a, if_pos a]; simp; omega
  · rw [enc2 a a', if_neg (by omega), if_pos a']; simp; omega
  · rw [enc3 a a', if_neg (by omega), if_neg (by omega), if_pos a']; simp; omega
  · rw [enc4 a, if_neg (by omega), if_neg (by omega), if_neg (by omega)]; simp; omega
end Go.Proofs.YtilaheifccjjeaaGreat.Utf.M
namespace Go.Proofs.YtilaheifccjjeaaGreat.M
def cPure {α : Type} (x : α) : Codec α where
  rd := fun bs => some (x, bs)
  wr := fun _ => []
  ok := fun y => y = x
  back := fun y r h => by subst h; rfl
  app := fun bs y r t h => by cases h; rfl
  sound := fun bs y r _ h => by cases h; exact ⟨rfl, by simp⟩
def cFail (α : Type) : Codec α where
  rd := fun _ => none
  wr := fun _ => []
  ok := fun _ => False
  back := fun y r h => h.elim
  app := fun bs y r t h => by cases h
  sound := fun bs y r _ h => by cases h
/-- A byte of some, as a number. -/
def cByteI (p : Nat → Bool) : Codec Int where
  rd := fun bs => match bs with | [] => none | b :: r => if p b then some ((b : Int), r) else none
  wr := fun x => [x.toNat]
  ok := fun x => 0 ≤ x ∧ p x.toNat = true
  back := fun x r h => by
    have e : ((x.toNat : Nat) : Int) = x := by omega
    simp [h.2]
    have := h.1
    omega
  app := fun bs x r t h => by
    cases bs with
    | nil => cases h
    | cons b s =>
      simp only [List.cons_append] at h ⊢
      split at h
      · cases h; rename_i hp; rw [if_pos hp]
      · cases h
  sound := fun bs x r _ h => by
    cases bs with
    | nil => cases h
    | cons b s =>
      simp only at h
      by_cases hp : p b = true
      · rw [if_pos hp] at h
        cases h
        exact ⟨⟨by omega, by simpa using hp⟩, by simp; omega⟩
      · rw [if_neg hp] at h; cases h
/-- This byte. -/
def cFix (x : Nat) : Codec Unit where
  rd := fun bs => match bs with | [] => none | b :: r => if b = x then some ((), r) else none
  wr := fun _ => [x]
  ok := fun _ => True
  back := fun _ r _ => by simp
  app := fun bs y r t h => by
    cases bs with
    | nil => cases h
    | cons b s =>
      simp only [List.cons_append] at h ⊢
      split at h
      · cases h; rename_i hp; rw [if_pos hp]
      · cases h
  sound := fun bs y r _ h => by
    cases bs with
    | nil => cases h
    | cons b s =>
      simp only at h
      split at h
      · cases h; exact ⟨trivial, by simp; omega⟩
      · cases h
/-- A byte that is 0 or 1. -/
def cFlag : Codec Bool where
  rd := fun bs => match bs with | [] => none | b :: r => if b ≤ 1 then some (b == 1, r) else none
  wr := fun t => [if t then 1 else 0]
  ok := fun _ => True
  back := fun t r _ => by cases t <;> simp
  app := fun bs y r t h => by
    cases bs with
    | nil => cases h
    | cons b s =>
      simp only [List.cons_append] at h ⊢
      split at h
      · cases h; rename_i hp; rw [if_pos hp]
      · cases h
  sound := fun bs y r _ h => by
    cases bs with
    | nil => cases h
    | cons b s =>
      simp only at h
      split at h
      · cases h; exact ⟨trivial, by simp; omega⟩
      · cases h
/-- Is it text? -/
def cand (bs : List Nat) : Nat :=
  if bs.getD 0 0 < 128 then bs.getD 0 0
  else if bs.getD 0 0 < 224 then (bs.getD 0 0 - 192) * 64 + (bs.getD 1 0 - 128)
  else if bs.getD 0 0 < 240 then (bs.getD 0 0 - 224) * 4096 + (bs.getD 1 0 - 128) * 64 + (bs.getD 2 0 - 128)
  else (bs.getD 0 0 - 240) * 262144 + (bs.getD 1 0 - 128) * 4096 + (bs.getD 2 0 - 128) * 64 + (bs.getD 3 0 - 128)
theorem cand_enc (p : Nat) (r : List Nat) (h : Utf.M.IsP p) : cand (Utf.M.enc p ++ r) = p := by
  have h1 := h.1
  unfold cand
  rcases Utf.M.parts p with a | ⟨a, a'⟩ | ⟨a, a'⟩ | a
  · rw [Utf.M.enc1 a]; simp; omega
  · rw [Utf.M.enc2 a a']; simp
    rw [if_neg (by omega), if_pos (by omega)]; omega
  · rw [Utf.M.enc3 a a']; simp
    rw [if_neg (by omega), if_neg (by omega), if_pos (by omega)]; omega
  · rw [Utf.M.enc4 a]; simp
    rw [if_neg (by omega), if_neg (by omega), if_neg (by omega)]; omega
def isTextN : Nat → List Nat → Bool
  | _, [] => true
  | 0, _ :: _ => false
  | n + 1, b :: r => decide (Utf.M.IsP (cand (b :: r))) && (Utf.M.enc (cand (b :: r))).isPrefixOf (b :: r) && isTextN n ((b :: r).drop (Utf.M.enc (cand (b :: r))).length)
def isText (bs : List Nat) : Bool := isTextN bs.length bs
theorem isTextN_iff : ∀ (n : Nat) (bs : List Nat), bs.length ≤ n → (isTextN n bs = true ↔ ∃ ps, Utf.M.Text bs ps)
  | n, [], _ => by
    cases n <;> exact ⟨fun _ => ⟨[], (fun p hp => by cases hp), rfl⟩, fun _ => rfl⟩
  | 0, b :: r, h => by simp at h
  | n + 1, b :: r, h => by
    constructor
    · intro ht
      simp only [isTextN, Bool.and_eq_true, decide_eq_true_eq, List.isPrefixOf_iff_prefix] at ht
      obtain ⟨⟨h1, s, h2⟩, h3⟩ := ht
      have hne := Utf.M.enc_ne (cand (b :: r))
      have hl : 0 < (Utf.M.enc (cand (b :: r))).length := List.length_pos_iff.2 hne
      obtain ⟨ps, hp1, hp2⟩ := (isTextN_iff n _ (by simp only [List.length_drop]; omega)).1 h3
      refine ⟨cand (b :: r) :: ps, fun q hq => ?_, ?_⟩
      · rcases List.mem_cons.1 hq with rfl | hq
        · exact h1
        · exact hp1 q hq
      · have h4 : (b :: r).drop (Utf.M.enc (cand (b :: r))).length = s := by
          have := congrArg (List.drop (Utf.M.enc (cand (b :: r))).length) h2
          rw [List.drop_left] at this
          exact this.symm
        rw [h4] at hp2
        show b :: r = Utf.M.enc _ ++ Utf.M.encs ps
        rw [← hp2, h2]
    · rintro ⟨ps, hp1, hp2⟩
      cases ps with
      | nil => cases hp2
      | cons p qs =>
        have hp2 : b :: r = Utf.M.enc p ++ Utf.M.encs qs := hp2
        have hP := hp1 p (List.mem_cons_self ..)
        have hc : cand (b :: r) = p := by rw [hp2]; exact cand_enc p _ hP
        have hne := Utf.M.enc_ne p
        have hl : 0 < (Utf.M.enc p).length := List.length_pos_iff.2 hne
        simp only [isTextN, Bool.and_eq_true, decide_eq_true_eq, List.isPrefixOf_iff_prefix, hc]
        refine ⟨⟨hP, Utf.M.encs qs, hp2.symm⟩, ?_⟩
        refine (isTextN_iff n _ (by simp only [List.length_drop]; omega)).2 ⟨qs, fun q hq => hp1 q (List.mem_cons_of_mem _ hq), ?_⟩
        rw [hp2, List.drop_left]
theorem isText_iff (bs : List Nat) : isText bs = true ↔ ∃ ps, Utf.M.Text bs ps := isTextN_iff _ _ (Nat.le_refl _)
def cName : Codec (List Nat) := cIf cPiece isText
def isVal (b : Nat) : Bool := b == 127 || b == 126
def cVal : Codec Int := cByteI isVal
def cVals : Codec (List Int) := cVec cVal 128 (by decide)
structure FT where
  ps : List Int
  rs : List Int
structure Lim where
  mn : Int
  mx : Int
structure Imp where
  mo : List Nat
  na : List Nat
  kd : Int
  ty : Int
  mu : Bool
  lim : Lim
structure Fn where
  ty : Int
  lo : List Int
  bo : L
structure Glo where
  ty : Int
  mu : Bool
  ini : L
structure Exp where
  na : List Nat
  kd : Int
  ix : Int
structure Elm where
  ta : Int
  off : L
  fs : List Int
structure Dat where
  me : Int
  off : L
  bs : List Nat
structure Mod where
  types : List FT
  imports : List Imp
  funcs : List Fn
  tables : List Lim
  memories : List Lim
  globals : List Glo
  exports : List Exp
  start : Int
  elems : List Elm
  datas : List Dat
def cFT : Codec FT := cIf (cMap (cSeq (cFix 96) fun _ => cSeq cVals fun _ => cVals) (fun x => ⟨x.2.1, x.2.2⟩) (fun y => ((), y.ps, y.rs)) (fun _ _ => rfl) (fun _ _ => rfl)) (fun y => decide (y.rs.length ≤ 1))
def cMax : Bool → Codec Int
  | true => cNum
  | false => cPure (-1)
def cLim : Codec Lim := cMap (cSeq cFlag fun b => cSeq cNum fun _ => cMax b) (fun x => ⟨x.2.1, x.2.2⟩) (fun y => (y.mx != -1, y.mn, y.mx))
  (fun x h => by
    obtain ⟨b, mn, mx⟩ := x
    obtain ⟨_, _, h⟩ := h
    cases b with
    | true => have h : inR mx := h; unfold inR at h; simp; omega
    | false => have h : mx = -1 := h; simp [h])
  (fun _ _ => rfl)
def cTab : Codec Lim := cMap (cSeq (cFix 112) fun _ => cLim) (fun x => x.2) (fun y => ((), y)) (fun _ _ => rfl) (fun _ _ => rfl)
/-- Said in other words, of some. -/
def cMapP {α β : Type} (a : Codec α) (f : α → β) (g : β → α) (P : β → Prop) (hg : ∀ x, a.ok x → g (f x) = x) (hf : ∀ y, a.ok (g y) → P y → f (g y) = y) (hP : ∀ x, a.ok x → P (f x)) : Codec β where
  rd := fun bs => (a.rd bs).bind fun p => some (f p.1, p.2)
  wr := fun y => a.wr (g y)
  ok := fun y => a.ok (g y) ∧ P y
  back := fun y r h => by rw [a.back _ _ h.1, Option.bind_some, hf y h.1 h.2]
  app := fun bs x r t h => by
    obtain ⟨⟨x1, r1⟩, h1, h2⟩ := Option.bind_eq_some_iff.1 h
    cases h2
    rw [a.app _ _ _ t h1]
    rfl
  sound := fun bs x r hl h => by
    obtain ⟨⟨x1, r1⟩, h1, h2⟩ := Option.bind_eq_some_iff.1 h
    cases h2
    obtain ⟨q1, q2⟩ := a.sound _ _ _ hl h1
    simp only [hg x1 q1]
    exact ⟨⟨q1, hP x1 q1⟩, q2⟩
/-- What is imported, by its kind. -/
def cWhat (k : Int) : Codec (Int × Bool × Lim) :=
  if k = 0 then cMapP cNum (fun t => (t, false, ⟨0, 0⟩)) (fun y => y.1) (fun y => y.2 = (false, ⟨0, 0⟩)) (fun _ _ => rfl) (fun y _ h => by rw [← h]) (fun _ _ => rfl)
  else if k = 1 then cMapP cTab (fun l => (0, false, l)) (fun y => y.2.2) (fun y => y.1 = 0 ∧ y.2.1 = false) (fun _ _ => rfl) (fun y _ h => by rw [← h.1, ← h.2]) (fun _ _ => ⟨rfl, rfl⟩)
  else if k = 2 then cMapP cLim (fun l => (0, false, l)) (fun y => y.2.2) (fun y => y.1 = 0 ∧ y.2.1 = false) (fun _ _ => rfl) (fun y _ h => by rw [← h.1, ← h.2]) (fun _ _ => ⟨rfl, rfl⟩)
  else if k = 3 then cMapP (cSeq cVal fun _ => cFlag) (fun x => (x.1, x.2, ⟨0, 0⟩)) (fun y => (y.1, y.2.1)) (fun y => y.2.2 = ⟨0, 0⟩) (fun _ _ => rfl) (fun y _ h => by rw [← h]) (fun _ _ => rfl)
  else cFail _
def cImp : Codec Imp := cMap (cSeq cName fun _ => cSeq cName fun _ => cSeq (cByteI fun _ => true) fun k => cWhat k) (fun x => ⟨x.1, x.2.1, x.2.2.1, x.2.2.2.1, x.2.2.2.2.1, x.2.2.2.2.2⟩) (fun y => (y.mo, y.na, y.kd, y.ty, y.mu, y.lim)) (fun _ _ => rfl) (fun _ _ => rfl)
def isConst : L → Bool
  | .cons h _ _ .nil => h.op == 65 || h.op == 66 || h.op == 35
  | _ => false
def cConst : Codec L := cIf cExpr isConst
def cGlo : Codec Glo := cMap (cSeq cVal fun _ => cSeq cFlag fun _ => cConst) (fun x => ⟨x.1, x.2.1, x.2.2⟩) (fun y => (y.ty, y.mu, y.ini)) (fun _ _ => rfl) (fun _ _ => rfl)
def cExp : Codec Exp := cMap (cSeq cName fun _ => cSeq (cByteI fun b => decide (b ≤ 3)) fun _ => cNum) (fun x => ⟨x.1, x.2.1, x.2.2⟩) (fun y => (y.na, y.kd, y.ix)) (fun _ _ => rfl) (fun _ _ => rfl)
def cElm : Codec Elm := cMap (cSeq cNum fun _ => cSeq cConst fun _ => cVec cNum 128 (by decide)) (fun x => ⟨x.1, x.2.1, x.2.2⟩) (fun y => (y.ta, y.off, y.fs)) (fun _ _ => rfl) (fun _ _ => rfl)
def cDat : Codec Dat := cMap (cSeq cNum fun _ => cSeq cConst fun _ => cPiece) (fun x => ⟨x.1, x.2.1, x.2.2⟩) (fun y => (y.me, y.off, y.bs)) (fun _ _ => rfl) (fun _ _ => rfl)
/-- Numbers that are alike side by side. -/
def runs : List Int → List (Nat × Int)
  | [] => []
  | x :: t => match runs t with
    | [] => [(1, x)]
    | (c, y) :: r => if y = x then (c + 1, x) :: r else (1, x) :: (c, y) :: r
def spread : List (Nat × Int) → List Int
  | [] => []
  | (c, y) :: r => List.replicate c y ++ spread r
theorem spread_runs : ∀ l, spread (runs l) = l
  | [] => rfl
  | x :: t => by
    have ih := spread_runs t
    unfold runs
    cases h : runs t with
    | nil => rw [h] at ih; rw [← ih]; rfl
    | cons a r =>
      obtain ⟨c, y⟩ := a
      rw [h] at ih
      simp only
      split
      · rename_i e; subst e; rw [← ih]; simp [spread, List.replicate_succ]
      · rw [← ih]; simp [spread]
theorem runs_pair (x : Int) (t : List Int) : ∃ c r, runs (x :: t) = (c, x) :: r := by
  rw [runs]
  cases runs t with
  | nil => exact ⟨1, [], rfl⟩
  | cons a r =>
    obtain ⟨c, y⟩ := a
    simp only
    split
    · exact ⟨_, _, rfl⟩
    · exact ⟨_, _, rfl⟩
theorem runs_same (x : Int) (t : List Int) : (runs (x :: x :: t)).length = (runs (x :: t)).length := by
  obtain ⟨c, r, h⟩ := runs_pair x t
  rw [runs, h]
  simp
theorem runs_cons (x : Int) (t : List Int) : (runs (x :: t)).length ≤ (runs t).length + 1 := by
  rw [runs]
  cases runs t with
  | nil => simp
  | cons a r =>
    obtain ⟨c, y⟩ := a
    simp only
    split <;> simp
theorem runs_rep (x : Int) (l : List Int) : ∀ c, (runs (List.replicate c x ++ l)).length ≤ (runs l).length + 1
  | 0 => by simp
  | 1 => runs_cons x l
  | c + 2 => by
    have := runs_rep x l (c + 1)
    simp only [List.replicate_succ, List.cons_append] at this ⊢
    rw [runs_same]
    exact this
theorem runs_spread : ∀ gs : List (Nat × Int), (runs (spread gs)).length ≤ gs.length
  | [] => by simp [spread, runs]
  | (c, y) :: r => by
    have h1 := runs_rep y (spread r) c
    have h2 := runs_spread r
    simp only [spread, List.length_cons]
    omega
theorem runs_len : ∀ l, ∀ g ∈ runs l, 1 ≤ g.1 ∧ g.1 ≤ l.length ∧ g.2 ∈ l
  | [], g, hg => by cases hg
  | x :: t, g, hg => by
    have ih := runs_len t
    rw [runs] at hg
    cases h : runs t with
    | nil => rw [h] at hg; simp at hg; subst hg; simp
    | cons a r =>
      obtain ⟨c, y⟩ := a
      rw [h] at hg ih
      simp only at hg
      split at hg
      · rename_i e
        subst e
        rcases List.mem_cons.1 hg with rfl | hg
        · have := ih (c, y) (List.mem_cons_self ..)
          simp at this ⊢; omega
        · have := ih g (List.mem_cons_of_mem _ hg)
          simp at this ⊢; exact ⟨this.1, by omega, .inr this.2.2⟩
      · rcases List.mem_cons.1 hg with rfl | hg
        · simp
        · have := ih g hg
          simp at this ⊢; exact ⟨this.1, by omega, .inr this.2.2⟩
def wGroups : List (Nat × Int) → List Nat
  | [] => []
  | (c, y) :: r => U c ++ [y.toNat] ++ wGroups r
def rGroups : Nat → List Int → List Nat → Option (List Int × List Nat)
  | 0, acc, bs => some (acc, bs)
  | n + 1, acc, bs => (num bs).bind fun c => (cVal.rd c.2).bind fun v => if c.1 ≤ 64 - (acc.length : Int) then rGroups n (acc ++ List.replicate c.1.toNat v.1) v.2 else none
theorem groups_back (r : List Nat) : ∀ (gs : List (Nat × Int)) (acc : List Int), acc.length + (spread gs).length ≤ 64 → (∀ g ∈ gs, cVal.ok g.2) → rGroups gs.length acc (wGroups gs ++ r) = some (acc ++ spread gs, r)
  | [], acc, _, _ => by simp [rGroups, wGroups, spread]
  | (c, y) :: t, acc, h, hv => by
    have hl : (List.replicate c y).length = c := by simp
    simp only [spread, List.length_append, hl] at h
    simp only [List.length_cons, rGroups, wGroups, List.append_assoc]
    rw [num_back _ _ ⟨by omega, by omega⟩, Option.bind_some]
    have h1 := cVal.back y (wGroups t ++ r) (hv (c, y) (List.mem_cons_self ..))
    have h1 : cVal.rd ([y.toNat] ++ (wGroups t ++ r)) = some (y, wGroups t ++ r) := h1
    simp only [h1, Option.bind_some]
    rw [if_pos (by omega), Int.toNat_natCast, groups_back r t _ (by simp only [List.length_append, hl]; omega) (fun g hg => hv g (List.mem_cons_of_mem _ hg)), spread, List.append_assoc]
theorem groups_app (t : List Nat) : ∀ (n : Nat) (acc : List Int) (bs : List Nat) (xs : List Int) (r : List Nat), rGroups n acc bs = some (xs, r) → rGroups n acc (bs ++ t) = some (xs, r ++ t)
  | 0, acc, bs, xs, r, h => by cases h; rfl
  | n + 1, acc, bs, xs, r, h => by
    obtain ⟨⟨c, r1⟩, h1, h2⟩ := Option.bind_eq_some_iff.1 h
    obtain ⟨⟨v, r2⟩, h3, h4⟩ := Option.bind_eq_some_iff.1 h2
    simp only at h4
    split at h4
    · rename_i hc
      simp only [rGroups]
      rw [num_app t h1, Option.bind_some]
      simp only
      rw [cVal.app _ _ _ t h3, Option.bind_some]
      simp only
      rw [if_pos hc]
      exact groups_app t n _ _ _ _ h4
    · cases h4
theorem groups_sound : ∀ (n : Nat) (acc : List Int) (bs : List Nat) (xs : List Int) (r : List Nat), bs.length ≤ 2147483648 → acc.length ≤ 64 → rGroups n acc bs = some (xs, r) →
    ∃ gs : List (Nat × Int), gs.length = n ∧ xs = acc ++ spread gs ∧ xs.length ≤ 64 ∧ (∀ x ∈ spread gs, cVal.ok x) ∧ 2 * n + r.length ≤ bs.length
  | 0, acc, bs, xs, r, _, ha, h => by cases h; exact ⟨[], rfl, by simp [spread], ha, (fun x hx => by cases hx), by omega⟩
  | n + 1, acc, bs, xs, r, hl, ha, h => by
    obtain ⟨⟨c, r1⟩, h1, h2⟩ := Option.bind_eq_some_iff.1 h
    obtain ⟨⟨v, r2⟩, h3, h4⟩ := Option.bind_eq_some_iff.1 h2
    simp only at h4
    split at h4
    · rename_i hc
      obtain ⟨q1, q2, q3⟩ := num_short h1
      unfold inR at q1
      have h3' : cVal.rd r1 = some (v, r2) := h3
      obtain ⟨q4, q5⟩ := cVal.sound _ _ _ (by omega) h3'
      have q5' : 1 + r2.length ≤ r1.length := q5
      have hl2 : (acc ++ List.replicate c.toNat v).length ≤ 64 := by simp; omega
      obtain ⟨gs, g1, g2, g3, g4, g5⟩ := groups_sound n _ _ _ _ (by omega) hl2 h4
      refine ⟨(c.toNat, v) :: gs, by simp [g1], by rw [g2]; simp [spread], g3, fun x hx => ?_, by omega⟩
      simp only [spread, List.mem_append] at hx
      rcases hx with hx | hx
      · have := List.eq_of_mem_replicate hx
        subst this
        exact q4
      · exact g4 x hx
    · cases h4
theorem wGroups_len : ∀ gs : List (Nat × Int), (∀ g ∈ gs, g.1 ≤ 64) → (wGroups gs).length ≤ 2 * gs.length
  | [], _ => by simp [wGroups]
  | (c, y) :: t, h => by
    have h1 := wGroups_len t (fun g hg => h g (List.mem_cons_of_mem _ hg))
    have h2 := h (c, y) (List.mem_cons_self ..)
    have h3 := U_short (c : Int) 0 (by omega) (by simp at h2 ⊢; omega)
    simp only [wGroups, List.length_append, List.length_cons, List.length_nil]
    omega
def cLocals : Codec (List Int) where
  rd := fun bs => (num bs).bind fun p => rGroups p.1.toNat [] p.2
  wr := fun l => U (runs l).length ++ wGroups (runs l)
  ok := fun l => l.length ≤ 64 ∧ ∀ x ∈ l, cVal.ok x
  back := fun l r h => by
    have hr : (runs l).length ≤ 64 := by
      have h1 := runs_spread (l.map fun x => (1, x))
      have e : spread (l.map fun x => (1, x)) = l := by
        have : ∀ l : List Int, spread (l.map fun x => (1, x)) = l := fun l => by
          induction l with
          | nil => rfl
          | cons a t ih => simp [spread, ih]
        exact this l
      rw [e, List.length_map] at h1
      have := h.1
      omega
    rw [List.append_assoc, num_back _ _ ⟨by omega, by omega⟩, Option.bind_some, Int.toNat_natCast]
    have := groups_back r (runs l) [] (by rw [spread_runs]; simpa using h.1) (fun g hg => h.2 _ (runs_len l g hg).2.2)
    rw [spread_runs] at this
    exact this
  app := fun bs x r t h => by
    obtain ⟨⟨c, r1⟩, h1, h2⟩ := Option.bind_eq_some_iff.1 h
    rw [num_app t h1, Option.bind_some]
    exact groups_app t _ _ _ _ _ h2
  sound := fun bs x r hl h => by
    obtain ⟨⟨c, r1⟩, h1, h2⟩ := Option.bind_eq_some_iff.1 h
    obtain ⟨q1, q2, q3⟩ := num_short h1
    unfold inR at q1
    have h2' : rGroups c.toNat [] r1 = some (x, r) := h2
    obtain ⟨gs, g1, g2, g3, g4, g5⟩ := groups_sound _ _ _ _ _ (by omega) (by simp) h2'
    rw [List.nil_append] at g2
    refine ⟨⟨g3, fun y hy => g4 y (by rw [← g2]; exact hy)⟩, ?_⟩
    have h3 := runs_spread gs
    rw [← g2] at h3
    have h4 := wGroups_len (runs x) (fun g hg => by have := (runs_len x g hg).2.1; omega)
    have h5 := U_mono (n := (runs x).length) (m := c.toNat) (by omega)
    have h6 : ((c.toNat : Nat) : Int) = c := by omega
    rw [h6] at h5
    rw [List.length_append]
    omega
def cBody : Codec (List Int × L) := cSized (cSeq cLocals fun _ => cExpr)
/-- A module of which some sections have been read. -/
structure Dr where
  m : Mod
  bodies : List (List Int × L)
def mod0 : Mod := ⟨[], [], [], [], [], [], [], -1, [], []⟩
def vec {α : Type} (c : Codec α) : Codec (List α) := cVec c 128 (by decide)
def joinF : List Fn → List (List Int × L) → List Fn
  | f :: fs, b :: bs => ⟨f.ty, b.1, b.2⟩ :: joinF fs bs
  | _, _ => []
def join (d : Dr) : Option Mod := if d.bodies.length = d.m.funcs.length then some { d.m with funcs := joinF d.m.funcs d.bodies } else none
def header : List Nat := [0, 97, 115, 109, 1, 0, 0, 0]
def rdHead : List Nat → List Nat → Option (List Nat)
  | [], bs => some bs
  | _ :: _, [] => none
  | x :: t, b :: r => if b = x then rdHead t r else none
end Go.Proofs.YtilaheifccjjeaaGreat.M
namespace Go.Proofs.YtilaheifccjjeaaGreat.M
/-- One number more at the end. -/
def grow : List (Nat × Int) → Int → List (Nat × Int)
  | [], x => [(1, x)]
  | [(c, z)], x => if z = x then [(c + 1, x)] else [(c, z), (1, x)]
  | g :: h :: r, x => g :: grow (h :: r) x
def stepR (y : Int) : List (Nat × Int) → List (Nat × Int)
  | [] => [(1, y)]
  | (c, z) :: r => if z = y then (c + 1, y) :: r else (1, y) :: (c, z) :: r
theorem runs_step (y : Int) (t : List Int) : runs (y :: t) = stepR y (runs t) := by
  rw [runs]
  cases runs t <;> rfl
theorem step_grow (y x : Int) (gs : List (Nat × Int)) : stepR y (grow gs x) = grow (stepR y gs) x := by
  match gs with
  | [] =>
    simp only [grow, stepR]
    by_cases h : x = y
    · subst h; simp
    · rw [if_neg h, if_neg (fun e => h e.symm)]
  | [(c, z)] =>
    simp only [grow, stepR]
    by_cases h : z = x
    · subst h
      rw [if_pos rfl]
      simp only [stepR]
      by_cases h2 : z = y
      · subst h2; simp [grow]
      · rw [if_neg h2, if_neg h2]; simp [grow]
    · rw [if_neg h]
      simp only [stepR]
      by_cases h2 : z = y
      · subst h2; simp [grow, h]
      · rw [if_neg h2, if_neg h2]; simp [grow, h]
  | (c, z) :: g2 :: r =>
    simp only [grow, stepR]
    by_cases h2 : z = y
    · subst h2; simp [grow]
    · rw [if_neg h2, if_neg h2]; simp [grow]
theorem runs_snoc (l : List Int) (x : Int) : runs (l ++ [x]) = grow (runs l) x := by
  induction l with
  | nil => rfl
  | cons y t ih => rw [List.cons_append, runs_step, ih, step_grow, ← runs_step]
/-- The last group is of the last number. -/
theorem runs_last (l : List Int) (x : Int) : ∃ (gs : List (Nat × Int)) (c : Nat), runs (l ++ [x]) = gs ++ [(c, x)] := by
  rw [runs_snoc]
  generalize runs l = gs
  induction gs with
  | nil => exact ⟨[], 1, rfl⟩
  | cons g r ih =>
    match r, ih with
    | [], _ =>
      obtain ⟨c, z⟩ := g
      simp only [grow]
      split
      · exact ⟨[], c + 1, rfl⟩
      · exact ⟨[(c, z)], 1, rfl⟩
    | h :: s, ih =>
      obtain ⟨gs, c, e⟩ := ih
      exact ⟨g :: gs, c, by simp only [grow]; rw [e]; rfl⟩
theorem grow_same (gs : List (Nat × Int)) (c : Nat) (x : Int) : grow (gs ++ [(c, x)]) x = gs ++ [(c + 1, x)] := by
  induction gs with
  | nil => simp [grow]
  | cons g r ih =>
    match r, ih with
    | [], _ => simp [grow]
    | h :: s, ih => simp only [List.cons_append, grow]; rw [← List.cons_append, ih]; rfl
theorem grow_other (gs : List (Nat × Int)) (c : Nat) (z x : Int) (hz : z ≠ x) : grow (gs ++ [(c, z)]) x = gs ++ [(c, z)] ++ [(1, x)] := by
  induction gs with
  | nil => simp [grow, hz]
  | cons g r ih =>
    match r, ih with
    | [], _ => simp [grow, hz]
    | h :: s, ih => simp only [List.cons_append, grow]; rw [← List.cons_append, ih]; rfl
end Go.Proofs.YtilaheifccjjeaaGreat.M
namespace Go.Proofs.YtilaheifccjjeaaGreat
open Go.RowKit
theorem addr_block (a : Addr) (n : Nat) : (a.add n).block = a.block := by unfold Addr.add; split <;> rfl
theorem add_add (a : Addr) (i j : Nat) : (a.add i).add j = a.add (i + j) := by
  unfold Addr.add
  by_cases hi : i = 0
  · subst hi; simp
  · by_cases hj : j = 0
    · subst hj; simp
    · simp [hi, hj, Nat.add_assoc]
theorem add_none (g o j : Nat) : (⟨g, o, none⟩ : Addr).add j = ⟨g, o + j, none⟩ := by unfold Addr.add; split <;> simp_all
/-- The slice value with address A (or nil), n bytes long, holds the bytes f, in blocks below B. -/
def Bytes (w : World) (B : Nat) (A : Option Addr) (n : Nat) (f : Nat → Nat) : Prop :=
  ∀ i, i < n → ∃ ad, A = some ad ∧ ad.block < B ∧ f i < 256 ∧ w.cell? (ad.add i) = some (.int .u8 (f i : Int))
theorem Bytes.below {w w' : World} {B C : Nat} {A : Option Addr} {n : Nat} {f : Nat → Nat} (h : Bytes w B A n f) (hb : Below B w w') (hC : B ≤ C) : Bytes w' C A n f := fun i hi => by
  obtain ⟨ad, e, hl, hf, hc⟩ := h i hi
  exact ⟨ad, e, by omega, hf, by rw [hb.cell (by rw [addr_block]; exact hl)]; exact hc⟩
theorem Bytes.later {w w' : World} {A : Option Addr} {n : Nat} {f : Nat → Nat} (h : Bytes w w.heap.size A n f) (hb : Below w.heap.size w w') : Bytes w' w'.heap.size A n f := h.below hb hb.size
/-- The same for numbers of 64 bits. -/
def Ints (w : World) (B : Nat) (A : Option Addr) (n : Nat) (f : Nat → Int) : Prop :=
  ∀ i, i < n → ∃ ad, A = some ad ∧ ad.block < B ∧ (-9223372036854775808 ≤ f i ∧ f i ≤ 9223372036854775807) ∧ w.cell? (ad.add i) = some (.int .i64 (f i))
theorem Ints.below {w w' : World} {B C : Nat} {A : Option Addr} {n : Nat} {f : Nat → Int} (h : Ints w B A n f) (hb : Below B w w') (hC : B ≤ C) : Ints w' C A n f := fun i hi => by
  obtain ⟨ad, e, hl, hf, hc⟩ := h i hi
  exact ⟨ad, e, by omega, hf, by rw [hb.cell (by rw [addr_block]; exact hl)]; exact hc⟩
theorem Ints.later {w w' : World} {A : Option Addr} {n : Nat} {f : Nat → Int} (h : Ints w w.heap.size A n f) (hb : Below w.heap.size w w') : Ints w' w'.heap.size A n f := h.below hb hb.size
def vals (bs : List Nat) : List Value := bs.map fun b : Nat => .int .u8 (b : Int)
def nvals (ps : List Int) : List Value := ps.map fun b : Int => .int .i64 b
/-- The value is a slice of these bytes, in memory below B. -/
def BS (w : World) (B : Nat) (v : Value) (bs : List Nat) : Prop :=
  ∃ A c, v = .slice A bs.length c ∧ bs.length ≤ c ∧ c ≤ maxLen ∧ Bytes w B A bs.length (fun i => bs.getD i 0)
theorem BS.below {w w' : World} {B C : Nat} {v : Value} {bs : List Nat} (h : BS w B v bs) (hb : Below B w w') (hC : B ≤ C) : BS w' C v bs := by
  obtain ⟨A, c, e, h1, h2, h3⟩ := h
  exact ⟨A, c, e, h1, h2, h3.below hb hC⟩
theorem BS.later {w w' : World} {v : Value} {bs : List Nat} (h : BS w w.heap.size v bs) (hb : Below w.heap.size w w') : BS w' w'.heap.size v bs := h.below hb hb.size
theorem BS.lt {w : World} {B : Nat} {v : Value} {bs : List Nat} (h : BS w B v bs) : ∀ b ∈ bs, b < 256 := by
  obtain ⟨A, c, e, h1, h2, h3⟩ := h
  intro b hb
  obtain ⟨i, hi, rfl⟩ := List.getElem_of_mem hb
  obtain ⟨_, _, _, h4, _⟩ := h3 i hi
  simpa [List.getD_eq_getElem?_getD, List.getElem?_eq_getElem hi] using h4
theorem getD_drop (bs : List Nat) (n i : Nat) : (bs.drop n).getD i 0 = bs.getD (n + i) 0 := by
  simp [List.getD_eq_getElem?_getD, List.getElem?_drop]
/-- What is left of bytes behind the first n. -/
theorem Bytes.drop {w : World} {B : Nat} {ad : Addr} {l n : Nat} {f g : Nat → Nat} (h : Bytes w B (some ad) l f) (hg : ∀ i, g i = f (n + i)) : Bytes w B (some (ad.add n)) (l - n) g := by
  intro i hi
  obtain ⟨ad', e, h1, h2, h3⟩ := h (n + i) (by omega)
  injection e with e
  subst e
  exact ⟨ad.add n, rfl, by rw [addr_block]; exact h1, by rw [hg]; exact h2, by rw [add_add, hg]; exact h3⟩
end Go.Proofs.YtilaheifccjjeaaGreat
namespace Go.Proofs.YtilaheifccjjeaaGreat
open Go.RowKit
theorem ret_int {k : IntKind} {a b : Int} (h : a = b) : Ending.returned (.int k a) = .returned (.int k b) := by rw [h]
theorem ret_bool {a b : Bool} (h : a = b) : Ending.returned (.bool a) = .returned (.bool b) := by rw [h]
theorem num_any (n : Int) (w : World) :
    Calls Tryz.prog 11 #[.int .i64 n] w fun e w' => e = .returned (.int .i64 n) ∧ w = w' := by
  go_enter Tryz.func11, Tryz.ntmps11
  go_wp2
  go_ret
  exact ⟨rfl, rfl⟩
theorem beqs (op : Int) (h : op ≠ 0 ∧ op ≠ 1 ∧ op ≠ 15 ∧ op ≠ 26 ∧ op ≠ 27 ∧ op ≠ 2 ∧ op ≠ 3 ∧ op ≠ 4 ∧ op ≠ 12 ∧ op ≠ 13 ∧ op ≠ 16 ∧ op ≠ 14 ∧ op ≠ 17 ∧ op ≠ 40 ∧ op ≠ 41 ∧ op ≠ 63 ∧ op ≠ 64 ∧ op ≠ 65 ∧ op ≠ 66 ∧ op ≠ 167 ∧ op ≠ 172 ∧ op ≠ 173) : (op == 0) = false ∧ (op == 1) = false ∧ (op == 15) = false ∧ (op == 26) = false ∧ (op == 27) = false ∧ (op == 2) = false ∧ (op == 3) = false ∧ (op == 4) = false ∧ (op == 12) = false ∧ (op == 13) = false ∧ (op == 16) = false ∧ (op == 14) = false ∧ (op == 17) = false ∧ (op == 40) = false ∧ (op == 41) = false ∧ (op == 63) = false ∧ (op == 64) = false ∧ (op == 65) = false ∧ (op == 66) = false ∧ (op == 167) = false ∧ (op == 172) = false ∧ (op == 173) = false := by simpa only [beq_eq_false_iff_ne] using h
theorem op_split (op : Int) : (op = 0 ∨ op = 1 ∨ op = 15 ∨ op = 26 ∨ op = 27 ∨ op = 2 ∨ op = 3 ∨ op = 4 ∨ op = 12 ∨ op = 13 ∨ op = 16 ∨ op = 14 ∨ op = 17 ∨ op = 40 ∨ op = 41 ∨ op = 63 ∨ op = 64 ∨ op = 65 ∨ op = 66 ∨ op = 167 ∨ op = 172 ∨ op = 173) ∨ ((op ≥ 32 ∧ op ≤ 36) ∨ (op ≥ 44 ∧ op ≤ 55) ∨ (op ≥ 58 ∧ op ≤ 62) ∨ (op ≥ 69 ∧ op ≤ 90) ∨ (op ≥ 103 ∧ op ≤ 138)) ∨ ((op ≠ 0 ∧ op ≠ 1 ∧ op ≠ 15 ∧ op ≠ 26 ∧ op ≠ 27 ∧ op ≠ 2 ∧ op ≠ 3 ∧ op ≠ 4 ∧ op ≠ 12 ∧ op ≠ 13 ∧ op ≠ 16 ∧ op ≠ 14 ∧ op ≠ 17 ∧ op ≠ 40 ∧ op ≠ 41 ∧ op ≠ 63 ∧ op ≠ 64 ∧ op ≠ 65 ∧ op ≠ 66 ∧ op ≠ 167 ∧ op ≠ 172 ∧ op ≠ 173) ∧ (op < 2 ∨ 4 < op) ∧ (op < 32 ∨ 36 < op) ∧ (op < 44 ∨ 55 < op) ∧ (op < 58 ∨ 62 < op) ∧ (op < 69 ∨ 90 < op) ∧ (op < 103 ∨ 138 < op)) := by omega
theorem kindR3 (op : Int) (h1 : op ≥ 32) (h2 : op ≤ 36) : M.kind op = 3 := by
  unfold M.kind
  repeat (first | rw [if_pos (by omega)] | rw [if_neg (by omega)])
theorem kindR6 (op : Int) (h : (op ≥ 44 ∧ op ≤ 55) ∨ (op ≥ 58 ∧ op ≤ 62)) : M.kind op = 6 := by
  unfold M.kind
  repeat (first | rw [if_pos (by omega)] | rw [if_neg (by omega)])
theorem kindR1 (op : Int) (h : (op ≥ 69 ∧ op ≤ 90) ∨ (op ≥ 103 ∧ op ≤ 138)) : M.kind op = 1 := by
  unfold M.kind
  repeat (first | rw [if_pos (by omega)] | rw [if_neg (by omega)])
theorem kindR0 (op : Int) (h : op ≠ 0 ∧ op ≠ 1 ∧ op ≠ 15 ∧ op ≠ 26 ∧ op ≠ 27 ∧ op ≠ 2 ∧ op ≠ 3 ∧ op ≠ 4 ∧ op ≠ 12 ∧ op ≠ 13 ∧ op ≠ 16 ∧ op ≠ 14 ∧ op ≠ 17 ∧ op ≠ 40 ∧ op ≠ 41 ∧ op ≠ 63 ∧ op ≠ 64 ∧ op ≠ 65 ∧ op ≠ 66 ∧ op ≠ 167 ∧ op ≠ 172 ∧ op ≠ 173) (h2 : (op < 2 ∨ 4 < op) ∧ (op < 32 ∨ 36 < op) ∧ (op < 44 ∨ 55 < op) ∧ (op < 58 ∨ 62 < op) ∧ (op < 69 ∨ 90 < op) ∧ (op < 103 ∨ 138 < op)) : M.kind op = 0 := by
  unfold M.kind
  repeat (first | rw [if_pos (by omega)] | rw [if_neg (by omega)])
end Go.Proofs.YtilaheifccjjeaaGreat
namespace Go.Proofs.YtilaheifccjjeaaGreat
open Go.RowKit
/-- The blocks of S are the same in both worlds. -/
def Agree (S : Nat → Prop) (w w' : World) : Prop := ∀ k, S k → w'.heap[k]? = w.heap[k]?
theorem Agree.cell {S : Nat → Prop} {w w' : World} (h : Agree S w w') {a : Addr} (ha : S a.block) : w'.cell? a = w.cell? a := World.cell?_of_block (w := w) (h a.block ha)
theorem Agree.mono {S T : Nat → Prop} {w w' : World} (h : Agree S w w') (hT : ∀ k, T k → S k) : Agree T w w' := fun k hk => h k (hT k hk)
theorem Agree.trans {S : Nat → Prop} {a b c : World} (h : Agree S a b) (k : Agree S b c) : Agree S a c := fun i hi => (k i hi).trans (h i hi)
theorem below_agree {B : Nat} {w w' : World} (h : Below B w w') : Agree (· < B) w w' := fun k hk => h.block k hk
/-- The value is a slice of these numbers, in blocks of S. -/
def NS (w : World) (S : Nat → Prop) (v : Value) (xs : List Int) : Prop :=
  ∃ A c, v = .slice A xs.length c ∧ (xs.length ≤ 140737488355328 ∧ xs.length ≤ c ∧ c ≤ maxLen) ∧ ∀ i, i < xs.length → ∃ ad, A = some ad ∧ S ad.block ∧ (-9223372036854775808 ≤ xs.getD i 0 ∧ xs.getD i 0 ≤ 9223372036854775807) ∧ w.cell? (ad.add i) = some (.int .i64 (xs.getD i 0))
theorem NS.agree {w w' : World} {S T : Nat → Prop} {v : Value} {xs : List Int} (h : NS w S v xs) (ha : Agree S w w') (hT : ∀ k, S k → T k) : NS w' T v xs := by
  obtain ⟨A, c, e, h1, h3⟩ := h
  refine ⟨A, c, e, h1, fun i hi => ?_⟩
  obtain ⟨ad, e1, h4, h5, h6⟩ := h3 i hi
  exact ⟨ad, e1, hT _ h4, h5, by rw [ha.cell (by rw [addr_block]; exact h4)]; exact h6⟩
/-- What an instruction's nine cells hold. -/
structure ItemAt (w : World) (g o : Nat) (h : M.Hd) (vL vB vE : Value) : Prop where
  c0 : w.cell? ⟨g, o, none⟩ = some (.int .i64 h.op)
  c1 : w.cell? ⟨g, o + 1, none⟩ = some (.int .i64 h.ty)
  c2 : w.cell? ⟨g, o + 2, none⟩ = some (.int .i64 h.ix)
  c3 : w.cell? ⟨g, o + 3, none⟩ = some (.int .i64 h.al)
  c4 : w.cell? ⟨g, o + 4, none⟩ = some (.int .i64 h.ofs)
  c5 : w.cell? ⟨g, o + 5, none⟩ = some (.int .i64 h.val)
  c6 : w.cell? ⟨g, o + 6, none⟩ = some vL
  c7 : w.cell? ⟨g, o + 7, none⟩ = some vB
  c8 : w.cell? ⟨g, o + 8, none⟩ = some vE
/-- The numbers have 64 bits. -/
structure Rng (h : M.Hd) : Prop where
  r0 : -9223372036854775808 ≤ h.op ∧ h.op ≤ 9223372036854775807
  r1 : -9223372036854775808 ≤ h.ty ∧ h.ty ≤ 9223372036854775807
  r2 : -9223372036854775808 ≤ h.ix ∧ h.ix ≤ 9223372036854775807
  r3 : -9223372036854775808 ≤ h.al ∧ h.al ≤ 9223372036854775807
  r4 : -9223372036854775808 ≤ h.ofs ∧ h.ofs ≤ 9223372036854775807
  r5 : -9223372036854775808 ≤ h.val ∧ h.val ≤ 9223372036854775807
theorem ItemAt.agree {w w' : World} {g o : Nat} {h : M.Hd} {vL vB vE : Value} (hi : ItemAt w g o h vL vB vE) (ha : w'.heap[g]? = w.heap[g]?) : ItemAt w' g o h vL vB vE := by
  have e : ∀ j, w'.cell? ⟨g, j, none⟩ = w.cell? ⟨g, j, none⟩ := fun j => World.cell?_of_block (w := w) ha
  obtain ⟨c0, c1, c2, c3, c4, c5, c6, c7, c8⟩ := hi
  constructor <;> (rw [e]; assumption)
/-- A slice value of n elements, in a block of S, where P holds. -/
def Sl (S : Nat → Prop) (P : Nat → Nat → Prop) (n : Nat) (v : Value) : Prop :=
  ∃ A c, v = .slice A n c ∧ (n ≤ 140737488355328 ∧ n ≤ c ∧ c ≤ maxLen) ∧ (n = 0 ∨ ∃ g o, A = some ⟨g, o, none⟩ ∧ S g ∧ P g o)
/-- Instructions lie from this place on. -/
def LA (w : World) (S : Nat → Prop) : M.L → Nat → Nat → Prop
  | .nil, _, _ => True
  | .cons h b e r, g, o => ∃ vL vB vE, ItemAt w g o h vL vB vE ∧ Rng h ∧ NS w S vL h.labels ∧ Sl S (LA w S b) b.len vB ∧ Sl S (LA w S e) e.len vE ∧ LA w S r g (o + 9)
/-- The value is a slice of these instructions, all in blocks of S. -/
def LS (w : World) (S : Nat → Prop) (v : Value) (l : M.L) : Prop := Sl S (LA w S l) l.len v
theorem Sl.imp {S T : Nat → Prop} {P Q : Nat → Nat → Prop} {n : Nat} {v : Value} (h : Sl S P n v) (hT : ∀ k, S k → T k) (hP : ∀ g o, S g → P g o → Q g o) : Sl T Q n v := by
  obtain ⟨A, c, e, h1, h3⟩ := h
  refine ⟨A, c, e, h1, ?_⟩
  rcases h3 with h3 | ⟨g, o, h4, h5, h6⟩
  · exact .inl h3
  · exact .inr ⟨g, o, h4, hT g h5, hP g o h5 h6⟩
theorem LA.agree {w w' : World} {S T : Nat → Prop} (ha : Agree S w w') (hT : ∀ k, S k → T k) (l : M.L) : ∀ g o, S g → LA w S l g o → LA w' T l g o := by
  induction l with
  | nil => intro _ _ _ _; trivial
  | cons h b e r ihb ihe ihr =>
    intro g o hg ⟨vL, vB, vE, h1, h2, h3, h4, h5, h6⟩
    exact ⟨vL, vB, vE, h1.agree (ha g hg), h2, h3.agree ha hT, h4.imp hT ihb, h5.imp hT ihe, ihr g (o + 9) hg h6⟩
theorem LS.agree {w w' : World} {S T : Nat → Prop} {v : Value} {l : M.L} (h : LS w S v l) (ha : Agree S w w') (hT : ∀ k, S k → T k) : LS w' T v l := Sl.imp h hT (LA.agree ha hT l)
theorem LA.nth {w : World} {S : Nat → Prop} (l : M.L) : ∀ {g o k : Nat} {h : M.Hd} {b e : M.L}, LA w S l g o → l.nth k = some (h, b, e) →
    ∃ vL vB vE, ItemAt w g (o + k * 9) h vL vB vE ∧ Rng h ∧ NS w S vL h.labels ∧ LS w S vB b ∧ LS w S vE e := by
  induction l with
  | nil => intro g o k h b e _ hn; cases hn
  | cons h' b' e' r _ _ ih =>
    intro g o k h b e ⟨vL, vB, vE, h1, h2, h3, h4, h5, h6⟩ hn
    cases k with
    | zero =>
      simp only [M.L.nth, Option.some.injEq, Prod.mk.injEq] at hn
      obtain ⟨rfl, rfl, rfl⟩ := hn
      exact ⟨vL, vB, vE, by simpa using h1, h2, h3, h4, h5⟩
    | succ k =>
      obtain ⟨vL', vB', vE', a1, a2⟩ := ih h6 hn
      refine ⟨vL', vB', vE', ?_, a2⟩
      rw [show o + (k + 1) * 9 = o + 9 + k * 9 by omega]
      exact a1
theorem LS.nth {w : World} {S : Nat → Prop} {v : Value} {l : M.L} (hl : LS w S v l) {k : Nat} {h : M.Hd} {b e : M.L} (hn : l.nth k = some (h, b, e)) :
    ∃ g o c vL vB vE, v = .slice (some ⟨g, o, none⟩) l.len c ∧ S g ∧ ItemAt w g (o + k * 9) h vL vB vE ∧ Rng h ∧ NS w S vL h.labels ∧ LS w S vB b ∧ LS w S vE e := by
  obtain ⟨A, c, e1, h1, h3⟩ := hl
  have hk := (M.nth_some hn).1
  rcases h3 with h3 | ⟨g, o, h4, h5, h6⟩
  · omega
  · obtain ⟨vL, vB, vE, h7⟩ := h6.nth l hn
    exact ⟨g, o, c, vL, vB, vE, by rw [e1, h4], h5, h7⟩
theorem LS.nth' {w : World} {S : Nat → Prop} {A : Option Addr} {n c : Nat} {l : M.L} (hl : LS w S (.slice A n c) l) {k : Nat} {h : M.Hd} {b e : M.L} (hn : l.nth k = some (h, b, e)) :
    ∃ g o vL vB vE, A = some ⟨g, o, none⟩ ∧ S g ∧ ItemAt w g (o + k * 9) h vL vB vE ∧ Rng h ∧ NS w S vL h.labels ∧ LS w S vB b ∧ LS w S vE e := by
  obtain ⟨g, o, c', vL, vB, vE, h1, h2⟩ := hl.nth hn
  injection h1 with h1
  exact ⟨g, o, vL, vB, vE, h1, h2⟩
theorem LS.form {w : World} {S : Nat → Prop} {v : Value} {l : M.L} (hl : LS w S v l) : ∃ A c, v = .slice A l.len c ∧ (l.len ≤ 140737488355328 ∧ l.len ≤ c ∧ c ≤ maxLen) := by
  obtain ⟨A, c, e1, h1, _⟩ := hl
  exact ⟨A, c, e1, h1⟩
theorem NS.form {w : World} {S : Nat → Prop} {v : Value} {l : List Int} (hl : NS w S v l) : ∃ A c, v = .slice A l.length c ∧ (l.length ≤ 140737488355328 ∧ l.length ≤ c ∧ c ≤ maxLen) := by
  obtain ⟨A, c, e1, h1, _⟩ := hl
  exact ⟨A, c, e1, h1⟩
/-- What lies in memory that is there. -/
abbrev LB (w : World) (v : Value) (l : M.L) : Prop := LS w (· < w.heap.size) v l
abbrev NB (w : World) (v : Value) (l : List Int) : Prop := NS w (· < w.heap.size) v l
theorem LS.later {w w' : World} {v : Value} {l : M.L} (h : LB w v l) (hb : Below w.heap.size w w') : LB w' v l := LS.agree h (below_agree hb) fun _ hk => Nat.lt_of_lt_of_le hk hb.size
theorem NS.later {w w' : World} {v : Value} {l : List Int} (h : NB w v l) (hb : Below w.heap.size w w') : NB w' v l := NS.agree h (below_agree hb) fun _ hk => Nat.lt_of_lt_of_le hk hb.size
end Go.Proofs.YtilaheifccjjeaaGreat
namespace Go.Proofs.YtilaheifccjjeaaGreat
open Go.RowKit
theorem start_any (n : Int) (w : World) (h1 : 1 ≤ n) (h2 : n ≤ 10) :
    Calls Tryz.prog 232 #[.int .i64 n] w fun e w' => e = .returned (.int .i64 ((n - 1) * 7)) ∧ w = w' := by
  go_enter Tryz.func232, Tryz.ntmps232
  go_wp2
  go_ret
  exact ⟨rfl, rfl⟩
theorem room_any (A : Value) (bits n : Int) (w : World) (h1 : 1 ≤ n) (h2 : n ≤ 10) (h3 : 1 ≤ bits) (h4 : bits ≤ 64) :
    Calls Tryz.prog 231 #[.agg #[A, .int .i64 bits], .int .i64 n] w fun e w' => e = .returned (.int .i64 (bits - (n - 1) * 7)) ∧ Below w.heap.size w w' := by
  go_enter Tryz.func231, Tryz.ntmps231
  go_wp2
  go_quiet ((go_at_call 232; exact Calls.quiet_of_same ((start_any _ _ h1 h2).mono fun _ _ ⟨a, b⟩ => ⟨a, b.symm⟩)))
  go_wp2
  go_ret
  exact ⟨rfl, below_drewN ((Below.refl _ _).alloc (Nat.le_refl _) _) _⟩
theorem below_any (A : Option Addr) (len cap : Nat) (f : Nat → Nat) (bits : Int) (n : Nat) (w : World) (hc : Bytes w w.heap.size A len f)
    (h1 : 1 ≤ n) (h2 : n ≤ 10) (h3 : n ≤ len) :
    Calls Tryz.prog 233 #[.agg #[.slice A len cap, .int .i64 bits], .int .i64 n] w fun e w' => e = .returned (.int .u64 (M.low f (n - 1) : Nat)) ∧ Below w.heap.size w w' := by
  go_enter Tryz.func233, Tryz.ntmps233
  go_wp2
  go_loop [5, 6] (fun v i => ∃ k : Nat, k + 1 ≤ n ∧ i = .int .i64 k ∧ v = .int .u64 (M.low f k : Nat)) (fun _ i => n - (intOf i).toNat)
  case atStart => exact ⟨0, by omega, rfl, rfl⟩
  case round =>
    obtain ⟨k, hk, rfl, rfl⟩ := hrel
    by_cases hlt : k + 1 < n
    · obtain ⟨ad, rfl, hb, hfk, hck⟩ := hc k (by omega)
      have hck : ∀ o, (w.alloc o).cell? (ad.add k) = some (.int .u8 (f k : Int)) := fun o => by
        rw [World.cell?_alloc_lt w o _ (by rw [addr_block]; exact hb)]; exact hck
      have hs := Lib.hid (M.low_step f k (by omega) hfk)
      clear hc
      go_wp2
      exact ⟨⟨k + 1, by omega, by go_num, by rw [hs.out]⟩, by simp [intOf]; omega⟩
    · go_wp2
      go_ret
      have e : n - 1 = k := by omega
      rw [e]
      exact ⟨rfl, (Below.refl _ _).alloc (Nat.le_refl _) _⟩
theorem length_any (A : Option Addr) (len cap : Nat) (f : Nat → Nat) (bits : Int) (w : World) (hc : Bytes w w.heap.size A len f) (hl : len ≤ maxLen)
    (h1 : 1 ≤ bits) (h2 : bits ≤ 64) :
    Calls Tryz.prog 230 #[.agg #[.slice A len cap, .int .i64 bits]] w fun e w' => e = .returned (.int .i64 (M.lenOf f (min len ((bits.toNat + 6) / 7)) : Nat)) ∧ Below w.heap.size w w' := by
  unfold maxLen at hl
  obtain ⟨b, rfl⟩ := Int.eq_ofNat_of_zero_le (show 0 ≤ bits by omega)
  rw [Int.toNat_natCast]
  go_enter Tryz.func230, Tryz.ntmps230
  go_wp2
  go_loop [2, 4] (fun r i => ∃ k : Nat, k ≤ min len ((b + 6) / 7) ∧ M.lenOf f k = 0 ∧ i = .int .i64 k ∧ r = .int .i64 0) (fun _ i => len - (intOf i).toNat)
  case atStart => exact ⟨0, by omega, rfl, rfl, rfl⟩
  case round =>
    obtain ⟨k, hk, hz, rfl, rfl⟩ := hrel
    have hz := Lib.hid hz
    by_cases hlt : k < min len ((b + 6) / 7)
    · obtain ⟨ad, rfl, hb, hfk, hck⟩ := hc k (by omega)
      have hck : ∀ o, (w.alloc o).cell? (ad.add k) = some (.int .u8 (f k : Int)) := fun o => by
        rw [World.cell?_alloc_lt w o _ (by rw [addr_block]; exact hb)]; exact hck
      clear hc
      by_cases hs : f k < 128
      · have ha := M.and128_lo (f k) hs
        have HR := Lib.hid (M.lenOf_stopped hz.out hs hlt)
        go_wp2
        go_ret
        exact ⟨by rw [HR.out]; rfl, (Below.refl _ _).alloc (Nat.le_refl _) _⟩
      · have ha := M.and128_hi (f k) hfk hs
        go_wp2
        exact ⟨⟨k + 1, by omega, M.lenOf_go hz.out hs, by go_num, rfl⟩, by simp [intOf]; omega⟩
    · have e : min len ((b + 6) / 7) = k := by omega
      have HE := Lib.hid (show M.lenOf f (min len ((b + 6) / 7)) = 0 by rw [e]; exact hz.out)
      clear e
      by_cases h7 : k < (b + 6) / 7
      all_goals
        go_wp2
        go_ret
        exact ⟨by rw [HE.out]; rfl, (Below.refl _ _).alloc (Nat.le_refl _) _⟩
theorem unsigned_any (A : Option Addr) (len cap : Nat) (f : Nat → Nat) (b n : Nat) (w : World) (hc : Bytes w w.heap.size A len f)
    (h1 : 1 ≤ n) (h2 : n ≤ 10) (h3 : n ≤ len) (hl : f (n - 1) < 128) (hb1 : (n - 1) * 7 < b) (hb2 : b ≤ 64) (hlt : M.low f n < 2 ^ b) :
    Calls Tryz.prog 209 #[.agg #[.slice A len cap, .int .i64 b], .int .i64 n] w fun e w' => e = .returned (.tuple #[.int .u64 (M.low f n : Nat), .bool true]) ∧ Below w.heap.size w w' := by
  obtain ⟨ad, rfl, hb, hfk, hck⟩ := hc (n - 1) (by omega)
  have hck : ∀ o, (w.alloc o).cell? (ad.add (n - 1)) = some (.int .u8 (f (n - 1) : Int)) := fun o => by
    rw [World.cell?_alloc_lt w o _ (by rw [addr_block]; exact hb)]; exact hck
  have ht : ((f (n - 1) : Int) / 2 ^ (b - (n - 1) * 7) != 0) = false := by
    rw [M.div_zero_iff]; have := (M.fits f n b h1 hl hb1).1 hlt; simpa using this
  have HJ := Lib.hid (M.u_join f n b h1 hl hb2 hlt)
  rw [← show (((n : Int) - 1) * 7).toNat = (n - 1) * 7 by omega] at HJ
  have hc := Lib.hid hc
  clear hlt
  go_enter Tryz.func209, Tryz.ntmps209
  go_wp2_with fail
  refine (room_any _ _ _ _ (by omega) (by omega) (by omega) (by omega)).mono ?_
  rintro e w1 ⟨rfl, hw1⟩
  have q0 : w1.cell? ⟨w.heap.size, 0, none⟩ = some (.slice (some ad) len cap) := by rw [hw1.cell (p := ⟨w.heap.size, 0, none⟩) (by simp)]; simp
  have q1 : w1.cell? ⟨w.heap.size, 1, none⟩ = some (.int .i64 b) := by rw [hw1.cell (p := ⟨w.heap.size, 1, none⟩) (by simp)]; simp
  have hz : w.heap.size < w1.heap.size := by have := hw1.size; simp at this; omega
  have hbw : Below w.heap.size w w1 := ((Below.refl _ _).alloc (Nat.le_refl _) _).trans (hw1.mono (by simp))
  clear hck hw1
  go_wp2_with fail
  go_region_held3 (fun w' => w'.cell? ⟨w.heap.size, 0, none⟩ = some (.slice (some ad) len cap) ∧ w'.cell? ⟨w.heap.size, 1, none⟩ = some (.int .i64 b) ∧ Below w.heap.size w w' ∧ w.heap.size < w'.heap.size)
    (first | exact ⟨q0, q1, hbw.drew, hz⟩ | assumption | (go_split_ands; refine ⟨?_, ?_, ?_, ?_⟩; (rw [hw2.cell (p := ⟨w.heap.size, 0, none⟩) (by assumption)]; assumption); (rw [hw2.cell (p := ⟨w.heap.size, 1, none⟩) (by assumption)]; assumption); exact Below.trans (by assumption) (hw2.mono (by omega)); (have := hw2.size; omega)))
    (first
      | (go_at_call 232; refine (start_any _ _ (by omega) (by omega)).mono ?_; rintro e w2 ⟨rfl, rfl⟩)
      | (go_at_call 233; refine (below_any _ _ _ f _ _ _ ?_ (by omega) (by omega) (by omega)).mono ?_; (exact hc.out.later hbw.drew); rintro e w2 ⟨rfl, hw2⟩))
  go_wp2
  go_ret2
  refine ⟨?_, hbw.drew.trans (hw2.mono (Nat.le_of_lt hz))⟩
  have h := HJ.out
  exact congrArg (fun x => Ending.returned (.tuple #[.int .u64 x, .bool true])) h
theorem unsigned_no (A : Option Addr) (len cap : Nat) (f : Nat → Nat) (b n : Nat) (w : World) (hc : Bytes w w.heap.size A len f)
    (h1 : 1 ≤ n) (h2 : n ≤ 10) (h3 : n ≤ len) (hl : f (n - 1) < 128) (hb1 : (n - 1) * 7 < b) (hb2 : b ≤ 64) (hlt : ¬ M.low f n < 2 ^ b) :
    Calls Tryz.prog 209 #[.agg #[.slice A len cap, .int .i64 b], .int .i64 n] w fun e w' => e = .returned (.tuple #[.int .u64 0, .bool false]) ∧ Below w.heap.size w w' := by
  obtain ⟨ad, rfl, hb, hfk, hck⟩ := hc (n - 1) (by omega)
  have hck : ∀ o, (w.alloc o).cell? (ad.add (n - 1)) = some (.int .u8 (f (n - 1) : Int)) := fun o => by
    rw [World.cell?_alloc_lt w o _ (by rw [addr_block]; exact hb)]; exact hck
  have ht : ((f (n - 1) : Int) / 2 ^ (b - (n - 1) * 7) != 0) = true := by
    rw [M.div_zero_iff]; rw [M.fits f n b h1 hl hb1] at hlt; simpa using hlt
  clear hlt hc
  go_enter Tryz.func209, Tryz.ntmps209
  go_wp2_with fail
  refine (room_any _ _ _ _ (by omega) (by omega) (by omega) (by omega)).mono ?_
  rintro e w1 ⟨rfl, hw1⟩
  have hbw : Below w.heap.size w w1 := ((Below.refl _ _).alloc (Nat.le_refl _) _).trans (hw1.mono (by simp))
  clear hck hw1
  go_wp2
  go_ret2
  exact ⟨rfl, hbw⟩
/-- The bytes are those of an unsigned number of b bits, n bytes long. -/
def UOk (f : Nat → Nat) (len b n : Nat) : Prop := M.lenOf f (min len ((b + 6) / 7)) = n ∧ n ≠ 0 ∧ M.low f n < 2 ^ b
theorem read_u_yes (A : Option Addr) (len cap : Nat) (f : Nat → Nat) (b n : Nat) (w : World) (hc : Bytes w w.heap.size A len f) (hl : len ≤ maxLen) (hb1 : 1 ≤ b) (hb2 : b ≤ 64) (h : UOk f len b n) :
    Calls Tryz.prog 208 #[.agg #[.slice A len cap, .int .i64 b], .func (.func 209) #[.agg #[.slice A len cap, .int .i64 b]] #[]] w
      fun e w' => e = .returned (.tuple #[.int .u64 (M.low f n : Nat), .int .i64 n, .int .i64 0]) ∧ Below w.heap.size w w' := by
  obtain ⟨rfl, hn, hlt⟩ := h
  obtain ⟨g1, g2, g3, _⟩ := M.lenOf_spec f _ hn
  have hne : (((M.lenOf f (min len ((b + 6) / 7)) : Nat) : Int) == 0) = false := by simpa using hn
  generalize hG : M.lenOf f (min len ((b + 6) / 7)) = n at *
  have HG := Lib.hid hG
  have HC := Lib.hid hc
  have HL := Lib.hid hlt
  clear hG hc hlt
  go_enter Tryz.func208, Tryz.ntmps208
  go_wp2_with fail
  refine (length_any A len cap f b _ (HC.out.later ((Below.refl _ _).alloc (Nat.le_refl _) _)) hl (by omega) (by omega)).mono ?_
  rintro e w1 ⟨rfl, hw1⟩
  rw [Int.toNat_natCast, HG.out]
  have hbw : Below w.heap.size w w1 := ((Below.refl _ _).alloc (Nat.le_refl _) _).trans (hw1.mono (by simp))
  clear hw1
  go_wp2_with fail
  refine (unsigned_any A len cap f b n _ (HC.out.later hbw) (by omega) (by omega) (by omega) g3 (by omega) hb2 HL.out).mono ?_
  rintro e w2 ⟨rfl, hw2⟩
  go_wp2
  go_ret3
  exact ⟨rfl, hbw.trans (hw2.mono hbw.size)⟩
theorem read_u_no (A : Option Addr) (len cap : Nat) (f : Nat → Nat) (b : Nat) (w : World) (hc : Bytes w w.heap.size A len f) (hl : len ≤ maxLen) (hb1 : 1 ≤ b) (hb2 : b ≤ 64) (h : ∀ n, ¬ UOk f len b n) :
    Calls Tryz.prog 208 #[.agg #[.slice A len cap, .int .i64 b], .func (.func 209) #[.agg #[.slice A len cap, .int .i64 b]] #[]] w
      fun e w' => e = .returned (.tuple #[.int .u64 0, .int .i64 0, .int .i64 100]) ∧ Below w.heap.size w w' := by
  by_cases hn : M.lenOf f (min len ((b + 6) / 7)) = 0
  · have HG := Lib.hid hn
    have HC := Lib.hid hc
    clear hn hc h
    go_enter Tryz.func208, Tryz.ntmps208
    go_wp2_with fail
    refine (length_any A len cap f b _ (HC.out.later ((Below.refl _ _).alloc (Nat.le_refl _) _)) hl (by omega) (by omega)).mono ?_
    rintro e w1 ⟨rfl, hw1⟩
    rw [Int.toNat_natCast, HG.out]
    have hbw : Below w.heap.size w w1 := ((Below.refl _ _).alloc (Nat.le_refl _) _).trans (hw1.mono (by simp))
    clear hw1
    go_wp2
    go_ret3
    exact ⟨rfl, hbw⟩
  · obtain ⟨g1, g2, g3, _⟩ := M.lenOf_spec f _ hn
    have hne : (((M.lenOf f (min len ((b + 6) / 7)) : Nat) : Int) == 0) = false := by simpa using hn
    have hlt : ¬ M.low f (M.lenOf f (min len ((b + 6) / 7))) < 2 ^ b := fun hh => h _ ⟨rfl, hn, hh⟩
    clear h
    generalize hG : M.lenOf f (min len ((b + 6) / 7)) = n at *
    have HG := Lib.hid hG
    have HC := Lib.hid hc
    have HL := Lib.hid hlt
    clear hG hc hlt
    go_enter Tryz.func208, Tryz.ntmps208
    go_wp2_with fail
    refine (length_any A len cap f b _ (HC.out.later ((Below.refl _ _).alloc (Nat.le_refl _) _)) hl (by omega) (by omega)).mono ?_
    rintro e w1 ⟨rfl, hw1⟩
    rw [Int.toNat_natCast, HG.out]
    have hbw : Below w.heap.size w w1 := ((Below.refl _ _).alloc (Nat.le_refl _) _).trans (hw1.mono (by simp))
    clear hw1
    go_wp2_with fail
    refine (unsigned_no A len cap f b n _ (HC.out.later hbw) (by omega) (by omega) (by omega) g3 (by omega) hb2 HL.out).mono ?_
    rintro e w2 ⟨rfl, hw2⟩
    go_wp2
    go_ret3
    exact ⟨rfl, hbw.trans (hw2.mono hbw.size)⟩
theorem Uint_yes (A : Option Addr) (len cap : Nat) (f : Nat → Nat) (b n : Nat) (w : World) (hc : Bytes w w.heap.size A len f) (hl : len ≤ maxLen) (hb1 : 1 ≤ b) (hb2 : b ≤ 64) (h : UOk f len b n) :
    Calls Tryz.prog 197 #[.slice A len cap, .int .i64 b] w fun e w' => e = .returned (.tuple #[.int .u64 (M.low f n : Nat), .int .i64 n, .int .i64 0]) ∧ Below w.heap.size w w' := by
  have h := Lib.hid h
  have hc := Lib.hid hc
  go_enter Tryz.func197, Tryz.ntmps197
  go_wp2_with fail
  refine (read_u_yes A len cap f b n _ (hc.out.later ((Below.refl _ _).alloc (Nat.le_refl _) _)) hl hb1 hb2 h.out).mono ?_
  rintro e w1 ⟨rfl, hw1⟩
  have hbw : Below w.heap.size w w1 := ((Below.refl _ _).alloc (Nat.le_refl _) _).trans (hw1.mono (by simp))
  clear hw1
  go_wp2
  go_ret3
  exact ⟨rfl, hbw⟩
theorem Uint_no (A : Option Addr) (len cap : Nat) (f : Nat → Nat) (b : Nat) (w : World) (hc : Bytes w w.heap.size A len f) (hl : len ≤ maxLen) (hb1 : 1 ≤ b) (hb2 : b ≤ 64) (h : ∀ n, ¬ UOk f len b n) :
    Calls Tryz.prog 197 #[.slice A len cap, .int .i64 b] w fun e w' => e = .returned (.tuple #[.int .u64 0, .int .i64 0, .int .i64 100]) ∧ Below w.heap.size w w' := by
  have h := Lib.hid h
  have hc := Lib.hid hc
  go_enter Tryz.func197, Tryz.ntmps197
  go_wp2_with fail
  refine (read_u_no A len cap f b _ (hc.out.later ((Below.refl _ _).alloc (Nat.le_refl _) _)) hl hb1 hb2 h.out).mono ?_
  rintro e w1 ⟨rfl, hw1⟩
  have hbw : Below w.heap.size w w1 := ((Below.refl _ _).alloc (Nat.le_refl _) _).trans (hw1.mono (by simp))
  clear hw1
  go_wp2
  go_ret3
  exact ⟨rfl, hbw⟩
end Go.Proofs.YtilaheifccjjeaaGreat
namespace Go.Proofs.YtilaheifccjjeaaGreat
open Go.RowKit
/-- The call hands back new memory that holds the bytes bs. -/
def Gives (bs : List Nat) (w : World) (e : Ending) (w' : World) : Prop := ∃ v, e = .returned v ∧ w'.ownsRow w.heap.size 5 1 v bs.length (vals bs) ∧ Below w.heap.size w w'
def PutRel (n0 : Nat) (w : World) (n b : Value) (w' : World) : Prop :=
  ∃ (j m : Nat) (pre : List Nat), n = .int .u64 (m : Nat) ∧ pre ++ M.putU (j + 1) m = M.putU 10 n0 ∧ m < 2 ^ (7 * j + 1) ∧ pre.length + j = 9 ∧ w'.ownsRow w.heap.size 5 1 b pre.length (vals pre) ∧ Below w.heap.size w w'
def PutSRel (n0 : Int) (w : World) (n b : Value) (w' : World) : Prop :=
  ∃ (j : Nat) (m : Int) (pre : List Nat), n = .int .i64 m ∧ pre ++ M.putS (j + 1) m = M.putS 10 n0 ∧ (-2 ^ (7 * j) ≤ m ∧ m < 2 ^ (7 * j)) ∧ pre.length + j = 9 ∧ w'.ownsRow w.heap.size 5 1 b pre.length (vals pre) ∧ Below w.heap.size w w'
theorem u8_info : (Tryz.prog.info? 5).map (fun i => (i.zero, i.size, i.bytes)) = some (some (.int .u8 0), 1, 1) := by kernel_rfl
set_option maxRecDepth 100000 in
theorem PutUint_any (n : Nat) (w : World) (hn : n < 18446744073709551616) : Calls Tryz.prog 122 #[.int .u64 n] w (Gives (M.putU 10 n) w) := by
  obtain ⟨i0, hi0, hz0, hz1, hz2⟩ := info_parts u8_info
  have HN := Lib.hid hn
  clear hn
  go_enter Tryz.func122, Tryz.ntmps122
  go_wp2
  go_loopw [0, 3] (fun n' b w' => PutRel n w n' b w') (fun n' _ _ => (intOf n').toNat)
  case atStart => exact ⟨9, n, [], rfl, rfl, HN.out, rfl, World.ownsRow_nil _ _ _ _, Below.refl _ _⟩
  case round =>
    obtain ⟨j, m, pre, rfl, hp, hm, hj, hown, hb⟩ := hrel
    have HP := Lib.hid hp
    have HM := Lib.hid hm
    clear hp hm
    have hm64 := M.fuel_lt m j HM.out (by omega)
    have HB := Lib.hid (M.byteU m hm64)
    have HS := Lib.hid hm64
    clear hm64
    by_cases hlt : 127 < m
    · go_wp2_with (first
        | (at_builtin; refine wpList_append_own _ rfl _ _ 33 rfl w.heap.size 5 i0 (.int .u8 0) 1 1 Tryz.underlying33 hi0 hz0 hz1 hz2 rfl (by decide) u3 pre.length (vals pre) rfl (hown.alloc _) ⟨_, 0, none⟩ 1 1 [_] rfl rfl (cell_one_new _ _ _) (fun x hx => by simp at hx; subst hx; rfl) (by unfold maxLen; omega) (by omega) (by have := hb.size; simp; omega) ?_; intro v' w3 hown' hgrow3 hnil3))
      obtain ⟨i, rfl, hi⟩ := M.fuel_pos m j HM.out (by omega)
      rw [HB.out] at hown'
      refine ⟨⟨i, m / 128, pre ++ [m % 128 + 128], by simp, ?_, hi, by simp; omega, ?_, ?_⟩, by simp [intOf]; omega⟩
      · rw [← HP.out, M.putU_more (i + 1) m (by omega)]; simp
      · simpa [vals] using hown'
      · exact (hb.alloc hb.size _).grown hgrow3 (by have := hb.size; simp; omega) (fun q hq => (hown.lt q hq).1)
    · go_wp2_with (first
        | (at_builtin; refine wpList_append_own _ rfl _ _ 33 rfl w.heap.size 5 i0 (.int .u8 0) 1 1 Tryz.underlying33 hi0 hz0 hz1 hz2 rfl (by decide) u3 pre.length (vals pre) rfl (hown.alloc _) ⟨_, 0, none⟩ 1 1 [_] rfl rfl (cell_one_new _ _ _) (fun x hx => by simp at hx; subst hx; rfl) (by unfold maxLen; omega) (by omega) (by have := hb.size; simp; omega) ?_; intro v' w3 hown' hgrow3 hnil3))
      go_ret
      have e : pre ++ [m] = M.putU 10 n := by rw [← HP.out, M.putU_last j m (by omega)]
      rw [← e]
      refine ⟨v', rfl, ?_, ?_⟩
      · simpa [vals] using hown'
      · exact (hb.alloc hb.size _).grown hgrow3 (by have := hb.size; simp; omega) (fun q hq => (hown.lt q hq).1)
set_option maxRecDepth 100000 in
theorem PutSint_any (n : Int) (w : World) (hn : -9223372036854775808 ≤ n ∧ n < 9223372036854775808) : Calls Tryz.prog 245 #[.int .i64 n] w (Gives (M.putS 10 n) w) := by
  obtain ⟨i0, hi0, hz0, hz1, hz2⟩ := info_parts u8_info
  have HN := Lib.hid hn
  clear hn
  go_enter Tryz.func245, Tryz.ntmps245
  go_wp2
  go_loopw [0, 3] (fun n' b w' => PutSRel n w n' b w') (fun n' _ _ => (intOf n').natAbs)
  case atStart => exact ⟨9, n, [], rfl, rfl, HN.out, rfl, World.ownsRow_nil _ _ _ _, Below.refl _ _⟩
  case round =>
    obtain ⟨j, m, pre, rfl, hp, hm, hj, hown, hb⟩ := hrel
    have HP := Lib.hid hp
    have HM := Lib.hid hm
    clear hp hm
    have hm64 := M.fuelS_lt m j HM.out (by omega)
    have HB := Lib.hid (M.byteS m)
    have HL := Lib.hid (M.byteSl m)
    have HS := Lib.hid hm64
    clear hm64
    by_cases hlt : -64 ≤ m ∧ m < 64
    · obtain ⟨hlo, hhi⟩ := hlt
      have t1 : decide (m < -64) = false := by simpa using hlo
      have t2 : decide (64 ≤ m) = false := by simpa using hhi
      go_wp2_with (first
        | (at_builtin; refine wpList_append_own _ rfl _ _ 33 rfl w.heap.size 5 i0 (.int .u8 0) 1 1 Tryz.underlying33 hi0 hz0 hz1 hz2 rfl (by decide) u3 pre.length (vals pre) rfl (hown.alloc _) ⟨_, 0, none⟩ 1 1 [_] rfl rfl (cell_one_new _ _ _) (fun x hx => by simp at hx; subst hx; rfl) (by unfold maxLen; omega) (by omega) (by have := hb.size; simp; omega) ?_; intro v' w3 hown' hgrow3 hnil3))
      go_ret
      have e : pre ++ [(m % 128).toNat] = M.putS 10 n := by rw [← HP.out, M.putS_last j m ⟨hlo, hhi⟩]
      rw [← e]
      rw [HL.out] at hown'
      refine ⟨v', rfl, ?_, ?_⟩
      · simpa [vals] using hown'
      · exact (hb.alloc hb.size _).grown hgrow3 (by have := hb.size; simp; omega) (fun q hq => (hown.lt q hq).1)
    · by_cases hlo : m < -64
      all_goals
        have t1 : -64 ≤ m ∨ m < -64 := by omega
        clear t1
        go_wp2_with (first
          | (at_builtin; refine wpList_append_own _ rfl _ _ 33 rfl w.heap.size 5 i0 (.int .u8 0) 1 1 Tryz.underlying33 hi0 hz0 hz1 hz2 rfl (by decide) u3 pre.length (vals pre) rfl (hown.alloc _) ⟨_, 0, none⟩ 1 1 [_] rfl rfl (cell_one_new _ _ _) (fun x hx => by simp at hx; subst hx; rfl) (by unfold maxLen; omega) (by omega) (by have := hb.size; simp; omega) ?_; intro v' w3 hown' hgrow3 hnil3))
        obtain ⟨i, rfl, hi⟩ := M.fuelS_pos m j HM.out hlt
        rw [HB.out] at hown'
        refine ⟨⟨i, m / 128, pre ++ [(m % 128).toNat + 128], rfl, ?_, hi, by simp; omega, ?_, ?_⟩, by simp [intOf]; omega⟩
        · rw [← HP.out, M.putS_more (i + 1) m hlt]; simp
        · simpa [vals] using hown'
        · exact (hb.alloc hb.size _).grown hgrow3 (by have := hb.size; simp; omega) (fun q hq => (hown.lt q hq).1)
end Go.Proofs.YtilaheifccjjeaaGreat
namespace Go.Proofs.YtilaheifccjjeaaGreat
open Go.RowKit
theorem getD_vals (bs : List Nat) (i : Nat) (h : i < bs.length) : (vals bs)[i]? = some (.int .u8 ((bs.getD i 0 : Nat) : Int)) := by
  unfold vals
  rw [List.getElem?_map, List.getElem?_eq_getElem h, List.getD_eq_getElem?_getD, List.getElem?_eq_getElem h]
  rfl
/-- New memory that holds bytes reads as these bytes. -/
theorem own_BS {w : World} {base : Nat} {v : Value} {bs : List Nat} (h : w.ownsRow base 5 1 v bs.length (vals bs)) (hlt : ∀ b ∈ bs, b < 256) : BS w w.heap.size v bs := by
  rcases h.2 with ⟨rfl, h0⟩ | ⟨g, cap, cur, rfl, _, _, h1, h2, _⟩
  · exact ⟨none, 0, by rw [h0], by omega, by unfold maxLen; omega, fun i hi => by omega⟩
  · refine ⟨_, _, rfl, h1, h2, fun i hi => ⟨⟨g, 0, none⟩, rfl, (h.lt g rfl).2, ?_, ?_⟩⟩
    · exact hlt _ (by show bs.getD i 0 ∈ bs; rw [List.getD_eq_getElem?_getD, List.getElem?_eq_getElem hi]; exact List.getElem_mem hi)
    · exact h.cells (g := g) rfl i _ (getD_vals bs i hi)
/-- New memory stays as it is behind what leaves all blocks alone. -/
theorem own_later {w w' : World} {b e s n : Nat} {v : Value} {xs : List Value} (h : w.ownsRow b e s v n xs) (hb : Below w.heap.size w w') : w'.ownsRow b e s v n xs :=
  h.kept (row := none) ⟨hb.os, hb.tape, hb.output, hb.size, fun i hi _ => hb.block i hi⟩ (by cases v.ownBlock <;> simp)
theorem EqBytes_same (v1 v2 : Value) (bs : List Nat) (w : World) (h1 : BS w w.heap.size v1 bs) (h2 : BS w w.heap.size v2 bs) :
    Calls Tryz.prog 12 #[v1, v2] w fun e w' => e = .returned (.bool true) ∧ Below w.heap.size w w' := by
  obtain ⟨A, c, rfl, a1, a2, ha⟩ := h1
  obtain ⟨B, d, rfl, b1, b2, hb⟩ := h2
  obtain ⟨n, hn⟩ : ∃ n, n = bs.length := ⟨_, rfl⟩
  obtain ⟨f, hf⟩ : ∃ f : Nat → Nat, f = fun i => bs.getD i 0 := ⟨_, rfl⟩
  rw [← hn] at a1 ha hb ⊢
  rw [← hf] at ha hb
  clear hn hf b1 b2
  unfold maxLen at a2
  replace ha := Lib.hid ha
  replace hb := Lib.hid hb
  have hne : ((n : Int) != (n : Int)) = false := by simp
  go_enter Tryz.func12, Tryz.ntmps12
  go_wp2
  go_loopw [5] (fun i w' => ∃ k : Nat, k ≤ n ∧ i = .int .i64 k ∧ Below w.heap.size w w') (fun i _ => n - (intOf i).toNat)
  case atStart => exact ⟨0, by omega, rfl, Below.refl _ _⟩
  case round =>
    obtain ⟨k, hk, rfl, hbw⟩ := hrel
    by_cases hlt : k < n
    · obtain ⟨a1, rfl, _, _, q1⟩ := ha.out.later hbw k hlt
      obtain ⟨a2, rfl, _, _, q2⟩ := hb.out.later hbw k hlt
      have t0 : (0 : Int) ≤ (k : Int) := by omega
      have t1 : (k : Int) < (n : Int) := by omega
      go_wp2_with fail
      go_quiet (fail)
      go_wp2
      exact ⟨⟨k + 1, by omega, by go_num, below_drewN hbw _⟩, by simp [intOf]; omega⟩
    · go_wp2
      go_ret
      exact ⟨rfl, hbw⟩
def WPost (l : M.L) (n : Int) (w : World) (e : Ending) (w' : World) : Prop :=
  ∃ r : Int, e = .returned (.int .i64 r) ∧ 0 ≤ r ∧ r ≤ 281474976710656 ∧ (r ≤ 2000 → r = n + (l.sz : Nat)) ∧ Below w.heap.size w w'
def szT (k : Nat) (l : M.L) : Nat := (M.L.take k l).sz
theorem szT_step {l : M.L} {k : Nat} {h : M.Hd} {b e : M.L} (hn : l.nth k = some (h, b, e)) : szT (k + 1) l = szT k l + (h.labels.length + b.sz + e.sz + 1) := by
  unfold szT
  rw [M.take_nth hn, M.sz_app]
  simp [M.L.sz]
theorem EqNumbers_fn (A B : Option Addr) (n c d : Nat) (f : Nat → Int) (w : World) (hn : n ≤ 140737488355328) (h1 : Ints w w.heap.size A n f) (h2 : Ints w w.heap.size B n f) :
    Calls Tryz.prog 94 #[.slice A n c, .slice B n d] w fun e w' => e = .returned (.bool true) ∧ Below w.heap.size w w' := by
  replace h1 := Lib.hid h1
  replace h2 := Lib.hid h2
  have hne : ((n : Int) != (n : Int)) = false := by simp
  go_enter Tryz.func94, Tryz.ntmps94
  go_wp2
  go_loopw [5] (fun i w' => ∃ k : Nat, k ≤ n ∧ i = .int .i64 k ∧ Below w.heap.size w w') (fun i _ => n - (intOf i).toNat)
  case atStart => exact ⟨0, by omega, rfl, Below.refl _ _⟩
  case round =>
    obtain ⟨k, hk, rfl, hbw⟩ := hrel
    by_cases hlt : k < n
    · obtain ⟨ad1, rfl, s1, _, q1⟩ := h1.out.later hbw k hlt
      obtain ⟨ad2, rfl, s2, _, q2⟩ := h2.out.later hbw k hlt
      have t0 : (0 : Int) ≤ (k : Int) := by omega
      have t1 : (k : Int) < (n : Int) := by omega
      go_wp2_with fail
      go_quiet (fail)
      go_wp2
      exact ⟨⟨k + 1, by omega, by go_num, below_drewN hbw _⟩, by simp [intOf]; omega⟩
    · go_wp2
      go_ret
      exact ⟨rfl, hbw⟩
theorem NS.ints {w : World} {v : Value} {xs : List Int} (h : NB w v xs) : ∃ A c, v = .slice A xs.length c ∧ xs.length ≤ 140737488355328 ∧ Ints w w.heap.size A xs.length (fun i => xs.getD i 0) := by
  obtain ⟨A, c, rfl, ⟨a1, a2, a3⟩, h1⟩ := h
  exact ⟨A, c, rfl, a1, fun i hi => h1 i hi⟩
theorem EqNumbers_same (v1 v2 : Value) (xs : List Int) (w : World) (h1 : NB w v1 xs) (h2 : NB w v2 xs) :
    Calls Tryz.prog 94 #[v1, v2] w fun e w' => e = .returned (.bool true) ∧ Below w.heap.size w w' := by
  obtain ⟨A, c, rfl, a1, h1⟩ := h1.ints
  obtain ⟨B, d, rfl, _, h2⟩ := h2.ints
  exact EqNumbers_fn A B _ c d _ w a1 h1 h2
/-- Two blocks, laid one behind the other. -/
theorem two_new {w w' : World} {x y : Array Value} {t : TypeId} (hb : Below ((w.alloc (.cells x t)).alloc (.cells y t)).heap.size ((w.alloc (.cells x t)).alloc (.cells y t)) w') :
    Below w.heap.size w w' ∧ (∀ j, w'.cell? ⟨w.heap.size, j, none⟩ = x[j]?) ∧ ∀ j, w'.cell? ⟨w.heap.size + 1, j, none⟩ = y[j]? := by
  refine ⟨(((Below.refl _ _).alloc (Nat.le_refl _) _).alloc (by simp) _).trans (hb.mono (by simp; omega)), fun j => ?_, fun j => ?_⟩
  · rw [hb.cell (p := ⟨w.heap.size, j, none⟩) (by simp; omega)]
    simp
  · rw [hb.cell (p := ⟨w.heap.size + 1, j, none⟩) (by simp)]
    simp
theorem two_below (w : World) (x y : Array Value) (t : TypeId) : Below w.heap.size w ((w.alloc (.cells x t)).alloc (.cells y t)) := ((Below.refl _ _).alloc (Nat.le_refl _) _).alloc (by simp) _
set_option maxRecDepth 100000 in
theorem EqInstr_of (N : Nat) (ih : ∀ (l : M.L) (v1 v2 : Value) (w : World), l.sz < N → LB w v1 l → LB w v2 l → Calls Tryz.prog 95 #[v1, v2] w fun e w' => e = .returned (.bool true) ∧ Below w.heap.size w w')
    (h : M.Hd) (b e : M.L) (vL vB vE uL uB uE : Value) (w : World) (hb : b.sz < N) (he : e.sz < N) (h1 : NB w vL h.labels) (h2 : LB w vB b) (h3 : LB w vE e) (k1 : NB w uL h.labels) (k2 : LB w uB b) (k3 : LB w uE e) :
    Calls Tryz.prog 96 #[.agg #[.int .i64 h.op, .int .i64 h.ty, .int .i64 h.ix, .int .i64 h.al, .int .i64 h.ofs, .int .i64 h.val, vL, vB, vE], .agg #[.int .i64 h.op, .int .i64 h.ty, .int .i64 h.ix, .int .i64 h.al, .int .i64 h.ofs, .int .i64 h.val, uL, uB, uE]] w fun e w' => e = .returned (.bool true) ∧ Below w.heap.size w w' := by
  replace h1 := Lib.hid h1
  replace h2 := Lib.hid h2
  replace h3 := Lib.hid h3
  replace k1 := Lib.hid k1
  replace k2 := Lib.hid k2
  replace k3 := Lib.hid k3
  go_enter Tryz.func96, Tryz.ntmps96
  go_wp2_with fail
  refine (EqNumbers_same vL uL h.labels _ (h1.out.later (two_below _ _ _ _)) (k1.out.later (two_below _ _ _ _))).mono ?_
  rintro e1 w1 ⟨rfl, b1⟩
  obtain ⟨d1, f1, g1⟩ := two_new b1
  have c7 : w1.cell? ⟨w.heap.size, 7, none⟩ = some vB := f1 7
  have c8 : w1.cell? ⟨w.heap.size, 8, none⟩ = some vE := f1 8
  have e7 : w1.cell? ⟨w.heap.size + 1, 7, none⟩ = some uB := g1 7
  have e8 : w1.cell? ⟨w.heap.size + 1, 8, none⟩ = some uE := g1 8
  have z1 : w.heap.size + 1 < w1.heap.size := by have := b1.size; simp at this; omega
  clear f1 g1 b1
  replace d1 := Lib.hid d1
  go_wp2_with fail
  refine (ih b vB uB _ hb (h2.out.later d1.out) (k2.out.later d1.out)).mono ?_
  rintro e2 w2 ⟨rfl, b2⟩
  have c8' : w2.cell? ⟨w.heap.size, 8, none⟩ = some vE := by rw [b2.cell (by show w.heap.size < _; omega)]; exact c8
  have e8' : w2.cell? ⟨w.heap.size + 1, 8, none⟩ = some uE := by rw [b2.cell (by show w.heap.size + 1 < _; omega)]; exact e8
  have d2 := Lib.hid (d1.out.trans (b2.mono d1.out.size))
  clear b2 c7 c8 e7 e8
  go_wp2_with fail
  refine (ih e vE uE _ he (h3.out.later d2.out) (k3.out.later d2.out)).mono ?_
  rintro e3 w3 ⟨rfl, b3⟩
  have d3 := Lib.hid (d2.out.trans (b3.mono d2.out.size))
  clear b3
  go_wp2_with fail
  go_ret
  exact ⟨rfl, d3.out⟩
set_option maxRecDepth 100000 in
theorem EqInstrs_of (N : Nat) : ∀ (l : M.L) (v1 v2 : Value) (w : World), l.sz < N → LB w v1 l → LB w v2 l → Calls Tryz.prog 95 #[v1, v2] w fun e w' => e = .returned (.bool true) ∧ Below w.heap.size w w' := by
  induction N with
  | zero => intro l v1 v2 w h; omega
  | succ N ih =>
    intro l v1 v2 w hN hl1 hl2
    obtain ⟨A, c, rfl, hc1, hc2, hc3⟩ := hl1.form
    obtain ⟨B, d, rfl, hd1, hd2, hd3⟩ := hl2.form
    unfold maxLen at hc3 hd3
    replace hl1 := Lib.hid hl1
    replace hl2 := Lib.hid hl2
    have hne : ((l.len : Int) != (l.len : Int)) = false := by simp
    go_enter Tryz.func95, Tryz.ntmps95
    go_wp2_with fail
    go_loopw [5] (fun i w' => ∃ k : Nat, k ≤ l.len ∧ i = .int .i64 k ∧ Below w.heap.size w w') (fun i _ => l.len - (intOf i).toNat)
    case atStart => exact ⟨0, by omega, rfl, Below.refl _ _⟩
    case round =>
      obtain ⟨k, hk, rfl, hbw⟩ := hrel
      by_cases hlt : k < l.len
      · obtain ⟨h, b, e, hn⟩ := M.nth_of hlt
        obtain ⟨g, o, vL, vB, vE, rfl, hg, hi, _, hL, hB, hE⟩ := (hl1.out.later hbw).nth' hn
        obtain ⟨g', o', uL, uB, uE, rfl, hg', hi', _, hL', hB', hE'⟩ := (hl2.out.later hbw).nth' hn
        have hsz := (M.nth_some hn).2
        clear hn
        obtain ⟨c0, c1, c2, c3, c4, c5, c6, c7, c8⟩ := hi
        obtain ⟨e0, e1, e2, e3, e4, e5, e6, e7, e8⟩ := hi'
        replace hL := Lib.hid hL
        replace hB := Lib.hid hB
        replace hE := Lib.hid hE
        replace hL' := Lib.hid hL'
        replace hB' := Lib.hid hB'
        replace hE' := Lib.hid hE'
        have t0 : (0 : Int) ≤ (k : Int) := by omega
        have t1 : (k : Int) < (l.len : Int) := by omega
        go_wp2_with fail
        go_still_tail 8, (by kernel_rfl)
        change wpList _ _ _ _ _ wr.drew
        go_wp2_with fail
        refine (EqInstr_of N ih h b e vL vB vE uL uB uE _ (by omega) (by omega) (hL.out.later (Below.refl _ _).drew) (hB.out.later (Below.refl _ _).drew) (hE.out.later (Below.refl _ _).drew) (hL'.out.later (Below.refl _ _).drew) (hB'.out.later (Below.refl _ _).drew) (hE'.out.later (Below.refl _ _).drew)).mono ?_
        rintro e1 w1 ⟨rfl, b1⟩
        have d1 := Lib.hid (hbw.drew.trans (b1.mono hbw.drew.size))
        clear b1
        go_wp2_with fail
        exact ⟨⟨k + 1, by omega, by go_num, d1.out⟩, by simp [intOf]; omega⟩
      · go_wp2_with fail
        go_ret
        exact ⟨rfl, hbw⟩
theorem EqInstrs_same (l : M.L) (v1 v2 : Value) (w : World) (h1 : LB w v1 l) (h2 : LB w v2 l) : Calls Tryz.prog 95 #[v1, v2] w fun e w' => e = .returned (.bool true) ∧ Below w.heap.size w w' :=
  EqInstrs_of (l.sz + 1) l v1 v2 w (Nat.lt_succ_self _) h1 h2
end Go.Proofs.YtilaheifccjjeaaGreat
