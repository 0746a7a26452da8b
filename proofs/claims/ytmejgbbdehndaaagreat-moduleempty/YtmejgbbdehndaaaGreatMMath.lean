/-
  Plain facts on modules and their bytes: what their parts are, and how they are read, written with. No condition; nothing of the program is named here.
-/
import Derived.Test.YtmejgbbdehndaaaGreatCodec
import Derived.Test.YtmejgbbdehndaaaGreatUMath
namespace Go.Proofs.YtmejgbbdehndaaaGreat.M
def cPure {α : Type} (x : α) : Codec α where
  rd := fun bs => some (x, bs)
  wr := fun _ => []
  ok := fun y => y = x
  back := fun y r h => by subst h; rfl
  app := fun bs y r t h => by cases h; rfl
  sound := fun bs y r _ h => by cases h; exact ⟨rfl, by simp⟩
def cFail (α : Type) : Codec α where
  rd := fun _ => none
  wr := fun _ => []
  ok := fun _ => False
  back := fun y r h => h.elim
  app := fun bs y r t h => by cases h
  sound := fun bs y r _ h => by cases h
/-- A byte of some, as a number. -/
def cByteI (p : Nat → Bool) : Codec Int where
  rd := fun bs => match bs with | [] => none | b :: r => if p b then some ((b : Int), r) else none
  wr := fun x => [x.toNat]
  ok := fun x => 0 ≤ x ∧ p x.toNat = true
  back := fun x r h => by
    have e : ((x.toNat : Nat) : Int) = x := by omega
    simp [h.2]
    have := h.1
    omega
  app := fun bs x r t h => by
    cases bs with
    | nil => cases h
    | cons b s =>
      simp only [List.cons_append] at h ⊢
      split at h
      · cases h; rename_i hp; rw [if_pos hp]
      · cases h
  sound := fun bs x r _ h => by
    cases bs with
    | nil => cases h
    | cons b s =>
      simp only at h
      by_cases hp : p b = true
      · rw [if_pos hp] at h
        cases h
        exact ⟨⟨by omega, by simpa using hp⟩, by simp; omega⟩
      · rw [if_neg hp] at h; cases h
/-- This byte. -/
def cFix (x : Nat) : Codec Unit where
  rd := fun bs => match bs with | [] => none | b :: r => if b = x then some ((), r) else none
  wr := fun _ => [x]
  ok := fun _ => True
  back := fun _ r _ => by simp
  app := fun bs y r t h => by
    cases bs with
    | nil => cases h
    | cons b s =>
      simp only [List.cons_append] at h ⊢
      split at h
      · cases h; rename_i hp; rw [if_pos hp]
      · cases h
  sound := fun bs y r _ h => by
    cases bs with
    | nil => cases h
    | cons b s =>
      simp only at h
      split at h
      · cases h; exact ⟨trivial, by simp; omega⟩
      · cases h
/-- A byte that is 0 or 1. -/
def cFlag : Codec Bool where
  rd := fun bs => match bs with | [] => none | b :: r => if b ≤ 1 then some (b == 1, r) else none
  wr := fun t => [if t then 1 else 0]
  ok := fun _ => True
  back := fun t r _ => by cases t <;> simp
  app := fun bs y r t h => by
    cases bs with
    | nil => cases h
    | cons b s =>
      simp only [List.cons_append] at h ⊢
      split at h
      · cases h; rename_i hp; rw [if_pos hp]
      · cases h
  sound := fun bs y r _ h => by
    cases bs with
    | nil => cases h
    | cons b s =>
      simp only at h
      split at h
      · cases h; exact ⟨trivial, by simp; omega⟩
      · cases h
/-- Is it text? -/
def cand (bs : List Nat) : Nat :=
  if bs.getD 0 0 < 128 then bs.getD 0 0
  else if bs.getD 0 0 < 224 then (bs.getD 0 0 - 192) * 64 + (bs.getD 1 0 - 128)
  else if bs.getD 0 0 < 240 then (bs.getD 0 0 - 224) * 4096 + (bs.getD 1 0 - 128) * 64 + (bs.getD 2 0 - 128)
  else (bs.getD 0 0 - 240) * 262144 + (bs.getD 1 0 - 128) * 4096 + (bs.getD 2 0 - 128) * 64 + (bs.getD 3 0 - 128)
theorem cand_enc (p : Nat) (r : List Nat) (h : Utf.M.IsP p) : cand (Utf.M.enc p ++ r) = p := by
  have h1 := h.1
  unfold cand
  rcases Utf.M.parts p with a | ⟨a, a'⟩ | ⟨a, a'⟩ | a
  · rw [Utf.M.enc1 a]; simp; omega
  · rw [Utf.M.enc2 a a']; simp
    rw [if_neg (by omega), if_pos (by omega)]; omega
  · rw [Utf.M.enc3 a a']; simp
    rw [if_neg (by omega), if_neg (by omega), if_pos (by omega)]; omega
  · rw [Utf.M.enc4 a]; simp
    rw [if_neg (by omega), if_neg (by omega), if_neg (by omega)]; omega
def isTextN : Nat → List Nat → Bool
  | _, [] => true
  | 0, _ :: _ => false
  | n + 1, b :: r => decide (Utf.M.IsP (cand (b :: r))) && (Utf.M.enc (cand (b :: r))).isPrefixOf (b :: r) && isTextN n ((b :: r).drop (Utf.M.enc (cand (b :: r))).length)
def isText (bs : List Nat) : Bool := isTextN bs.length bs
theorem isTextN_iff : ∀ (n : Nat) (bs : List Nat), bs.length ≤ n → (isTextN n bs = true ↔ ∃ ps, Utf.M.Text bs ps)
  | n, [], _ => by
    cases n <;> exact ⟨fun _ => ⟨[], (fun p hp => by cases hp), rfl⟩, fun _ => rfl⟩
  | 0, b :: r, h => by simp at h
  | n + 1, b :: r, h => by
    constructor
    · intro ht
      simp only [isTextN, Bool.and_eq_true, decide_eq_true_eq, List.isPrefixOf_iff_prefix] at ht
      obtain ⟨⟨h1, s, h2⟩, h3⟩ := ht
      have hne := Utf.M.enc_ne (cand (b :: r))
      have hl : 0 < (Utf.M.enc (cand (b :: r))).length := List.length_pos_iff.2 hne
      obtain ⟨ps, hp1, hp2⟩ := (isTextN_iff n _ (by simp only [List.length_drop]; omega)).1 h3
      refine ⟨cand (b :: r) :: ps, fun q hq => ?_, ?_⟩
      · rcases List.mem_cons.1 hq with rfl | hq
        · exact h1
        · exact hp1 q hq
      · have h4 : (b :: r).drop (Utf.M.enc (cand (b :: r))).length = s := by
          have := congrArg (List.drop (Utf.M.enc (cand (b :: r))).length) h2
          rw [List.drop_left] at this
          exact this.symm
        rw [h4] at hp2
        show b :: r = Utf.M.enc _ ++ Utf.M.encs ps
        rw [← hp2, h2]
    · rintro ⟨ps, hp1, hp2⟩
      cases ps with
      | nil => cases hp2
      | cons p qs =>
        have hp2 : b :: r = Utf.M.enc p ++ Utf.M.encs qs := hp2
        have hP := hp1 p (List.mem_cons_self ..)
        have hc : cand (b :: r) = p := by rw [hp2]; exact cand_enc p _ hP
        have hne := Utf.M.enc_ne p
        have hl : 0 < (Utf.M.enc p).length := List.length_pos_iff.2 hne
        simp only [isTextN, Bool.and_eq_true, decide_eq_true_eq, List.isPrefixOf_iff_prefix, hc]
        refine ⟨⟨hP, Utf.M.encs qs, hp2.symm⟩, ?_⟩
        refine (isTextN_iff n _ (by simp only [List.length_drop]; omega)).2 ⟨qs, fun q hq => hp1 q (List.mem_cons_of_mem _ hq), ?_⟩
        rw [hp2, List.drop_left]
theorem isText_iff (bs : List Nat) : isText bs = true ↔ ∃ ps, Utf.M.Text bs ps := isTextN_iff _ _ (Nat.le_refl _)
def cName : Codec (List Nat) := cIf cPiece isText
def isVal (b : Nat) : Bool := b == 127 || b == 126
def cVal : Codec Int := cByteI isVal
def cVals : Codec (List Int) := cVec cVal 128 (by decide)
structure FT where
  ps : List Int
  rs : List Int
structure Lim where
  mn : Int
  mx : Int
structure Imp where
  mo : List Nat
  na : List Nat
  kd : Int
  ty : Int
  mu : Bool
  lim : Lim
structure Fn where
  ty : Int
  lo : List Int
  bo : L
structure Glo where
  ty : Int
  mu : Bool
  ini : L
structure Exp where
  na : List Nat
  kd : Int
  ix : Int
structure Elm where
  ta : Int
  off : L
  fs : List Int
structure Dat where
  me : Int
  off : L
  bs : List Nat
structure Mod where
  types : List FT
  imports : List Imp
  funcs : List Fn
  tables : List Lim
  memories : List Lim
  globals : List Glo
  exports : List Exp
  start : Int
  elems : List Elm
  datas : List Dat
def cFT : Codec FT := cIf (cMap (cSeq (cFix 96) fun _ => cSeq cVals fun _ => cVals) (fun x => ⟨x.2.1, x.2.2⟩) (fun y => ((), y.ps, y.rs)) (fun _ _ => rfl) (fun _ _ => rfl)) (fun y => decide (y.rs.length ≤ 1))
def cMax : Bool → Codec Int
  | true => cNum
  | false => cPure (-1)
def cLim : Codec Lim := cMap (cSeq cFlag fun b => cSeq cNum fun _ => cMax b) (fun x => ⟨x.2.1, x.2.2⟩) (fun y => (y.mx != -1, y.mn, y.mx))
  (fun x h => by
    obtain ⟨b, mn, mx⟩ := x
    obtain ⟨_, _, h⟩ := h
    cases b with
    | true => have h : inR mx := h; unfold inR at h; simp; omega
    | false => have h : mx = -1 := h; simp [h])
  (fun _ _ => rfl)
def cTab : Codec Lim := cMap (cSeq (cFix 112) fun _ => cLim) (fun x => x.2) (fun y => ((), y)) (fun _ _ => rfl) (fun _ _ => rfl)
/-- Said in other words, of some. -/
def cMapP {α β : Type} (a : Codec α) (f : α → β) (g : β → α) (P : β → Prop) (hg : ∀ x, a.ok x → g (f x) = x) (hf : ∀ y, a.ok (g y) → P y → f (g y) = y) (hP : ∀ x, a.ok x → P (f x)) : Codec β where
  rd := fun bs => (a.rd bs).bind fun p => some (f p.1, p.2)
  wr := fun y => a.wr (g y)
  ok := fun y => a.ok (g y) ∧ P y
  back := fun y r h => by rw [a.back _ _ h.1, Option.bind_some, hf y h.1 h.2]
  app := fun bs x r t h => by
    obtain ⟨⟨x1, r1⟩, h1, h2⟩ := Option.bind_eq_some_iff.1 h
    cases h2
    rw [a.app _ _ _ t h1]
    rfl
  sound := fun bs x r hl h => by
    obtain ⟨⟨x1, r1⟩, h1, h2⟩ := Option.bind_eq_some_iff.1 h
    cases h2
    obtain ⟨q1, q2⟩ := a.sound _ _ _ hl h1
    simp only [hg x1 q1]
    exact ⟨⟨q1, hP x1 q1⟩, q2⟩
/-- What is imported, by its kind. -/
def cWhat (k : Int) : Codec (Int × Bool × Lim) :=
  if k = 0 then cMapP cNum (fun t => (t, false, ⟨0, 0⟩)) (fun y => y.1) (fun y => y.2 = (false, ⟨0, 0⟩)) (fun _ _ => rfl) (fun y _ h => by rw [← h]) (fun _ _ => rfl)
  else if k = 1 then cMapP cTab (fun l => (0, false, l)) (fun y => y.2.2) (fun y => y.1 = 0 ∧ y.2.1 = false) (fun _ _ => rfl) (fun y _ h => by rw [← h.1, ← h.2]) (fun _ _ => ⟨rfl, rfl⟩)
  else if k = 2 then cMapP cLim (fun l => (0, false, l)) (fun y => y.2.2) (fun y => y.1 = 0 ∧ y.2.1 = false) (fun _ _ => rfl) (fun y _ h => by rw [← h.1, ← h.2]) (fun _ _ => ⟨rfl, rfl⟩)
  else if k = 3 then cMapP (cSeq cVal fun _ => cFlag) (fun x => (x.1, x.2, ⟨0, 0⟩)) (fun y => (y.1, y.2.1)) (fun y => y.2.2 = ⟨0, 0⟩) (fun _ _ => rfl) (fun y _ h => by rw [← h]) (fun _ _ => rfl)
  else cFail _
def cImp : Codec Imp := cMap (cSeq cName fun _ => cSeq cName fun _ => cSeq (cByteI fun _ => true) fun k => cWhat k) (fun x => ⟨x.1, x.2.1, x.2.2.1, x.2.2.2.1, x.2.2.2.2.1, x.2.2.2.2.2⟩) (fun y => (y.mo, y.na, y.kd, y.ty, y.mu, y.lim)) (fun _ _ => rfl) (fun _ _ => rfl)
def isConst : L → Bool
  | .cons h _ _ .nil => h.op == 65 || h.op == 66 || h.op == 35
  | _ => false
def cConst : Codec L := cIf cExpr isConst
def cGlo : Codec Glo := cMap (cSeq cVal fun _ => cSeq cFlag fun _ => cConst) (fun x => ⟨x.1, x.2.1, x.2.2⟩) (fun y => (y.ty, y.mu, y.ini)) (fun _ _ => rfl) (fun _ _ => rfl)
def cExp : Codec Exp := cMap (cSeq cName fun _ => cSeq (cByteI fun b => decide (b ≤ 3)) fun _ => cNum) (fun x => ⟨x.1, x.2.1, x.2.2⟩) (fun y => (y.na, y.kd, y.ix)) (fun _ _ => rfl) (fun _ _ => rfl)
def cElm : Codec Elm := cMap (cSeq cNum fun _ => cSeq cConst fun _ => cVec cNum 128 (by decide)) (fun x => ⟨x.1, x.2.1, x.2.2⟩) (fun y => (y.ta, y.off, y.fs)) (fun _ _ => rfl) (fun _ _ => rfl)
def cDat : Codec Dat := cMap (cSeq cNum fun _ => cSeq cConst fun _ => cPiece) (fun x => ⟨x.1, x.2.1, x.2.2⟩) (fun y => (y.me, y.off, y.bs)) (fun _ _ => rfl) (fun _ _ => rfl)
/-- Numbers that are alike side by side. -/
def runs : List Int → List (Nat × Int)
  | [] => []
  | x :: t => match runs t with
    | [] => [(1, x)]
    | (c, y) :: r => if y = x then (c + 1, x) :: r else (1, x) :: (c, y) :: r
def spread : List (Nat × Int) → List Int
  | [] => []
  | (c, y) :: r => List.replicate c y ++ spread r
theorem spread_runs : ∀ l, spread (runs l) = l
  | [] => rfl
  | x :: t => by
    have ih := spread_runs t
    unfold runs
    cases h : runs t with
    | nil => rw [h] at ih; rw [← ih]; rfl
    | cons a r =>
      obtain ⟨c, y⟩ := a
      rw [h] at ih
      simp only
      split
      · rename_i e; subst e; rw [← ih]; simp [spread, List.replicate_succ]
      · rw [← ih]; simp [spread]
theorem runs_pair (x : Int) (t : List Int) : ∃ c r, runs (x :: t) = (c, x) :: r := by
  rw [runs]
  cases runs t with
  | nil => exact ⟨1, [], rfl⟩
  | cons a r =>
    obtain ⟨c, y⟩ := a
    simp only
    split
    · exact ⟨_, _, rfl⟩
    · exact ⟨_, _, rfl⟩
theorem runs_same (x : Int) (t : List Int) : (runs (x :: x :: t)).length = (runs (x :: t)).length := by
  obtain ⟨c, r, h⟩ := runs_pair x t
  rw [runs, h]
  simp
theorem runs_cons (x : Int) (t : List Int) : (runs (x :: t)).length ≤ (runs t).length + 1 := by
  rw [runs]
  cases runs t with
  | nil => simp
  | cons a r =>
    obtain ⟨c, y⟩ := a
    simp only
    split <;> simp
theorem runs_rep (x : Int) (l : List Int) : ∀ c, (runs (List.replicate c x ++ l)).length ≤ (runs l).length + 1
  | 0 => by simp
  | 1 => runs_cons x l
  | c + 2 => by
    have := runs_rep x l (c + 1)
    simp only [List.replicate_succ, List.cons_append] at this ⊢
    rw [runs_same]
    exact this
theorem runs_spread : ∀ gs : List (Nat × Int), (runs (spread gs)).length ≤ gs.length
  | [] => by simp [spread, runs]
  | (c, y) :: r => by
    have h1 := runs_rep y (spread r) c
    have h2 := runs_spread r
    simp only [spread, List.length_cons]
    omega
theorem runs_len : ∀ l, ∀ g ∈ runs l, 1 ≤ g.1 ∧ g.1 ≤ l.length ∧ g.2 ∈ l
  | [], g, hg => by cases hg
  | x :: t, g, hg => by
    have ih := runs_len t
    rw [runs] at hg
    cases h : runs t with
    | nil => rw [h] at hg; simp at hg; subst hg; simp
    | cons a r =>
      obtain ⟨c, y⟩ := a
      rw [h] at hg ih
      simp only at hg
      split at hg
      · rename_i e
        subst e
        rcases List.mem_cons.1 hg with rfl | hg
        · have := ih (c, y) (List.mem_cons_self ..)
          simp at this ⊢; omega
        · have := ih g (List.mem_cons_of_mem _ hg)
          simp at this ⊢; exact ⟨this.1, by omega, .inr this.2.2⟩
      · rcases List.mem_cons.1 hg with rfl | hg
        · simp
        · have := ih g hg
          simp at this ⊢; exact ⟨this.1, by omega, .inr this.2.2⟩
def wGroups : List (Nat × Int) → List Nat
  | [] => []
  | (c, y) :: r => U c ++ [y.toNat] ++ wGroups r
def rGroups : Nat → List Int → List Nat → Option (List Int × List Nat)
  | 0, acc, bs => some (acc, bs)
  | n + 1, acc, bs => (num bs).bind fun c => (cVal.rd c.2).bind fun v => if c.1 ≤ 64 - (acc.length : Int) then rGroups n (acc ++ List.replicate c.1.toNat v.1) v.2 else none
theorem groups_back (r : List Nat) : ∀ (gs : List (Nat × Int)) (acc : List Int), acc.length + (spread gs).length ≤ 64 → (∀ g ∈ gs, cVal.ok g.2) → rGroups gs.length acc (wGroups gs ++ r) = some (acc ++ spread gs, r)
  | [], acc, _, _ => by simp [rGroups, wGroups, spread]
  | (c, y) :: t, acc, h, hv => by
    have hl : (List.replicate c y).length = c := by simp
    simp only [spread, List.length_append, hl] at h
    simp only [List.length_cons, rGroups, wGroups, List.append_assoc]
    rw [num_back _ _ ⟨by omega, by omega⟩, Option.bind_some]
    have h1 := cVal.back y (wGroups t ++ r) (hv (c, y) (List.mem_cons_self ..))
    have h1 : cVal.rd ([y.toNat] ++ (wGroups t ++ r)) = some (y, wGroups t ++ r) := h1
    simp only [h1, Option.bind_some]
    rw [if_pos (by omega), Int.toNat_natCast, groups_back r t _ (by simp only [List.length_append, hl]; omega) (fun g hg => hv g (List.mem_cons_of_mem _ hg)), spread, List.append_assoc]
theorem groups_app (t : List Nat) : ∀ (n : Nat) (acc : List Int) (bs : List Nat) (xs : List Int) (r : List Nat), rGroups n acc bs = some (xs, r) → rGroups n acc (bs ++ t) = some (xs, r ++ t)
  | 0, acc, bs, xs, r, h => by cases h; rfl
  | n + 1, acc, bs, xs, r, h => by
    obtain ⟨⟨c, r1⟩, h1, h2⟩ := Option.bind_eq_some_iff.1 h
    obtain ⟨⟨v, r2⟩, h3, h4⟩ := Option.bind_eq_some_iff.1 h2
    simp only at h4
    split at h4
    · rename_i hc
      simp only [rGroups]
      rw [num_app t h1, Option.bind_some]
      simp only
      rw [cVal.app _ _ _ t h3, Option.bind_some]
      simp only
      rw [if_pos hc]
      exact groups_app t n _ _ _ _ h4
    · cases h4
theorem groups_sound : ∀ (n : Nat) (acc : List Int) (bs : List Nat) (xs : List Int) (r : List Nat), bs.length ≤ 2147483648 → acc.length ≤ 64 → rGroups n acc bs = some (xs, r) →
    ∃ gs : List (Nat × Int), gs.length = n ∧ xs = acc ++ spread gs ∧ xs.length ≤ 64 ∧ (∀ x ∈ spread gs, cVal.ok x) ∧ 2 * n + r.length ≤ bs.length
  | 0, acc, bs, xs, r, _, ha, h => by cases h; exact ⟨[], rfl, by simp [spread], ha, (fun x hx => by cases hx), by omega⟩
  | n + 1, acc, bs, xs, r, hl, ha, h => by
    obtain ⟨⟨c, r1⟩, h1, h2⟩ := Option.bind_eq_some_iff.1 h
    obtain ⟨⟨v, r2⟩, h3, h4⟩ := Option.bind_eq_some_iff.1 h2
    simp only at h4
    split at h4
    · rename_i hc
      obtain ⟨q1, q2, q3⟩ := num_short h1
      unfold inR at q1
      have h3' : cVal.rd r1 = some (v, r2) := h3
      obtain ⟨q4, q5⟩ := cVal.sound _ _ _ (by omega) h3'
      have q5' : 1 + r2.length ≤ r1.length := q5
      have hl2 : (acc ++ List.replicate c.toNat v).length ≤ 64 := by simp; omega
      obtain ⟨gs, g1, g2, g3, g4, g5⟩ := groups_sound n _ _ _ _ (by omega) hl2 h4
      refine ⟨(c.toNat, v) :: gs, by simp [g1], by rw [g2]; simp [spread], g3, fun x hx => ?_, by omega⟩
      simp only [spread, List.mem_append] at hx
      rcases hx with hx | hx
      · have := List.eq_of_mem_replicate hx
        subst this
        exact q4
      · exact g4 x hx
    · cases h4
theorem wGroups_len : ∀ gs : List (Nat × Int), (∀ g ∈ gs, g.1 ≤ 64) → (wGroups gs).length ≤ 2 * gs.length
  | [], _ => by simp [wGroups]
  | (c, y) :: t, h => by
    have h1 := wGroups_len t (fun g hg => h g (List.mem_cons_of_mem _ hg))
    have h2 := h (c, y) (List.mem_cons_self ..)
    have h3 := U_short (c : Int) 0 (by omega) (by simp at h2 ⊢; omega)
    simp only [wGroups, List.length_append, List.length_cons, List.length_nil]
    omega
def cLocals : Codec (List Int) where
  rd := fun bs => (num bs).bind fun p => rGroups p.1.toNat [] p.2
  wr := fun l => U (runs l).length ++ wGroups (runs l)
  ok := fun l => l.length ≤ 64 ∧ ∀ x ∈ l, cVal.ok x
  back := fun l r h => by
    have hr : (runs l).length ≤ 64 := by
      have h1 := runs_spread (l.map fun x => (1, x))
      have e : spread (l.map fun x => (1, x)) = l := by
        have : ∀ l : List Int, spread (l.map fun x => (1, x)) = l := fun l => by
          induction l with
          | nil => rfl
          | cons a t ih => simp [spread, ih]
        exact this l
      rw [e, List.length_map] at h1
      have := h.1
      omega
    rw [List.append_assoc, num_back _ _ ⟨by omega, by omega⟩, Option.bind_some, Int.toNat_natCast]
    have := groups_back r (runs l) [] (by rw [spread_runs]; simpa using h.1) (fun g hg => h.2 _ (runs_len l g hg).2.2)
    rw [spread_runs] at this
    exact this
  app := fun bs x r t h => by
    obtain ⟨⟨c, r1⟩, h1, h2⟩ := Option.bind_eq_some_iff.1 h
    rw [num_app t h1, Option.bind_some]
    exact groups_app t _ _ _ _ _ h2
  sound := fun bs x r hl h => by
    obtain ⟨⟨c, r1⟩, h1, h2⟩ := Option.bind_eq_some_iff.1 h
    obtain ⟨q1, q2, q3⟩ := num_short h1
    unfold inR at q1
    have h2' : rGroups c.toNat [] r1 = some (x, r) := h2
    obtain ⟨gs, g1, g2, g3, g4, g5⟩ := groups_sound _ _ _ _ _ (by omega) (by simp) h2'
    rw [List.nil_append] at g2
    refine ⟨⟨g3, fun y hy => g4 y (by rw [← g2]; exact hy)⟩, ?_⟩
    have h3 := runs_spread gs
    rw [← g2] at h3
    have h4 := wGroups_len (runs x) (fun g hg => by have := (runs_len x g hg).2.1; omega)
    have h5 := U_mono (n := (runs x).length) (m := c.toNat) (by omega)
    have h6 : ((c.toNat : Nat) : Int) = c := by omega
    rw [h6] at h5
    rw [List.length_append]
    omega
def cBody : Codec (List Int × L) := cSized (cSeq cLocals fun _ => cExpr)
/-- A module of which some sections have been read. -/
structure Dr where
  m : Mod
  bodies : List (List Int × L)
def mod0 : Mod := ⟨[], [], [], [], [], [], [], -1, [], []⟩
def dr0 : Dr := ⟨mod0, []⟩
def upd (d : Dr) (f : Mod → Mod) : Dr := ⟨f d.m, d.bodies⟩
def vec {α : Type} (c : Codec α) : Codec (List α) := cVec c 128 (by decide)
/-- A section, by its id: what is known behind it, and what it has left. -/
def sec (id : Nat) (d : Dr) (bs : List Nat) : Option (Dr × List Nat) :=
  match id with
  | 0 => (cName.rd bs).bind fun _ => some (d, [])
  | 1 => ((vec cFT).rd bs).bind fun x => some (⟨{ d.m with types := x.1 }, d.bodies⟩, x.2)
  | 2 => ((vec cImp).rd bs).bind fun x => some (⟨{ d.m with imports := x.1 }, d.bodies⟩, x.2)
  | 3 => ((vec cNum).rd bs).bind fun x => some (⟨{ d.m with funcs := x.1.map fun t => ⟨t, [], .nil⟩ }, d.bodies⟩, x.2)
  | 4 => ((vec cTab).rd bs).bind fun x => some (⟨{ d.m with tables := x.1 }, d.bodies⟩, x.2)
  | 5 => ((vec cLim).rd bs).bind fun x => some (⟨{ d.m with memories := x.1 }, d.bodies⟩, x.2)
  | 6 => ((vec cGlo).rd bs).bind fun x => some (⟨{ d.m with globals := x.1 }, d.bodies⟩, x.2)
  | 7 => ((vec cExp).rd bs).bind fun x => some (⟨{ d.m with exports := x.1 }, d.bodies⟩, x.2)
  | 8 => (num bs).bind fun x => some (⟨{ d.m with start := x.1 }, d.bodies⟩, x.2)
  | 9 => ((vec cElm).rd bs).bind fun x => some (⟨{ d.m with elems := x.1 }, d.bodies⟩, x.2)
  | 10 => ((vec cBody).rd bs).bind fun x => some (⟨d.m, x.1⟩, x.2)
  | 11 => ((vec cDat).rd bs).bind fun x => some (⟨{ d.m with datas := x.1 }, d.bodies⟩, x.2)
  | _ => none
def secs : Nat → Nat → Dr → List Nat → Option Dr
  | _, _, d, [] => some d
  | 0, _, _, _ :: _ => none
  | n + 1, last, d, b :: r =>
    if 12 ≤ b ∨ (b ≠ 0 ∧ b ≤ last) then none
    else (cPiece.rd r).bind fun p => (sec b d p.1).bind fun q => match q.2 with | [] => secs n (max last b) q.1 p.2 | _ => none
def joinF : List Fn → List (List Int × L) → List Fn
  | f :: fs, b :: bs => ⟨f.ty, b.1, b.2⟩ :: joinF fs bs
  | _, _ => []
def join (d : Dr) : Option Mod := if d.bodies.length = d.m.funcs.length then some { d.m with funcs := joinF d.m.funcs d.bodies } else none
def header : List Nat := [0, 97, 115, 109, 1, 0, 0, 0]
def rdHead : List Nat → List Nat → Option (List Nat)
  | [], bs => some bs
  | _ :: _, [] => none
  | x :: t, b :: r => if b = x then rdHead t r else none
/-- A module's bytes. -/
def rdMod (bs : List Nat) : Option Mod := if 65536 < bs.length then none else (rdHead header bs).bind fun r => (secs r.length 0 dr0 r).bind join
theorem secs_fuel : ∀ (n m last : Nat) (d : Dr) (bs : List Nat), bs.length ≤ n → bs.length ≤ m → secs n last d bs = secs m last d bs
  | n, m, last, d, [], _, _ => by cases n <;> cases m <;> rfl
  | 0, m, last, d, b :: r, h, _ => by simp at h
  | n + 1, 0, last, d, b :: r, _, h => by simp at h
  | n + 1, m + 1, last, d, b :: r, h1, h2 => by
    simp only [List.length_cons] at h1 h2
    simp only [secs]
    split
    · rfl
    · cases hp : cPiece.rd r with
      | none => rfl
      | some p =>
        obtain ⟨x, r1⟩ := p
        have hs : r1.length ≤ r.length := by
          unfold cPiece at hp
          simp only at hp
          obtain ⟨⟨v, r2⟩, h3, h4⟩ := Option.bind_eq_some_iff.1 hp
          have := (num_short h3).2.2
          simp only at h4
          split at h4
          · cases h4; rw [List.length_drop]; omega
          · cases h4
        simp only [Option.bind_some]
        cases sec b d x with
        | none => rfl
        | some q =>
          simp only [Option.bind_some]
          cases q.2 with
          | nil => exact secs_fuel n m _ _ _ (by omega) (by omega)
          | cons => rfl
end Go.Proofs.YtmejgbbdehndaaaGreat.M
