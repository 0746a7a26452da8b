/-
  Plain facts on instructions and their bytes: which may be, what their bytes are, what bytes are read as; that what is written is read, that no beginning is, and that what is read is written no longer. No condition; nothing of the program is named here.
-/
import Derived.Test.YtjapcalndolamaaLMathB
namespace Go.Proofs.Ytjapcalndolamaa.M
/-- What an instruction has of its own: its byte and its numbers. -/
structure Hd where
  op : Int
  ty : Int
  ix : Int
  al : Int
  ofs : Int
  val : Int
  labels : List Int
/-- Instructions, one behind the other, each with its body and what stands behind else. -/
inductive L where
  | nil : L
  | cons (h : Hd) (b e r : L) : L
def L.len : L → Nat
  | .nil => 0
  | .cons _ _ _ r => r.len + 1
/-- How much they weigh: instructions and labels, all of them. -/
def L.sz : L → Nat
  | .nil => 0
  | .cons h b e r => h.labels.length + b.sz + e.sz + r.sz + 1
def L.nth : L → Nat → Option (Hd × L × L)
  | .nil, _ => none
  | .cons h b e _, 0 => some (h, b, e)
  | .cons _ _ _ r, k + 1 => r.nth k
def L.app : L → L → L
  | .nil, m => m
  | .cons h b e r, m => .cons h b e (r.app m)
/-- What stands behind an instruction's byte: its kind; 0: it is none. -/
def kind (op : Int) : Nat :=
  if op = 0 ∨ op = 1 ∨ op = 15 ∨ op = 26 ∨ op = 27 then 1
  else if 2 ≤ op ∧ op ≤ 4 then 2
  else if op = 12 ∨ op = 13 ∨ op = 16 ∨ (32 ≤ op ∧ op ≤ 36) then 3
  else if op = 14 then 4
  else if op = 17 then 5
  else if op = 40 ∨ op = 41 ∨ (44 ≤ op ∧ op ≤ 55) ∨ (58 ≤ op ∧ op ≤ 62) then 6
  else if op = 63 ∨ op = 64 then 7
  else if op = 65 then 8
  else if op = 66 then 9
  else if (69 ≤ op ∧ op ≤ 90) ∨ (103 ≤ op ∧ op ≤ 138) ∨ op = 167 ∨ op = 172 ∨ op = 173 then 1
  else 0
theorem kind_le (op : Int) : kind op ≤ 9 := by
  unfold kind
  repeat' split
  all_goals omega
theorem kind_op (op : Int) (h : kind op ≠ 0) : 0 ≤ op ∧ op < 256 := by
  unfold kind at h
  repeat' (split at h)
  all_goals omega
theorem kind_small (op : Int) : kind op = 8 ↔ op = 65 := by
  unfold kind
  repeat' split
  all_goals omega
theorem kind_block (op : Int) : kind op = 2 ↔ 2 ≤ op ∧ op ≤ 4 := by
  unfold kind
  repeat' split
  all_goals omega
theorem kind_5 : kind 5 = 0 := by decide
theorem kind_11 : kind 11 = 0 := by decide
theorem kind_cases (op : Int) : kind op = 0 ∨ kind op = 1 ∨ kind op = 2 ∨ kind op = 3 ∨ kind op = 4 ∨ kind op = 5 ∨ kind op = 6 ∨ kind op = 7 ∨ kind op = 8 ∨ kind op = 9 := by
  have := kind_le op
  omega
def tyOk (t : Int) : Prop := t = 64 ∨ t = 127 ∨ t = 126
instance (t : Int) : Decidable (tyOk t) := by unfold tyOk; infer_instance
def inR (n : Int) : Prop := 0 ≤ n ∧ n < 4294967296
instance (t : Int) : Decidable (inR t) := by unfold inR; infer_instance
def hd0 (op : Int) : Hd := ⟨op, 0, 0, 0, 0, 0, []⟩
/-- Whether an instruction's own numbers may be, by its kind. -/
def flatK (k : Nat) (h : Hd) : Prop :=
  match k with
  | 1 => h = hd0 h.op
  | 2 => h = { hd0 h.op with ty := h.ty } ∧ tyOk h.ty
  | 3 => h = { hd0 h.op with ix := h.ix } ∧ inR h.ix
  | 4 => h = { hd0 h.op with ix := h.ix, labels := h.labels } ∧ inR h.ix ∧ ∀ x ∈ h.labels, inR x
  | 5 => h = { hd0 h.op with ix := h.ix } ∧ inR h.ix
  | 6 => h = { hd0 h.op with al := h.al, ofs := h.ofs } ∧ inR h.al ∧ inR h.ofs
  | 7 => h = hd0 h.op
  | 8 => h = { hd0 h.op with val := h.val } ∧ -2147483648 ≤ h.val ∧ h.val < 2147483648
  | 9 => h = { hd0 h.op with val := h.val } ∧ -9223372036854775808 ≤ h.val ∧ h.val < 9223372036854775808
  | _ => False
def flat (h : Hd) : Prop := flatK (kind h.op) h
theorem flat_of {h : Hd} {k : Nat} (hk : kind h.op = k) (hf : flatK k h) : flat h := by unfold flat; rw [hk]; exact hf
theorem flat_to {h : Hd} {k : Nat} (hk : kind h.op = k) (hf : flat h) : flatK k h := by unfold flat at hf; rw [hk] at hf; exact hf
/-- Whether they may be, with so many blocks around them still to come. -/
def ok : Nat → L → Prop
  | _, .nil => True
  | d, .cons h b e r => flat h ∧ (kind h.op = 2 → 0 < d ∧ ok (d - 1) b ∧ ok (d - 1) e) ∧ (kind h.op ≠ 2 → b = .nil) ∧ (h.op ≠ 4 → e = .nil) ∧ ok d r
def U (n : Int) : List Nat := putU 10 n.toNat
def Us : List Int → List Nat
  | [] => []
  | x :: t => U x ++ Us t
def S (n : Int) : List Nat := putS 10 n
/-- The bytes. -/
def enc : L → List Nat
  | .nil => []
  | .cons h b e r =>
    h.op.toNat :: ((match kind h.op with
      | 2 => h.ty.toNat :: (enc b ++ (match e with | .nil => [] | .cons .. => 5 :: enc e) ++ [11])
      | 3 => U h.ix
      | 4 => U h.labels.length ++ Us h.labels ++ U h.ix
      | 5 => U h.ix ++ [0]
      | 6 => U h.al ++ U h.ofs
      | 7 => [0]
      | 8 => S h.val
      | 9 => S h.val
      | _ => []) ++ enc r)
def bf (bs : List Nat) : Nat → Nat := fun i => bs.getD i 0
def num (bs : List Nat) : Option (Int × List Nat) :=
  if lenOf (bf bs) (min bs.length 5) ≠ 0 ∧ low (bf bs) (lenOf (bf bs) (min bs.length 5)) < 4294967296 then
    some ((low (bf bs) (lenOf (bf bs) (min bs.length 5)) : Nat), bs.drop (lenOf (bf bs) (min bs.length 5))) else none
def sgn (b : Nat) (bs : List Nat) : Option (Int × List Nat) :=
  if lenOf (bf bs) (min bs.length ((b + 6) / 7)) ≠ 0 ∧ (-2 ^ (b - 1) ≤ sval (bf bs) (lenOf (bf bs) (min bs.length ((b + 6) / 7))) ∧ sval (bf bs) (lenOf (bf bs) (min bs.length ((b + 6) / 7))) < 2 ^ (b - 1)) then
    some (sval (bf bs) (lenOf (bf bs) (min bs.length ((b + 6) / 7))), bs.drop (lenOf (bf bs) (min bs.length ((b + 6) / 7)))) else none
def nums : Nat → List Nat → Option (List Int × List Nat)
  | 0, bs => some ([], bs)
  | k + 1, bs => (num bs).bind fun p => (nums k p.2).bind fun q => some (p.1 :: q.1, q.2)
theorem bf_app (bs x : List Nat) (i : Nat) (h : i < bs.length) : bf (bs ++ x) i = bf bs i := by
  simp [bf, List.getD_eq_getElem?_getD, List.getElem?_append_left h]
/-- What is read as a number: how many bytes. -/
theorem lenOf_app (bs x : List Nat) (m : Nat) (h : lenOf (bf bs) (min bs.length m) ≠ 0) : lenOf (bf (bs ++ x)) (min (bs ++ x).length m) = lenOf (bf bs) (min bs.length m) := by
  have h1 : lenOf (bf (bs ++ x)) (min bs.length m) = lenOf (bf bs) (min bs.length m) := lenOf_congr fun i hi => bf_app bs x i (by omega)
  rw [← h1]
  exact lenOf_stays (by rw [h1]; exact h) (by simp; omega)
theorem dig_congr {f g : Nat → Nat} {n : Nat} (h : f (n - 1) = g (n - 1)) : dig f n = dig g n := by unfold dig; rw [h]
theorem sval_congr {f g : Nat → Nat} {n : Nat} (h1 : 1 ≤ n) (h : ∀ i, i < n → f i = g i) : sval f n = sval g n := by
  unfold sval
  rw [dig_congr (h (n - 1) (by omega)), low_congr fun i hi => h i (by omega)]
theorem num_app {bs r : List Nat} {v : Int} (x : List Nat) (h : num bs = some (v, r)) : num (bs ++ x) = some (v, r ++ x) := by
  unfold num at h
  split at h
  case isFalse => cases h
  case isTrue hc =>
    have h2 := lenOf_le (bf bs) (min bs.length 5)
    have h1 := lenOf_app bs x 5 hc.1
    have h3 : low (bf (bs ++ x)) (lenOf (bf bs) (min bs.length 5)) = low (bf bs) (lenOf (bf bs) (min bs.length 5)) := low_congr fun i hi => bf_app bs x i (by omega)
    unfold num
    rw [h1, h3, if_pos hc, List.drop_append_of_le_length (by omega)]
    simp only [Option.some.injEq, Prod.mk.injEq] at h ⊢
    exact ⟨h.1, by rw [h.2]⟩
theorem sgn_app {b : Nat} {bs r : List Nat} {v : Int} (x : List Nat) (h : sgn b bs = some (v, r)) : sgn b (bs ++ x) = some (v, r ++ x) := by
  unfold sgn at h
  split at h
  case isFalse => cases h
  case isTrue hc =>
    have h2 := lenOf_le (bf bs) (min bs.length ((b + 6) / 7))
    have h1 := lenOf_app bs x ((b + 6) / 7) hc.1
    have h3 : sval (bf (bs ++ x)) (lenOf (bf bs) (min bs.length ((b + 6) / 7))) = sval (bf bs) (lenOf (bf bs) (min bs.length ((b + 6) / 7))) := sval_congr (by have := hc.1; omega) fun i hi => bf_app bs x i (by omega)
    unfold sgn
    rw [h1, h3, if_pos hc, List.drop_append_of_le_length (by omega)]
    simp only [Option.some.injEq, Prod.mk.injEq] at h ⊢
    exact ⟨h.1, by rw [h.2]⟩
theorem num_back (v : Int) (r : List Nat) (h : inR v) : num (U v ++ r) = some (v, r) := by
  obtain ⟨n, rfl⟩ := Int.eq_ofNat_of_zero_le h.1
  have hn : n < 4294967296 := by have := h.2; omega
  have hU : U (n : Int) = putU 10 n := by unfold U; rw [Int.toNat_natCast]
  rw [hU]
  have h1 := putU_groups n 32 (by omega) (by simpa using hn)
  have h2 := putU_length 10 n
  have hf : ∀ i, i < (putU 10 n).length → bf (putU 10 n ++ r) i = (putU 10 n).getD i 0 := fun i hi => bf_app _ _ _ hi
  have hfl := putU_flags10 n (by omega)
  have hL : lenOf (bf (putU 10 n ++ r)) (min (putU 10 n ++ r).length 5) = (putU 10 n).length := by
    refine lenOf_full (by omega) (fun i hi => ?_) ?_ _ ?_
    · rw [hf i (by omega)]; exact (hfl i (by omega)).2 hi
    · rw [hf _ (by omega)]
      have := hfl ((putU 10 n).length - 1) (by omega)
      omega
    · simp; omega
  have hlow := low_putU10 n (bf (putU 10 n ++ r)) (by omega) hf
  unfold num
  rw [hL, hlow, if_pos ⟨by omega, hn⟩, List.drop_left]
theorem sgn_back (b : Nat) (v : Int) (r : List Nat) (h1 : 1 ≤ b) (h2 : b ≤ 64) (h : -2 ^ (b - 1) ≤ v ∧ v < 2 ^ (b - 1)) : sgn b (S v ++ r) = some (v, r) := by
  have h63 : (2 : Int) ^ (b - 1) ≤ 9223372036854775808 := by
    have := Nat.pow_le_pow_right (n := 2) (by omega) (show b - 1 ≤ 63 by omega)
    have h3 : (2 : Nat) ^ 63 = 9223372036854775808 := by decide
    rw [h3] at this
    rw [← pow_int]; omega
  unfold S
  have h3 := putS_groups v b h1 h
  have h4 := putS_length 10 v
  have hf : ∀ i, i < (putS 10 v).length → bf (putS 10 v ++ r) i = (putS 10 v).getD i 0 := fun i hi => bf_app _ _ _ hi
  have hfl := putS_flags10 v (by omega)
  have hL : lenOf (bf (putS 10 v ++ r)) (min (putS 10 v ++ r).length ((b + 6) / 7)) = (putS 10 v).length := by
    refine lenOf_full (by omega) (fun i hi => ?_) ?_ _ ?_
    · rw [hf i (by omega)]; exact (hfl i (by omega)).2 hi
    · rw [hf _ (by omega)]
      have := hfl ((putS 10 v).length - 1) (by omega)
      omega
    · simp; omega
  have hlow := sval_putS10 v (bf (putS 10 v ++ r)) (by omega) hf
  unfold sgn
  rw [hL, hlow, if_pos ⟨by omega, h⟩, List.drop_left]
theorem num_short {bs r : List Nat} {v : Int} (h : num bs = some (v, r)) : inR v ∧ (U v).length + r.length ≤ bs.length ∧ r.length < bs.length := by
  unfold num at h
  split at h
  case isFalse => cases h
  case isTrue hc =>
    simp only [Option.some.injEq, Prod.mk.injEq] at h
    obtain ⟨rfl, rfl⟩ := h
    have h2 := lenOf_le (bf bs) (min bs.length 5)
    obtain ⟨hn, hlt⟩ := hc
    generalize lenOf (bf bs) (min bs.length 5) = n at *
    have h3 := low_lt (bf bs) n
    obtain ⟨m, rfl⟩ : ∃ m, n = m + 1 := ⟨n - 1, by omega⟩
    have h4 := putU_short m 10 (low (bf bs) (m + 1)) (by rw [show 7 * (m + 1) = (m + 1) * 7 by omega]; exact h3)
    refine ⟨⟨by omega, by omega⟩, ?_, ?_⟩
    · unfold U
      rw [Int.toNat_natCast, List.length_drop]
      omega
    · rw [List.length_drop]; omega
theorem sgn_short {b : Nat} {bs r : List Nat} {v : Int} (h : sgn b bs = some (v, r)) : (-2 ^ (b - 1) ≤ v ∧ v < 2 ^ (b - 1)) ∧ (S v).length + r.length ≤ bs.length ∧ r.length < bs.length := by
  unfold sgn at h
  split at h
  case isFalse => cases h
  case isTrue hc =>
    simp only [Option.some.injEq, Prod.mk.injEq] at h
    obtain ⟨rfl, rfl⟩ := h
    have h2 := lenOf_le (bf bs) (min bs.length ((b + 6) / 7))
    obtain ⟨hn, hlt⟩ := hc
    have hs := (lenOf_spec (bf bs) _ hn).2.2.1
    generalize lenOf (bf bs) (min bs.length ((b + 6) / 7)) = n at *
    obtain ⟨m, rfl⟩ : ∃ m, n = m + 1 := ⟨n - 1, by omega⟩
    refine ⟨hlt, ?_, ?_⟩
    · have h5 : -2 ^ (7 * m + 6) ≤ sval (bf bs) (m + 1) ∧ sval (bf bs) (m + 1) < 2 ^ (7 * m + 6) := by
        have h6 : (low (bf bs) m : Int) < 2 ^ (m * 7) := by rw [← pow_int]; have := low_lt (bf bs) m; omega
        have h7 : (2 : Int) ^ (7 * m + 6) = 64 * 2 ^ (m * 7) := by rw [Int.pow_add, show 7 * m = m * 7 by omega, Int.mul_comm]; rfl
        have h8 : -64 ≤ dig (bf bs) (m + 1) ∧ dig (bf bs) (m + 1) ≤ 63 := by unfold dig; split <;> omega
        have hp := pow_pos_int (m * 7)
        unfold sval
        rw [h7]
        simp only [Nat.add_sub_cancel]
        generalize dig (bf bs) (m + 1) = D at *
        generalize (2 : Int) ^ (m * 7) = R at *
        have h9 : -64 * R ≤ D * R := Int.mul_le_mul_of_nonneg_right h8.1 (Int.le_of_lt hp)
        have h10 : D * R ≤ 63 * R := Int.mul_le_mul_of_nonneg_right h8.2 (Int.le_of_lt hp)
        omega
      have h4 := putS_short m 10 _ h5
      unfold S
      rw [List.length_drop]
      omega
    · rw [List.length_drop]; omega
end Go.Proofs.Ytjapcalndolamaa.M
