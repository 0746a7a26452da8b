/-
  Plain facts: an instruction read part by part, in the order of the parts' bits, is the instruction that is read at once. No condition; nothing of the program is called here.
-/
import Derived.Test.YtmejgbbdehndaaaGreatChk3
namespace Go.Proofs.YtmejgbbdehndaaaGreat
namespace M
/-- What has been read of an instruction, and what is left of the bytes. -/
structure Stt where
  r : List Nat
  h : Hd
  b : L
  e : L
def wd (op : Int) : Nat := if op = 65 then 32 else 64
/-- One part. -/
def rdPart (sub : Rd) (k : Nat) (s : Stt) : Option Stt :=
  match k with
  | 0 => match s.r with
    | [] => none
    | t :: r => if tyOk t then some { s with r := r, h := { s.h with ty := t } } else none
  | 1 => (num s.r).bind fun c => (nums c.1.toNat c.2).bind fun t => some { s with r := t.2, h := { s.h with labels := t.1 } }
  | 2 => (num s.r).bind fun p => some { s with r := p.2, h := { s.h with ix := p.1 } }
  | 3 => (num s.r).bind fun p => some { s with r := p.2, h := { s.h with al := p.1 } }
  | 4 => (num s.r).bind fun p => some { s with r := p.2, h := { s.h with ofs := p.1 } }
  | 5 => (zeroB s.r).bind fun r => some { s with r := r }
  | 6 => (sgn (wd s.h.op) s.r).bind fun p => some { s with r := p.2, h := { s.h with val := p.1 } }
  | 7 => (sub s.r).bind fun p => some { s with r := p.2, b := p.1 }
  | 8 => match s.r with
    | [] => some s
    | x :: r => if x = 5 then (sub r).bind fun p => some { s with r := p.2, e := p.1 } else some s
  | 9 => (endB s.r).bind fun r => some { s with r := r }
  | _ => some s
/-- The parts from the last n on. -/
def rdAll (sub : Rd) (m : Nat) : Nat → Stt → Option Stt
  | 0, s => some s
  | n + 1, s => if hasB m (9 - n) then (rdPart sub (9 - n) s).bind (rdAll sub m n) else rdAll sub m n s
theorem rd_at (sub : Rd) (m k : Nat) (s : Stt) (hk : k < 10) : rdAll sub m (10 - k) s = if hasB m k then (rdPart sub k s).bind (rdAll sub m (10 - (k + 1))) else rdAll sub m (10 - (k + 1)) s := by
  obtain ⟨n, hn⟩ : ∃ n, 10 - k = n + 1 := ⟨9 - k, by omega⟩
  rw [hn, rdAll, show 9 - n = k by omega, show 10 - (k + 1) = n by omega]
theorem rd_ins (sub : Rd) (op : Nat) (bs : List Nat) (hk : kind op ≠ 0) :
    rdAll sub (mask op) 10 ⟨bs, hd0 op, .nil, .nil⟩ = (ins sub op bs).bind fun p => some ⟨p.2, p.1.1, p.1.2.1, p.1.2.2⟩ := by
  unfold ins
  rcases kind_cases (op : Int) with k | k | k | k | k | k | k | k | k | k
  · exact absurd k hk
  all_goals rw [mask_of k, k]
  case inr.inr.inl =>
    simp only [maskK]
    cases bs with
    | nil =>
      by_cases h4 : (op : Int) = 4
      · rw [if_pos h4]; simp [rdAll, hasB, rdPart, blkB]
      · rw [if_neg h4]; simp [rdAll, hasB, rdPart, blkB]
    | cons t r =>
      by_cases ht : tyOk t
      · by_cases h4 : (op : Int) = 4
        · have h4' : op = 4 := by omega
          rw [if_pos h4]
          simp only [rdAll, rdPart, blkB, if_pos ht, hasB]
          cases hs : sub r with
          | none => simp [hs]
          | some p =>
            simp [hs, Option.bind_assoc, h4']
            cases hp : p.2 with
            | nil => simp [elsB]
            | cons x r' =>
              by_cases hx : x = 5
              · simp [elsB, hx, Option.bind_assoc]
              · simp [elsB, hx]
        · have h4' : ¬ op = 4 := by omega
          rw [if_neg h4]
          simp only [rdAll, rdPart, blkB, if_pos ht, hasB]
          cases hs : sub r with
          | none => simp [hs]
          | some p =>
            simp [hs, Option.bind_assoc]
            cases hp : p.2 with
            | nil => simp [elsB]
            | cons x r' => simp [elsB, h4']
      · by_cases h4 : (op : Int) = 4
        · rw [if_pos h4]; simp [rdAll, hasB, rdPart, blkB, ht]
        · rw [if_neg h4]; simp [rdAll, hasB, rdPart, blkB, ht]
  case inr.inr.inr.inr.inr.inr.inr.inr.inl =>
    have := (kind_small op).1 k
    simp [maskK, rdAll, hasB, rdPart, hd0, Option.bind_assoc, wd, this]
  case inr.inr.inr.inr.inr.inr.inr.inr.inr =>
    have : ¬ (op : Int) = 65 := fun h => by have := (kind_small op).2 h; omega
    simp [maskK, rdAll, hasB, rdPart, hd0, Option.bind_assoc, wd, this]
  all_goals
    simp [maskK, rdAll, hasB, rdPart, hd0, Option.bind_assoc]
end M
end Go.Proofs.YtmejgbbdehndaaaGreat
