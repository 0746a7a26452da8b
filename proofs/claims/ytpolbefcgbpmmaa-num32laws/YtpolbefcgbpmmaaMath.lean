/-
  What the operations with numbers of 32 bits answer, as plain mathematics; no program.
-/
import Derived.Lib.Hide
namespace Go.Proofs.Ytpolbefcgbpmmaa.M
/-- A number of 32 bits read with a sign. -/
def sg (a : Int) : Int := if a < 2147483648 then a else a - 4294967296
def fl (b : Bool) : Int := if b then 1 else 0
/-- Modulo 2^32. -/
def md (a : Int) : Int := a % 4294967296
def land (a b : Int) : Int := ((a.toNat &&& b.toNat : Nat) : Int)
def lor (a b : Int) : Int := ((a.toNat ||| b.toNat : Nat) : Int)
def lxor (a b : Int) : Int := ((a.toNat ^^^ b.toNat : Nat) : Int)
/-- Turned left by k, below 32. -/
def rot (a : Int) (k : Nat) : Int := a * 2 ^ k % 4294967296 + a / 2 ^ (32 - k)
def sh (b : Int) : Nat := (b % 32).toNat
def divs (a b : Int) : Int := if b = 0 then 0 else if a = 2147483648 ∧ b = 4294967295 then 0 else md ((sg a).tdiv (sg b))
def divsT (a b : Int) : Int := if b = 0 then 2 else if a = 2147483648 ∧ b = 4294967295 then 3 else 0
def divT (b : Int) : Int := if b = 0 then 2 else 0
def divu (a b : Int) : Int := if b = 0 then 0 else a / b
def rems (a b : Int) : Int := if b = 0 then 0 else md ((sg a).tmod (sg b))
def remu (a b : Int) : Int := if b = 0 then 0 else a % b
def val (op a b : Int) : Int :=
  if op = 70 then fl (decide (a = b))
  else if op = 71 then fl (!decide (a = b))
  else if op = 72 then fl (decide (sg a < sg b))
  else if op = 73 then fl (decide (a < b))
  else if op = 74 then fl (decide (sg b < sg a))
  else if op = 75 then fl (decide (b < a))
  else if op = 76 then fl (decide (sg a ≤ sg b))
  else if op = 77 then fl (decide (a ≤ b))
  else if op = 78 then fl (decide (sg b ≤ sg a))
  else if op = 79 then fl (decide (b ≤ a))
  else if op = 106 then md (a + b)
  else if op = 107 then md (a - b)
  else if op = 108 then md (a * b)
  else if op = 109 then divs a b
  else if op = 110 then divu a b
  else if op = 111 then rems a b
  else if op = 112 then remu a b
  else if op = 113 then land a b
  else if op = 114 then lor a b
  else if op = 115 then lxor a b
  else if op = 116 then md (a * 2 ^ sh b)
  else if op = 117 then md (sg a / 2 ^ sh b)
  else if op = 118 then a / 2 ^ sh b
  else if op = 119 then rot a (sh b)
  else if op = 120 then rot a (sh (-b))
  else 0
def trap (op a b : Int) : Int :=
  if op = 109 then divsT a b else if op = 110 ∨ op = 111 ∨ op = 112 then divT b else 0
def isBin (op : Int) : Prop := (70 ≤ op ∧ op ≤ 79) ∨ (106 ≤ op ∧ op ≤ 120)
end Go.Proofs.Ytpolbefcgbpmmaa.M
