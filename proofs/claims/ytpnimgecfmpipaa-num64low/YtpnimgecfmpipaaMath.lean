/-
  What the operations with numbers of 64 bits answer, as plain mathematics; no program.
-/
import Derived.Lib.Hide
namespace Go.Proofs.Ytpnimgecfmpipaa.M
/-- A number of 64 bits read with a sign. -/
def sg (a : Int) : Int := if a < 9223372036854775808 then a else a - 18446744073709551616
def fl (b : Bool) : Int := if b then 1 else 0
/-- Modulo 2^64. -/
def md (a : Int) : Int := a % 18446744073709551616
def land (a b : Int) : Int := ((a.toNat &&& b.toNat : Nat) : Int)
def lor (a b : Int) : Int := ((a.toNat ||| b.toNat : Nat) : Int)
def lxor (a b : Int) : Int := ((a.toNat ^^^ b.toNat : Nat) : Int)
/-- Turned left by k, below 64. -/
def rot (a : Int) (k : Nat) : Int := a * 2 ^ k % 18446744073709551616 + a / 2 ^ (64 - k)
def sh (b : Int) : Nat := (b % 64).toNat
def divs (a b : Int) : Int := if b = 0 then 0 else if a = 9223372036854775808 ∧ b = 18446744073709551615 then 0 else md ((sg a).tdiv (sg b))
def divsT (a b : Int) : Int := if b = 0 then 2 else if a = 9223372036854775808 ∧ b = 18446744073709551615 then 3 else 0
def divT (b : Int) : Int := if b = 0 then 2 else 0
def divu (a b : Int) : Int := if b = 0 then 0 else a / b
def rems (a b : Int) : Int := if b = 0 then 0 else md ((sg a).tmod (sg b))
def remu (a b : Int) : Int := if b = 0 then 0 else a % b
def val (op a b : Int) : Int :=
  if op = 81 then fl (decide (a = b))
  else if op = 82 then fl (!decide (a = b))
  else if op = 83 then fl (decide (sg a < sg b))
  else if op = 84 then fl (decide (a < b))
  else if op = 85 then fl (decide (sg b < sg a))
  else if op = 86 then fl (decide (b < a))
  else if op = 87 then fl (decide (sg a ≤ sg b))
  else if op = 88 then fl (decide (a ≤ b))
  else if op = 89 then fl (decide (sg b ≤ sg a))
  else if op = 90 then fl (decide (b ≤ a))
  else if op = 124 then md (a + b)
  else if op = 125 then md (a - b)
  else if op = 126 then md (a * b)
  else if op = 127 then divs a b
  else if op = 128 then divu a b
  else if op = 129 then rems a b
  else if op = 130 then remu a b
  else if op = 131 then land a b
  else if op = 132 then lor a b
  else if op = 133 then lxor a b
  else if op = 134 then md (a * 2 ^ sh b)
  else if op = 135 then md (sg a / 2 ^ sh b)
  else if op = 136 then a / 2 ^ sh b
  else if op = 137 then rot a (sh b)
  else if op = 138 then rot a (sh (-b))
  else 0
def trap (op a b : Int) : Int :=
  if op = 127 then divsT a b else if op = 128 ∨ op = 129 ∨ op = 130 then divT b else 0
def isBin (op : Int) : Prop := (81 ≤ op ∧ op ≤ 90) ∨ (124 ≤ op ∧ op ≤ 138)
end Go.Proofs.Ytpnimgecfmpipaa.M
