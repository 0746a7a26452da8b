/-
  How bytes and numbers lie in memory, and that what is there stays behind what leaves it alone; no condition.
-/
import Derived.Test.YtncafkifebannaaChecked
import Derived.WalkKit
import Derived.Deep.RegionHeld3
import Derived.Deep.QuietTactic
import Derived.BigQuiet
import Derived.Outline
import Derived.WalkSmall
import Derived.Lib.Hide
import Derived.Below
import Derived.Maps.AppendAt
import Derived.OwnWalk
import Derived.OpenShut
import Derived.Deep.AppendLies
namespace Go.Proofs.Ytncafkifebannaa
open Go.RowKit
theorem addr_block (a : Addr) (n : Nat) : (a.add n).block = a.block := by unfold Addr.add; split <;> rfl
theorem add_add (a : Addr) (i j : Nat) : (a.add i).add j = a.add (i + j) := by
  unfold Addr.add
  by_cases hi : i = 0
  · subst hi; simp
  · by_cases hj : j = 0
    · subst hj; simp
    · simp [hi, hj, Nat.add_assoc]
theorem add_none (g o j : Nat) : (⟨g, o, none⟩ : Addr).add j = ⟨g, o + j, none⟩ := by unfold Addr.add; split <;> simp_all
/-- The slice value with address A (or nil), n bytes long, holds the bytes f, in blocks below B. -/
def Bytes (w : World) (B : Nat) (A : Option Addr) (n : Nat) (f : Nat → Nat) : Prop :=
  ∀ i, i < n → ∃ ad, A = some ad ∧ ad.block < B ∧ f i < 256 ∧ w.cell? (ad.add i) = some (.int .u8 (f i : Int))
theorem Bytes.below {w w' : World} {B C : Nat} {A : Option Addr} {n : Nat} {f : Nat → Nat} (h : Bytes w B A n f) (hb : Below B w w') (hC : B ≤ C) : Bytes w' C A n f := fun i hi => by
  obtain ⟨ad, e, hl, hf, hc⟩ := h i hi
  exact ⟨ad, e, by omega, hf, by rw [hb.cell (by rw [addr_block]; exact hl)]; exact hc⟩
theorem Bytes.later {w w' : World} {A : Option Addr} {n : Nat} {f : Nat → Nat} (h : Bytes w w.heap.size A n f) (hb : Below w.heap.size w w') : Bytes w' w'.heap.size A n f := h.below hb hb.size
/-- The same for numbers of 64 bits. -/
def Ints (w : World) (B : Nat) (A : Option Addr) (n : Nat) (f : Nat → Int) : Prop :=
  ∀ i, i < n → ∃ ad, A = some ad ∧ ad.block < B ∧ (-9223372036854775808 ≤ f i ∧ f i ≤ 9223372036854775807) ∧ w.cell? (ad.add i) = some (.int .i64 (f i))
theorem Ints.below {w w' : World} {B C : Nat} {A : Option Addr} {n : Nat} {f : Nat → Int} (h : Ints w B A n f) (hb : Below B w w') (hC : B ≤ C) : Ints w' C A n f := fun i hi => by
  obtain ⟨ad, e, hl, hf, hc⟩ := h i hi
  exact ⟨ad, e, by omega, hf, by rw [hb.cell (by rw [addr_block]; exact hl)]; exact hc⟩
theorem Ints.later {w w' : World} {A : Option Addr} {n : Nat} {f : Nat → Int} (h : Ints w w.heap.size A n f) (hb : Below w.heap.size w w') : Ints w' w'.heap.size A n f := h.below hb hb.size
def vals (bs : List Nat) : List Value := bs.map fun b : Nat => .int .u8 (b : Int)
def nvals (ps : List Int) : List Value := ps.map fun b : Int => .int .i64 b
/-- The value is a slice of these bytes, in memory below B. -/
def BS (w : World) (B : Nat) (v : Value) (bs : List Nat) : Prop :=
  ∃ A c, v = .slice A bs.length c ∧ bs.length ≤ c ∧ c ≤ maxLen ∧ Bytes w B A bs.length (fun i => bs.getD i 0)
theorem BS.below {w w' : World} {B C : Nat} {v : Value} {bs : List Nat} (h : BS w B v bs) (hb : Below B w w') (hC : B ≤ C) : BS w' C v bs := by
  obtain ⟨A, c, e, h1, h2, h3⟩ := h
  exact ⟨A, c, e, h1, h2, h3.below hb hC⟩
theorem BS.later {w w' : World} {v : Value} {bs : List Nat} (h : BS w w.heap.size v bs) (hb : Below w.heap.size w w') : BS w' w'.heap.size v bs := h.below hb hb.size
theorem BS.lt {w : World} {B : Nat} {v : Value} {bs : List Nat} (h : BS w B v bs) : ∀ b ∈ bs, b < 256 := by
  obtain ⟨A, c, e, h1, h2, h3⟩ := h
  intro b hb
  obtain ⟨i, hi, rfl⟩ := List.getElem_of_mem hb
  obtain ⟨_, _, _, h4, _⟩ := h3 i hi
  simpa [List.getD_eq_getElem?_getD, List.getElem?_eq_getElem hi] using h4
theorem getD_drop (bs : List Nat) (n i : Nat) : (bs.drop n).getD i 0 = bs.getD (n + i) 0 := by
  simp [List.getD_eq_getElem?_getD, List.getElem?_drop]
/-- What is left of bytes behind the first n. -/
theorem Bytes.drop {w : World} {B : Nat} {ad : Addr} {l n : Nat} {f g : Nat → Nat} (h : Bytes w B (some ad) l f) (hg : ∀ i, g i = f (n + i)) : Bytes w B (some (ad.add n)) (l - n) g := by
  intro i hi
  obtain ⟨ad', e, h1, h2, h3⟩ := h (n + i) (by omega)
  injection e with e
  subst e
  exact ⟨ad.add n, rfl, by rw [addr_block]; exact h1, by rw [hg]; exact h2, by rw [add_add, hg]; exact h3⟩
end Go.Proofs.Ytncafkifebannaa
