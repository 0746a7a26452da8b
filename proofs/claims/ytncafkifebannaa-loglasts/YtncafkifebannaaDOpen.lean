/-
  How the laws' one argument, troubles and acts, lies in memory, opened from its reading as data; no condition.
-/
import Derived.Test.YtncafkifebannaaRows
import Derived.Test.YtncafkifebannaaDMem
import Derived.ProofKit
import Derived.Deep.Slices
import Derived.Deep.Fields
import Derived.Deep.Strs
import Derived.ChangeSame
import Derived.ChangeOld
import Derived.SizedLaws
namespace Go.Proofs.Ytncafkifebannaa
open Go.ChangeShapes Go.WideShapes Go.ChangeAt Go.RowKit Go.Deep
theorem wf64 {z : Int} (h : (Lit.int .i64 z).wf = true) : -9223372036854775808 ≤ z ∧ z ≤ 9223372036854775807 := by simpa [Lit.wf, IntKind.min, IntKind.max, IntKind.signed, IntKind.bits] using h
/-- The value is a slice of these numbers, in memory below B. -/
def NS (w : World) (B : Nat) (v : Value) (xs : List Int) : Prop :=
  ∃ A c, v = .slice A xs.length c ∧ xs.length ≤ c ∧ c ≤ maxLen ∧ Ints w B A xs.length (fun i => xs.getD i 0)
theorem NS.below {w w' : World} {B C : Nat} {v : Value} {xs : List Int} (h : NS w B v xs) (hb : Below B w w') (hC : B ≤ C) : NS w' C v xs := by
  obtain ⟨A, c, e, h1, h2, h3⟩ := h
  exact ⟨A, c, e, h1, h2, h3.below hb hC⟩
theorem NS.later {w w' : World} {v : Value} {xs : List Int} (h : NS w w.heap.size v xs) (hb : Below w.heap.size w w') : NS w' w'.heap.size v xs := h.below hb hb.size
/-- What an act's four cells hold. -/
structure ActAt (w : World) (g o : Nat) (d i b : Int) (vP : Value) : Prop where
  c0 : w.cell? ⟨g, o, none⟩ = some (.int .i64 d)
  c1 : w.cell? ⟨g, o + 1, none⟩ = some (.int .i64 i)
  c2 : w.cell? ⟨g, o + 2, none⟩ = some (.int .i64 b)
  c3 : w.cell? ⟨g, o + 3, none⟩ = some vP
def Acts (w : World) (A : Option Addr) (n : Nat) : Prop := ∀ j, j < n → ∃ (g o : Nat) (d i b : Int) (vP : Value) (ps : List Int),
  A = some ⟨g, o, none⟩ ∧ g < w.heap.size ∧ ActAt w g (o + j * 4) d i b vP ∧ (Rg d ∧ Rg i ∧ Rg b) ∧ NS w w.heap.size vP ps
theorem Acts.later {w w' : World} {A : Option Addr} {n : Nat} (h : Acts w A n) (hb : Below w.heap.size w w') : Acts w' A n := fun i hi => by
  obtain ⟨g, o, d, a, b, vP, ps, e, hg, c, r, hN⟩ := h i hi
  exact ⟨g, o, d, a, b, vP, ps, e, Nat.lt_of_lt_of_le hg hb.size, ⟨(hb.cell (p := ⟨g, _, none⟩) hg).trans c.c0, (hb.cell (p := ⟨g, _, none⟩) hg).trans c.c1, (hb.cell (p := ⟨g, _, none⟩) hg).trans c.c2, (hb.cell (p := ⟨g, _, none⟩) hg).trans c.c3⟩, r, hN.later hb⟩
def IsPlay (w : World) (v : Value) : Prop := ∃ (size : Int) (A : Option Addr) (l c : Nat) (ts : List Int) (A2 : Option Addr) (l2 c2 : Nat), v = .agg #[.int .i64 size, .slice A l c, .slice A2 l2 c2] ∧ Rg size ∧ (ts.length = l ∧ NS w w.heap.size (.slice A l c) ts) ∧ (l2 ≤ c2 ∧ c2 ≤ maxLen) ∧ Acts w A2 l2
section
variable {H : Type} {enc : TypeId × Value → H} {w : World}
theorem open_nums {n : Nat} {v : Value} {y : DataW H × List MemPlace} (h : DataW.trod enc Try.prog w 0 (fun _ => true) true n 38 [v] = some y) :
    ∃ xs : List Int, NS w w.heap.size v xs := by
  rcases open_ints Try.underlying38 Try.underlying3 (by kernel_rfl) h with ⟨hcs, _⟩ | ⟨x, l, c, zs, hcs, _, hl, hm, hz, hy, hcell, hwz⟩
  · simp at hcs
    exact ⟨[], ⟨none, 0, hcs, by simp, by unfold maxLen; omega, fun i hi => by simp at hi⟩⟩
  · simp at hcs
    have hbl : (zs.take l).length = l := by simp; simp at hz; omega
    refine ⟨zs.take l, ⟨some x, c, by rw [hbl]; exact hcs, by rw [hbl]; exact hl, hm, fun i hi => ⟨x, rfl, ?_⟩⟩⟩
    rw [hbl] at hi
    have hzl : i < zs.length := by simp at hz; omega
    have e : (zs.take l).getD i 0 = zs[i] := by
      rw [List.getD_eq_getElem?_getD, List.getElem?_take_of_lt hi, List.getElem?_eq_getElem hzl]; rfl
    have hci := hcell i hzl
    have e2 : zs.getD i 0 = zs[i] := by rw [List.getD_eq_getElem?_getD, List.getElem?_eq_getElem hzl]; rfl
    have hw := wf64 (hwz (zs[i]) (List.getElem_mem hzl))
    refine ⟨?_, ?_, ?_⟩
    · have := World.block_lt_of_cell? w _ hci
      rwa [addr_block] at this
    · show _ ≤ (zs.take l).getD i 0 ∧ (zs.take l).getD i 0 ≤ _
      rw [e]; exact hw
    · show w.cell? (x.add i) = some (.int .i64 ((zs.take l).getD i 0))
      rw [e, ← e2]; exact hci
set_option maxRecDepth 100000 in
theorem open_troubles {n : Nat} {A : Option Addr} {l c : Nat} {x : DataW H × List MemPlace} (h : DataW.trod enc Try.prog w 0 (fun _ => true) true n 22 [.slice A l c] = some x) : ∃ ts : List Int, ts.length = l ∧ NS w w.heap.size (.slice A l c) ts := by
  rcases open_slice Try.underlying22 h with ⟨hcs, _⟩ | ⟨a, len, cap, m, k, D, Pl, hcs, _, hl, hm, hmm, hx, hi⟩
  · simp at hcs
    obtain ⟨rfl, rfl, rfl⟩ := hcs
    exact ⟨[], rfl, ⟨none, 0, rfl, by simp, by unfold maxLen; omega, fun i hi => by simp at hi⟩⟩
  · simp at hcs
    obtain ⟨rfl, rfl, rfl⟩ := hcs
    have hC : Try.prog.cellsOf 58 = 1 := by kernel_rfl
    have key : ∀ i, i < l → ∃ z : Int, Rg z ∧ w.cell? (a.add i) = some (.int .i64 z) := by
      intro i hil
      obtain ⟨cs', hc, ht⟩ := hi i (by rw [hmm]; simp; omega)
      rw [hC] at hc
      obtain ⟨_, hcl, hat⟩ := World.cells?_some hc
      obtain ⟨xs, n', _, hD, _, hxl, hf⟩ := DataW.trod_struct Try.underlying58 ht
      match cs', hcl with
      | [c0], _ =>
        match xs, hxl with
        | [y0], _ =>
          have k1 : Try.prog.cellsOf 3 = 1 := by kernel_rfl
          have f0 : DataW.trod enc Try.prog w 0 (fun _ => true) true n' 3 [c0] = some y0 := by simpa [k1] using hf 0 _ rfl
          obtain ⟨z0, e0, _, w0⟩ := DataW.trod_int Try.underlying3 f0
          simp at e0
          subst e0
          have q0 := hat 0 (by omega)
          rw [add_add] at q0
          exact ⟨z0, wf64 w0, by simpa using q0⟩
    refine ⟨(List.range l).map fun i => match w.cell? (a.add i) with | some (.int .i64 z) => z | _ => 0, by simp, ⟨some a, c, by simp, by simpa using hl, hm, fun i hi => ⟨a, rfl, ?_⟩⟩⟩
    simp only [List.length_map, List.length_range] at hi
    obtain ⟨z, hz, hc⟩ := key i hi
    have e : ((List.range l).map fun i => match w.cell? (a.add i) with | some (.int .i64 z) => z | _ => 0).getD i 0 = z := by
      rw [List.getD_eq_getElem?_getD, List.getElem?_map, List.getElem?_range hi]
      simp [hc]
    refine ⟨?_, ?_, ?_⟩
    · have := World.block_lt_of_cell? w _ hc
      rwa [addr_block] at this
    · exact (congrArg (fun y : Int => -9223372036854775808 ≤ y ∧ y ≤ 9223372036854775807) e).mpr hz
    · exact (congrArg (fun y : Int => w.cell? (a.add i) = some (.int .i64 y)) e).mpr hc
end
end Go.Proofs.Ytncafkifebannaa
