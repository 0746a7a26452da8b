/-
  How the laws' one argument, a list of questions, lies in memory, opened from its reading as data; no condition.
-/
import Derived.Test.YtlppgaaepllbiaaRows
import Derived.Test.YtlppgaaepllbiaaTools
import Derived.ProofKit
import Derived.Deep.Slices
import Derived.Deep.Fields
import Derived.ChangeSame
import Derived.ChangeOld
namespace Go.Proofs.Ytlppgaaepllbiaa
open Go.ChangeShapes Go.WideShapes Go.ChangeAt Go.RowKit Go.Deep
/-- The list of questions that came in: n of them. -/
def Asks (w : World) (A : Option Addr) (n : Nat) : Prop := n ≤ maxLen ∧ ∀ i, i < n → ∃ (g o : Nat) (vB vL : Value) (bs : List Nat) (xs : List Int),
  A = some ⟨g, o, none⟩ ∧ g < w.heap.size ∧ w.cell? ⟨g, o + i * 2, none⟩ = some vB ∧ w.cell? ⟨g, o + i * 2 + 1, none⟩ = some vL ∧ BS w w.heap.size vB bs ∧ IS w w.heap.size vL xs
section
variable {H : Type} {enc : TypeId × Value → H} {w : World}
theorem open_bytes {n : Nat} {v : Value} {y : DataW H × List MemPlace} (h : DataW.trod enc Try.prog w 0 (fun _ => true) true n 24 [v] = some y) :
    ∃ bs : List Nat, BS w w.heap.size v bs := by
  rcases open_ints Try.underlying24 Try.underlying5 (by kernel_rfl) h with ⟨hcs, _⟩ | ⟨x, l, c, zs, hcs, _, hl, hm, hz, _, hcell, hwz⟩
  · simp at hcs
    exact ⟨[], none, 0, hcs, by simp, by unfold maxLen; omega, fun i hi => by simp at hi⟩
  · simp at hcs
    have hbl : ((zs.take l).map Int.toNat).length = l := by simp; simp at hz; omega
    refine ⟨(zs.take l).map Int.toNat, some x, c, by rw [hbl]; exact hcs, by rw [hbl]; exact hl, hm, fun i hi => ⟨x, rfl, ?_⟩⟩
    rw [hbl] at hi
    have hzl : i < zs.length := by simp at hz; omega
    have e : ((zs.take l).map Int.toNat).getD i 0 = (zs[i]).toNat := by
      rw [List.getD_eq_getElem?_getD, List.getElem?_map, List.getElem?_take_of_lt hi, List.getElem?_eq_getElem hzl]; rfl
    have hci := hcell i hzl
    have e2 : zs.getD i 0 = zs[i] := by rw [List.getD_eq_getElem?_getD, List.getElem?_eq_getElem hzl]; rfl
    have hw := hwz (zs[i]) (List.getElem_mem hzl)
    have hx : 0 ≤ zs[i] ∧ zs[i] ≤ 255 := by simpa [Lit.wf, IntKind.min, IntKind.max, IntKind.signed, IntKind.bits] using hw
    refine ⟨?_, ?_, ?_⟩
    · have := World.block_lt_of_cell? w _ hci
      rwa [addr_block] at this
    · show ((zs.take l).map Int.toNat).getD i 0 < 256
      rw [e]; omega
    · show w.cell? (x.add i) = some (.int .u8 ((((zs.take l).map Int.toNat).getD i 0 : Nat) : Int))
      rw [e, Int.toNat_of_nonneg hx.1, ← e2]; exact hci
theorem open_points {n : Nat} {v : Value} {y : DataW H × List MemPlace} (h : DataW.trod enc Try.prog w 0 (fun _ => true) true n 25 [v] = some y) :
    ∃ xs : List Int, IS w w.heap.size v xs := by
  rcases open_ints Try.underlying25 Try.underlying21 (by kernel_rfl) h with ⟨hcs, _⟩ | ⟨x, l, c, zs, hcs, _, hl, hm, hz, _, hcell, hwz⟩
  · simp at hcs
    exact ⟨[], none, 0, hcs, by simp, by unfold maxLen; omega, fun i hi => by simp at hi⟩
  · simp at hcs
    have hbl : (zs.take l).length = l := by simp; simp at hz; omega
    refine ⟨zs.take l, some x, c, by rw [hbl]; exact hcs, by rw [hbl]; exact hl, hm, fun i hi => ⟨x, rfl, ?_⟩⟩
    rw [hbl] at hi
    have hzl : i < zs.length := by simp at hz; omega
    have e : (zs.take l).getD i 0 = zs[i] := by
      rw [List.getD_eq_getElem?_getD, List.getElem?_take_of_lt hi, List.getElem?_eq_getElem hzl]; rfl
    have hci := hcell i hzl
    have e2 : zs.getD i 0 = zs[i] := by rw [List.getD_eq_getElem?_getD, List.getElem?_eq_getElem hzl]; rfl
    have hw := hwz (zs[i]) (List.getElem_mem hzl)
    have hx : -2147483648 ≤ zs[i] ∧ zs[i] ≤ 2147483647 := by simpa [Lit.wf, IntKind.min, IntKind.max, IntKind.signed, IntKind.bits] using hw
    refine ⟨?_, ?_, ?_⟩
    · have := World.block_lt_of_cell? w _ hci
      rwa [addr_block] at this
    · show -2147483648 ≤ (zs.take l).getD i 0 ∧ (zs.take l).getD i 0 ≤ 2147483647
      rw [e]; exact hx
    · show w.cell? (x.add i) = some (.int .i32 ((zs.take l).getD i 0))
      rw [e, ← e2]; exact hci
theorem open_asks {n : Nat} {A : Option Addr} {l c : Nat} {x : DataW H × List MemPlace} (h : DataW.trod enc Try.prog w 0 (fun _ => true) true n 22 [.slice A l c] = some x) : Asks w A l := by
  rcases open_slice Try.underlying22 h with ⟨hcs, _⟩ | ⟨a, len, cap, m, k, D, Pl, hcs, _, hl, hm, hmm, _, hi⟩
  · simp at hcs
    obtain ⟨rfl, rfl, rfl⟩ := hcs
    exact ⟨by unfold maxLen; omega, fun i hi => by omega⟩
  · simp at hcs
    obtain ⟨rfl, rfl, rfl⟩ := hcs
    have hC : Try.prog.cellsOf 27 = 2 := by kernel_rfl
    refine ⟨by omega, fun i hil => ?_⟩
    obtain ⟨g, o, spot⟩ := a
    have hsp : spot = none := by
      obtain ⟨cs0, hc0, _⟩ := hi 0 (by rw [hmm]; simp; omega)
      rw [hC] at hc0
      obtain ⟨_, hcl0, hat0⟩ := World.cells?_some hc0
      have h0 := hat0 0 (by omega)
      rw [List.getElem?_eq_getElem (by omega)] at h0
      have h1 := World.cell?_spot h0
      simpa [Addr.add] using h1
    subst hsp
    obtain ⟨cs', hc, ht⟩ := hi i (by rw [hmm]; simp; omega)
    rw [hC] at hc
    obtain ⟨_, hcl, hat⟩ := World.cells?_some hc
    obtain ⟨xs, n', _, _, _, hxl, hf⟩ := DataW.trod_struct Try.underlying27 ht
    match cs', hcl with
    | [c0, c1], _ =>
      match xs, hxl with
      | [y0, y1], _ =>
        have k24 : Try.prog.cellsOf 24 = 1 := by kernel_rfl
        have k25 : Try.prog.cellsOf 25 = 1 := by kernel_rfl
        have f0 : DataW.trod enc Try.prog w 0 (fun _ => true) true n' 24 [c0] = some y0 := by simpa [k24] using hf 0 _ rfl
        have f1 : DataW.trod enc Try.prog w 0 (fun _ => true) true n' 25 [c1] = some y1 := by simpa [k25] using hf 1 _ rfl
        obtain ⟨bs, hB⟩ := open_bytes f0
        obtain ⟨zs, hL⟩ := open_points f1
        have d0 := hat 0 (by omega)
        have d1 := hat 1 (by omega)
        simp only [add_none] at d0 d1
        refine ⟨g, o, c0, c1, bs, zs, rfl, ?_, by simpa using d0, by simpa using d1, hB, hL⟩
        exact World.block_lt_of_cell? w ⟨g, o + i * 2 + 1, none⟩ (by simpa using d1)
end
end Go.Proofs.Ytlppgaaepllbiaa
