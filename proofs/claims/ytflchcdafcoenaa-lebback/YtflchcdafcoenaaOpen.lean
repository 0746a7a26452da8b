/-
  How the laws' one argument, a list of questions, lies in memory, opened from its reading as data; no condition.
-/
import Derived.Test.YtflchcdafcoenaaRows
import Derived.Test.YtflchcdafcoenaaUse
import Derived.ProofKit
import Derived.Deep.Slices
import Derived.Deep.Fields
import Derived.ChangeSame
import Derived.ChangeOld
namespace Go.Proofs.Ytflchcdafcoenaa
open Go.ChangeShapes Go.WideShapes Go.ChangeAt Go.RowKit Go.Deep
/-- The list of questions that came in: n of them. -/
def Asks (w : World) (A : Option Addr) (n : Nat) : Prop := n ≤ maxLen ∧ ∀ i, i < n → ∃ (g o : Nat) (B : Option Addr) (l c : Nat) (f : Nat → Nat) (b : Int) (u : Nat) (s : Int),
  A = some ⟨g, o, none⟩ ∧ g < w.heap.size ∧ w.cell? ⟨g, o + i * 4, none⟩ = some (.slice B l c) ∧ w.cell? ⟨g, o + i * 4 + 1, none⟩ = some (.int .i64 b) ∧ w.cell? ⟨g, o + i * 4 + 2, none⟩ = some (.int .u64 u) ∧ w.cell? ⟨g, o + i * 4 + 3, none⟩ = some (.int .i64 s) ∧
  Bytes w w.heap.size B l f ∧ l ≤ maxLen ∧ (-9223372036854775808 ≤ b ∧ b < 9223372036854775808) ∧ u < 18446744073709551616 ∧ (-9223372036854775808 ≤ s ∧ s < 9223372036854775808)
theorem keep2 {w W : World} {g i j : Nat} {x y : Value} (hl : g < w.heap.size) (hi : w.cell? ⟨g, i, none⟩ = some x) (hj : w.cell? ⟨g, j, none⟩ = some y) (hb : Below w.heap.size w W) :
    W.cell? ⟨g, i, none⟩ = some x ∧ W.cell? ⟨g, j, none⟩ = some y ∧ Below w.heap.size w W :=
  ⟨by rw [hb.cell (by exact hl)]; exact hi, by rw [hb.cell (by exact hl)]; exact hj, hb⟩
theorem add_none (g o j : Nat) : (⟨g, o, none⟩ : Addr).add j = ⟨g, o + j, none⟩ := by unfold Addr.add; split <;> simp_all
section
variable {H : Type} {enc : TypeId × Value → H} {w : World}
/-- Bytes that came in: as a slice in a struct's field reads. -/
theorem open_bytes {n : Nat} {v : Value} {y : DataW H × List MemPlace} (h : DataW.trod enc Try.prog w 0 (fun _ => true) true n 23 [v] = some y) :
    ∃ (A : Option Addr) (l c : Nat) (f : Nat → Nat), v = .slice A l c ∧ l ≤ maxLen ∧ Bytes w w.heap.size A l f := by
  rcases open_ints Try.underlying23 Try.underlying5 (by kernel_rfl) h with ⟨hcs, _⟩ | ⟨x, l, c, zs, hcs, _, hl, hm, hz, _, hcell, hwz⟩
  · simp at hcs
    exact ⟨none, 0, 0, fun _ => 0, hcs, by unfold maxLen; omega, fun i hi => by omega⟩
  · simp at hcs
    refine ⟨some x, l, c, fun i => (zs.getD i 0).toNat, hcs, by omega, fun i hi => ⟨x, rfl, ?_, ?_, ?_⟩⟩
    all_goals have hzl : i < zs.length := by simp at hz; omega
    all_goals have hci := hcell i hzl
    · have := World.block_lt_of_cell? w _ hci
      rwa [addr_block] at this
    · have hw := hwz (zs.getD i 0) (by rw [List.getD_eq_getElem?_getD, List.getElem?_eq_getElem hzl]; exact List.getElem_mem hzl)
      have hx : 0 ≤ zs.getD i 0 ∧ zs.getD i 0 ≤ 255 := by simpa [Lit.wf, IntKind.min, IntKind.max, IntKind.signed, IntKind.bits] using hw
      show (zs.getD i 0).toNat < 256
      omega
    · have hw := hwz (zs.getD i 0) (by rw [List.getD_eq_getElem?_getD, List.getElem?_eq_getElem hzl]; exact List.getElem_mem hzl)
      have hx : 0 ≤ zs.getD i 0 ∧ zs.getD i 0 ≤ 255 := by simpa [Lit.wf, IntKind.min, IntKind.max, IntKind.signed, IntKind.bits] using hw
      have e : (((zs.getD i 0).toNat : Nat) : Int) = zs.getD i 0 := by omega
      show w.cell? (x.add i) = some (.int .u8 (((zs.getD i 0).toNat : Nat) : Int))
      rw [e]; exact hci
theorem open_asks {n : Nat} {A : Option Addr} {l c : Nat} {x : DataW H × List MemPlace} (h : DataW.trod enc Try.prog w 0 (fun _ => true) true n 22 [.slice A l c] = some x) : Asks w A l := by
  rcases open_slice Try.underlying22 h with ⟨hcs, _⟩ | ⟨a, len, cap, m, k, D, Pl, hcs, _, hl, hm, hmm, _, hi⟩
  · simp at hcs
    obtain ⟨rfl, rfl, rfl⟩ := hcs
    exact ⟨by unfold maxLen; omega, fun i hi => by omega⟩
  · simp at hcs
    obtain ⟨rfl, rfl, rfl⟩ := hcs
    have hC : Try.prog.cellsOf 26 = 4 := by kernel_rfl
    refine ⟨by omega, fun i hil => ?_⟩
    obtain ⟨g, o, spot⟩ := a
    have hsp : spot = none := by
      obtain ⟨cs0, hc0, _⟩ := hi 0 (by rw [hmm]; simp; omega)
      rw [hC] at hc0
      obtain ⟨_, hcl0, hat0⟩ := World.cells?_some hc0
      have h0 := hat0 0 (by omega)
      rw [List.getElem?_eq_getElem (by omega)] at h0
      have h1 := World.cell?_spot h0
      simpa [Addr.add] using h1
    subst hsp
    obtain ⟨cs', hc, ht⟩ := hi i (by rw [hmm]; simp; omega)
    rw [hC] at hc
    obtain ⟨_, hcl, hat⟩ := World.cells?_some hc
    obtain ⟨xs, n', _, _, _, hxl, hf⟩ := DataW.trod_struct Try.underlying26 ht
    match cs', hcl with
    | [c0, c1, c2, c3], _ =>
      match xs, hxl with
      | [y0, y1, y2, y3], _ =>
        have k23 : Try.prog.cellsOf 23 = 1 := by kernel_rfl
        have k3 : Try.prog.cellsOf 3 = 1 := by kernel_rfl
        have k24 : Try.prog.cellsOf 24 = 1 := by kernel_rfl
        have k2 : Try.prog.cellsOf 2 = 1 := by kernel_rfl
        have f0 : DataW.trod enc Try.prog w 0 (fun _ => true) true n' 23 [c0] = some y0 := by simpa [k23] using hf 0 _ rfl
        have f1 : DataW.trod enc Try.prog w 0 (fun _ => true) true n' 3 [c1] = some y1 := by simpa [k3] using hf 1 _ rfl
        have f2 : DataW.trod enc Try.prog w 0 (fun _ => true) true n' 24 [c2] = some y2 := by simpa [k24] using hf 2 _ rfl
        have f3 : DataW.trod enc Try.prog w 0 (fun _ => true) true n' 2 [c3] = some y3 := by simpa [k2] using hf 3 _ rfl
        obtain ⟨B, lb, cb, fb, rfl, hlb, hB⟩ := open_bytes f0
        obtain ⟨b, e1, _, wb⟩ := DataW.trod_int Try.underlying3 f1
        obtain ⟨u, e2, _, wu⟩ := DataW.trod_int Try.underlying24 f2
        obtain ⟨s, e3, _, ws⟩ := DataW.trod_int Try.underlying2 f3
        simp at e1 e2 e3
        subst e1 e2 e3
        have c0 := hat 0 (by omega)
        have c1 := hat 1 (by omega)
        have c2 := hat 2 (by omega)
        have c3 := hat 3 (by omega)
        have bb : -9223372036854775808 ≤ b ∧ b ≤ 9223372036854775807 := by simpa [Lit.wf, IntKind.min, IntKind.max, IntKind.signed, IntKind.bits] using wb
        have bu : 0 ≤ u ∧ u ≤ 18446744073709551615 := by simpa [Lit.wf, IntKind.min, IntKind.max, IntKind.signed, IntKind.bits] using wu
        have bs : -9223372036854775808 ≤ s ∧ s ≤ 9223372036854775807 := by simpa [Lit.wf, IntKind.min, IntKind.max, IntKind.signed, IntKind.bits] using ws
        obtain ⟨u, rfl⟩ := Int.eq_ofNat_of_zero_le bu.1
        simp only [add_none] at c0 c1 c2 c3
        refine ⟨g, o, B, lb, cb, fb, b, u, s, rfl, ?_, by simpa using c0, by simpa using c1, by simpa using c2, by simpa using c3, hB, hlb, ⟨bb.1, by omega⟩, by omega, ⟨bs.1, by omega⟩⟩
        exact World.block_lt_of_cell? w ⟨g, o + i * 4 + 1, none⟩ (by simpa using c1)
end
end Go.Proofs.Ytflchcdafcoenaa
