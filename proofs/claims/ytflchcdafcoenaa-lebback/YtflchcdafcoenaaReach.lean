/-
  Each question's bytes are no more than the form's own reach; no condition.
-/
import Derived.Test.YtflchcdafcoenaaOpen
import Derived.SizedLaws
namespace Go.Proofs.Ytflchcdafcoenaa
open Go.ChangeShapes Go.WideShapes Go.ChangeAt Go.RowKit Go.Deep
/-- Each question's bytes are few enough. -/
def Small (w : World) (A : Option Addr) (n : Nat) : Prop := ∀ (i g o : Nat) (B : Option Addr) (l c : Nat), i < n → A = some ⟨g, o, none⟩ → w.cell? ⟨g, o + i * 4, none⟩ = some (.slice B l c) → l ≤ 140737488351232
theorem mem_weightsAll {H : Type} {P : Program} {e : TypeId} {d : DataW H} {n : Nat} : ∀ {l : List (DataW H)}, d ∈ l → n ∈ d.weights P e → n ∈ DataW.weightsAll P e l
  | x :: r, hd, hn => by
    simp only [DataW.weightsAll, List.mem_append]
    rcases List.mem_cons.1 hd with rfl | h
    · exact .inl hn
    · exact .inr (mem_weightsAll h hn)
theorem open_small {H : Type} {enc : TypeId × Value → H} {w : World} {n : Nat} {A : Option Addr} {l c : Nat} {x : DataW H × List MemPlace} (h : DataW.trod enc Try.prog w 0 (fun _ => true) true n 22 [.slice A l c] = some x)
    (hw : ∀ m ∈ x.1.weights Try.prog 22, m ≤ reachBytes) : Small w A l := by
  intro i g o B lb cb hi hA hcell
  rcases open_slice Try.underlying22 h with ⟨hcs, _⟩ | ⟨a, len, cap, m, k, D, Pl, hcs, _, hl, hm, hmm, hx, hel⟩
  · simp at hcs
    omega
  · simp at hcs
    obtain ⟨rfl, rfl, rfl⟩ := hcs
    injection hA with hA
    subst hA
    have hC : Try.prog.cellsOf 26 = 4 := by kernel_rfl
    obtain ⟨cs', hc, ht⟩ := hel i (by rw [hmm]; simp; omega)
    rw [hC] at hc
    obtain ⟨_, hcl, hat⟩ := World.cells?_some hc
    obtain ⟨xs, n', _, hD, _, hxl, hf⟩ := DataW.trod_struct Try.underlying26 ht
    have c0 := hat 0 (by omega)
    simp only [add_none, Nat.add_zero] at c0
    rw [hcell] at c0
    match cs', hcl with
    | [v0, v1, v2, v3], _ =>
      match xs, hxl with
      | [y0, y1, y2, y3], _ =>
        simp at c0
        subst c0
        have k23 : Try.prog.cellsOf 23 = 1 := by kernel_rfl
        have f0 : DataW.trod enc Try.prog w 0 (fun _ => true) true n' 23 [.slice B lb cb] = some y0 := by simpa [k23] using hf 0 _ rfl
        have hw0 : ∀ m ∈ y0.1.weights Try.prog 23, m ≤ reachBytes := by
          intro m hm0
          refine hw m ?_
          rw [hx]
          simp only [DataW.weights, Try.underlying22]
          refine List.mem_cons_of_mem _ (List.mem_append_left _ (mem_weightsAll (d := D i) (List.mem_map.2 ⟨i, List.mem_range.2 hi, rfl⟩) ?_))
          simp only [Prod.mk.injEq] at hD
          rw [hD.1]
          simp only [DataW.weights, Try.underlying26]
          exact DataW.weights_mem_each (j := 0) (t := 23) (d := y0.1) rfl rfl m hm0
        have b5 : Try.prog.bytesOf 5 = 1 := by kernel_rfl
        rcases open_ints Try.underlying23 Try.underlying5 (by kernel_rfl) f0 with ⟨hcs, _⟩ | ⟨x, l', c', zs, hcs, _, hl', hm', hz, hy, _, _⟩
        · simp at hcs
          omega
        · simp at hcs
          obtain ⟨rfl, rfl, rfl⟩ := hcs
          have := hw0 ((lits (H := H) .u8 (zs.take lb)).length + (lits (H := H) .u8 (zs.drop lb)).length) (by
            rw [hy]
            simp [DataW.weights, Try.underlying23, b5])
          simp [lits, reachBytes] at this hz
          omega
end Go.Proofs.Ytflchcdafcoenaa
