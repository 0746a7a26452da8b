/-
  How the laws' one argument, troubles and acts, lies in memory, opened from its reading as data; no condition.
-/
import Derived.Test.YtghogkanhcihbaaRows
import Derived.Test.YtghogkanhcihbaaDMem
import Derived.ProofKit
import Derived.Deep.Slices
import Derived.Deep.Fields
import Derived.Deep.Strs
import Derived.ChangeSame
import Derived.ChangeOld
import Derived.SizedLaws
namespace Go.Proofs.Ytghogkanhcihbaa
open Go.ChangeShapes Go.WideShapes Go.ChangeAt Go.RowKit Go.Deep
theorem wf64 {z : Int} (h : (Lit.int .i64 z).wf = true) : -9223372036854775808 ≤ z ∧ z ≤ 9223372036854775807 := by simpa [Lit.wf, IntKind.min, IntKind.max, IntKind.signed, IntKind.bits] using h
/-- The value is a slice of these numbers, in memory below B. -/
def NS (w : World) (B : Nat) (v : Value) (xs : List Int) : Prop :=
  ∃ A c, v = .slice A xs.length c ∧ xs.length ≤ c ∧ c ≤ maxLen ∧ Ints w B A xs.length (fun i => xs.getD i 0)
theorem NS.below {w w' : World} {B C : Nat} {v : Value} {xs : List Int} (h : NS w B v xs) (hb : Below B w w') (hC : B ≤ C) : NS w' C v xs := by
  obtain ⟨A, c, e, h1, h2, h3⟩ := h
  exact ⟨A, c, e, h1, h2, h3.below hb hC⟩
theorem NS.later {w w' : World} {v : Value} {xs : List Int} (h : NS w w.heap.size v xs) (hb : Below w.heap.size w w') : NS w' w'.heap.size v xs := h.below hb hb.size
/-- What an act's four cells hold. -/
structure ActAt (w : World) (g o : Nat) (d i b : Int) (vP : Value) : Prop where
  c0 : w.cell? ⟨g, o, none⟩ = some (.int .i64 d)
  c1 : w.cell? ⟨g, o + 1, none⟩ = some (.int .i64 i)
  c2 : w.cell? ⟨g, o + 2, none⟩ = some (.int .i64 b)
  c3 : w.cell? ⟨g, o + 3, none⟩ = some vP
def Acts (w : World) (A : Option Addr) (n : Nat) : Prop := ∀ j, j < n → ∃ (g o : Nat) (d i b : Int) (vP : Value) (ps : List Int),
  A = some ⟨g, o, none⟩ ∧ g < w.heap.size ∧ ActAt w g (o + j * 4) d i b vP ∧ (Rg d ∧ Rg i ∧ Rg b) ∧ NS w w.heap.size vP ps
theorem Acts.later {w w' : World} {A : Option Addr} {n : Nat} (h : Acts w A n) (hb : Below w.heap.size w w') : Acts w' A n := fun i hi => by
  obtain ⟨g, o, d, a, b, vP, ps, e, hg, c, r, hN⟩ := h i hi
  exact ⟨g, o, d, a, b, vP, ps, e, Nat.lt_of_lt_of_le hg hb.size, ⟨(hb.cell (p := ⟨g, _, none⟩) hg).trans c.c0, (hb.cell (p := ⟨g, _, none⟩) hg).trans c.c1, (hb.cell (p := ⟨g, _, none⟩) hg).trans c.c2, (hb.cell (p := ⟨g, _, none⟩) hg).trans c.c3⟩, r, hN.later hb⟩
def IsPlay (w : World) (v : Value) : Prop := ∃ (size : Int) (A : Option Addr) (l c : Nat) (ts : List Int) (A2 : Option Addr) (l2 c2 : Nat), v = .agg #[.int .i64 size, .slice A l c, .slice A2 l2 c2] ∧ Rg size ∧ (ts.length = l ∧ NS w w.heap.size (.slice A l c) ts) ∧ (l2 ≤ c2 ∧ c2 ≤ maxLen) ∧ Acts w A2 l2
section
variable {H : Type} {enc : TypeId × Value → H} {w : World}
theorem open_nums {n : Nat} {v : Value} {y : DataW H × List MemPlace} (h : DataW.trod enc Try.prog w 0 (fun _ => true) true n 38 [v] = some y) :
    ∃ xs : List Int, NS w w.heap.size v xs := by
  rcases open_ints Try.underlying38 Try.underlying3 (by kernel_rfl) h with ⟨hcs, _⟩ | ⟨x, l, c, zs, hcs, _, hl, hm, hz, hy, hcell, hwz⟩
  · simp at hcs
    exact ⟨[], ⟨none, 0, hcs, by simp, by unfold maxLen; omega, fun i hi => by simp at hi⟩⟩
  · simp at hcs
    have hbl : (zs.take l).length = l := by simp; simp at hz; omega
    refine ⟨zs.take l, ⟨some x, c, by rw [hbl]; exact hcs, by rw [hbl]; exact hl, hm, fun i hi => ⟨x, rfl, ?_⟩⟩⟩
    rw [hbl] at hi
    have hzl : i < zs.length := by simp at hz; omega
    have e : (zs.take l).getD i 0 = zs[i] := by
      rw [List.getD_eq_getElem?_getD, List.getElem?_take_of_lt hi, List.getElem?_eq_getElem hzl]; rfl
    have hci := hcell i hzl
    have e2 : zs.getD i 0 = zs[i] := by rw [List.getD_eq_getElem?_getD, List.getElem?_eq_getElem hzl]; rfl
    have hw := wf64 (hwz (zs[i]) (List.getElem_mem hzl))
    refine ⟨?_, ?_, ?_⟩
    · have := World.block_lt_of_cell? w _ hci
      rwa [addr_block] at this
    · show _ ≤ (zs.take l).getD i 0 ∧ (zs.take l).getD i 0 ≤ _
      rw [e]; exact hw
    · show w.cell? (x.add i) = some (.int .i64 ((zs.take l).getD i 0))
      rw [e, ← e2]; exact hci
set_option maxRecDepth 100000 in
theorem open_troubles {n : Nat} {A : Option Addr} {l c : Nat} {x : DataW H × List MemPlace} (h : DataW.trod enc Try.prog w 0 (fun _ => true) true n 22 [.slice A l c] = some x) : ∃ ts : List Int, ts.length = l ∧ NS w w.heap.size (.slice A l c) ts := by
  rcases open_slice Try.underlying22 h with ⟨hcs, _⟩ | ⟨a, len, cap, m, k, D, Pl, hcs, _, hl, hm, hmm, hx, hi⟩
  · simp at hcs
    obtain ⟨rfl, rfl, rfl⟩ := hcs
    exact ⟨[], rfl, ⟨none, 0, rfl, by simp, by unfold maxLen; omega, fun i hi => by simp at hi⟩⟩
  · simp at hcs
    obtain ⟨rfl, rfl, rfl⟩ := hcs
    have hC : Try.prog.cellsOf 57 = 1 := by kernel_rfl
    have key : ∀ i, i < l → ∃ z : Int, Rg z ∧ w.cell? (a.add i) = some (.int .i64 z) := by
      intro i hil
      obtain ⟨cs', hc, ht⟩ := hi i (by rw [hmm]; simp; omega)
      rw [hC] at hc
      obtain ⟨_, hcl, hat⟩ := World.cells?_some hc
      obtain ⟨xs, n', _, hD, _, hxl, hf⟩ := DataW.trod_struct Try.underlying57 ht
      match cs', hcl with
      | [c0], _ =>
        match xs, hxl with
        | [y0], _ =>
          have k1 : Try.prog.cellsOf 3 = 1 := by kernel_rfl
          have f0 : DataW.trod enc Try.prog w 0 (fun _ => true) true n' 3 [c0] = some y0 := by simpa [k1] using hf 0 _ rfl
          obtain ⟨z0, e0, _, w0⟩ := DataW.trod_int Try.underlying3 f0
          simp at e0
          subst e0
          have q0 := hat 0 (by omega)
          rw [add_add] at q0
          exact ⟨z0, wf64 w0, by simpa using q0⟩
    refine ⟨(List.range l).map fun i => match w.cell? (a.add i) with | some (.int .i64 z) => z | _ => 0, by simp, ⟨some a, c, by simp, by simpa using hl, hm, fun i hi => ⟨a, rfl, ?_⟩⟩⟩
    simp only [List.length_map, List.length_range] at hi
    obtain ⟨z, hz, hc⟩ := key i hi
    have e : ((List.range l).map fun i => match w.cell? (a.add i) with | some (.int .i64 z) => z | _ => 0).getD i 0 = z := by
      rw [List.getD_eq_getElem?_getD, List.getElem?_map, List.getElem?_range hi]
      simp [hc]
    refine ⟨?_, ?_, ?_⟩
    · have := World.block_lt_of_cell? w _ hc
      rwa [addr_block] at this
    · exact (congrArg (fun y : Int => -9223372036854775808 ≤ y ∧ y ≤ 9223372036854775807) e).mpr hz
    · exact (congrArg (fun y : Int => w.cell? (a.add i) = some (.int .i64 y)) e).mpr hc
set_option maxRecDepth 100000 in
theorem open_acts {n : Nat} {A : Option Addr} {l c : Nat} {x : DataW H × List MemPlace} (h : DataW.trod enc Try.prog w 0 (fun _ => true) true n 23 [.slice A l c] = some x) : Acts w A l := by
  rcases open_slice Try.underlying23 h with ⟨hcs, _⟩ | ⟨a, len, cap, m, k, D, Pl, hcs, _, hl, hm, hmm, hx, hi⟩
  · simp at hcs
    obtain ⟨rfl, rfl, rfl⟩ := hcs
    exact fun i hi => by omega
  · simp at hcs
    obtain ⟨rfl, rfl, rfl⟩ := hcs
    have hC : Try.prog.cellsOf 40 = 4 := by kernel_rfl
    intro i hil
    obtain ⟨g, o, spot⟩ := a
    have hsp : spot = none := by
      obtain ⟨cs0, hc0, _⟩ := hi 0 (by rw [hmm]; simp; omega)
      rw [hC] at hc0
      obtain ⟨_, hcl0, hat0⟩ := World.cells?_some hc0
      have h0 := hat0 0 (by omega)
      rw [List.getElem?_eq_getElem (by omega)] at h0
      have h1 := World.cell?_spot h0
      simpa [Addr.add] using h1
    subst hsp
    obtain ⟨cs', hc, ht⟩ := hi i (by rw [hmm]; simp; omega)
    rw [hC] at hc
    obtain ⟨_, hcl, hat⟩ := World.cells?_some hc
    obtain ⟨xs, n', _, hD, _, hxl, hf⟩ := DataW.trod_struct Try.underlying40 ht
    match cs', hcl with
    | [c0, c1, c2, c3], _ =>
      match xs, hxl with
      | [y0, y1, y2, y3], _ =>
        have k1 : Try.prog.cellsOf 3 = 1 := by kernel_rfl
        have k3 : Try.prog.cellsOf 38 = 1 := by kernel_rfl
        have f0 : DataW.trod enc Try.prog w 0 (fun _ => true) true n' 3 [c0] = some y0 := by simpa [k1] using hf 0 _ rfl
        have f1 : DataW.trod enc Try.prog w 0 (fun _ => true) true n' 3 [c1] = some y1 := by simpa [k1] using hf 1 _ rfl
        have f2 : DataW.trod enc Try.prog w 0 (fun _ => true) true n' 3 [c2] = some y2 := by simpa [k1] using hf 2 _ rfl
        have f3 : DataW.trod enc Try.prog w 0 (fun _ => true) true n' 38 [c3] = some y3 := by simpa [k3] using hf 3 _ rfl
        obtain ⟨z0, e0, _, w0⟩ := DataW.trod_int Try.underlying3 f0
        obtain ⟨z1, e1, _, w1⟩ := DataW.trod_int Try.underlying3 f1
        obtain ⟨z2, e2, _, w2⟩ := DataW.trod_int Try.underlying3 f2
        simp at e0 e1 e2
        subst e0 e1 e2
        obtain ⟨ps, hps⟩ := open_nums f3
        have q0 := hat 0 (by omega)
        have q1 := hat 1 (by omega)
        have q2 := hat 2 (by omega)
        have q3 := hat 3 (by omega)
        simp only [add_none, Nat.add_zero] at q0 q1 q2 q3
        exact ⟨g, o, z0, z1, z2, c3, ps, rfl, World.block_lt_of_cell? w ⟨g, o + i * 4, none⟩ q0, ⟨q0, q1, q2, q3⟩, ⟨wf64 w0, wf64 w1, wf64 w2⟩, hps⟩
set_option maxRecDepth 100000 in
theorem open_play {n : Nat} {cs : Array Value} {x : DataW H × List MemPlace} (h : DataW.trod enc Try.prog w 0 (fun _ => true) true n 25 cs.toList = some x) : IsPlay w (.agg cs) := by
  have k1 : Try.prog.cellsOf 3 = 1 := by kernel_rfl
  have k2 : Try.prog.cellsOf 22 = 1 := by kernel_rfl
  have k3 : Try.prog.cellsOf 23 = 1 := by kernel_rfl
  have k4 : Try.prog.cellsOf 25 = 3 := by kernel_rfl
  obtain ⟨xs, n1, _, hD, hcl, hxl, hf⟩ := DataW.trod_struct Try.underlying25 h
  rw [k4] at hcl
  obtain ⟨l⟩ := cs
  match l, hcl with
  | [c0, c1, c2], _ =>
    match xs, hxl with
    | [y0, y1, y2], _ =>
      have f0 : DataW.trod enc Try.prog w 0 (fun _ => true) true n1 3 [c0] = some y0 := by simpa [k1] using hf 0 _ rfl
      have f1 : DataW.trod enc Try.prog w 0 (fun _ => true) true n1 22 [c1] = some y1 := by simpa [k2] using hf 1 _ rfl
      have f2 : DataW.trod enc Try.prog w 0 (fun _ => true) true n1 23 [c2] = some y2 := by simpa [k3] using hf 2 _ rfl
      obtain ⟨a0, e0, _, w0⟩ := DataW.trod_int Try.underlying3 f0
      simp at e0
      subst e0
      obtain ⟨A, l, c, rfl⟩ : ∃ A l c, c1 = .slice A l c := by
        rcases DataW.trod_slice Try.underlying22 f1 with ⟨hcs, _⟩ | ⟨a, len, cap, elems, rest, n3, hn3, hcs, hx, _, hl, hm, hlen, hel, _, _⟩
        · simp at hcs; exact ⟨_, _, _, hcs⟩
        · simp at hcs; exact ⟨_, _, _, hcs⟩
      obtain ⟨A2, l2, c2', rfl, hlc⟩ : ∃ A l c, c2 = .slice A l c ∧ l ≤ c ∧ c ≤ maxLen := by
        rcases DataW.trod_slice Try.underlying23 f2 with ⟨hcs, _⟩ | ⟨a, len, cap, elems, rest, n3, hn3, hcs, hx, _, hl, hm, hlen, hel, _, _⟩
        · simp at hcs; exact ⟨_, _, _, hcs, by omega, by unfold maxLen; omega⟩
        · simp at hcs; exact ⟨_, _, _, hcs, hl, hm⟩
      obtain ⟨ts, hts⟩ := open_troubles f1
      exact ⟨a0, A, l, c, ts, A2, l2, c2', rfl, wf64 w0, hts, hlc, open_acts f2⟩
end
end Go.Proofs.Ytghogkanhcihbaa
