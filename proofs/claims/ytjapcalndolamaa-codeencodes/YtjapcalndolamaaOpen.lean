/-
  How the laws' one argument, a list of questions (instructions and bytes), lies in memory, opened from its reading as data; condition: what is handed in weighs no more than the form's own reach.
-/
import Derived.Test.YtjapcalndolamaaRows
import Derived.Test.YtjapcalndolamaaTools
import Derived.ProofKit
import Derived.Deep.Slices
import Derived.Deep.Fields
import Derived.ChangeSame
import Derived.ChangeOld
import Derived.SizedLaws
namespace Go.Proofs.Ytjapcalndolamaa
open Go.ChangeShapes Go.WideShapes Go.ChangeAt Go.RowKit Go.Deep
/-- The list of questions that came in: n of them. -/
def Asks (w : World) (A : Option Addr) (n : Nat) : Prop := n ≤ maxLen ∧ ∀ i, i < n → ∃ (g o : Nat) (vL vB : Value) (l : M.L) (bs : List Nat),
  A = some ⟨g, o, none⟩ ∧ g < w.heap.size ∧ w.cell? ⟨g, o + i * 2, none⟩ = some vL ∧ w.cell? ⟨g, o + i * 2 + 1, none⟩ = some vB ∧ LB w vL l ∧ BS w w.heap.size vB bs
theorem mem_weightsAll {H : Type} {P : Program} {e : TypeId} {d : DataW H} {n : Nat} : ∀ {l : List (DataW H)}, d ∈ l → n ∈ d.weights P e → n ∈ DataW.weightsAll P e l
  | x :: r, hd, hn => by
    simp only [DataW.weightsAll, List.mem_append]
    rcases List.mem_cons.1 hd with rfl | h
    · exact .inl hn
    · exact .inr (mem_weightsAll h hn)
theorem LA_build {w : World} {S : Nat → Prop} {g : Nat} : ∀ (n o : Nat), (∀ i, i < n → ∃ (h : M.Hd) (b e : M.L) (vL vB vE : Value), ItemAt w g (o + i * 9) h vL vB vE ∧ Rng h ∧ NS w S vL h.labels ∧ LS w S vB b ∧ LS w S vE e) → ∃ l : M.L, l.len = n ∧ LA w S l g o := by
  intro n
  induction n with
  | zero => intro o _; exact ⟨.nil, rfl, trivial⟩
  | succ n ih =>
    intro o hi
    obtain ⟨h, b, e, vL, vB, vE, h1, h2, h3, h4, h5⟩ := hi 0 (by omega)
    obtain ⟨r, hr, hla⟩ := ih (o + 9) (fun i hn => by
      obtain ⟨h, b, e, vL, vB, vE, h1, h2⟩ := hi (i + 1) (by omega)
      exact ⟨h, b, e, vL, vB, vE, by rw [show o + 9 + i * 9 = o + (i + 1) * 9 by omega]; exact h1, h2⟩)
    exact ⟨.cons h b e r, by simp [M.L.len, hr], vL, vB, vE, by simpa using h1, h2, h3, h4, h5, hla⟩
section
variable {H : Type} {enc : TypeId × Value → H} {w : World}
theorem open_bytes {n : Nat} {v : Value} {y : DataW H × List MemPlace} (h : DataW.trod enc Try.prog w 0 (fun _ => true) true n 24 [v] = some y) :
    ∃ bs : List Nat, BS w w.heap.size v bs := by
  rcases open_ints Try.underlying24 Try.underlying5 (by kernel_rfl) h with ⟨hcs, _⟩ | ⟨x, l, c, zs, hcs, _, hl, hm, hz, _, hcell, hwz⟩
  · simp at hcs
    exact ⟨[], none, 0, hcs, by simp, by unfold maxLen; omega, fun i hi => by simp at hi⟩
  · simp at hcs
    have hbl : ((zs.take l).map Int.toNat).length = l := by simp; simp at hz; omega
    refine ⟨(zs.take l).map Int.toNat, some x, c, by rw [hbl]; exact hcs, by rw [hbl]; exact hl, hm, fun i hi => ⟨x, rfl, ?_⟩⟩
    rw [hbl] at hi
    have hzl : i < zs.length := by simp at hz; omega
    have e : ((zs.take l).map Int.toNat).getD i 0 = (zs[i]).toNat := by
      rw [List.getD_eq_getElem?_getD, List.getElem?_map, List.getElem?_take_of_lt hi, List.getElem?_eq_getElem hzl]; rfl
    have hci := hcell i hzl
    have e2 : zs.getD i 0 = zs[i] := by rw [List.getD_eq_getElem?_getD, List.getElem?_eq_getElem hzl]; rfl
    have hw := hwz (zs[i]) (List.getElem_mem hzl)
    have hx : 0 ≤ zs[i] ∧ zs[i] ≤ 255 := by simpa [Lit.wf, IntKind.min, IntKind.max, IntKind.signed, IntKind.bits] using hw
    refine ⟨?_, ?_, ?_⟩
    · have := World.block_lt_of_cell? w _ hci
      rwa [addr_block] at this
    · show ((zs.take l).map Int.toNat).getD i 0 < 256
      rw [e]; omega
    · show w.cell? (x.add i) = some (.int .u8 ((((zs.take l).map Int.toNat).getD i 0 : Nat) : Int))
      rw [e, Int.toNat_of_nonneg hx.1, ← e2]; exact hci
theorem open_nums {n : Nat} {v : Value} {y : DataW H × List MemPlace} (h : DataW.trod enc Try.prog w 0 (fun _ => true) true n 46 [v] = some y) (hwt : ∀ m ∈ y.1.weights Try.prog 46, m ≤ reachBytes) :
    ∃ xs : List Int, NB w v xs := by
  have b8 : Try.prog.bytesOf 3 = 8 := by kernel_rfl
  rcases open_ints Try.underlying46 Try.underlying3 (by kernel_rfl) h with ⟨hcs, _⟩ | ⟨x, l, c, zs, hcs, _, hl, hm, hz, hy, hcell, hwz⟩
  · simp at hcs
    exact ⟨[], none, 0, hcs, ⟨by simp, by simp, by unfold maxLen; omega⟩, fun i hi => by simp at hi⟩
  · simp at hcs
    have hbl : (zs.take l).length = l := by simp; simp at hz; omega
    have hlim := hwt (((lits (H := H) .i64 (zs.take l)).length + (lits (H := H) .i64 (zs.drop l)).length) * 8) (by
      rw [hy]
      simp [DataW.weights, Try.underlying46, b8])
    have hlim2 : l ≤ 140737488355328 := by
      simp [lits, reachBytes] at hlim hz
      omega
    refine ⟨zs.take l, some x, c, by rw [hbl]; exact hcs, ⟨by rw [hbl]; exact hlim2, by rw [hbl]; exact hl, hm⟩, fun i hi => ⟨x, rfl, ?_⟩⟩
    rw [hbl] at hi
    have hzl : i < zs.length := by simp at hz; omega
    have e : (zs.take l).getD i 0 = zs[i] := by
      rw [List.getD_eq_getElem?_getD, List.getElem?_take_of_lt hi, List.getElem?_eq_getElem hzl]; rfl
    have hci := hcell i hzl
    have e2 : zs.getD i 0 = zs[i] := by rw [List.getD_eq_getElem?_getD, List.getElem?_eq_getElem hzl]; rfl
    have hw := hwz (zs[i]) (List.getElem_mem hzl)
    have hx : -9223372036854775808 ≤ zs[i] ∧ zs[i] ≤ 9223372036854775807 := by simpa [Lit.wf, IntKind.min, IntKind.max, IntKind.signed, IntKind.bits] using hw
    refine ⟨?_, ?_, ?_⟩
    · have := World.block_lt_of_cell? w _ hci
      rwa [addr_block] at this
    · rw [e]; exact hx
    · rw [e, ← e2]; exact hci
theorem wf64 {z : Int} (h : (Lit.int .i64 z).wf = true) : -9223372036854775808 ≤ z ∧ z ≤ 9223372036854775807 := by simpa [Lit.wf, IntKind.min, IntKind.max, IntKind.signed, IntKind.bits] using h
set_option maxRecDepth 100000 in
theorem open_instrs (N : Nat) : ∀ {n : Nat} {v : Value} {y : DataW H × List MemPlace}, n ≤ N → DataW.trod enc Try.prog w 0 (fun _ => true) true n 23 [v] = some y → (∀ m ∈ y.1.weights Try.prog 23, m ≤ reachBytes) → ∃ l : M.L, LB w v l := by
  have b120 : Try.prog.bytesOf 48 = 120 := by kernel_rfl
  have hC : Try.prog.cellsOf 48 = 9 := by kernel_rfl
  have k1 : Try.prog.cellsOf 3 = 1 := by kernel_rfl
  have k2 : Try.prog.cellsOf 2 = 1 := by kernel_rfl
  have k3 : Try.prog.cellsOf 46 = 1 := by kernel_rfl
  have k4 : Try.prog.cellsOf 23 = 1 := by kernel_rfl
  induction N with
  | zero =>
    intro n v y hn h
    obtain rfl : n = 0 := by omega
    simp [DataW.trod] at h
  | succ N ih =>
    intro n v y hn h hwt
    rcases DataW.trod_slice Try.underlying23 h with ⟨hcs, _⟩ | ⟨a, len, cap, elems, rest, n1, hn1, hcs, hx, _, hl, hm, hlen, hel, _, _⟩
    · simp at hcs
      exact ⟨.nil, none, 0, hcs, ⟨by simp [M.L.len], by simp [M.L.len], by unfold maxLen; omega⟩, .inl rfl⟩
    · simp at hcs
      subst hcs
      have hlim := hwt ((elems.length + rest.length) * 120) (by
        rw [hx]
        simp [DataW.weights, Try.underlying23, b120])
      have hlim2 : len ≤ 140737488355328 := by
        simp [reachBytes] at hlim
        omega
      obtain ⟨g, o, spot⟩ := a
      by_cases h0 : len = 0
      · subst h0
        exact ⟨.nil, _, cap, rfl, ⟨by simp [M.L.len], by simp [M.L.len], hm⟩, .inl rfl⟩
      have hsp : spot = none := by
        have hei := hel 0 (by omega)
        rw [hC] at hei
        rw [List.getElem?_eq_getElem (by omega)] at hei
        obtain ⟨cs', hc, _⟩ := Option.bind_eq_some_iff.1 hei
        obtain ⟨_, hcl, hat⟩ := World.cells?_some hc
        have h0 := hat 0 (by omega)
        rw [List.getElem?_eq_getElem (by omega)] at h0
        have h1 := World.cell?_spot h0
        simpa [Addr.add] using h1
      subst hsp
      have hit : ∀ i, i < len → g < w.heap.size ∧ ∃ (h : M.Hd) (b e : M.L) (vL vB vE : Value), ItemAt w g (o + i * 9) h vL vB vE ∧ Rng h ∧ NB w vL h.labels ∧ LB w vB b ∧ LB w vE e := by
        intro i hi
        have hei := hel i hi
        rw [hC] at hei
        rw [List.getElem?_eq_getElem (by omega)] at hei
        obtain ⟨cs', hc, ht⟩ := Option.bind_eq_some_iff.1 hei
        obtain ⟨_, hcl, hat⟩ := World.cells?_some hc
        have hmem : ∀ m ∈ (elems[i]).1.weights Try.prog 48, m ≤ reachBytes := by
          intro m hm0
          refine hwt m ?_
          rw [hx]
          simp only [DataW.weights, Try.underlying23]
          refine List.mem_cons_of_mem _ (List.mem_append_left _ (mem_weightsAll (d := (elems[i]).1) (List.mem_map.2 ⟨elems[i], List.getElem_mem (by omega), rfl⟩) hm0))
        obtain ⟨xs, n2, hn2, hD, _, hxl, hf⟩ := DataW.trod_struct Try.underlying48 ht
        obtain ⟨d0, d1, d2, d3, d4, d5, d6, d7, d8, rfl⟩ : ∃ d0 d1 d2 d3 d4 d5 d6 d7 d8, cs' = [d0, d1, d2, d3, d4, d5, d6, d7, d8] := by
          match cs', hcl with
          | [d0, d1, d2, d3, d4, d5, d6, d7, d8], _ => exact ⟨d0, d1, d2, d3, d4, d5, d6, d7, d8, rfl⟩
        obtain ⟨y0, y1, y2, y3, y4, y5, y6, y7, y8, rfl⟩ : ∃ y0 y1 y2 y3 y4 y5 y6 y7 y8, xs = [y0, y1, y2, y3, y4, y5, y6, y7, y8] := by
          match xs, hxl with
          | [d0, d1, d2, d3, d4, d5, d6, d7, d8], _ => exact ⟨d0, d1, d2, d3, d4, d5, d6, d7, d8, rfl⟩
        have f0 : DataW.trod enc Try.prog w 0 (fun _ => true) true n2 3 [d0] = some y0 := by simpa [k1] using hf 0 _ rfl
        have f1 : DataW.trod enc Try.prog w 0 (fun _ => true) true n2 3 [d1] = some y1 := by simpa [k1] using hf 1 _ rfl
        have f2 : DataW.trod enc Try.prog w 0 (fun _ => true) true n2 3 [d2] = some y2 := by simpa [k1] using hf 2 _ rfl
        have f3 : DataW.trod enc Try.prog w 0 (fun _ => true) true n2 3 [d3] = some y3 := by simpa [k1] using hf 3 _ rfl
        have f4 : DataW.trod enc Try.prog w 0 (fun _ => true) true n2 3 [d4] = some y4 := by simpa [k1] using hf 4 _ rfl
        have f5 : DataW.trod enc Try.prog w 0 (fun _ => true) true n2 2 [d5] = some y5 := by simpa [k2] using hf 5 _ rfl
        have f6 : DataW.trod enc Try.prog w 0 (fun _ => true) true n2 46 [d6] = some y6 := by simpa [k3] using hf 6 _ rfl
        have f7 : DataW.trod enc Try.prog w 0 (fun _ => true) true n2 23 [d7] = some y7 := by simpa [k4] using hf 7 _ rfl
        have f8 : DataW.trod enc Try.prog w 0 (fun _ => true) true n2 23 [d8] = some y8 := by simpa [k4] using hf 8 _ rfl
        have hws : ∀ (j : Nat) (t : TypeId) (d : DataW H), [3, 3, 3, 3, 3, 2, 46, 23, 23][j]? = some t → [y0.1, y1.1, y2.1, y3.1, y4.1, y5.1, y6.1, y7.1, y8.1][j]? = some d → ∀ m ∈ d.weights Try.prog t, m ≤ reachBytes := by
          intro j t d h1 h2 m hm0
          refine hmem m ?_
          rw [hD]
          simp only [DataW.weights, Try.underlying48]
          exact DataW.weights_mem_each (j := j) (t := t) (d := d) h1 h2 m hm0
        obtain ⟨z0, e0, _, w0⟩ := DataW.trod_int Try.underlying3 f0
        obtain ⟨z1, e1, _, w1⟩ := DataW.trod_int Try.underlying3 f1
        obtain ⟨z2, e2, _, w2⟩ := DataW.trod_int Try.underlying3 f2
        obtain ⟨z3, e3, _, w3⟩ := DataW.trod_int Try.underlying3 f3
        obtain ⟨z4, e4, _, w4⟩ := DataW.trod_int Try.underlying3 f4
        obtain ⟨z5, e5, _, w5⟩ := DataW.trod_int Try.underlying2 f5
        simp at e0 e1 e2 e3 e4 e5
        subst e0 e1 e2 e3 e4 e5
        obtain ⟨xl, hxl⟩ := open_nums f6 (hws 6 _ _ rfl rfl)
        obtain ⟨lb, hlb⟩ := ih (by omega) f7 (hws 7 _ _ rfl rfl)
        obtain ⟨le, hle⟩ := ih (by omega) f8 (hws 8 _ _ rfl rfl)
        have c0 := hat 0 (by omega)
        have c1 := hat 1 (by omega)
        have c2 := hat 2 (by omega)
        have c3 := hat 3 (by omega)
        have c4 := hat 4 (by omega)
        have c5 := hat 5 (by omega)
        have c6 := hat 6 (by omega)
        have c7 := hat 7 (by omega)
        have c8 := hat 8 (by omega)
        simp only [add_none, Nat.add_zero] at c0 c1 c2 c3 c4 c5 c6 c7 c8
        exact ⟨World.block_lt_of_cell? w ⟨g, o + i * 9, none⟩ c0, ⟨z0, z1, z2, z3, z4, z5, xl⟩, lb, le, d6, d7, d8, ⟨c0, c1, c2, c3, c4, c5, c6, c7, c8⟩, ⟨wf64 w0, wf64 w1, wf64 w2, wf64 w3, wf64 w4, wf64 w5⟩, hxl, hlb, hle⟩
      obtain ⟨hg, _⟩ := hit 0 (by omega)
      obtain ⟨l, hll, hla⟩ := LA_build (w := w) (S := (· < w.heap.size)) (g := g) len o (fun i hi => (hit i hi).2)
      subst hll
      exact ⟨l, some ⟨g, o, none⟩, cap, rfl, ⟨hlim2, hl, hm⟩, .inr ⟨g, o, rfl, hg, hla⟩⟩
set_option maxRecDepth 100000 in
theorem open_asks {n : Nat} {A : Option Addr} {l c : Nat} {x : DataW H × List MemPlace} (h : DataW.trod enc Try.prog w 0 (fun _ => true) true n 22 [.slice A l c] = some x) (hwt : ∀ m ∈ x.1.weights Try.prog 22, m ≤ reachBytes) : Asks w A l := by
  rcases open_slice Try.underlying22 h with ⟨hcs, _⟩ | ⟨a, len, cap, m, k, D, Pl, hcs, _, hl, hm, hmm, hx, hi⟩
  · simp at hcs
    obtain ⟨rfl, rfl, rfl⟩ := hcs
    exact ⟨by unfold maxLen; omega, fun i hi => by omega⟩
  · simp at hcs
    obtain ⟨rfl, rfl, rfl⟩ := hcs
    have hC : Try.prog.cellsOf 26 = 2 := by kernel_rfl
    refine ⟨by omega, fun i hil => ?_⟩
    obtain ⟨g, o, spot⟩ := a
    have hsp : spot = none := by
      obtain ⟨cs0, hc0, _⟩ := hi 0 (by rw [hmm]; simp; omega)
      rw [hC] at hc0
      obtain ⟨_, hcl0, hat0⟩ := World.cells?_some hc0
      have h0 := hat0 0 (by omega)
      rw [List.getElem?_eq_getElem (by omega)] at h0
      have h1 := World.cell?_spot h0
      simpa [Addr.add] using h1
    subst hsp
    obtain ⟨cs', hc, ht⟩ := hi i (by rw [hmm]; simp; omega)
    rw [hC] at hc
    obtain ⟨_, hcl, hat⟩ := World.cells?_some hc
    obtain ⟨xs, n', _, hD, _, hxl, hf⟩ := DataW.trod_struct Try.underlying26 ht
    match cs', hcl with
    | [c0, c1], _ =>
      match xs, hxl with
      | [y0, y1], _ =>
        have k24 : Try.prog.cellsOf 24 = 1 := by kernel_rfl
        have k25 : Try.prog.cellsOf 23 = 1 := by kernel_rfl
        have f0 : DataW.trod enc Try.prog w 0 (fun _ => true) true n' 23 [c0] = some y0 := by simpa [k25] using hf 0 _ rfl
        have f1 : DataW.trod enc Try.prog w 0 (fun _ => true) true n' 24 [c1] = some y1 := by simpa [k24] using hf 1 _ rfl
        have hw0 : ∀ m ∈ y0.1.weights Try.prog 23, m ≤ reachBytes := by
          intro m hm0
          refine hwt m ?_
          rw [hx]
          simp only [DataW.weights, Try.underlying22]
          refine List.mem_cons_of_mem _ (List.mem_append_left _ (mem_weightsAll (d := D i) (List.mem_map.2 ⟨i, List.mem_range.2 hil, rfl⟩) ?_))
          simp only [Prod.mk.injEq] at hD
          rw [hD.1]
          simp only [DataW.weights, Try.underlying26]
          exact DataW.weights_mem_each (j := 0) (t := 23) (d := y0.1) rfl rfl m hm0
        obtain ⟨bs, hB⟩ := open_bytes f1
        obtain ⟨zs, hL⟩ := open_instrs n' (Nat.le_refl _) f0 hw0
        have d0 := hat 0 (by omega)
        have d1 := hat 1 (by omega)
        simp only [add_none] at d0 d1
        refine ⟨g, o, c0, c1, zs, bs, rfl, ?_, by simpa using d0, by simpa using d1, hL, hB⟩
        exact World.block_lt_of_cell? w ⟨g, o + i * 2 + 1, none⟩ (by simpa using d1)
end
end Go.Proofs.Ytjapcalndolamaa
