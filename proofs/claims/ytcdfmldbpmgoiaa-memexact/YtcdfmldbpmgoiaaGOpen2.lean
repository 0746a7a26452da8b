/-
  The acts of the laws' one argument, opened from its reading as data; condition: what is handed in weighs no more than the form's own reach.
-/
import Derived.Test.YtcdfmldbpmgoiaaGOpen
namespace Go.Proofs.Ytcdfmldbpmgoiaa
open Go.ChangeShapes Go.WideShapes Go.ChangeAt Go.RowKit Go.Deep
/-- What an act's six cells hold. -/
structure ActAt (w : World) (g o : Nat) (d a f m : Int) (x : Nat) (vB : Value) : Prop where
  c0 : w.cell? ⟨g, o, none⟩ = some (.int .i64 d)
  c1 : w.cell? ⟨g, o + 1, none⟩ = some (.int .i64 a)
  c2 : w.cell? ⟨g, o + 2, none⟩ = some (.int .i64 f)
  c3 : w.cell? ⟨g, o + 3, none⟩ = some (.int .i64 m)
  c4 : w.cell? ⟨g, o + 4, none⟩ = some (.int .u64 (x : Int))
  c5 : w.cell? ⟨g, o + 5, none⟩ = some vB
/-- The numbers have their bits. -/
structure ActRg (d a f m : Int) (x : Nat) : Prop where
  r0 : -9223372036854775808 ≤ d ∧ d ≤ 9223372036854775807
  r1 : -9223372036854775808 ≤ a ∧ a ≤ 9223372036854775807
  r2 : -9223372036854775808 ≤ f ∧ f ≤ 9223372036854775807
  r3 : -9223372036854775808 ≤ m ∧ m ≤ 9223372036854775807
  r4 : x < 18446744073709551616
def Acts (w : World) (A : Option Addr) (n : Nat) : Prop := ∀ i, i < n → ∃ (g o : Nat) (d a f m : Int) (x : Nat) (vB : Value) (bs : List Nat),
  A = some ⟨g, o, none⟩ ∧ g < w.heap.size ∧ ActAt w g (o + i * 6) d a f m x vB ∧ ActRg d a f m x ∧ BS w w.heap.size vB bs ∧ bs.length ≤ 140737488355328
def IsPlay (w : World) (v : Value) : Prop := ∃ (mn mx limit : Int) (A : Option Addr) (l c : Nat), v = .agg #[.int .i64 mn, .int .i64 mx, .int .i64 limit, .slice A l c] ∧ (-9223372036854775808 ≤ mn ∧ mn ≤ 9223372036854775807) ∧ (-9223372036854775808 ≤ mx ∧ mx ≤ 9223372036854775807) ∧ (-9223372036854775808 ≤ limit ∧ limit ≤ 9223372036854775807) ∧ (l ≤ c ∧ c ≤ maxLen) ∧ Acts w A l
theorem mem_weightsAll {H : Type} {P : Program} {e : TypeId} {d : DataW H} {n : Nat} : ∀ {l : List (DataW H)}, d ∈ l → n ∈ d.weights P e → n ∈ DataW.weightsAll P e l
  | x :: r, hd, hn => by
    simp only [DataW.weightsAll, List.mem_append]
    rcases List.mem_cons.1 hd with rfl | h
    · exact .inl hn
    · exact .inr (mem_weightsAll h hn)
theorem wfu64 {z : Int} (h : (Lit.int .u64 z).wf = true) : 0 ≤ z ∧ z ≤ 18446744073709551615 := by simpa [Lit.wf, IntKind.min, IntKind.max, IntKind.signed, IntKind.bits] using h
section
variable {H : Type} {enc : TypeId × Value → H} {w : World}
theorem open_bytes {n : Nat} {v : Value} {y : DataW H × List MemPlace} (h : DataW.trod enc Try.prog w 0 (fun _ => true) true n 38 [v] = some y) (hwt : ∀ m ∈ y.1.weights Try.prog 38, m ≤ reachBytes) :
    ∃ bs : List Nat, BS w w.heap.size v bs ∧ bs.length ≤ 140737488355328 := by
  have b8 : Try.prog.bytesOf 5 = 1 := by kernel_rfl
  rcases open_ints Try.underlying38 Try.underlying5 (by kernel_rfl) h with ⟨hcs, _⟩ | ⟨x, l, c, zs, hcs, _, hl, hm, hz, hy, hcell, hwz⟩
  · simp at hcs
    exact ⟨[], ⟨none, 0, hcs, by simp, by unfold maxLen; omega, fun i hi => by simp at hi⟩, by simp⟩
  · simp at hcs
    have hbl : ((zs.take l).map Int.toNat).length = l := by simp; simp at hz; omega
    have hlim := hwt (((lits (H := H) .u8 (zs.take l)).length + (lits (H := H) .u8 (zs.drop l)).length) * 1) (by
      rw [hy]
      simp [DataW.weights, Try.underlying38, b8])
    have hlim2 : l ≤ 140737488355328 := by
      simp [lits, reachBytes] at hlim hz
      omega
    refine ⟨(zs.take l).map Int.toNat, ⟨some x, c, by rw [hbl]; exact hcs, by rw [hbl]; exact hl, hm, fun i hi => ⟨x, rfl, ?_⟩⟩, by rw [hbl]; exact hlim2⟩
    rw [hbl] at hi
    have hzl : i < zs.length := by simp at hz; omega
    have e : ((zs.take l).map Int.toNat).getD i 0 = (zs[i]).toNat := by
      rw [List.getD_eq_getElem?_getD, List.getElem?_map, List.getElem?_take_of_lt hi, List.getElem?_eq_getElem hzl]; rfl
    have hci := hcell i hzl
    have e2 : zs.getD i 0 = zs[i] := by rw [List.getD_eq_getElem?_getD, List.getElem?_eq_getElem hzl]; rfl
    have hw := hwz (zs[i]) (List.getElem_mem hzl)
    have hx : 0 ≤ zs[i] ∧ zs[i] ≤ 255 := by simpa [Lit.wf, IntKind.min, IntKind.max, IntKind.signed, IntKind.bits] using hw
    refine ⟨?_, ?_, ?_⟩
    · have := World.block_lt_of_cell? w _ hci
      rwa [addr_block] at this
    · show ((zs.take l).map Int.toNat).getD i 0 < 256
      rw [e]; omega
    · show w.cell? (x.add i) = some (.int .u8 ((((zs.take l).map Int.toNat).getD i 0 : Nat) : Int))
      rw [e, Int.toNat_of_nonneg hx.1, ← e2]; exact hci
set_option maxRecDepth 100000 in
theorem open_acts {n : Nat} {A : Option Addr} {l c : Nat} {x : DataW H × List MemPlace} (h : DataW.trod enc Try.prog w 0 (fun _ => true) true n 24 [.slice A l c] = some x) (hwt : ∀ m ∈ x.1.weights Try.prog 24, m ≤ reachBytes) : Acts w A l := by
  rcases open_slice Try.underlying24 h with ⟨hcs, _⟩ | ⟨a, len, cap, m, k, D, Pl, hcs, _, hl, hm, hmm, hx, hi⟩
  · simp at hcs
    obtain ⟨rfl, rfl, rfl⟩ := hcs
    exact fun i hi => by omega
  · simp at hcs
    obtain ⟨rfl, rfl, rfl⟩ := hcs
    have hC : Try.prog.cellsOf 40 = 6 := by kernel_rfl
    intro i hil
    obtain ⟨g, o, spot⟩ := a
    have hsp : spot = none := by
      obtain ⟨cs0, hc0, _⟩ := hi 0 (by rw [hmm]; simp; omega)
      rw [hC] at hc0
      obtain ⟨_, hcl0, hat0⟩ := World.cells?_some hc0
      have h0 := hat0 0 (by omega)
      rw [List.getElem?_eq_getElem (by omega)] at h0
      have h1 := World.cell?_spot h0
      simpa [Addr.add] using h1
    subst hsp
    obtain ⟨cs', hc, ht⟩ := hi i (by rw [hmm]; simp; omega)
    rw [hC] at hc
    obtain ⟨_, hcl, hat⟩ := World.cells?_some hc
    obtain ⟨xs, n', _, hD, _, hxl, hf⟩ := DataW.trod_struct Try.underlying40 ht
    match cs', hcl with
    | [c0, c1, c2, c3, c4, c5], _ =>
      match xs, hxl with
      | [y0, y1, y2, y3, y4, y5], _ =>
        have k1 : Try.prog.cellsOf 3 = 1 := by kernel_rfl
        have k2 : Try.prog.cellsOf 37 = 1 := by kernel_rfl
        have k3 : Try.prog.cellsOf 38 = 1 := by kernel_rfl
        have f0 : DataW.trod enc Try.prog w 0 (fun _ => true) true n' 3 [c0] = some y0 := by simpa [k1] using hf 0 _ rfl
        have f1 : DataW.trod enc Try.prog w 0 (fun _ => true) true n' 3 [c1] = some y1 := by simpa [k1] using hf 1 _ rfl
        have f2 : DataW.trod enc Try.prog w 0 (fun _ => true) true n' 3 [c2] = some y2 := by simpa [k1] using hf 2 _ rfl
        have f3 : DataW.trod enc Try.prog w 0 (fun _ => true) true n' 3 [c3] = some y3 := by simpa [k1] using hf 3 _ rfl
        have f4 : DataW.trod enc Try.prog w 0 (fun _ => true) true n' 37 [c4] = some y4 := by simpa [k2] using hf 4 _ rfl
        have f5 : DataW.trod enc Try.prog w 0 (fun _ => true) true n' 38 [c5] = some y5 := by simpa [k3] using hf 5 _ rfl
        have hw5 : ∀ m ∈ y5.1.weights Try.prog 38, m ≤ reachBytes := by
          intro m hm0
          refine hwt m ?_
          rw [hx]
          simp only [DataW.weights, Try.underlying24]
          refine List.mem_cons_of_mem _ (List.mem_append_left _ (mem_weightsAll (d := D i) (List.mem_map.2 ⟨i, List.mem_range.2 hil, rfl⟩) ?_))
          simp only [Prod.mk.injEq] at hD
          rw [hD.1]
          simp only [DataW.weights, Try.underlying40]
          exact DataW.weights_mem_each (j := 5) (t := 38) (d := y5.1) rfl rfl m hm0
        obtain ⟨z0, e0, _, w0⟩ := DataW.trod_int Try.underlying3 f0
        obtain ⟨z1, e1, _, w1⟩ := DataW.trod_int Try.underlying3 f1
        obtain ⟨z2, e2, _, w2⟩ := DataW.trod_int Try.underlying3 f2
        obtain ⟨z3, e3, _, w3⟩ := DataW.trod_int Try.underlying3 f3
        obtain ⟨z4, e4, _, w4⟩ := DataW.trod_int Try.underlying37 f4
        simp at e0 e1 e2 e3 e4
        subst e0 e1 e2 e3 e4
        obtain ⟨bs, hbs, hbl⟩ := open_bytes f5 hw5
        have hu := wfu64 w4
        have q0 := hat 0 (by omega)
        have q1 := hat 1 (by omega)
        have q2 := hat 2 (by omega)
        have q3 := hat 3 (by omega)
        have q4 := hat 4 (by omega)
        have q5 := hat 5 (by omega)
        simp only [add_none, Nat.add_zero] at q0 q1 q2 q3 q4 q5
        exact ⟨g, o, z0, z1, z2, z3, z4.toNat, c5, bs, rfl, World.block_lt_of_cell? w ⟨g, o + i * 6, none⟩ q0, ⟨q0, q1, q2, q3, by rw [Int.toNat_of_nonneg hu.1]; exact q4, q5⟩, ⟨wf64 w0, wf64 w1, wf64 w2, wf64 w3, by omega⟩, hbs, hbl⟩
set_option maxRecDepth 100000 in
theorem open_play {n : Nat} {cs : Array Value} {x : DataW H × List MemPlace} (h : DataW.trod enc Try.prog w 0 (fun _ => true) true n 26 cs.toList = some x) (hwt : ∀ m ∈ x.1.weights Try.prog 26, m ≤ reachBytes) : IsPlay w (.agg cs) := by
  obtain ⟨mn, mx, limit, A, l, c, hv, h1, h2, h3, h4, h5⟩ := open_script h
  injection hv with hv
  subst hv
  have k3 : Try.prog.cellsOf 24 = 1 := by kernel_rfl
  obtain ⟨xs, n1, _, hD, hcl, hxl, hf⟩ := DataW.trod_struct Try.underlying26 h
  match xs, hxl with
  | [y0, y1, y2], _ =>
    have f2 : DataW.trod enc Try.prog w 0 (fun _ => true) true n1 24 [.slice A l c] = some y2 := by simpa [k3] using hf 2 _ rfl
    refine ⟨mn, mx, limit, A, l, c, rfl, h1, h2, h3, ⟨h4, h5⟩, open_acts f2 fun m hm => hwt m ?_⟩
    rw [hD]
    simp only [DataW.weights, Try.underlying26]
    exact DataW.weights_mem_each (j := 2) (t := 24) (d := y2.1) rfl rfl m hm
end
end Go.Proofs.Ytcdfmldbpmgoiaa
