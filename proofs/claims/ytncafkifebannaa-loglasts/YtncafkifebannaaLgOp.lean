/-
  How the laws' one argument, troubles and acts, lies in memory, opened from its reading as data; condition: what is handed in weighs no more than the form's own reach.
-/
import Derived.Test.YtncafkifebannaaDOpen
namespace Go.Proofs.Ytncafkifebannaa
open Go.ChangeShapes Go.WideShapes Go.ChangeAt Go.RowKit Go.Deep
/-- What an act's four cells hold. -/
structure LActAt (w : World) (g o : Nat) (d i : Int) (vR vP : Value) : Prop where
  c0 : w.cell? ⟨g, o, none⟩ = some (.int .i64 d)
  c1 : w.cell? ⟨g, o + 1, none⟩ = some (.int .i64 i)
  c2 : w.cell? ⟨g, o + 2, none⟩ = some vR
  c3 : w.cell? ⟨g, o + 3, none⟩ = some vP
/-- An act: its numbers, its record, its picks. -/
def LAct (w : World) (A : Option Addr) (j : Nat) (d i : Int) (vR : Value) (x : List Nat) (vP : Value) (ps : List Int) : Prop :=
  ∃ (g o : Nat), A = some ⟨g, o, none⟩ ∧ g < w.heap.size ∧ LActAt w g (o + j * 4) d i vR vP ∧ (Rg d ∧ Rg i) ∧ (BS w w.heap.size vR x ∧ x.length ≤ 140737488355328) ∧ (NS w w.heap.size vP ps ∧ ps.length ≤ 140737488355328)
def LActs (w : World) (A : Option Addr) (n : Nat) : Prop := ∀ j, j < n → ∃ d i vR x vP ps, LAct w A j d i vR x vP ps
theorem LAct.later {w w' : World} {A : Option Addr} {j : Nat} {d i : Int} {vR vP : Value} {x : List Nat} {ps : List Int} (h : LAct w A j d i vR x vP ps) (hb : Below w.heap.size w w') : LAct w' A j d i vR x vP ps := by
  obtain ⟨g, o, e, hg, c, r, hR, hP⟩ := h
  exact ⟨g, o, e, Nat.lt_of_lt_of_le hg hb.size, ⟨(hb.cell (p := ⟨g, _, none⟩) hg).trans c.c0, (hb.cell (p := ⟨g, _, none⟩) hg).trans c.c1, (hb.cell (p := ⟨g, _, none⟩) hg).trans c.c2, (hb.cell (p := ⟨g, _, none⟩) hg).trans c.c3⟩, r, ⟨hR.1.later hb, hR.2⟩, ⟨hP.1.later hb, hP.2⟩⟩
theorem LActs.later {w w' : World} {A : Option Addr} {n : Nat} (h : LActs w A n) (hb : Below w.heap.size w w') : LActs w' A n := fun j hj => by
  obtain ⟨d, i, vR, x, vP, ps, h⟩ := h j hj
  exact ⟨d, i, vR, x, vP, ps, h.later hb⟩
def IsScript (w : World) (v : Value) : Prop := ∃ (n : Int) (A : Option Addr) (l c : Nat) (ts : List Int) (A2 : Option Addr) (l2 c2 : Nat), v = .agg #[.int .i64 n, .slice A l c, .slice A2 l2 c2] ∧ Rg n ∧ (ts.length = l ∧ NS w w.heap.size (.slice A l c) ts) ∧ (l2 ≤ c2 ∧ c2 ≤ maxLen) ∧ LActs w A2 l2
theorem mem_weightsAll {H : Type} {P : Program} {e : TypeId} {d : DataW H} {n : Nat} : ∀ {l : List (DataW H)}, d ∈ l → n ∈ d.weights P e → n ∈ DataW.weightsAll P e l
  | x :: r, hd, hn => by
    simp only [DataW.weightsAll, List.mem_append]
    rcases List.mem_cons.1 hd with rfl | h
    · exact .inl hn
    · exact .inr (mem_weightsAll h hn)
section
variable {H : Type} {enc : TypeId × Value → H} {w : World}
theorem open_bytes {n : Nat} {v : Value} {y : DataW H × List MemPlace} (h : DataW.trod enc Try.prog w 0 (fun _ => true) true n 37 [v] = some y) (hwt : ∀ m ∈ y.1.weights Try.prog 37, m ≤ reachBytes) :
    ∃ bs : List Nat, BS w w.heap.size v bs ∧ bs.length ≤ 140737488355328 := by
  have b8 : Try.prog.bytesOf 5 = 1 := by kernel_rfl
  rcases open_ints Try.underlying37 Try.underlying5 (by kernel_rfl) h with ⟨hcs, _⟩ | ⟨x, l, c, zs, hcs, _, hl, hm, hz, hy, hcell, hwz⟩
  · simp at hcs
    exact ⟨[], ⟨none, 0, hcs, by simp, by unfold maxLen; omega, fun i hi => by simp at hi⟩, by simp⟩
  · simp at hcs
    have hbl : ((zs.take l).map Int.toNat).length = l := by simp; simp at hz; omega
    have hlim := hwt (((lits (H := H) .u8 (zs.take l)).length + (lits (H := H) .u8 (zs.drop l)).length) * 1) (by
      rw [hy]
      simp [DataW.weights, Try.underlying37, b8])
    have hlim2 : l ≤ 140737488355328 := by
      simp [lits, reachBytes] at hlim hz
      omega
    refine ⟨(zs.take l).map Int.toNat, ⟨some x, c, by rw [hbl]; exact hcs, by rw [hbl]; exact hl, hm, fun i hi => ⟨x, rfl, ?_⟩⟩, by rw [hbl]; exact hlim2⟩
    rw [hbl] at hi
    have hzl : i < zs.length := by simp at hz; omega
    have e : ((zs.take l).map Int.toNat).getD i 0 = (zs[i]).toNat := by
      rw [List.getD_eq_getElem?_getD, List.getElem?_map, List.getElem?_take_of_lt hi, List.getElem?_eq_getElem hzl]; rfl
    have hci := hcell i hzl
    have e2 : zs.getD i 0 = zs[i] := by rw [List.getD_eq_getElem?_getD, List.getElem?_eq_getElem hzl]; rfl
    have hw := hwz (zs[i]) (List.getElem_mem hzl)
    have hx : 0 ≤ zs[i] ∧ zs[i] ≤ 255 := by simpa [Lit.wf, IntKind.min, IntKind.max, IntKind.signed, IntKind.bits] using hw
    refine ⟨?_, ?_, ?_⟩
    · have := World.block_lt_of_cell? w _ hci
      rwa [addr_block] at this
    · show ((zs.take l).map Int.toNat).getD i 0 < 256
      rw [e]; omega
    · show w.cell? (x.add i) = some (.int .u8 ((((zs.take l).map Int.toNat).getD i 0 : Nat) : Int))
      rw [e, Int.toNat_of_nonneg hx.1, ← e2]; exact hci
theorem open_numsW {n : Nat} {v : Value} {y : DataW H × List MemPlace} (h : DataW.trod enc Try.prog w 0 (fun _ => true) true n 38 [v] = some y) (hwt : ∀ m ∈ y.1.weights Try.prog 38, m ≤ reachBytes) :
    ∃ xs : List Int, NS w w.heap.size v xs ∧ xs.length ≤ 140737488355328 := by
  have b8 : Try.prog.bytesOf 3 = 8 := by kernel_rfl
  rcases open_ints Try.underlying38 Try.underlying3 (by kernel_rfl) h with ⟨hcs, _⟩ | ⟨x, l, c, zs, hcs, _, hl, hm, hz, hy, hcell, hwz⟩
  · simp at hcs
    exact ⟨[], ⟨none, 0, hcs, by simp, by unfold maxLen; omega, fun i hi => by simp at hi⟩, by simp⟩
  · simp at hcs
    have hbl : (zs.take l).length = l := by simp; simp at hz; omega
    have hlim := hwt (((lits (H := H) .i64 (zs.take l)).length + (lits (H := H) .i64 (zs.drop l)).length) * 8) (by
      rw [hy]
      simp [DataW.weights, Try.underlying38, b8])
    have hlim2 : l ≤ 140737488355328 := by
      simp [lits, reachBytes] at hlim hz
      omega
    refine ⟨zs.take l, ⟨some x, c, by rw [hbl]; exact hcs, by rw [hbl]; exact hl, hm, fun i hi => ⟨x, rfl, ?_⟩⟩, by rw [hbl]; exact hlim2⟩
    rw [hbl] at hi
    have hzl : i < zs.length := by simp at hz; omega
    have e : (zs.take l).getD i 0 = zs[i] := by
      rw [List.getD_eq_getElem?_getD, List.getElem?_take_of_lt hi, List.getElem?_eq_getElem hzl]; rfl
    have hci := hcell i hzl
    have e2 : zs.getD i 0 = zs[i] := by rw [List.getD_eq_getElem?_getD, List.getElem?_eq_getElem hzl]; rfl
    have hw := wf64 (hwz (zs[i]) (List.getElem_mem hzl))
    refine ⟨?_, ?_, ?_⟩
    · have := World.block_lt_of_cell? w _ hci
      rwa [addr_block] at this
    · show _ ≤ (zs.take l).getD i 0 ∧ (zs.take l).getD i 0 ≤ _
      rw [e]; exact hw
    · show w.cell? (x.add i) = some (.int .i64 ((zs.take l).getD i 0))
      rw [e, ← e2]; exact hci
set_option maxRecDepth 100000 in
theorem open_lacts {n : Nat} {A : Option Addr} {l c : Nat} {x : DataW H × List MemPlace} (h : DataW.trod enc Try.prog w 0 (fun _ => true) true n 23 [.slice A l c] = some x) (hwt : ∀ m ∈ x.1.weights Try.prog 23, m ≤ reachBytes) : LActs w A l := by
  rcases open_slice Try.underlying23 h with ⟨hcs, _⟩ | ⟨a, len, cap, m, k, D, Pl, hcs, _, hl, hm, hmm, hx, hi⟩
  · simp at hcs
    obtain ⟨rfl, rfl, rfl⟩ := hcs
    exact fun i hi => by omega
  · simp at hcs
    obtain ⟨rfl, rfl, rfl⟩ := hcs
    have hC : Try.prog.cellsOf 40 = 4 := by kernel_rfl
    intro i hil
    obtain ⟨g, o, spot⟩ := a
    have hsp : spot = none := by
      obtain ⟨cs0, hc0, _⟩ := hi 0 (by rw [hmm]; simp; omega)
      rw [hC] at hc0
      obtain ⟨_, hcl0, hat0⟩ := World.cells?_some hc0
      have h0 := hat0 0 (by omega)
      rw [List.getElem?_eq_getElem (by omega)] at h0
      have h1 := World.cell?_spot h0
      simpa [Addr.add] using h1
    subst hsp
    obtain ⟨cs', hc, ht⟩ := hi i (by rw [hmm]; simp; omega)
    rw [hC] at hc
    obtain ⟨_, hcl, hat⟩ := World.cells?_some hc
    obtain ⟨xs, n', _, hD, _, hxl, hf⟩ := DataW.trod_struct Try.underlying40 ht
    match cs', hcl with
    | [c0, c1, c2, c3], _ =>
      match xs, hxl with
      | [y0, y1, y2, y3], _ =>
        have k1 : Try.prog.cellsOf 3 = 1 := by kernel_rfl
        have k2 : Try.prog.cellsOf 37 = 1 := by kernel_rfl
        have k3 : Try.prog.cellsOf 38 = 1 := by kernel_rfl
        have f0 : DataW.trod enc Try.prog w 0 (fun _ => true) true n' 3 [c0] = some y0 := by simpa [k1] using hf 0 _ rfl
        have f1 : DataW.trod enc Try.prog w 0 (fun _ => true) true n' 3 [c1] = some y1 := by simpa [k1] using hf 1 _ rfl
        have f2 : DataW.trod enc Try.prog w 0 (fun _ => true) true n' 37 [c2] = some y2 := by simpa [k2] using hf 2 _ rfl
        have f3 : DataW.trod enc Try.prog w 0 (fun _ => true) true n' 38 [c3] = some y3 := by simpa [k3] using hf 3 _ rfl
        have hup : ∀ (jj : Nat) (t : TypeId) (y : DataW H × List MemPlace), [3, 3, 37, 38][jj]? = some t → [y0.1, y1.1, y2.1, y3.1][jj]? = some y.1 → ∀ m ∈ y.1.weights Try.prog t, m ≤ reachBytes := by
          intro jj t y ht' hy' m hm0
          refine hwt m ?_
          rw [hx]
          simp only [DataW.weights, Try.underlying23]
          refine List.mem_cons_of_mem _ (List.mem_append_left _ (mem_weightsAll (d := D i) (List.mem_map.2 ⟨i, List.mem_range.2 hil, rfl⟩) ?_))
          simp only [Prod.mk.injEq] at hD
          rw [hD.1]
          simp only [DataW.weights, Try.underlying40]
          exact DataW.weights_mem_each (j := jj) (t := t) (d := y.1) ht' hy' m hm0
        obtain ⟨z0, e0, _, w0⟩ := DataW.trod_int Try.underlying3 f0
        obtain ⟨z1, e1, _, w1⟩ := DataW.trod_int Try.underlying3 f1
        simp at e0 e1
        subst e0 e1
        obtain ⟨bs, hbs, hbl⟩ := open_bytes f2 (hup 2 _ y2 rfl rfl)
        obtain ⟨ps, hps, hpl⟩ := open_numsW f3 (hup 3 _ y3 rfl rfl)
        have q0 := hat 0 (by omega)
        have q1 := hat 1 (by omega)
        have q2 := hat 2 (by omega)
        have q3 := hat 3 (by omega)
        simp only [add_none, Nat.add_zero] at q0 q1 q2 q3
        exact ⟨z0, z1, c2, bs, c3, ps, g, o, rfl, World.block_lt_of_cell? w ⟨g, o + i * 4, none⟩ q0, ⟨q0, q1, q2, q3⟩, ⟨wf64 w0, wf64 w1⟩, ⟨hbs, hbl⟩, ⟨hps, hpl⟩⟩
set_option maxRecDepth 100000 in
theorem open_script {n : Nat} {cs : Array Value} {x : DataW H × List MemPlace} (h : DataW.trod enc Try.prog w 0 (fun _ => true) true n 25 cs.toList = some x) (hwt : ∀ m ∈ x.1.weights Try.prog 25, m ≤ reachBytes) : IsScript w (.agg cs) := by
  have k1 : Try.prog.cellsOf 3 = 1 := by kernel_rfl
  have k2 : Try.prog.cellsOf 22 = 1 := by kernel_rfl
  have k3 : Try.prog.cellsOf 23 = 1 := by kernel_rfl
  have k4 : Try.prog.cellsOf 25 = 3 := by kernel_rfl
  obtain ⟨xs, n1, _, hD, hcl, hxl, hf⟩ := DataW.trod_struct Try.underlying25 h
  rw [k4] at hcl
  obtain ⟨l⟩ := cs
  match l, hcl with
  | [c0, c1, c2], _ =>
    match xs, hxl with
    | [y0, y1, y2], _ =>
      have f0 : DataW.trod enc Try.prog w 0 (fun _ => true) true n1 3 [c0] = some y0 := by simpa [k1] using hf 0 _ rfl
      have f1 : DataW.trod enc Try.prog w 0 (fun _ => true) true n1 22 [c1] = some y1 := by simpa [k2] using hf 1 _ rfl
      have f2 : DataW.trod enc Try.prog w 0 (fun _ => true) true n1 23 [c2] = some y2 := by simpa [k3] using hf 2 _ rfl
      obtain ⟨a0, e0, _, w0⟩ := DataW.trod_int Try.underlying3 f0
      simp at e0
      subst e0
      obtain ⟨A, l, c, rfl⟩ : ∃ A l c, c1 = .slice A l c := by
        rcases DataW.trod_slice Try.underlying22 f1 with ⟨hcs, _⟩ | ⟨a, len, cap, elems, rest, n3, hn3, hcs, hx, _, hl, hm, hlen, hel, _, _⟩
        · simp at hcs; exact ⟨_, _, _, hcs⟩
        · simp at hcs; exact ⟨_, _, _, hcs⟩
      obtain ⟨A2, l2, c2', rfl, hlc⟩ : ∃ A l c, c2 = .slice A l c ∧ l ≤ c ∧ c ≤ maxLen := by
        rcases DataW.trod_slice Try.underlying23 f2 with ⟨hcs, _⟩ | ⟨a, len, cap, elems, rest, n3, hn3, hcs, hx, _, hl, hm, hlen, hel, _, _⟩
        · simp at hcs; exact ⟨_, _, _, hcs, by omega, by unfold maxLen; omega⟩
        · simp at hcs; exact ⟨_, _, _, hcs, hl, hm⟩
      obtain ⟨ts, hts⟩ := open_troubles f1
      refine ⟨a0, A, l, c, ts, A2, l2, c2', rfl, wf64 w0, hts, hlc, open_lacts f2 fun m hm => hwt m ?_⟩
      rw [hD]
      simp only [DataW.weights, Try.underlying25]
      exact DataW.weights_mem_each (j := 2) (t := 23) (d := y2.1) rfl rfl m hm
end
end Go.Proofs.Ytncafkifebannaa
