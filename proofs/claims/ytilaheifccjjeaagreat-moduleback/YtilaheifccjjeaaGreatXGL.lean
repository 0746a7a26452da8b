/-
  The ground of the proofs of this seat, put together: XOpen, XOpen2, XWeight, XAsk, Mix, MRead, MReadE. No condition beyond what each text names.
-/
import Derived.StillTail
import Derived.StillTactics
import Derived.StillTailTactics
import Derived.Tactics
import Derived.BigRegion
import Derived.Laws.BytesString
import Derived.Test.YtilaheifccjjeaaGreatXGG
import Derived.Test.YtilaheifccjjeaaGreatXGK
import Derived.Test.YtilaheifccjjeaaGreatXGE
import Derived.Test.YtilaheifccjjeaaGreatXGH
import Derived.Test.YtilaheifccjjeaaGreatXGC
import Derived.Test.YtilaheifccjjeaaGreatXGA
import Derived.Test.YtilaheifccjjeaaGreatXGB
import Derived.Test.YtilaheifccjjeaaGreatXGD
import Derived.Test.YtilaheifccjjeaaGreatXGF
import Derived.Test.YtilaheifccjjeaaGreatXGI
import Derived.Test.YtilaheifccjjeaaGreatXGJ
namespace Go.Proofs.YtilaheifccjjeaaGreat
open Go.ChangeShapes Go.WideShapes Go.ChangeAt Go.RowKit Go.Deep
/-- A string of these bytes, of any length that can be handed in. -/
def rStrO : Rep (List Nat) where
  sz := 1
  is := fun _ _ x cs => cs = [str x] ∧ (∀ b ∈ x, b < 256) ∧ x.length ≤ 140737488355328
  len := fun h => by rw [h.1]; rfl
  one := fun h u hu => by rw [h.1] at hu; simp at hu; subst hu; rfl
  agree := fun h _ _ => h
/-- A slice of these bytes, of any length that can be handed in. -/
def BSO (w : World) (S : Nat → Prop) (v : Value) (bs : List Nat) : Prop :=
  ∃ A c, v = .slice A bs.length c ∧ (bs.length ≤ 140737488355328 ∧ bs.length ≤ c ∧ c ≤ maxLen) ∧ ∀ i, i < bs.length → ∃ ad, A = some ad ∧ S ad.block ∧ bs.getD i 0 < 256 ∧ w.cell? (ad.add i) = some (.int .u8 ((bs.getD i 0 : Nat) : Int))
theorem BSO.agree {w w' : World} {S T : Nat → Prop} {v : Value} {bs : List Nat} (h : BSO w S v bs) (ha : Agree S w w') (hT : ∀ k, S k → T k) : BSO w' T v bs := by
  obtain ⟨A, c, e, h1, h3⟩ := h
  refine ⟨A, c, e, h1, fun i hi => ?_⟩
  obtain ⟨ad, e1, h4, h5, h6⟩ := h3 i hi
  exact ⟨ad, e1, hT _ h4, h5, by rw [ha.cell (by rw [addr_block]; exact h4)]; exact h6⟩
theorem BSO.tight {w : World} {S : Nat → Prop} {v : Value} {bs : List Nat} (h : BSO w S v bs) (hn : bs.length ≤ 1000000000) : BSS w S v bs := by
  obtain ⟨A, c, e, h1, h3⟩ := h
  exact ⟨A, c, e, ⟨hn, h1.2⟩, h3⟩
def rBytesO : Rep (List Nat) where
  sz := 1
  is := fun w S x cs => ∃ v, cs = [v] ∧ BSO w S v x
  len := fun ⟨v, h, _⟩ => by rw [h]; rfl
  one := fun ⟨v, h, A, c, e, _⟩ u hu => by rw [h] at hu; simp at hu; subst hu; subst e; rfl
  agree := fun ⟨v, h, h2⟩ ha hT => ⟨v, h, h2.agree ha hT⟩
def rImpO : Rep M.Imp := rPair (rP2 (rP2 (rP2 (rP2 rStrO rStrO) rInt) rInt) rBool) rLim (fun y => ((((y.mo, y.na), y.kd), y.ty), y.mu)) (·.lim)
def rExpO : Rep M.Exp := rPair (rP2 rStrO rInt) rInt (fun y => (y.na, y.kd)) (·.ix)
def rDatO : Rep M.Dat := rPair (rP2 rInt rIns) rBytesO (fun y => (y.me, y.off)) (·.bs)
/-- The value is a slice of these, of any length that can be handed in. -/
def LstO {α : Type} (R : Rep α) (w : World) (S : Nat → Prop) (v : Value) (xs : List α) : Prop :=
  ∃ A c, v = .slice A xs.length c ∧ (xs.length ≤ 140737488355328 ∧ xs.length ≤ c ∧ c ≤ maxLen) ∧ (xs = [] ∨ ∃ g o cs, A = some ⟨g, o, none⟩ ∧ S g ∧ RowOf R w S xs cs ∧ ∀ j u, cs[j]? = some u → w.cell? ⟨g, o + j, none⟩ = some u)
theorem LstO.tight {α : Type} {R : Rep α} {w : World} {S : Nat → Prop} {v : Value} {xs : List α} (h : LstO R w S v xs) (hn : xs.length ≤ 1000000000) : Lst R w S v xs := by
  obtain ⟨A, c, e, h1, h3⟩ := h
  exact ⟨A, c, e, ⟨hn, h1.2⟩, h3⟩
theorem row_build {α : Type} {R : Rep α} {w : World} {S : Nat → Prop} {g : Nat} : ∀ (n o : Nat), (∀ i, i < n → ∃ (x : α) (cs : List Value), R.is w S x cs ∧ ∀ j u, cs[j]? = some u → w.cell? ⟨g, o + i * R.sz + j, none⟩ = some u) → ∃ (xs : List α) (cs : List Value), xs.length = n ∧ RowOf R w S xs cs ∧ ∀ j u, cs[j]? = some u → w.cell? ⟨g, o + j, none⟩ = some u := by
  intro n
  induction n with
  | zero => intro o _; exact ⟨[], [], rfl, rfl, fun j u h => by simp at h⟩
  | succ n ih =>
    intro o hi
    obtain ⟨x, c, h1, h2⟩ := hi 0 (by omega)
    obtain ⟨xs, cs, h3, h4, h5⟩ := ih (o + R.sz) (fun i hn => by
      obtain ⟨x, c, h1, h2⟩ := hi (i + 1) (by omega)
      exact ⟨x, c, h1, fun j u hu => by rw [show o + R.sz + i * R.sz + j = o + (i + 1) * R.sz + j by rw [Nat.succ_mul]; omega]; exact h2 j u hu⟩)
    refine ⟨x :: xs, c ++ cs, by simp [h3], ⟨c, cs, rfl, h1, h4⟩, fun j u hu => ?_⟩
    have hl := R.len h1
    by_cases hj : j < c.length
    · rw [List.getElem?_append_left hj] at hu
      have := h2 j u hu
      rwa [Nat.zero_mul, Nat.add_zero] at this
    · rw [List.getElem?_append_right (by omega)] at hu
      have := h5 _ u hu
      rwa [show o + R.sz + (j - c.length) = o + j by omega] at this
theorem str_sby (s : ByteArray) : str (sby s) = .string s := by
  have e : ∀ t : ByteArray, t.data.toList = s.data.toList → Value.string t = .string s := fun t h => by
    congr 1
    exact ByteArray.ext (Array.toList_inj.1 h)
  refine e _ ?_
  unfold sby
  rw [push_list]
  have e : (ByteArray.empty.data.toList : List UInt8) = [] := rfl
  rw [e, List.nil_append, List.map_map]
  exact (List.map_congr_left fun b _ => by simp).trans (List.map_id _)
/-- Reading it as data opens it. -/
def Opens {H : Type} (enc : TypeId × Value → H) (w : World) {α : Type} (R : Rep α) (t : TypeId) : Prop :=
  ∀ {n : Nat} {cs : List Value} {y : DataW H × List MemPlace}, DataW.trod enc Tryz.prog w 0 (fun _ => true) true n t cs = some y → (∀ m ∈ y.1.weights Tryz.prog t, m ≤ reachBytes) → ∃ x, R.is w (· < w.heap.size) x cs
section
variable {H : Type} {enc : TypeId × Value → H} {w : World}
theorem opens_int : Opens enc w rInt 3 := by
  intro n cs y h _
  obtain ⟨z, e, _, hw⟩ := DataW.trod_int Tryz.underlying3 h
  exact ⟨z, e, wf64 hw⟩
theorem opens_bool : Opens enc w rBool 4 := by
  intro n cs y h _
  obtain ⟨z, e, _⟩ := DataW.trod_bool Tryz.underlying4 h
  exact ⟨z, e⟩
theorem opens_string : Opens enc w rStrO 9 := by
  intro n cs y h hw
  obtain ⟨s, e, hy, _⟩ := DataW.trod_string Tryz.underlying9 h
  have hlim := hw s.data.toList.length (by rw [hy]; simp [DataW.weights])
  refine ⟨sby s, by rw [str_sby]; exact e, fun b hb => ?_, ?_⟩
  · unfold sby at hb
    obtain ⟨u, _, rfl⟩ := List.mem_map.1 hb
    exact u.toNat_lt
  · unfold sby
    rw [List.length_map]
    unfold reachBytes at hlim
    omega
theorem one_val {t : TypeId} {e : TypeId} (ht : Tryz.prog.underlying t = some (.slice e)) {n : Nat} {cs : List Value} {y : DataW H × List MemPlace} (h : DataW.trod enc Tryz.prog w 0 (fun _ => true) true n t cs = some y) : ∃ v, cs = [v] := by
  rcases DataW.trod_slice ht h with ⟨e, _⟩ | ⟨_, _, _, _, _, _, _, e, _⟩
  · exact ⟨_, e⟩
  · exact ⟨_, e⟩
theorem opens_nums : Opens enc w rNums 52 := by
  intro n cs y h hw
  obtain ⟨v, rfl⟩ := one_val Tryz.underlying52 h
  obtain ⟨xs, hx⟩ := open_nums h hw
  exact ⟨xs, v, rfl, hx⟩
theorem opens_L : Opens enc w rL 62 := by
  intro n cs y h hw
  obtain ⟨v, rfl⟩ := one_val Tryz.underlying62 h
  obtain ⟨xs, hx⟩ := open_instrs n (Nat.le_refl _) h hw
  exact ⟨xs, v, rfl, hx⟩
theorem opens_bytes : Opens enc w rBytesO 33 := by
  intro n cs y h hw
  obtain ⟨v, rfl⟩ := one_val Tryz.underlying33 h
  obtain ⟨bs, hb⟩ := open_bytes h
  obtain ⟨A, c, rfl, h1, h2, h3⟩ := hb
  refine ⟨bs, _, rfl, A, c, rfl, ⟨?_, h1, h2⟩, h3⟩
  have b1 : Tryz.prog.bytesOf 5 = 1 := by kernel_rfl
  rcases DataW.trod_slice Tryz.underlying33 h with ⟨hcs, _⟩ | ⟨a, len, cap, elems, rest, n1, hn1, hcs, hx, _, hl, hm, hlen, hel, _, _⟩
  · simp at hcs
    rw [hcs.2.1]
    simp
  · simp at hcs
    have hlim := hw ((elems.length + rest.length) * 1) (by
      rw [hx]
      simp [DataW.weights, Tryz.underlying33, b1])
    unfold reachBytes at hlim
    rw [hcs.2.1]
    omega
set_option maxRecDepth 100000 in
/-- A slice of what opens. -/
theorem opens_list {α : Type} {R : Rep α} {t e : TypeId} (ht : Tryz.prog.underlying t = some (.slice e)) (hc : Tryz.prog.cellsOf e = R.sz) (hs : 0 < R.sz) (hb : 1 ≤ Tryz.prog.bytesOf e) (he : Opens enc w R e) {n : Nat} {v : Value} {y : DataW H × List MemPlace}
    (h : DataW.trod enc Tryz.prog w 0 (fun _ => true) true n t [v] = some y) (hwt : ∀ m ∈ y.1.weights Tryz.prog t, m ≤ reachBytes) : ∃ xs : List α, LstO R w (· < w.heap.size) v xs := by
  rcases DataW.trod_slice ht h with ⟨hcs, _⟩ | ⟨a, len, cap, elems, rest, n1, hn1, hcs, hx, _, hl, hm, hlen, hel, _, _⟩
  · simp at hcs
    exact ⟨[], none, 0, hcs, ⟨by simp, by simp, by unfold maxLen; omega⟩, .inl rfl⟩
  · simp at hcs
    subst hcs
    have hlim := hwt ((elems.length + rest.length) * Tryz.prog.bytesOf e) (by
      rw [hx]
      simp [DataW.weights, ht])
    have hlim1 : elems.length + rest.length ≤ (elems.length + rest.length) * Tryz.prog.bytesOf e := Nat.le_mul_of_pos_right _ hb
    have hlim2 : len ≤ 140737488355328 := by
      unfold reachBytes at hlim
      omega
    obtain ⟨g, o, spot⟩ := a
    by_cases h0 : len = 0
    · subst h0
      exact ⟨[], _, cap, rfl, ⟨by simp, by simp, hm⟩, .inl rfl⟩
    have hsp : spot = none := by
      have hei := hel 0 (by omega)
      rw [hc] at hei
      rw [List.getElem?_eq_getElem (by omega)] at hei
      obtain ⟨cs', hc', _⟩ := Option.bind_eq_some_iff.1 hei
      obtain ⟨_, hcl, hat⟩ := World.cells?_some hc'
      have h0 := hat 0 hs
      rw [List.getElem?_eq_getElem (by omega)] at h0
      have h1 := World.cell?_spot h0
      simpa [Addr.add] using h1
    subst hsp
    have hit : ∀ i, i < len → g < w.heap.size ∧ ∃ (x : α) (cs : List Value), R.is w (· < w.heap.size) x cs ∧ ∀ j u, cs[j]? = some u → w.cell? ⟨g, o + i * R.sz + j, none⟩ = some u := by
      intro i hi
      have hei := hel i hi
      rw [hc] at hei
      rw [List.getElem?_eq_getElem (by omega)] at hei
      obtain ⟨cs', hc', ht'⟩ := Option.bind_eq_some_iff.1 hei
      obtain ⟨_, hcl, hat⟩ := World.cells?_some hc'
      obtain ⟨x, hxs⟩ := he ht' (fun m hm0 => hwt m (by
        rw [hx]
        simp only [DataW.weights, ht]
        exact List.mem_cons_of_mem _ (List.mem_append_left _ (mem_weightsAll (d := (elems[i]).1) (List.mem_map.2 ⟨elems[i], List.getElem_mem (by omega), rfl⟩) hm0))))
      have hcell : ∀ j u, cs'[j]? = some u → w.cell? ⟨g, o + i * R.sz + j, none⟩ = some u := fun j u hu => by
        have hj : j < cs'.length := (List.getElem?_eq_some_iff.1 hu).1
        have := hat j (by omega)
        simp only [add_none] at this
        rw [← hu]
        exact this
      have hl0 : 0 < cs'.length := by omega
      exact ⟨World.block_lt_of_cell? w ⟨g, o + i * R.sz + 0, none⟩ (hcell 0 _ (List.getElem?_eq_getElem hl0)), x, cs', hxs, hcell⟩
    obtain ⟨hg, _⟩ := hit 0 (by omega)
    obtain ⟨xs, cs, hxl, hr, hcl⟩ := row_build (R := R) (w := w) (S := (· < w.heap.size)) (g := g) len o (fun i hi => (hit i hi).2)
    subst hxl
    exact ⟨xs, some ⟨g, o, none⟩, cap, rfl, ⟨hlim2, hl, hm⟩, .inr ⟨g, o, cs, rfl, hg, hr, hcl⟩⟩
theorem opens_i64 : Opens enc w rInt 2 := by
  intro n cs y h _
  obtain ⟨z, e, _, hw⟩ := DataW.trod_int Tryz.underlying2 h
  exact ⟨z, e, wf64 hw⟩
set_option maxRecDepth 100000 in
theorem opens_ins : Opens enc w rIns 68 := by
  intro n cs y h hw
  have k_L : Tryz.prog.cellsOf 62 = 1 := by kernel_rfl
  have k_i64 : Tryz.prog.cellsOf 2 = 1 := by kernel_rfl
  have k_int : Tryz.prog.cellsOf 3 = 1 := by kernel_rfl
  have k_nums : Tryz.prog.cellsOf 52 = 1 := by kernel_rfl
  have hC : Tryz.prog.cellsOf 68 = 9 := by kernel_rfl
  obtain ⟨xs, n2, hn2, hD, hcl, hxl, hf⟩ := DataW.trod_struct Tryz.underlying68 h
  rw [hC] at hcl
  obtain ⟨d0, d1, d2, d3, d4, d5, d6, d7, d8, rfl⟩ : ∃ d0 d1 d2 d3 d4 d5 d6 d7 d8, cs = [d0, d1, d2, d3, d4, d5, d6, d7, d8] := by
    match cs, hcl with
    | [d0, d1, d2, d3, d4, d5, d6, d7, d8], _ => exact ⟨d0, d1, d2, d3, d4, d5, d6, d7, d8, rfl⟩
  obtain ⟨y0, y1, y2, y3, y4, y5, y6, y7, y8, rfl⟩ : ∃ y0 y1 y2 y3 y4 y5 y6 y7 y8, xs = [y0, y1, y2, y3, y4, y5, y6, y7, y8] := by
    match xs, hxl with
    | [y0, y1, y2, y3, y4, y5, y6, y7, y8], _ => exact ⟨y0, y1, y2, y3, y4, y5, y6, y7, y8, rfl⟩
  have f0 : DataW.trod enc Tryz.prog w 0 (fun _ => true) true n2 3 [d0] = some y0 := by simpa [k_int] using hf 0 _ rfl
  have f1 : DataW.trod enc Tryz.prog w 0 (fun _ => true) true n2 3 [d1] = some y1 := by simpa [k_int] using hf 1 _ rfl
  have f2 : DataW.trod enc Tryz.prog w 0 (fun _ => true) true n2 3 [d2] = some y2 := by simpa [k_int] using hf 2 _ rfl
  have f3 : DataW.trod enc Tryz.prog w 0 (fun _ => true) true n2 3 [d3] = some y3 := by simpa [k_int] using hf 3 _ rfl
  have f4 : DataW.trod enc Tryz.prog w 0 (fun _ => true) true n2 3 [d4] = some y4 := by simpa [k_int] using hf 4 _ rfl
  have f5 : DataW.trod enc Tryz.prog w 0 (fun _ => true) true n2 2 [d5] = some y5 := by simpa [k_i64] using hf 5 _ rfl
  have f6 : DataW.trod enc Tryz.prog w 0 (fun _ => true) true n2 52 [d6] = some y6 := by simpa [k_nums] using hf 6 _ rfl
  have f7 : DataW.trod enc Tryz.prog w 0 (fun _ => true) true n2 62 [d7] = some y7 := by simpa [k_L] using hf 7 _ rfl
  have f8 : DataW.trod enc Tryz.prog w 0 (fun _ => true) true n2 62 [d8] = some y8 := by simpa [k_L] using hf 8 _ rfl
  have hws : ∀ (j : Nat) (t : TypeId) (d : DataW H), [3, 3, 3, 3, 3, 2, 52, 62, 62][j]? = some t → [y0.1, y1.1, y2.1, y3.1, y4.1, y5.1, y6.1, y7.1, y8.1][j]? = some d → ∀ m ∈ d.weights Tryz.prog t, m ≤ reachBytes := by
    intro j t d h1 h2 m hm0
    refine hw m ?_
    rw [hD]
    simp only [DataW.weights, Tryz.underlying68]
    exact DataW.weights_mem_each (j := j) (t := t) (d := d) h1 h2 m hm0
  obtain ⟨x0, h0⟩ := opens_int f0 (hws 0 _ _ rfl rfl)
  obtain ⟨x1, h1⟩ := opens_int f1 (hws 1 _ _ rfl rfl)
  obtain ⟨x2, h2⟩ := opens_int f2 (hws 2 _ _ rfl rfl)
  obtain ⟨x3, h3⟩ := opens_int f3 (hws 3 _ _ rfl rfl)
  obtain ⟨x4, h4⟩ := opens_int f4 (hws 4 _ _ rfl rfl)
  obtain ⟨x5, h5⟩ := opens_i64 f5 (hws 5 _ _ rfl rfl)
  obtain ⟨x6, h6⟩ := opens_nums f6 (hws 6 _ _ rfl rfl)
  obtain ⟨x7, h7⟩ := opens_L f7 (hws 7 _ _ rfl rfl)
  obtain ⟨x8, h8⟩ := opens_L f8 (hws 8 _ _ rfl rfl)
  obtain ⟨e0, r0⟩ := h0
  obtain ⟨e1, r1⟩ := h1
  obtain ⟨e2, r2⟩ := h2
  obtain ⟨e3, r3⟩ := h3
  obtain ⟨e4, r4⟩ := h4
  obtain ⟨e5, r5⟩ := h5
  obtain ⟨v6, e6, r6⟩ := h6
  obtain ⟨v7, e7, r7⟩ := h7
  obtain ⟨v8, e8, r8⟩ := h8
  simp only [List.cons.injEq, and_true] at e0 e1 e2 e3 e4 e5 e6 e7 e8
  subst e0 e1 e2 e3 e4 e5 e6 e7 e8
  exact ⟨_, ⟨x0, x1, x2, x3, x4, x5, x6⟩, x7, x8, _, _, _, rfl, rfl, ⟨r0, r1, r2, r3, r4, r5⟩, r6, r7, r8⟩
set_option maxRecDepth 100000 in
theorem opens_lim : Opens enc w rLim 58 := by
  intro n cs y h hw
  have k_int : Tryz.prog.cellsOf 3 = 1 := by kernel_rfl
  have hC : Tryz.prog.cellsOf 58 = 2 := by kernel_rfl
  obtain ⟨xs, n2, hn2, hD, hcl, hxl, hf⟩ := DataW.trod_struct Tryz.underlying58 h
  rw [hC] at hcl
  obtain ⟨d0, d1, rfl⟩ : ∃ d0 d1, cs = [d0, d1] := by
    match cs, hcl with
    | [d0, d1], _ => exact ⟨d0, d1, rfl⟩
  obtain ⟨y0, y1, rfl⟩ : ∃ y0 y1, xs = [y0, y1] := by
    match xs, hxl with
    | [y0, y1], _ => exact ⟨y0, y1, rfl⟩
  have f0 : DataW.trod enc Tryz.prog w 0 (fun _ => true) true n2 3 [d0] = some y0 := by simpa [k_int] using hf 0 _ rfl
  have f1 : DataW.trod enc Tryz.prog w 0 (fun _ => true) true n2 3 [d1] = some y1 := by simpa [k_int] using hf 1 _ rfl
  have hws : ∀ (j : Nat) (t : TypeId) (d : DataW H), [3, 3][j]? = some t → [y0.1, y1.1][j]? = some d → ∀ m ∈ d.weights Tryz.prog t, m ≤ reachBytes := by
    intro j t d h1 h2 m hm0
    refine hw m ?_
    rw [hD]
    simp only [DataW.weights, Tryz.underlying58]
    exact DataW.weights_mem_each (j := j) (t := t) (d := d) h1 h2 m hm0
  obtain ⟨x0, h0⟩ := opens_int f0 (hws 0 _ _ rfl rfl)
  obtain ⟨x1, h1⟩ := opens_int f1 (hws 1 _ _ rfl rfl)
  exact ⟨⟨x0, x1⟩, ⟨[d0], [d1], rfl, h0, h1⟩⟩
set_option maxRecDepth 100000 in
theorem opens_ft : Opens enc w rFT 54 := by
  intro n cs y h hw
  have k_nums : Tryz.prog.cellsOf 52 = 1 := by kernel_rfl
  have hC : Tryz.prog.cellsOf 54 = 2 := by kernel_rfl
  obtain ⟨xs, n2, hn2, hD, hcl, hxl, hf⟩ := DataW.trod_struct Tryz.underlying54 h
  rw [hC] at hcl
  obtain ⟨d0, d1, rfl⟩ : ∃ d0 d1, cs = [d0, d1] := by
    match cs, hcl with
    | [d0, d1], _ => exact ⟨d0, d1, rfl⟩
  obtain ⟨y0, y1, rfl⟩ : ∃ y0 y1, xs = [y0, y1] := by
    match xs, hxl with
    | [y0, y1], _ => exact ⟨y0, y1, rfl⟩
  have f0 : DataW.trod enc Tryz.prog w 0 (fun _ => true) true n2 52 [d0] = some y0 := by simpa [k_nums] using hf 0 _ rfl
  have f1 : DataW.trod enc Tryz.prog w 0 (fun _ => true) true n2 52 [d1] = some y1 := by simpa [k_nums] using hf 1 _ rfl
  have hws : ∀ (j : Nat) (t : TypeId) (d : DataW H), [52, 52][j]? = some t → [y0.1, y1.1][j]? = some d → ∀ m ∈ d.weights Tryz.prog t, m ≤ reachBytes := by
    intro j t d h1 h2 m hm0
    refine hw m ?_
    rw [hD]
    simp only [DataW.weights, Tryz.underlying54]
    exact DataW.weights_mem_each (j := j) (t := t) (d := d) h1 h2 m hm0
  obtain ⟨x0, h0⟩ := opens_nums f0 (hws 0 _ _ rfl rfl)
  obtain ⟨x1, h1⟩ := opens_nums f1 (hws 1 _ _ rfl rfl)
  exact ⟨⟨x0, x1⟩, ⟨[d0], [d1], rfl, h0, h1⟩⟩
set_option maxRecDepth 100000 in
theorem opens_imp : Opens enc w rImpO 60 := by
  intro n cs y h hw
  have k_bool : Tryz.prog.cellsOf 4 = 1 := by kernel_rfl
  have k_int : Tryz.prog.cellsOf 3 = 1 := by kernel_rfl
  have k_lim : Tryz.prog.cellsOf 58 = 2 := by kernel_rfl
  have k_str : Tryz.prog.cellsOf 9 = 1 := by kernel_rfl
  have hC : Tryz.prog.cellsOf 60 = 7 := by kernel_rfl
  obtain ⟨xs, n2, hn2, hD, hcl, hxl, hf⟩ := DataW.trod_struct Tryz.underlying60 h
  rw [hC] at hcl
  obtain ⟨d0, d1, d2, d3, d4, d5, d6, rfl⟩ : ∃ d0 d1 d2 d3 d4 d5 d6, cs = [d0, d1, d2, d3, d4, d5, d6] := by
    match cs, hcl with
    | [d0, d1, d2, d3, d4, d5, d6], _ => exact ⟨d0, d1, d2, d3, d4, d5, d6, rfl⟩
  obtain ⟨y0, y1, y2, y3, y4, y5, rfl⟩ : ∃ y0 y1 y2 y3 y4 y5, xs = [y0, y1, y2, y3, y4, y5] := by
    match xs, hxl with
    | [y0, y1, y2, y3, y4, y5], _ => exact ⟨y0, y1, y2, y3, y4, y5, rfl⟩
  have f0 : DataW.trod enc Tryz.prog w 0 (fun _ => true) true n2 9 [d0] = some y0 := by simpa [k_str] using hf 0 _ rfl
  have f1 : DataW.trod enc Tryz.prog w 0 (fun _ => true) true n2 9 [d1] = some y1 := by simpa [k_str] using hf 1 _ rfl
  have f2 : DataW.trod enc Tryz.prog w 0 (fun _ => true) true n2 3 [d2] = some y2 := by simpa [k_int] using hf 2 _ rfl
  have f3 : DataW.trod enc Tryz.prog w 0 (fun _ => true) true n2 3 [d3] = some y3 := by simpa [k_int] using hf 3 _ rfl
  have f4 : DataW.trod enc Tryz.prog w 0 (fun _ => true) true n2 4 [d4] = some y4 := by simpa [k_bool] using hf 4 _ rfl
  have f5 : DataW.trod enc Tryz.prog w 0 (fun _ => true) true n2 58 [d5, d6] = some y5 := by simpa [k_lim] using hf 5 _ rfl
  have hws : ∀ (j : Nat) (t : TypeId) (d : DataW H), [9, 9, 3, 3, 4, 58][j]? = some t → [y0.1, y1.1, y2.1, y3.1, y4.1, y5.1][j]? = some d → ∀ m ∈ d.weights Tryz.prog t, m ≤ reachBytes := by
    intro j t d h1 h2 m hm0
    refine hw m ?_
    rw [hD]
    simp only [DataW.weights, Tryz.underlying60]
    exact DataW.weights_mem_each (j := j) (t := t) (d := d) h1 h2 m hm0
  obtain ⟨x0, h0⟩ := opens_string f0 (hws 0 _ _ rfl rfl)
  obtain ⟨x1, h1⟩ := opens_string f1 (hws 1 _ _ rfl rfl)
  obtain ⟨x2, h2⟩ := opens_int f2 (hws 2 _ _ rfl rfl)
  obtain ⟨x3, h3⟩ := opens_int f3 (hws 3 _ _ rfl rfl)
  obtain ⟨x4, h4⟩ := opens_bool f4 (hws 4 _ _ rfl rfl)
  obtain ⟨x5, h5⟩ := opens_lim f5 (hws 5 _ _ rfl rfl)
  exact ⟨⟨x0, x1, x2, x3, x4, x5⟩, ⟨[d0, d1, d2, d3, d4], [d5, d6], rfl, ⟨[d0, d1, d2, d3], [d4], rfl, ⟨[d0, d1, d2], [d3], rfl, ⟨[d0, d1], [d2], rfl, ⟨[d0], [d1], rfl, h0, h1⟩, h2⟩, h3⟩, h4⟩, h5⟩⟩
set_option maxRecDepth 100000 in
theorem opens_fn : Opens enc w rFn 64 := by
  intro n cs y h hw
  have k_L : Tryz.prog.cellsOf 62 = 1 := by kernel_rfl
  have k_int : Tryz.prog.cellsOf 3 = 1 := by kernel_rfl
  have k_nums : Tryz.prog.cellsOf 52 = 1 := by kernel_rfl
  have hC : Tryz.prog.cellsOf 64 = 3 := by kernel_rfl
  obtain ⟨xs, n2, hn2, hD, hcl, hxl, hf⟩ := DataW.trod_struct Tryz.underlying64 h
  rw [hC] at hcl
  obtain ⟨d0, d1, d2, rfl⟩ : ∃ d0 d1 d2, cs = [d0, d1, d2] := by
    match cs, hcl with
    | [d0, d1, d2], _ => exact ⟨d0, d1, d2, rfl⟩
  obtain ⟨y0, y1, y2, rfl⟩ : ∃ y0 y1 y2, xs = [y0, y1, y2] := by
    match xs, hxl with
    | [y0, y1, y2], _ => exact ⟨y0, y1, y2, rfl⟩
  have f0 : DataW.trod enc Tryz.prog w 0 (fun _ => true) true n2 3 [d0] = some y0 := by simpa [k_int] using hf 0 _ rfl
  have f1 : DataW.trod enc Tryz.prog w 0 (fun _ => true) true n2 52 [d1] = some y1 := by simpa [k_nums] using hf 1 _ rfl
  have f2 : DataW.trod enc Tryz.prog w 0 (fun _ => true) true n2 62 [d2] = some y2 := by simpa [k_L] using hf 2 _ rfl
  have hws : ∀ (j : Nat) (t : TypeId) (d : DataW H), [3, 52, 62][j]? = some t → [y0.1, y1.1, y2.1][j]? = some d → ∀ m ∈ d.weights Tryz.prog t, m ≤ reachBytes := by
    intro j t d h1 h2 m hm0
    refine hw m ?_
    rw [hD]
    simp only [DataW.weights, Tryz.underlying64]
    exact DataW.weights_mem_each (j := j) (t := t) (d := d) h1 h2 m hm0
  obtain ⟨x0, h0⟩ := opens_int f0 (hws 0 _ _ rfl rfl)
  obtain ⟨x1, h1⟩ := opens_nums f1 (hws 1 _ _ rfl rfl)
  obtain ⟨x2, h2⟩ := opens_L f2 (hws 2 _ _ rfl rfl)
  exact ⟨⟨x0, x1, x2⟩, ⟨[d0, d1], [d2], rfl, ⟨[d0], [d1], rfl, h0, h1⟩, h2⟩⟩
set_option maxRecDepth 100000 in
theorem opens_glo : Opens enc w rGlo 70 := by
  intro n cs y h hw
  have k_bool : Tryz.prog.cellsOf 4 = 1 := by kernel_rfl
  have k_ins : Tryz.prog.cellsOf 68 = 9 := by kernel_rfl
  have k_int : Tryz.prog.cellsOf 3 = 1 := by kernel_rfl
  have hC : Tryz.prog.cellsOf 70 = 11 := by kernel_rfl
  obtain ⟨xs, n2, hn2, hD, hcl, hxl, hf⟩ := DataW.trod_struct Tryz.underlying70 h
  rw [hC] at hcl
  obtain ⟨d0, d1, d2, d3, d4, d5, d6, d7, d8, d9, d10, rfl⟩ : ∃ d0 d1 d2 d3 d4 d5 d6 d7 d8 d9 d10, cs = [d0, d1, d2, d3, d4, d5, d6, d7, d8, d9, d10] := by
    match cs, hcl with
    | [d0, d1, d2, d3, d4, d5, d6, d7, d8, d9, d10], _ => exact ⟨d0, d1, d2, d3, d4, d5, d6, d7, d8, d9, d10, rfl⟩
  obtain ⟨y0, y1, y2, rfl⟩ : ∃ y0 y1 y2, xs = [y0, y1, y2] := by
    match xs, hxl with
    | [y0, y1, y2], _ => exact ⟨y0, y1, y2, rfl⟩
  have f0 : DataW.trod enc Tryz.prog w 0 (fun _ => true) true n2 3 [d0] = some y0 := by simpa [k_int] using hf 0 _ rfl
  have f1 : DataW.trod enc Tryz.prog w 0 (fun _ => true) true n2 4 [d1] = some y1 := by simpa [k_bool] using hf 1 _ rfl
  have f2 : DataW.trod enc Tryz.prog w 0 (fun _ => true) true n2 68 [d2, d3, d4, d5, d6, d7, d8, d9, d10] = some y2 := by simpa [k_ins] using hf 2 _ rfl
  have hws : ∀ (j : Nat) (t : TypeId) (d : DataW H), [3, 4, 68][j]? = some t → [y0.1, y1.1, y2.1][j]? = some d → ∀ m ∈ d.weights Tryz.prog t, m ≤ reachBytes := by
    intro j t d h1 h2 m hm0
    refine hw m ?_
    rw [hD]
    simp only [DataW.weights, Tryz.underlying70]
    exact DataW.weights_mem_each (j := j) (t := t) (d := d) h1 h2 m hm0
  obtain ⟨x0, h0⟩ := opens_int f0 (hws 0 _ _ rfl rfl)
  obtain ⟨x1, h1⟩ := opens_bool f1 (hws 1 _ _ rfl rfl)
  obtain ⟨x2, h2⟩ := opens_ins f2 (hws 2 _ _ rfl rfl)
  exact ⟨⟨x0, x1, x2⟩, ⟨[d0, d1], [d2, d3, d4, d5, d6, d7, d8, d9, d10], rfl, ⟨[d0], [d1], rfl, h0, h1⟩, h2⟩⟩
set_option maxRecDepth 100000 in
theorem opens_exp : Opens enc w rExpO 74 := by
  intro n cs y h hw
  have k_int : Tryz.prog.cellsOf 3 = 1 := by kernel_rfl
  have k_str : Tryz.prog.cellsOf 9 = 1 := by kernel_rfl
  have hC : Tryz.prog.cellsOf 74 = 3 := by kernel_rfl
  obtain ⟨xs, n2, hn2, hD, hcl, hxl, hf⟩ := DataW.trod_struct Tryz.underlying74 h
  rw [hC] at hcl
  obtain ⟨d0, d1, d2, rfl⟩ : ∃ d0 d1 d2, cs = [d0, d1, d2] := by
    match cs, hcl with
    | [d0, d1, d2], _ => exact ⟨d0, d1, d2, rfl⟩
  obtain ⟨y0, y1, y2, rfl⟩ : ∃ y0 y1 y2, xs = [y0, y1, y2] := by
    match xs, hxl with
    | [y0, y1, y2], _ => exact ⟨y0, y1, y2, rfl⟩
  have f0 : DataW.trod enc Tryz.prog w 0 (fun _ => true) true n2 9 [d0] = some y0 := by simpa [k_str] using hf 0 _ rfl
  have f1 : DataW.trod enc Tryz.prog w 0 (fun _ => true) true n2 3 [d1] = some y1 := by simpa [k_int] using hf 1 _ rfl
  have f2 : DataW.trod enc Tryz.prog w 0 (fun _ => true) true n2 3 [d2] = some y2 := by simpa [k_int] using hf 2 _ rfl
  have hws : ∀ (j : Nat) (t : TypeId) (d : DataW H), [9, 3, 3][j]? = some t → [y0.1, y1.1, y2.1][j]? = some d → ∀ m ∈ d.weights Tryz.prog t, m ≤ reachBytes := by
    intro j t d h1 h2 m hm0
    refine hw m ?_
    rw [hD]
    simp only [DataW.weights, Tryz.underlying74]
    exact DataW.weights_mem_each (j := j) (t := t) (d := d) h1 h2 m hm0
  obtain ⟨x0, h0⟩ := opens_string f0 (hws 0 _ _ rfl rfl)
  obtain ⟨x1, h1⟩ := opens_int f1 (hws 1 _ _ rfl rfl)
  obtain ⟨x2, h2⟩ := opens_int f2 (hws 2 _ _ rfl rfl)
  exact ⟨⟨x0, x1, x2⟩, ⟨[d0, d1], [d2], rfl, ⟨[d0], [d1], rfl, h0, h1⟩, h2⟩⟩
set_option maxRecDepth 100000 in
theorem opens_elm : Opens enc w rElm 76 := by
  intro n cs y h hw
  have k_ins : Tryz.prog.cellsOf 68 = 9 := by kernel_rfl
  have k_int : Tryz.prog.cellsOf 3 = 1 := by kernel_rfl
  have k_nums : Tryz.prog.cellsOf 52 = 1 := by kernel_rfl
  have hC : Tryz.prog.cellsOf 76 = 11 := by kernel_rfl
  obtain ⟨xs, n2, hn2, hD, hcl, hxl, hf⟩ := DataW.trod_struct Tryz.underlying76 h
  rw [hC] at hcl
  obtain ⟨d0, d1, d2, d3, d4, d5, d6, d7, d8, d9, d10, rfl⟩ : ∃ d0 d1 d2 d3 d4 d5 d6 d7 d8 d9 d10, cs = [d0, d1, d2, d3, d4, d5, d6, d7, d8, d9, d10] := by
    match cs, hcl with
    | [d0, d1, d2, d3, d4, d5, d6, d7, d8, d9, d10], _ => exact ⟨d0, d1, d2, d3, d4, d5, d6, d7, d8, d9, d10, rfl⟩
  obtain ⟨y0, y1, y2, rfl⟩ : ∃ y0 y1 y2, xs = [y0, y1, y2] := by
    match xs, hxl with
    | [y0, y1, y2], _ => exact ⟨y0, y1, y2, rfl⟩
  have f0 : DataW.trod enc Tryz.prog w 0 (fun _ => true) true n2 3 [d0] = some y0 := by simpa [k_int] using hf 0 _ rfl
  have f1 : DataW.trod enc Tryz.prog w 0 (fun _ => true) true n2 68 [d1, d2, d3, d4, d5, d6, d7, d8, d9] = some y1 := by simpa [k_ins] using hf 1 _ rfl
  have f2 : DataW.trod enc Tryz.prog w 0 (fun _ => true) true n2 52 [d10] = some y2 := by simpa [k_nums] using hf 2 _ rfl
  have hws : ∀ (j : Nat) (t : TypeId) (d : DataW H), [3, 68, 52][j]? = some t → [y0.1, y1.1, y2.1][j]? = some d → ∀ m ∈ d.weights Tryz.prog t, m ≤ reachBytes := by
    intro j t d h1 h2 m hm0
    refine hw m ?_
    rw [hD]
    simp only [DataW.weights, Tryz.underlying76]
    exact DataW.weights_mem_each (j := j) (t := t) (d := d) h1 h2 m hm0
  obtain ⟨x0, h0⟩ := opens_int f0 (hws 0 _ _ rfl rfl)
  obtain ⟨x1, h1⟩ := opens_ins f1 (hws 1 _ _ rfl rfl)
  obtain ⟨x2, h2⟩ := opens_nums f2 (hws 2 _ _ rfl rfl)
  exact ⟨⟨x0, x1, x2⟩, ⟨[d0, d1, d2, d3, d4, d5, d6, d7, d8, d9], [d10], rfl, ⟨[d0], [d1, d2, d3, d4, d5, d6, d7, d8, d9], rfl, h0, h1⟩, h2⟩⟩
set_option maxRecDepth 100000 in
theorem opens_dat : Opens enc w rDatO 78 := by
  intro n cs y h hw
  have k_bytes : Tryz.prog.cellsOf 33 = 1 := by kernel_rfl
  have k_ins : Tryz.prog.cellsOf 68 = 9 := by kernel_rfl
  have k_int : Tryz.prog.cellsOf 3 = 1 := by kernel_rfl
  have hC : Tryz.prog.cellsOf 78 = 11 := by kernel_rfl
  obtain ⟨xs, n2, hn2, hD, hcl, hxl, hf⟩ := DataW.trod_struct Tryz.underlying78 h
  rw [hC] at hcl
  obtain ⟨d0, d1, d2, d3, d4, d5, d6, d7, d8, d9, d10, rfl⟩ : ∃ d0 d1 d2 d3 d4 d5 d6 d7 d8 d9 d10, cs = [d0, d1, d2, d3, d4, d5, d6, d7, d8, d9, d10] := by
    match cs, hcl with
    | [d0, d1, d2, d3, d4, d5, d6, d7, d8, d9, d10], _ => exact ⟨d0, d1, d2, d3, d4, d5, d6, d7, d8, d9, d10, rfl⟩
  obtain ⟨y0, y1, y2, rfl⟩ : ∃ y0 y1 y2, xs = [y0, y1, y2] := by
    match xs, hxl with
    | [y0, y1, y2], _ => exact ⟨y0, y1, y2, rfl⟩
  have f0 : DataW.trod enc Tryz.prog w 0 (fun _ => true) true n2 3 [d0] = some y0 := by simpa [k_int] using hf 0 _ rfl
  have f1 : DataW.trod enc Tryz.prog w 0 (fun _ => true) true n2 68 [d1, d2, d3, d4, d5, d6, d7, d8, d9] = some y1 := by simpa [k_ins] using hf 1 _ rfl
  have f2 : DataW.trod enc Tryz.prog w 0 (fun _ => true) true n2 33 [d10] = some y2 := by simpa [k_bytes] using hf 2 _ rfl
  have hws : ∀ (j : Nat) (t : TypeId) (d : DataW H), [3, 68, 33][j]? = some t → [y0.1, y1.1, y2.1][j]? = some d → ∀ m ∈ d.weights Tryz.prog t, m ≤ reachBytes := by
    intro j t d h1 h2 m hm0
    refine hw m ?_
    rw [hD]
    simp only [DataW.weights, Tryz.underlying78]
    exact DataW.weights_mem_each (j := j) (t := t) (d := d) h1 h2 m hm0
  obtain ⟨x0, h0⟩ := opens_int f0 (hws 0 _ _ rfl rfl)
  obtain ⟨x1, h1⟩ := opens_ins f1 (hws 1 _ _ rfl rfl)
  obtain ⟨x2, h2⟩ := opens_bytes f2 (hws 2 _ _ rfl rfl)
  exact ⟨⟨x0, x1, x2⟩, ⟨[d0, d1, d2, d3, d4, d5, d6, d7, d8, d9], [d10], rfl, ⟨[d0], [d1, d2, d3, d4, d5, d6, d7, d8, d9], rfl, h0, h1⟩, h2⟩⟩
end
end Go.Proofs.YtilaheifccjjeaaGreat
namespace Go.Proofs.YtilaheifccjjeaaGreat
open Go.ChangeShapes Go.WideShapes Go.ChangeAt Go.RowKit Go.Deep
theorem LstO.agree {α : Type} {R : Rep α} {w w' : World} {S T : Nat → Prop} {v : Value} {xs : List α} (h : LstO R w S v xs) (ha : Agree S w w') (hT : ∀ k, S k → T k) : LstO R w' T v xs := by
  obtain ⟨A, c, e, h1, h2⟩ := h
  refine ⟨A, c, e, h1, ?_⟩
  rcases h2 with h2 | ⟨g, o, cs, h3, h4, h5, h6⟩
  · exact .inl h2
  · exact .inr ⟨g, o, cs, h3, hT g h4, h5.agree ha hT, fun j u hu => by rw [ha.cell (a := ⟨g, o + j, none⟩) h4]; exact h6 j u hu⟩
theorem LstO.nth {α : Type} {R : Rep α} {w : World} {S : Nat → Prop} {A : Option Addr} {n c : Nat} {xs : List α} (h : LstO R w S (.slice A n c) xs) {k : Nat} {x : α} (hk : xs[k]? = some x) :
    ∃ g o cs, A = some ⟨g, o, none⟩ ∧ S g ∧ R.is w S x cs ∧ ∀ j u, cs[j]? = some u → w.cell? ⟨g, o + k * R.sz + j, none⟩ = some u := by
  obtain ⟨A', c', e, h1, h2⟩ := h
  injection e with e1 e2 e3
  subst e1
  rcases h2 with rfl | ⟨g, o, cs, h3, h4, h5, h6⟩
  · cases hk
  · obtain ⟨c1, h7, h8⟩ := h5.nth hk
    exact ⟨g, o, c1, h3, h4, h7, fun j u hu => by rw [Nat.add_assoc]; exact h6 _ _ (h8 j u hu)⟩
def rLstO {α : Type} (R : Rep α) : Rep (List α) where
  sz := 1
  is := fun w S x cs => ∃ v, cs = [v] ∧ LstO R w S v x
  len := fun ⟨v, h, _⟩ => by rw [h]; rfl
  one := fun ⟨v, h, A, c, e, _⟩ u hu => by rw [h] at hu; simp at hu; subst hu; subst e; rfl
  agree := fun ⟨v, h, h2⟩ ha hT => ⟨v, h, h2.agree ha hT⟩
def rModO : Rep M.Mod := rPair (rP2 (rP2 (rP2 (rP2 (rP2 (rP2 (rP2 (rP2 (rLstO rFT) (rLstO rImpO)) (rLstO rFn)) (rLstO rLim)) (rLstO rLim)) (rLstO rGlo)) (rLstO rExpO)) rInt) (rLstO rElm)) (rLstO rDatO) (fun m => ((((((((m.types, m.imports), m.funcs), m.tables), m.memories), m.globals), m.exports), m.start), m.elems)) (·.datas)
def rAskO : Rep (M.Mod × List Nat) := rP2 rModO rBytesO
section
variable {H : Type} {enc : TypeId × Value → H} {w : World}
theorem opens_lft : Opens enc w (rLstO rFT) 23 := by
  intro n cs y h hw
  obtain ⟨v, rfl⟩ := one_val Tryz.underlying23 h
  obtain ⟨xs, hx⟩ := opens_list (R := rFT) Tryz.underlying23 (by kernel_rfl) (by decide) (of_decide_eq_true (by kernel_rfl)) opens_ft h hw
  exact ⟨xs, v, rfl, hx⟩
theorem opens_limp : Opens enc w (rLstO rImpO) 24 := by
  intro n cs y h hw
  obtain ⟨v, rfl⟩ := one_val Tryz.underlying24 h
  obtain ⟨xs, hx⟩ := opens_list (R := rImpO) Tryz.underlying24 (by kernel_rfl) (by decide) (of_decide_eq_true (by kernel_rfl)) opens_imp h hw
  exact ⟨xs, v, rfl, hx⟩
theorem opens_lfn : Opens enc w (rLstO rFn) 25 := by
  intro n cs y h hw
  obtain ⟨v, rfl⟩ := one_val Tryz.underlying25 h
  obtain ⟨xs, hx⟩ := opens_list (R := rFn) Tryz.underlying25 (by kernel_rfl) (by decide) (of_decide_eq_true (by kernel_rfl)) opens_fn h hw
  exact ⟨xs, v, rfl, hx⟩
theorem opens_llim : Opens enc w (rLstO rLim) 26 := by
  intro n cs y h hw
  obtain ⟨v, rfl⟩ := one_val Tryz.underlying26 h
  obtain ⟨xs, hx⟩ := opens_list (R := rLim) Tryz.underlying26 (by kernel_rfl) (by decide) (of_decide_eq_true (by kernel_rfl)) opens_lim h hw
  exact ⟨xs, v, rfl, hx⟩
theorem opens_lglo : Opens enc w (rLstO rGlo) 27 := by
  intro n cs y h hw
  obtain ⟨v, rfl⟩ := one_val Tryz.underlying27 h
  obtain ⟨xs, hx⟩ := opens_list (R := rGlo) Tryz.underlying27 (by kernel_rfl) (by decide) (of_decide_eq_true (by kernel_rfl)) opens_glo h hw
  exact ⟨xs, v, rfl, hx⟩
theorem opens_lexp : Opens enc w (rLstO rExpO) 28 := by
  intro n cs y h hw
  obtain ⟨v, rfl⟩ := one_val Tryz.underlying28 h
  obtain ⟨xs, hx⟩ := opens_list (R := rExpO) Tryz.underlying28 (by kernel_rfl) (by decide) (of_decide_eq_true (by kernel_rfl)) opens_exp h hw
  exact ⟨xs, v, rfl, hx⟩
theorem opens_lelm : Opens enc w (rLstO rElm) 29 := by
  intro n cs y h hw
  obtain ⟨v, rfl⟩ := one_val Tryz.underlying29 h
  obtain ⟨xs, hx⟩ := opens_list (R := rElm) Tryz.underlying29 (by kernel_rfl) (by decide) (of_decide_eq_true (by kernel_rfl)) opens_elm h hw
  exact ⟨xs, v, rfl, hx⟩
theorem opens_ldat : Opens enc w (rLstO rDatO) 30 := by
  intro n cs y h hw
  obtain ⟨v, rfl⟩ := one_val Tryz.underlying30 h
  obtain ⟨xs, hx⟩ := opens_list (R := rDatO) Tryz.underlying30 (by kernel_rfl) (by decide) (of_decide_eq_true (by kernel_rfl)) opens_dat h hw
  exact ⟨xs, v, rfl, hx⟩
set_option maxRecDepth 100000 in
theorem opens_mod : Opens enc w rModO 32 := by
  intro n cs y h hw
  have k_int : Tryz.prog.cellsOf 3 = 1 := by kernel_rfl
  have k_ldat : Tryz.prog.cellsOf 30 = 1 := by kernel_rfl
  have k_lelm : Tryz.prog.cellsOf 29 = 1 := by kernel_rfl
  have k_lexp : Tryz.prog.cellsOf 28 = 1 := by kernel_rfl
  have k_lfn : Tryz.prog.cellsOf 25 = 1 := by kernel_rfl
  have k_lft : Tryz.prog.cellsOf 23 = 1 := by kernel_rfl
  have k_lglo : Tryz.prog.cellsOf 27 = 1 := by kernel_rfl
  have k_limp : Tryz.prog.cellsOf 24 = 1 := by kernel_rfl
  have k_llim : Tryz.prog.cellsOf 26 = 1 := by kernel_rfl
  have hC : Tryz.prog.cellsOf 32 = 10 := by kernel_rfl
  obtain ⟨xs, n2, hn2, hD, hcl, hxl, hf⟩ := DataW.trod_struct Tryz.underlying32 h
  rw [hC] at hcl
  obtain ⟨d0, d1, d2, d3, d4, d5, d6, d7, d8, d9, rfl⟩ : ∃ d0 d1 d2 d3 d4 d5 d6 d7 d8 d9, cs = [d0, d1, d2, d3, d4, d5, d6, d7, d8, d9] := by
    match cs, hcl with
    | [d0, d1, d2, d3, d4, d5, d6, d7, d8, d9], _ => exact ⟨d0, d1, d2, d3, d4, d5, d6, d7, d8, d9, rfl⟩
  obtain ⟨y0, y1, y2, y3, y4, y5, y6, y7, y8, y9, rfl⟩ : ∃ y0 y1 y2 y3 y4 y5 y6 y7 y8 y9, xs = [y0, y1, y2, y3, y4, y5, y6, y7, y8, y9] := by
    match xs, hxl with
    | [y0, y1, y2, y3, y4, y5, y6, y7, y8, y9], _ => exact ⟨y0, y1, y2, y3, y4, y5, y6, y7, y8, y9, rfl⟩
  have f0 : DataW.trod enc Tryz.prog w 0 (fun _ => true) true n2 23 [d0] = some y0 := by simpa [k_lft] using hf 0 _ rfl
  have f1 : DataW.trod enc Tryz.prog w 0 (fun _ => true) true n2 24 [d1] = some y1 := by simpa [k_limp] using hf 1 _ rfl
  have f2 : DataW.trod enc Tryz.prog w 0 (fun _ => true) true n2 25 [d2] = some y2 := by simpa [k_lfn] using hf 2 _ rfl
  have f3 : DataW.trod enc Tryz.prog w 0 (fun _ => true) true n2 26 [d3] = some y3 := by simpa [k_llim] using hf 3 _ rfl
  have f4 : DataW.trod enc Tryz.prog w 0 (fun _ => true) true n2 26 [d4] = some y4 := by simpa [k_llim] using hf 4 _ rfl
  have f5 : DataW.trod enc Tryz.prog w 0 (fun _ => true) true n2 27 [d5] = some y5 := by simpa [k_lglo] using hf 5 _ rfl
  have f6 : DataW.trod enc Tryz.prog w 0 (fun _ => true) true n2 28 [d6] = some y6 := by simpa [k_lexp] using hf 6 _ rfl
  have f7 : DataW.trod enc Tryz.prog w 0 (fun _ => true) true n2 3 [d7] = some y7 := by simpa [k_int] using hf 7 _ rfl
  have f8 : DataW.trod enc Tryz.prog w 0 (fun _ => true) true n2 29 [d8] = some y8 := by simpa [k_lelm] using hf 8 _ rfl
  have f9 : DataW.trod enc Tryz.prog w 0 (fun _ => true) true n2 30 [d9] = some y9 := by simpa [k_ldat] using hf 9 _ rfl
  have hws : ∀ (j : Nat) (t : TypeId) (d : DataW H), [23, 24, 25, 26, 26, 27, 28, 3, 29, 30][j]? = some t → [y0.1, y1.1, y2.1, y3.1, y4.1, y5.1, y6.1, y7.1, y8.1, y9.1][j]? = some d → ∀ m ∈ d.weights Tryz.prog t, m ≤ reachBytes := by
    intro j t d h1 h2 m hm0
    refine hw m ?_
    rw [hD]
    simp only [DataW.weights, Tryz.underlying32]
    exact DataW.weights_mem_each (j := j) (t := t) (d := d) h1 h2 m hm0
  obtain ⟨x0, h0⟩ := opens_lft f0 (hws 0 _ _ rfl rfl)
  obtain ⟨x1, h1⟩ := opens_limp f1 (hws 1 _ _ rfl rfl)
  obtain ⟨x2, h2⟩ := opens_lfn f2 (hws 2 _ _ rfl rfl)
  obtain ⟨x3, h3⟩ := opens_llim f3 (hws 3 _ _ rfl rfl)
  obtain ⟨x4, h4⟩ := opens_llim f4 (hws 4 _ _ rfl rfl)
  obtain ⟨x5, h5⟩ := opens_lglo f5 (hws 5 _ _ rfl rfl)
  obtain ⟨x6, h6⟩ := opens_lexp f6 (hws 6 _ _ rfl rfl)
  obtain ⟨x7, h7⟩ := opens_int f7 (hws 7 _ _ rfl rfl)
  obtain ⟨x8, h8⟩ := opens_lelm f8 (hws 8 _ _ rfl rfl)
  obtain ⟨x9, h9⟩ := opens_ldat f9 (hws 9 _ _ rfl rfl)
  exact ⟨⟨x0, x1, x2, x3, x4, x5, x6, x7, x8, x9⟩, ⟨[d0, d1, d2, d3, d4, d5, d6, d7, d8], [d9], rfl, ⟨[d0, d1, d2, d3, d4, d5, d6, d7], [d8], rfl, ⟨[d0, d1, d2, d3, d4, d5, d6], [d7], rfl, ⟨[d0, d1, d2, d3, d4, d5], [d6], rfl, ⟨[d0, d1, d2, d3, d4], [d5], rfl, ⟨[d0, d1, d2, d3], [d4], rfl, ⟨[d0, d1, d2], [d3], rfl, ⟨[d0, d1], [d2], rfl, ⟨[d0], [d1], rfl, h0, h1⟩, h2⟩, h3⟩, h4⟩, h5⟩, h6⟩, h7⟩, h8⟩, h9⟩⟩
set_option maxRecDepth 100000 in
theorem opens_ask : Opens enc w rAskO 35 := by
  intro n cs y h hw
  have k_bytes : Tryz.prog.cellsOf 33 = 1 := by kernel_rfl
  have k_mod : Tryz.prog.cellsOf 32 = 10 := by kernel_rfl
  have hC : Tryz.prog.cellsOf 35 = 11 := by kernel_rfl
  obtain ⟨xs, n2, hn2, hD, hcl, hxl, hf⟩ := DataW.trod_struct Tryz.underlying35 h
  rw [hC] at hcl
  obtain ⟨d0, d1, d2, d3, d4, d5, d6, d7, d8, d9, d10, rfl⟩ : ∃ d0 d1 d2 d3 d4 d5 d6 d7 d8 d9 d10, cs = [d0, d1, d2, d3, d4, d5, d6, d7, d8, d9, d10] := by
    match cs, hcl with
    | [d0, d1, d2, d3, d4, d5, d6, d7, d8, d9, d10], _ => exact ⟨d0, d1, d2, d3, d4, d5, d6, d7, d8, d9, d10, rfl⟩
  obtain ⟨y0, y1, rfl⟩ : ∃ y0 y1, xs = [y0, y1] := by
    match xs, hxl with
    | [y0, y1], _ => exact ⟨y0, y1, rfl⟩
  have f0 : DataW.trod enc Tryz.prog w 0 (fun _ => true) true n2 32 [d0, d1, d2, d3, d4, d5, d6, d7, d8, d9] = some y0 := by simpa [k_mod] using hf 0 _ rfl
  have f1 : DataW.trod enc Tryz.prog w 0 (fun _ => true) true n2 33 [d10] = some y1 := by simpa [k_bytes] using hf 1 _ rfl
  have hws : ∀ (j : Nat) (t : TypeId) (d : DataW H), [32, 33][j]? = some t → [y0.1, y1.1][j]? = some d → ∀ m ∈ d.weights Tryz.prog t, m ≤ reachBytes := by
    intro j t d h1 h2 m hm0
    refine hw m ?_
    rw [hD]
    simp only [DataW.weights, Tryz.underlying35]
    exact DataW.weights_mem_each (j := j) (t := t) (d := d) h1 h2 m hm0
  obtain ⟨x0, h0⟩ := opens_mod f0 (hws 0 _ _ rfl rfl)
  obtain ⟨x1, h1⟩ := opens_bytes f1 (hws 1 _ _ rfl rfl)
  exact ⟨⟨x0, x1⟩, ⟨[d0, d1, d2, d3, d4, d5, d6, d7, d8, d9], [d10], rfl, h0, h1⟩⟩
/-- The list of questions that came in. -/
theorem open_asks6 {n : Nat} {v : Value} {y : DataW H × List MemPlace} (h : DataW.trod enc Tryz.prog w 0 (fun _ => true) true n 22 [v] = some y) (hwt : ∀ m ∈ y.1.weights Tryz.prog 22, m ≤ reachBytes) : ∃ xs, LstO rAskO w (· < w.heap.size) v xs :=
  opens_list (R := rAskO) Tryz.underlying22 (by kernel_rfl) (by decide) (of_decide_eq_true (by kernel_rfl)) opens_ask h hwt
end
end Go.Proofs.YtilaheifccjjeaaGreat
namespace Go.Proofs.YtilaheifccjjeaaGreat
open Go.RowKit
def WPost6 (l : M.L) (n : Int) (w : World) (e : Ending) (w' : World) : Prop :=
  ∃ r : Int, e = .returned (.int .i64 r) ∧ 0 ≤ r ∧ (r ≤ n ∨ r ≤ 281474976710656) ∧ (r ≤ 90000 → r = n + (l.sz : Nat)) ∧ Below w.heap.size w w'
set_option maxRecDepth 100000 in
theorem Weight6 (N : Nat) : ∀ (l : M.L) (v : Value) (n deep : Int) (w : World), l.sz < N → LB w v l → 0 ≤ n → n ≤ 4611686018427387904 → 0 ≤ deep → deep ≤ 61 →
    Calls Tryz.prog 47 #[v, .int .i64 n, .int .i64 deep] w (WPost6 l n w) := by
  induction N with
  | zero => intro l v n deep w h; omega
  | succ N ih =>
    intro l v n deep w hN hl h0 h1 h2 h3
    obtain ⟨A, c, rfl, hc1, hc2, hc3⟩ := hl.form
    unfold maxLen at hc3
    replace hl := Lib.hid hl
    by_cases hd : 60 < deep
    · go_enter Tryz.func47, Tryz.ntmps47
      go_wp2_with fail
      go_ret
      exact ⟨100000, rfl, by omega, by omega, fun h => by omega, Below.refl _ _⟩
    · go_enter Tryz.func47, Tryz.ntmps47
      go_wp2_with fail
      go_loopw [1, 7] (fun m i w' => ∃ (k : Nat) (r : Int), k ≤ l.len ∧ i = .int .i64 k ∧ m = .int .i64 r ∧ 0 ≤ r ∧ (r ≤ n ∨ r ≤ 281474976710656) ∧ (r ≤ 90000 → r = n + (szT k l : Nat)) ∧ Below w.heap.size w w') (fun _ i _ => l.len - (intOf i).toNat)
      case atStart => exact ⟨0, n, by omega, rfl, rfl, by omega, by omega, fun _ => by simp [szT, M.take_zero, M.L.sz], Below.refl _ _⟩
      case round =>
        obtain ⟨k, r, hk, rfl, rfl, r0, r1, hr, hbw⟩ := hrel
        replace hr := Lib.hid hr
        by_cases hlt : k < l.len
        · by_cases hr5 : r < 100000
          · obtain ⟨h, b, e, hn⟩ := M.nth_of hlt
            obtain ⟨g, o, vL, vB, vE, rfl, hg, hi, hR, hL, hB, hE⟩ := (hl.out.later hbw).nth' hn
            have hsz := (M.nth_some hn).2
            have hst := Lib.hid (szT_step hn)
            clear hn hR
            obtain ⟨c0, c1, c2, c3, c4, c5, c6, c7, c8⟩ := hi
            clear c0 c1 c2 c3 c4 c5
            obtain ⟨AL, cL, rfl, hL1, hL2, hL3⟩ := hL.form
            unfold maxLen at hL3
            clear hL
            replace hB := Lib.hid hB
            replace hE := Lib.hid hE
            replace hbw := Lib.hid hbw
            go_wp2_with fail
            refine (ih b vB _ _ _ (by omega) hB.out (by omega) (by omega) (by omega) (by omega)).mono ?_
            rintro e1 w1 ⟨r1', rfl, p0, p1, p2, b1⟩
            have d8 : w1.cell? ⟨g, o + k * 9 + 8, none⟩ = some vE := by rw [b1.cell (by exact hg)]; exact c8
            have hE1 := Lib.hid (hE.out.later b1)
            replace p2 := Lib.hid p2
            replace b1 := Lib.hid b1
            go_wp2_with fail
            refine (ih e vE _ _ _ (by omega) hE1.out (by omega) (by omega) (by omega) (by omega)).mono ?_
            rintro e2 w2 ⟨r2', rfl, q0, q1, q2, b2⟩
            replace q2 := Lib.hid q2
            replace b2 := Lib.hid b2
            go_wp2_with fail
            refine ⟨⟨k + 1, r2', by omega, by go_num, rfl, q0, by omega, fun hq => ?_, hbw.out.trans ((b1.out.trans (b2.out.mono b1.out.size)).mono hbw.out.size)⟩, by simp [intOf]; omega⟩
            have t1 := q2.out hq
            have t2 := p2.out (by omega)
            have t3 := hr.out (by omega)
            have t4 := hst.out
            omega
          · go_wp2_with fail
            go_ret
            exact ⟨r, rfl, r0, r1, fun h => by omega, hbw⟩
        · obtain rfl : k = l.len := by omega
          have hT := Lib.hid (M.take_all l (Nat.le_refl _))
          go_wp2_with fail
          go_ret
          refine ⟨r, rfl, r0, r1, fun h => ?_, hbw⟩
          have t1 := hr.out h
          unfold szT at t1
          rw [hT.out] at t1
          exact t1
end Go.Proofs.YtilaheifccjjeaaGreat
namespace Go.Proofs.YtilaheifccjjeaaGreat
open Go.RowKit
/-- A module's ten cells, its lists of any length that can be handed in. -/
structure MRaw (w : World) (S : Nat → Prop) (cs : Array Value) (m : M.Mod) : Prop where
  ex : ∃ A0 c0 A1 c1 A2 c2 A3 c3 A4 c4 A5 c5 A6 c6 A8 c8 A9 c9, cs = #[.slice A0 m.types.length c0, .slice A1 m.imports.length c1, .slice A2 m.funcs.length c2, .slice A3 m.tables.length c3, .slice A4 m.memories.length c4, .slice A5 m.globals.length c5, .slice A6 m.exports.length c6, .int .i64 m.start, .slice A8 m.elems.length c8, .slice A9 m.datas.length c9] ∧
    LstO rFT w S (.slice A0 m.types.length c0) m.types ∧ LstO rImpO w S (.slice A1 m.imports.length c1) m.imports ∧ LstO rFn w S (.slice A2 m.funcs.length c2) m.funcs ∧ LstO rLim w S (.slice A3 m.tables.length c3) m.tables ∧ LstO rLim w S (.slice A4 m.memories.length c4) m.memories ∧ LstO rGlo w S (.slice A5 m.globals.length c5) m.globals ∧ LstO rExpO w S (.slice A6 m.exports.length c6) m.exports ∧ LstO rElm w S (.slice A8 m.elems.length c8) m.elems ∧ LstO rDatO w S (.slice A9 m.datas.length c9) m.datas
  hs : i64R m.start
theorem MRaw.agree {w w' : World} {S T : Nat → Prop} {cs : Array Value} {m : M.Mod} (h : MRaw w S cs m) (ha : Agree S w w') (hT : ∀ k, S k → T k) : MRaw w' T cs m := by
  obtain ⟨A0, c0, A1, c1, A2, c2, A3, c3, A4, c4, A5, c5, A6, c6, A8, c8, A9, c9, e, l0, l1, l2, l3, l4, l5, l6, l8, l9⟩ := h.ex
  exact ⟨⟨A0, c0, A1, c1, A2, c2, A3, c3, A4, c4, A5, c5, A6, c6, A8, c8, A9, c9, e, l0.agree ha hT, l1.agree ha hT, l2.agree ha hT, l3.agree ha hT, l4.agree ha hT, l5.agree ha hT, l6.agree ha hT, l8.agree ha hT, l9.agree ha hT⟩, h.hs⟩
theorem lsto_form {α : Type} {R : Rep α} {w : World} {S : Nat → Prop} {v : Value} {xs : List α} (h : LstO R w S v xs) : ∃ A c, v = .slice A xs.length c ∧ LstO R w S (.slice A xs.length c) xs := by
  obtain ⟨A, c, e, h1⟩ := h
  exact ⟨A, c, e, A, c, rfl, h1⟩
theorem form_ask {w : World} {S : Nat → Prop} {cs : List Value} {x : M.Mod × List Nat} (h : rAskO.is w S x cs) : ∃ ms AB cB, cs = ms.toList ++ [.slice AB x.2.length cB] ∧ MRaw w S ms x.1 ∧ BSO w S (.slice AB x.2.length cB) x.2 := by
  obtain ⟨c, d, rfl, ⟨c, _, rfl, ⟨c, _, rfl, ⟨c, _, rfl, ⟨c, _, rfl, ⟨c, _, rfl, ⟨c, _, rfl, ⟨c, _, rfl, ⟨c, _, rfl, ⟨c, _, rfl, ⟨v0, rfl, l0⟩, v1, rfl, l1⟩, v2, rfl, l2⟩, v3, rfl, l3⟩, v4, rfl, l4⟩, v5, rfl, l5⟩, v6, rfl, l6⟩, rfl, h7⟩, v8, rfl, l8⟩, v9, rfl, l9⟩, vB, rfl, AB, cB, rfl, hB⟩ := h
  obtain ⟨A0, c0, rfl, l0⟩ := lsto_form l0
  obtain ⟨A1, c1, rfl, l1⟩ := lsto_form l1
  obtain ⟨A2, c2, rfl, l2⟩ := lsto_form l2
  obtain ⟨A3, c3, rfl, l3⟩ := lsto_form l3
  obtain ⟨A4, c4, rfl, l4⟩ := lsto_form l4
  obtain ⟨A5, c5, rfl, l5⟩ := lsto_form l5
  obtain ⟨A6, c6, rfl, l6⟩ := lsto_form l6
  obtain ⟨A8, c8, rfl, l8⟩ := lsto_form l8
  obtain ⟨A9, c9, rfl, l9⟩ := lsto_form l9
  exact ⟨#[.slice A0 x.1.types.length c0, .slice A1 x.1.imports.length c1, .slice A2 x.1.funcs.length c2, .slice A3 x.1.tables.length c3, .slice A4 x.1.memories.length c4, .slice A5 x.1.globals.length c5, .slice A6 x.1.exports.length c6, .int .i64 x.1.start, .slice A8 x.1.elems.length c8, .slice A9 x.1.datas.length c9], AB, cB, rfl, ⟨⟨A0, c0, A1, c1, A2, c2, A3, c3, A4, c4, A5, c5, A6, c6, A8, c8, A9, c9, rfl, l0, l1, l2, l3, l4, l5, l6, l8, l9⟩, h7⟩, AB, cB, rfl, hB⟩
/-- What a module that is not heavy has. -/
structure Goods (m : M.Mod) : Prop where
  len : m.types.length ≤ 2000 ∧ m.imports.length ≤ 2000 ∧ m.funcs.length ≤ 2000 ∧ m.tables.length ≤ 2000 ∧ m.memories.length ≤ 2000 ∧ m.globals.length ≤ 2000 ∧ m.exports.length ≤ 2000 ∧ m.elems.length ≤ 2000 ∧ m.datas.length ≤ 2000
  ft : ∀ x ∈ m.types, x.ps.length ≤ 4000 ∧ x.rs.length ≤ 4000
  imp : ∀ x ∈ m.imports, x.mo.length ≤ 100000 ∧ x.na.length ≤ 100000
  exp : ∀ x ∈ m.exports, x.na.length ≤ 100000
  fn : ∀ x ∈ m.funcs, x.lo.length ≤ 4000 ∧ x.bo.sz ≤ 4000
  glo : ∀ x ∈ m.globals, x.ini.sz ≤ 4000
  elm : ∀ x ∈ m.elems, x.off.sz ≤ 4000 ∧ x.fs.length ≤ 4000
  dat : ∀ x ∈ m.datas, x.off.sz ≤ 4000 ∧ x.bs.length ≤ 100000
theorem lst_mapI {α : Type} {R Q : Rep α} {w : World} {S : Nat → Prop} {v : Value} {xs : List α} {p : α → Prop} (hp : ∀ x ∈ xs, p x) (hf : ∀ x cs, p x → R.is w S x cs → Q.is w S x cs) (h : Lst R w S v xs) : Lst Q w S v xs := by
  have := lst_mapP (R := R) (Q := Q) id hp hf h
  rwa [List.map_id] at this
theorem mIn_of {w : World} {S : Nat → Prop} {cs : Array Value} {m : M.Mod} (h : MRaw w S cs m) (g : Goods m) : MIn w S cs m := by
  obtain ⟨A0, c0, A1, c1, A2, c2, A3, c3, A4, c4, A5, c5, A6, c6, A8, c8, A9, c9, e, l0, l1, l2, l3, l4, l5, l6, l8, l9⟩ := h.ex
  obtain ⟨g0, g1, g2, g3, g4, g5, g6, g8, g9⟩ := g.len
  refine ⟨⟨_, _, _, _, _, _, _, _, _, e, l0.tight (by omega), ?_, l2.tight (by omega), l3.tight (by omega), l4.tight (by omega), l5.tight (by omega), ?_, l8.tight (by omega), ?_⟩, h.hs, fun x hx => ?_, fun x hx => ?_, fun x hx => ?_, fun x hx => ?_, fun x hx => ?_⟩
  · refine lst_mapI (R := rImpO) (Q := rImp) g.imp (fun x cs hp hx => ?_) (l1.tight (by omega))
    obtain ⟨c, d, rfl, ⟨c, _, rfl, ⟨c, _, rfl, ⟨c, _, rfl, ⟨c, _, rfl, ⟨rfl, h1, h2⟩, rfl, h3, h4⟩, h5⟩, h6⟩, h7⟩, h8⟩ := hx
    exact ⟨_, _, rfl, ⟨_, _, rfl, ⟨_, _, rfl, ⟨_, _, rfl, ⟨_, _, rfl, ⟨rfl, h1, by have q : x.mo.length ≤ 100000 := hp.1; show x.mo.length ≤ _; omega⟩, rfl, h3, by have q : x.na.length ≤ 100000 := hp.2; show x.na.length ≤ _; omega⟩, h5⟩, h6⟩, h7⟩, h8⟩
  · refine lst_mapI (R := rExpO) (Q := rExp) g.exp (fun x cs hp hx => ?_) (l6.tight (by omega))
    obtain ⟨c, d, rfl, ⟨c, _, rfl, ⟨rfl, h1, h2⟩, h3⟩, h4⟩ := hx
    exact ⟨_, _, rfl, ⟨_, _, rfl, ⟨rfl, h1, by have q : x.na.length ≤ 100000 := hp; show x.na.length ≤ _; omega⟩, h3⟩, h4⟩
  · refine lst_mapI (R := rDatO) (Q := rDat) g.dat (fun x cs hp hx => ?_) (l9.tight (by omega))
    obtain ⟨c, d, rfl, h1, v, rfl, h2⟩ := hx
    exact ⟨_, _, rfl, h1, v, rfl, h2.tight (by have q : x.bs.length ≤ 100000 := hp.2; show x.bs.length ≤ _; omega)⟩
  · have := g.ft x hx
    exact ⟨by omega, by omega⟩
  · have := g.glo x hx
    show x.ini.sz ≤ 24000
    omega
  · have := g.elm x hx
    exact ⟨by omega, by omega⟩
  · have := g.dat x hx
    show x.off.sz ≤ 24000
    omega
  · have := g.fn x hx
    omega
end Go.Proofs.YtilaheifccjjeaaGreat
namespace Go.Proofs.YtilaheifccjjeaaGreat
open Go
section
variable {P : Program} {ops : Array Oper} {md : Region.Mode}
/-- How many of the first n are not listed. -/
def cntU : Nat → Array Bool → Nat
  | 0, _ => 0
  | n + 1, l => cntU n l + (if l.getD n true then 0 else 1)
theorem cnt_far (l : Array Bool) (j : Nat) : ∀ n, n ≤ j → cntU n (l.setIfInBounds j true) = cntU n l
  | 0, _ => rfl
  | n + 1, h => by
    simp only [cntU]
    rw [cnt_far l j n (by omega), getD_set_ne true (by omega)]
theorem set_got {l : Array Bool} {j : Nat} (h : l.getD j true = false) : (l.setIfInBounds j true).getD j true = true := by
  rcases Nat.lt_or_ge j l.size with h' | h'
  · simp [h']
  · simp [Array.getElem?_eq_none h'] at h
theorem cnt_set (l : Array Bool) (j : Nat) (hl : l.getD j true = false) : ∀ n, j < n → cntU n (l.setIfInBounds j true) + 1 = cntU n l
  | 0, h => by omega
  | n + 1, h => by
    simp only [cntU]
    by_cases e : j = n
    · subst e
      rw [cnt_far l j j (Nat.le_refl _), set_got hl, hl]
      simp
    · rw [getD_set_ne true e]
      have := cnt_set l j hl n (by omega)
      omega
theorem cnt_two {l : Array Bool} {i j n : Nat} (hi : i < n) (hj : j < n) (hne : i ≠ j) (h1 : l.getD i true = false) (h2 : l.getD j true = false) : 2 ≤ cntU n l := by
  have a := cnt_set l i h1 n hi
  have b := cnt_set (l.setIfInBounds i true) j (by rw [getD_set_ne true hne]; exact h2) n hj
  omega
/-- In the next steps none but of the first n comes. -/
def closedB (md : Region.Mode) (ops : Array Oper) (n : Nat) : Nat → Array Bool → Bool
  | 0, _ => true
  | f + 1, listed => (Region.ready md ops listed).all fun j => decide (j < n) && closedB md ops n f (listed.setIfInBounds j true)
def wpAnyT (P : Program) (md : Region.Mode) (ops : Array Oper) (w : World) (L : Array Bool → Act → Prop) : Nat → Array Bool → Act → Prop
  | 0, listed, a => L listed a
  | f + 1, listed, a => Region.ready md ops listed ≠ [] ∧ ∀ i ∈ Region.ready md ops listed, stOp P ops w i (wpAnyT P md ops w L f (listed.setIfInBounds i true)) a
theorem wpAny_of_T {w : World} {L : Array Bool → Act → Prop} {Q : Exit → Act → World → Prop} {g : Nat} (hL : ∀ listed a, L listed a → wpAny P md ops Q g listed a w) : ∀ (f : Nat) (listed : Array Bool) (a : Act), wpAnyT P md ops w L f listed a → wpAny P md ops Q (f + g) listed a w
  | 0, listed, a, h => by rw [Nat.zero_add]; exact hL _ _ h
  | f + 1, listed, a, h => by
    rw [show f + 1 + g = (f + g) + 1 by omega]
    exact ⟨fun h0 => absurd h0 h.1, fun i hi => wpOp_of_stOp (fun a' h' => wpAny_of_T hL f _ a' h') (h.2 i hi)⟩
theorem wpAnyT_first {w : World} {L : Array Bool → Act → Prop} {n i : Nat} {oi : Oper} {v : Value} (hi : ops[i]? = some oi) (hsel : ∀ (j : Nat) (o : Oper) cs b, ops[j]? = some o → o.op ≠ .select cs b) (hin : i < n) :
    ∀ (f : Nat) (listed : Array Bool) (a : Act), closedB md ops n (f + 1) listed = true → cntU n listed = f + 1 →
      (∀ j oj, ops[j]? = some oj → j ≠ i → listed.getD j true = false → (∀ e ∈ oj.after, Region.binds md e = true → e.on ≠ i) → oi.apart ops oj = true) →
      i ∈ Region.ready md ops listed → YieldsAt P ops w oi v a →
      wpAnyT P md ops w L f (listed.setIfInBounds i true) (a.put oi.dst v) → wpAnyT P md ops w L (f + 1) listed a := by
  intro f
  induction f with
  | zero =>
    intro listed a hcl hcn _ hr hy H
    refine ⟨fun h => (by rw [h] at hr; cases hr), fun j hj => ?_⟩
    by_cases hji : j = i
    · subst hji; exact hy.stOp hi H
    · simp only [closedB, Bool.and_true, List.all_eq_true, decide_eq_true_eq] at hcl
      have := cnt_two hin (hcl j hj) (Ne.symm hji) (mem_ready.1 hr).1 (mem_ready.1 hj).1
      omega
  | succ f ih =>
    intro listed a hcl hcn hfree hr hy H
    refine ⟨fun h => (by rw [h] at hr; cases hr), fun j hj => ?_⟩
    by_cases hji : j = i
    · subst hji; exact hy.stOp hi H
    · have hcl2 := hcl
      rw [closedB] at hcl2
      simp only [List.all_eq_true, Bool.and_eq_true, decide_eq_true_eq] at hcl2
      obtain ⟨hjn, hclj⟩ := hcl2 j hj
      have h1 := H.2 j (ready_mono hj hji)
      obtain ⟨hjun, oj, hoj, hall⟩ := mem_ready.1 hj
      have hnot : ∀ e ∈ oj.after, Region.binds md e = true → e.on ≠ i := fun e he hb heq => by
        have h1 := hall e he hb
        have h0 := (mem_ready.1 hr).1
        rw [heq] at h1
        rcases Nat.lt_or_ge i listed.size with h' | h'
        · simp [h'] at h0 h1; rw [h0] at h1; cases h1
        · simp [Array.getElem?_eq_none h'] at h1
      have h2 := stOp_put hoj (hfree j oj hoj hji hjun hnot) (fun cs b => hsel i oi cs b hi) (fun cs b => hsel j oj cs b hoj) hy h1
      have hfree' : ∀ k ok, ops[k]? = some ok → k ≠ i → (listed.setIfInBounds j true).getD k true = false →
          (∀ e ∈ ok.after, Region.binds md e = true → e.on ≠ i) → oi.apart ops ok = true := fun k ok hk hki hun hno => by
        refine hfree k ok hk hki ?_ hno
        by_cases hjk : j = k
        · subst hjk; exact hjun
        · rw [getD_set_ne true hjk] at hun; exact hun
      have hcnj := cnt_set listed j hjun n hjn
      refine stOp_mono (fun a' h3 => ih (listed.setIfInBounds j true) a' hclj (by omega) hfree' (ready_mono hr (Ne.symm hji)) h3.1 ?_) h2
      rw [Array.setIfInBounds_comm _ _ hji]
      exact h3.2
def lexSegB (md : Region.Mode) (ops : Array Oper) : Nat → Nat → Array Bool → Bool
  | 0, _, _ => true
  | f + 1, k, listed => (Region.ready md ops listed).contains k && Region.free md ops listed k && lexSegB md ops f (k + 1) (listed.setIfInBounds k true)
def setAll : Array Bool → Nat → Nat → Array Bool
  | listed, 0, _ => listed
  | listed, f + 1, k => setAll (listed.setIfInBounds k true) f (k + 1)
theorem closed_next {n f : Nat} {listed : Array Bool} {k : Nat} (h : closedB md ops n (f + 1) listed = true) (hk : k ∈ Region.ready md ops listed) : k < n ∧ closedB md ops n f (listed.setIfInBounds k true) = true := by
  rw [closedB] at h
  simp only [List.all_eq_true, Bool.and_eq_true, decide_eq_true_eq] at h
  exact h k hk
theorem wpAnyT_lex {w : World} {n : Nat} {Lq : Act → Prop} (hsel : Region.noSelect ops = true) : ∀ (l : List Oper) (k : Nat) (listed : Array Bool) (a : Act), (∀ j, j < l.length → l[j]? = ops[k + j]?) → closedB md ops n l.length listed = true → cntU n listed = l.length →
    lexSegB md ops l.length k listed = true → wpStill P ops w Lq l a → wpAnyT P md ops w (fun listed' a' => listed' = setAll listed l.length k ∧ Lq a') l.length listed a
  | [], k, listed, a, _, _, _, _, h => ⟨rfl, h⟩
  | o :: l, k, listed, a, hl, hcl, hcn, hB, h => by
    have h0 : ops[k]? = some o := by simpa using (hl 0 (by simp)).symm
    simp only [List.length_cons, lexSegB, Bool.and_eq_true] at hB
    obtain ⟨⟨hr, hf⟩, hB'⟩ := hB
    have hr' : k ∈ Region.ready md ops listed := by simpa using hr
    have hst : stOp P ops w k (wpStill P ops w Lq l) a := by unfold stOp; simp only [h0]; exact h
    obtain ⟨v, hy, hK⟩ := yieldsAt_of_stOp h0 hst
    obtain ⟨hkn, hcl'⟩ := closed_next hcl hr'
    have hcn' := cnt_set listed k (mem_ready.1 hr').1 n hkn
    exact wpAnyT_first h0 (Region.noSelect_spec hsel) hkn l.length listed a hcl hcn (Region.free_spec h0 hf) hr' hy
      (wpAnyT_lex hsel l (k + 1) _ _ (fun j hj => by have := hl (j + 1) (by simp; omega); simpa [Nat.add_assoc, Nat.add_comm 1 j] using this) hcl' (by simp only [List.length_cons] at hcn; omega) hB' hK)
theorem wp_then {o : Oper} {a : Act} {w : World} {K1 K : Act → World → Prop} {Q : Exit → Act → World → Prop} (h : o.wp P a w K1 (Exit.then K Q)) : o.wp P a w K1 Q := by
  unfold Oper.wp at *
  generalize (execOp a.eval o).run P w = r at *
  cases r with
  | ok n w' => cases n <;> exact h
  | halt x w' => cases x <;> exact h
def forcedB (md : Region.Mode) (ops : Array Oper) : Nat → Nat → Array Bool → Bool
  | 0, _, _ => true
  | f + 1, k, listed => decide (Region.ready md ops listed = [k]) && forcedB md ops f (k + 1) (listed.setIfInBounds k true)
theorem wpAny_forced {Q : Exit → Act → World → Prop} {g : Nat} : ∀ (l : List Oper) (k : Nat) (listed : Array Bool) (a : Act) (w : World), (∀ j, j < l.length → l[j]? = ops[k + j]?) → forcedB md ops l.length k listed = true →
    wpList P ops (Exit.then (fun a w => wpAny P md ops Q g (setAll listed l.length k) a w) Q) l a w → wpAny P md ops Q (l.length + g) listed a w
  | [], _, _, _, _, _, _, h => by rw [List.length_nil, Nat.zero_add]; exact h
  | o :: l, k, listed, a, w, hl, hB, h => by
    have h0 : ops[k]? = some o := by simpa using (hl 0 (by simp)).symm
    simp only [List.length_cons, forcedB, Bool.and_eq_true, decide_eq_true_eq] at hB
    rw [List.length_cons, show l.length + 1 + g = (l.length + g) + 1 by omega]
    refine ⟨fun h1 => (by rw [hB.1] at h1; cases h1), fun i hi => ?_⟩
    rw [hB.1] at hi
    have hik : i = k := by simpa using hi
    subst hik
    have ih := fun a' w' h' => wpAny_forced (Q := Q) (g := g) l (i + 1) (listed.setIfInBounds i true) a' w' (fun j hj => by have := hl (j + 1) (by simp; omega); simpa [Nat.add_assoc, Nat.add_comm 1 j] using this) hB.2 h'
    unfold wpOp
    simp only [h0]
    rw [wpList] at h
    split
    · rename_i hw
      simp only [hw, if_true] at h
      rcases h with h | ⟨h1, h2⟩
      · exact .inl (Oper.wp_mono ih (wp_then h))
      · exact .inr ⟨h1, h2⟩
    · rename_i hw
      simp only [hw] at h
      exact ih _ _ h
/-- The walk: segments that only read (true), and such as come one by one (false). -/
def mixWp (P : Program) (ops : Array Oper) (Q : Exit → Act → World → Prop) : List (Bool × Nat) → List Oper → Act → World → Prop
  | [], _, a, w => Q .normal a w
  | (true, n) :: s, l, a, w => wpStill P ops w (fun a' => mixWp P ops Q s (l.drop n) a' w) (l.take n) a
  | (false, n) :: s, l, a, w => wpList P ops (Exit.then (fun a' w' => mixWp P ops Q s (l.drop n) a' w') Q) (l.take n) a w
/-- Do the segments fit? -/
def mixB (md : Region.Mode) (ops : Array Oper) : List (Bool × Nat) → Nat → Array Bool → Bool
  | [], k, listed => decide (k = ops.size) && (Region.ready md ops listed).isEmpty
  | (b, n) :: s, k, listed => decide (k + n ≤ ops.size) && (if b then closedB md ops (k + n) n listed && decide (cntU (k + n) listed = n) && lexSegB md ops n k listed else forcedB md ops n k listed) && mixB md ops s (k + n) (setAll listed n k)
theorem wpAny_mix {Q : Exit → Act → World → Prop} (hsel : Region.noSelect ops = true) : ∀ (s : List (Bool × Nat)) (l : List Oper) (k : Nat) (listed : Array Bool) (a : Act) (w : World), (∀ j, l[j]? = ops[k + j]?) → mixB md ops s k listed = true → mixWp P ops Q s l a w → wpAny P md ops Q (ops.size - k) listed a w
  | [], l, k, listed, a, w, hl, hB, h => by
    simp only [mixB, Bool.and_eq_true, decide_eq_true_eq, List.isEmpty_iff] at hB
    rw [hB.1, Nat.sub_self]
    exact ⟨hB.2, h⟩
  | (b, n) :: s, l, k, listed, a, w, hl, hB, h => by
    simp only [mixB, Bool.and_eq_true, decide_eq_true_eq] at hB
    obtain ⟨⟨hkn, hb⟩, hs⟩ := hB
    have hlen : (l.take n).length = n := by
      rw [List.length_take]
      refine Nat.min_eq_left (Nat.le_of_not_lt fun hlt => ?_)
      have h1 := hl l.length
      rw [List.getElem?_eq_none (Nat.le_refl _)] at h1
      have h2 : k + l.length < ops.size := by omega
      rw [Array.getElem?_eq_getElem h2] at h1
      cases h1
    have hd : ∀ j, (l.drop n)[j]? = ops[k + n + j]? := fun j => by rw [List.getElem?_drop, hl, Nat.add_assoc]
    have ht : ∀ j, j < (l.take n).length → (l.take n)[j]? = ops[k + j]? := fun j hj => by
      rw [List.getElem?_take_of_lt (by omega)]; exact hl j
    have ih := fun a' w' h' => wpAny_mix (Q := Q) hsel s (l.drop n) (k + n) (setAll listed n k) a' w' hd hs h'
    rw [show ops.size - k = (l.take n).length + (ops.size - (k + n)) by omega]
    cases b with
    | true =>
      simp only [if_true, Bool.and_eq_true, decide_eq_true_eq] at hb
      refine wpAny_of_T (L := fun listed' a' => listed' = setAll listed (l.take n).length k ∧ mixWp P ops Q s (l.drop n) a' w) ?_ _ _ _ (wpAnyT_lex (n := k + n) hsel (l.take n) k listed a ht (by rw [hlen]; exact hb.1.1) (by rw [hlen]; exact hb.1.2) (by rw [hlen]; exact hb.2) h)
      rintro listed' a' ⟨rfl, h'⟩
      rw [hlen]
      exact ih _ _ h'
    | false =>
      simp only [Bool.false_eq_true, if_false] at hb
      refine wpAny_forced (l.take n) k listed a w ht (by rw [hlen]; exact hb) ?_
      rw [hlen]
      have mono : ∀ (l' : List Oper) (a : Act) (w : World), wpList P ops (Exit.then (fun a' w' => mixWp P ops Q s (l.drop n) a' w') Q) l' a w → wpList P ops (Exit.then (fun a w => wpAny P md ops Q (ops.size - (k + n)) (setAll listed n k) a w) Q) l' a w := by
        intro l'
        induction l' with
        | nil => intro a w h; exact ih _ _ h
        | cons o l' ihl =>
          intro a w h
          rw [wpList] at h ⊢
          split
          · rename_i hw
            simp only [hw, if_true] at h
            rcases h with h | ⟨h1, h2⟩
            · refine .inl ?_
              have h3 := Oper.wp_mono ihl (wp_then h)
              unfold Oper.wp at *
              generalize (execOp a.eval o).run P w = r at *
              cases r with
              | ok n w' => cases n <;> exact h3
              | halt x w' => cases x <;> exact h3
            · exact .inr ⟨h1, h2⟩
          · rename_i hw
            simp only [hw] at h
            exact ihl _ _ h
      exact mono _ _ _ h
theorem wp_region_mix {id : Nat} {Q : Exit → Act → World → Prop} {a : Act} {w : World} {l : List Oper} (s : List (Bool × Nat)) (hm : P.follows .mixedOrders = true) (hB : (Region.noSelect l.toArray && mixB .any l.toArray s 0 (Array.replicate l.toArray.size false)) = true)
    (h : mixWp P l.toArray Q s l a w.drew) : (Code.region id l.toArray true).wp P Q a w := by
  simp only [Bool.and_eq_true] at hB
  refine wp_region_any hm ?_
  have := wpAny_mix (md := .any) hB.1 s l 0 (Array.replicate l.toArray.size false) a w.drew (by simp) hB.2 h
  simpa using this
end
end Go.Proofs.YtilaheifccjjeaaGreat
namespace Go.Proofs.YtilaheifccjjeaaGreat
open Go.RowKit
theorem put_piece {B P g j t c c2 n : Nat} {cur : Array Value} {bs r : List Nat} {w w1 : World} {u : Value} {A A2 : Option Addr} (kb : Kb (· = P) w w1) (p1 : PAt B w1 P r) (hg1 : w1.heap[g]? = some (.cells cur t (0, 0))) (hu : cur[j]? = some u) (hgl : g < w.heap.size) (hne : g ≠ P) (hB : B ≤ g) (hl : n ≤ r.length)
    (hrd : M.cPiece.rd bs = some (r.take n, r.drop n)) (hb : Bytes w1 B A r.length (M.bf r)) (hc : n ≤ c ∧ c ≤ maxLen) (hb2 : Bytes w1 B A2 (r.drop n).length (M.bf (r.drop n))) (hc2 : (r.drop n).length ≤ c2 ∧ c2 ≤ maxLen) :
    PcPost B P g j bs w (.returned (.bool true)) ((w1.setCell ⟨g, j, none⟩ (.slice A n c)).setCell ⟨P, 0, none⟩ (.slice A2 (r.length - n) c2)).drew := by
  have hPlo := p1.lo
  have htl : (r.take n).length = n := by rw [List.length_take]; exact Nat.min_eq_left hl
  have hdl : (r.drop n).length = r.length - n := by rw [List.length_drop]
  have p2 := p1.set (j := j) hne hB (.slice A n c)
  have b2 : Below B w1 (w1.setCell ⟨g, j, none⟩ (.slice A n c)) := (Below.refl _ _).setCell (p := ⟨g, j, none⟩) hB _
  have p3 := p2.move (r := r.drop n) (by rw [hdl]; omega) hc2 (hb2.below b2 (Nat.le_refl _))
  have b3 : Below B w1 ((w1.setCell ⟨g, j, none⟩ (.slice A n c)).setCell ⟨P, 0, none⟩ (.slice A2 (r.drop n).length c2)) := b2.setCell (p := ⟨P, 0, none⟩) hPlo _
  rw [← hdl]
  have sd := same_drew ((w1.setCell ⟨g, j, none⟩ (.slice A n c)).setCell ⟨P, 0, none⟩ (.slice A2 (r.drop n).length c2))
  refine .inl ⟨r.take n, r.drop n, A, c, hrd, rfl, sd.pat p3, ?_, by rw [htl]; exact hc, ?_, by rw [htl]; have := p1.small; omega, ?_⟩
  · rw [sd.pcell, World.cell?_of_block (w := w1.setCell ⟨g, j, none⟩ (.slice A n c)) (Below.heap_setCell _ _ _ _ (by show g ≠ P; exact hne)), htl]
    exact World.cell?_setCell_same _ _ _ ((cell_row hg1 j).trans hu)
  · have := ((bytes_take n hl hb).below b3 (Nat.le_refl _))
    intro i hi
    obtain ⟨ad, e1, q1, q2, q3⟩ := this i hi
    exact ⟨ad, e1, q1, q2, q3⟩
  · exact (((Fr.of_kb kb hgl hne).trans (Fr.set w1 j _ (Nat.le_refl _) (by omega))).trans (Fr.setP _ 0 _ hne)).after sd
set_option maxRecDepth 100000 in
set_option maxHeartbeats 4000000 in
theorem mpiece_any (B P g j t : Nat) (cur : Array Value) (u : Value) (bs : List Nat) (w : World) (h : PAt B w P bs) (hg : w.heap[g]? = some (.cells cur t (0, 0))) (hu : cur[j]? = some u) (hne : g ≠ P) (hB : B ≤ g) :
    Calls Tryz.prog 135 #[.pointer (some ⟨P, 0, none⟩), .pointer (some ⟨g, j, none⟩)] w (PcPost B P g j bs w) := by
  have hPl := h.lt
  have hPlo := h.lo
  have hgl := lt_row hg
  have ha := Lib.hid (h.alloc (.cells #[.int .i64 0] 3))
  have hpd := Lib.hid (show M.cPiece.rd bs = (M.num bs).bind fun p => if p.1.toNat ≤ p.2.length then some (p.2.take p.1.toNat, p.2.drop p.1.toNat) else none from rfl)
  have hPg : ¬ P = g := fun e => hne e.symm
  replace h := Lib.hid h
  replace hg := Lib.hid hg
  replace hu := Lib.hid hu
  cases hnum : M.num bs with
  | none =>
    rw [hnum] at hpd
    replace hnum := Lib.hid hnum
    have cN := Lib.hid (fun W s => (mnum_ok (.int .i64 0)).no (W := W) hnum.out ha.out (heap_alloc_new w _) (one_row _) (by omega) (by omega) s)
    go_enter Tryz.func135, Tryz.ntmps135
    go_wp2_with fail
    refine wp_region_mix [(false, 4), (true, 6), (false, 2)] (by kernel_rfl) (by kernel_rfl) ?_
    simp only [mixWp, List.take_succ_cons, List.take_zero, List.drop_succ_cons, List.drop_zero]
    go_wp2_with fail
    refine Calls.mono (cN.out _ ⟨rfl, rfl, rfl, rfl⟩) ?_
    rintro e1 w1 ⟨rfl, kb⟩
    replace kb := Lib.hid (kb_new kb)
    go_wp2_with fail
    repeat still_step
    refine wpStill_nil ?_
    go_wp2_with fail
    go_ret
    exact .inr ⟨hpd.out, rfl, kb.out.mono fun _ hk => .inl hk⟩
  | some p =>
    obtain ⟨y, r⟩ := p
    have hy0 := (M.num_short hnum).1
    unfold M.inR at hy0
    obtain ⟨y0, y1⟩ := hy0
    obtain ⟨n, rfl⟩ := Int.eq_ofNat_of_zero_le y0
    rw [hnum] at hpd
    simp only [Option.bind_some, Int.toNat_natCast] at hpd
    replace hnum := Lib.hid hnum
    have cN := Lib.hid (fun W s => (mnum_ok (.int .i64 0)).yes (W := W) hnum.out ha.out (heap_alloc_new w _) (one_row _) (by omega) (by omega) s)
    go_enter Tryz.func135, Tryz.ntmps135
    go_wp2_with fail
    refine wp_region_mix [(false, 4), (true, 6), (false, 2)] (by kernel_rfl) (by kernel_rfl) ?_
    simp only [mixWp, List.take_succ_cons, List.take_zero, List.drop_succ_cons, List.drop_zero]
    go_wp2_with fail
    refine Calls.mono (cN.out _ ⟨rfl, rfl, rfl, rfl⟩) ?_
    rintro e1 w1 ⟨rfl, p1, ⟨cs, ⟨rfl, _⟩, hc⟩, fr⟩
    have kb := kb_new fr.kb
    have hg1 : w1.heap[g]? = some (.cells cur t (0, 0)) := by rw [kb.block g hgl hne]; exact hg.out
    obtain ⟨A, c, hP, h1, h2, h3⟩ := p1.ex
    unfold maxLen at h2
    have c0 : w1.cell? ⟨P, 0, none⟩ = some (.slice A r.length c) := cell_row hP 0
    have f0 := frozen_row hP 0
    have cj : w1.cell? ⟨g, j, none⟩ = some u := (cell_row hg1 j).trans hu.out
    have fj := frozen_row hg1 j
    have c1 : w1.cell? ⟨w.heap.size, 0, none⟩ = some (.int .i64 n) := hc 0 _ rfl
    have hs1 : w.heap.size < w1.heap.size := by have := fr.kb.size; simp at this; omega
    have hsm := p1.small
    replace kb := Lib.hid kb
    replace p1 := Lib.hid p1
    replace hg1 := Lib.hid hg1
    replace hP := Lib.hid hP
    replace hsm := Lib.hid hsm
    replace h2 := Lib.hid h2
    clear hc fr y0 y1
    by_cases hl : n ≤ r.length
    · have t1 : decide ((r.length : Int) < (n : Int)) = false := by simp; omega
      rcases A with _ | ad
      · have hr0 : r = [] := by
          cases r with
          | nil => rfl
          | cons a b => obtain ⟨_, e, _⟩ := h3 0 (by simp); cases e
        subst hr0
        simp only [List.length_nil] at hl c0 h1
        obtain rfl : n = 0 := by omega
        replace h3 := Lib.hid h3
        go_wp2_with fail
        repeat still_step
        refine wpStill_nil ?_
        go_wp2_with fail
        go_region
        go_wp2_with fail
        go_ret
        exact put_piece (c := c) (c2 := c) (n := 0) kb.out p1.out hg1.out hu.out hgl hne hB (by simp) (by rw [hpd.out]; rfl) h3.out ⟨by omega, by unfold maxLen; exact h2.out⟩ (fun i hi => by simp at hi) ⟨by simp, by unfold maxLen; exact h2.out⟩
      · replace h3 := Lib.hid h3
        have hbr := Lib.hid (rest_bytes n h3.out)
        by_cases hcn : c = n
        · go_wp2_with fail
          repeat still_step
          refine wpStill_nil ?_
          go_wp2_with fail
          go_region
          go_wp2_with fail
          go_ret
          have h2' := h2.out
          exact put_piece (n := n) kb.out p1.out hg1.out hu.out hgl hne hB hl (by rw [hpd.out, if_pos hl]) h3.out ⟨by omega, by unfold maxLen; omega⟩ (fun i hi => by rw [List.length_drop] at hi; omega) ⟨by rw [List.length_drop]; omega, by unfold maxLen; omega⟩
        · go_wp2_with fail
          repeat still_step
          refine wpStill_nil ?_
          go_wp2_with fail
          go_region
          go_wp2_with fail
          go_ret
          have h2' := h2.out
          exact put_piece (n := n) kb.out p1.out hg1.out hu.out hgl hne hB hl (by rw [hpd.out, if_pos hl]) h3.out ⟨by omega, by unfold maxLen; omega⟩ hbr.out ⟨by rw [List.length_drop]; omega, by unfold maxLen; omega⟩
    · have t1 : decide ((r.length : Int) < (n : Int)) = true := by simp; omega
      replace h3 := Lib.hid h3
      go_wp2_with fail
      repeat still_step
      refine wpStill_nil ?_
      go_wp2_with fail
      go_ret
      exact .inr ⟨by rw [hpd.out, if_neg hl], rfl, kb.out.mono fun _ hk => .inl hk⟩
end Go.Proofs.YtilaheifccjjeaaGreat
namespace Go.Proofs.YtilaheifccjjeaaGreat
open Go.RowKit
theorem str_ints (x : List Nat) : ∀ s : ByteArray, (x.map fun b : Nat => (b : Int)).foldl (fun r n => r.push (UInt8.ofNat n.toNat)) s = x.foldl (fun r n => r.push (UInt8.ofNat n)) s := by
  induction x with
  | nil => intro s; rfl
  | cons a t ih => intro s; simp only [List.map_cons, List.foldl_cons, Int.toNat_natCast]; exact ih _
theorem run_str (w : World) (A : Option Addr) (c : Nat) (x : List Nat) (h : Bytes w w.heap.size A x.length (M.bf x)) : (convert 33 9 (.slice A x.length c)).run Tryz.prog w = .ok (str x) w := by
  rw [run_convert_bytes_string w 33 9 5 A x.length c Tryz.underlying33 Tryz.underlying5 Tryz.underlying9]
  rcases A with _ | ad
  · have hx : x = [] := by
      cases x with
      | nil => rfl
      | cons a b => obtain ⟨_, e, _⟩ := h 0 (by simp); cases e
    subst hx
    rfl
  · have hl : (loadCells ad x.length).run Tryz.prog w = .ok ((x.map fun b : Nat => (b : Int)).map (Value.int .u8)).toArray w := by
      have := run_loadCells_list (P := Tryz.prog) w ad (vals x) (fun j u hu => by
        have hj : j < x.length := by
          have := (List.getElem?_eq_some_iff.1 hu).1
          rwa [vals_length] at this
        obtain ⟨ad', e, _, _, hc⟩ := h j hj
        injection e with e
        subst e
        rw [hc, ← hu, getD_vals _ _ hj]
        rfl)
      rw [vals_length] at this
      rw [this]
      simp [vals]
    rw [run_bytesToString w ad x.length c _ hl, str_ints]
    rfl
theorem BSS.of_own {w : World} {S : Nat → Prop} {b : Nat} {v : Value} {x : List Nat} (h : w.ownsRow b 5 1 v x.length (vals x)) (hb : ∀ g, v.ownBlock = some g → S g) (hn : x.length ≤ 100000) (hlt : ∀ y ∈ x, y < 256) : BSS w S v x := by
  rcases h.2 with ⟨rfl, h0⟩ | ⟨g, cap, cur, rfl, _, hc, hn', hm, _⟩
  · exact ⟨none, 0, by rw [h0], ⟨by omega, by omega, by unfold maxLen; omega⟩, fun i hi => by omega⟩
  · refine ⟨_, _, rfl, ⟨by omega, hn', hm⟩, fun i hi => ⟨⟨g, 0, none⟩, rfl, hb g rfl, hlt _ ?_, ?_⟩⟩
    · rw [List.getD_eq_getElem?_getD, List.getElem?_eq_getElem hi]; exact List.getElem_mem hi
    · exact h.cells (g := g) rfl i _ (getD_vals x i hi)
theorem bytes_lt {w : World} {B : Nat} {A : Option Addr} {x : List Nat} (h : Bytes w B A x.length (M.bf x)) : ∀ b ∈ x, b < 256 := by
  intro b hb
  obtain ⟨i, hi, rfl⟩ := List.getElem_of_mem hb
  obtain ⟨_, _, _, h4, _⟩ := h i hi
  simpa [M.bf, List.getD_eq_getElem?_getD, List.getElem?_eq_getElem hi] using h4
set_option maxRecDepth 100000 in
set_option maxHeartbeats 4000000 in
theorem mname_ok (u : Value) : MdOk 156 rStr [u] M.cName.rd := by
  intro B P g j t cur bs w h hg hz hne hB
  have hv := Lib.hid (show M.cName.rd bs = (M.cPiece.rd bs).bind fun q => if M.isText q.1 then some q else none from rfl)
  have hPl := h.lt
  have hPlo := h.lo
  have hgl := lt_row hg
  have ha := Lib.hid (h.alloc (.cells #[.slice none 0 0] 33))
  have hPg : ¬ P = g := fun e => hne e.symm
  replace hg := Lib.hid hg
  replace hz := Lib.hid hz
  clear h
  go_enter Tryz.func156, Tryz.ntmps156
  go_wp2_with fail
  refine (mpiece_any B P w.heap.size 0 33 #[.slice none 0 0] (.slice none 0 0) bs _ ha.out (heap_alloc_new w _) rfl (by omega) (by omega)).mono ?_
  rintro e1 w1 (⟨x, r1, A, c, hrd, rfl, p1, c1, hc, hbx, hxl, fr⟩ | ⟨hrd, rfl, kb⟩)
  · rw [hrd] at hv
    simp only [Option.bind_some] at hv
    have kb := kb_new fr.kb
    have hs1 : w.heap.size < w1.heap.size := by have := fr.kb.size; simp at this; omega
    have hg1 : w1.heap[g]? = some (.cells cur t (0, 0)) := by rw [kb.block g hgl hne]; exact hg.out
    have hbs := Lib.hid (show BS w1 w1.heap.size (.slice A x.length c) x from ⟨A, c, rfl, hc.1, hc.2, hbx.below (Below.refl _ _) (by omega)⟩)
    replace hg1 := Lib.hid hg1
    replace kb := Lib.hid kb
    replace p1 := Lib.hid p1
    replace hc := Lib.hid hc
    replace hxl := Lib.hid hxl
    replace hbx := Lib.hid hbx
    clear fr
    cases ht : M.isText x with
    | false =>
      rw [ht] at hv
      have hno := Lib.hid (show ∀ ps, ¬ Utf.M.Text x ps from fun ps hp => by rw [(M.isText_iff x).2 ⟨ps, hp⟩] at ht; cases ht)
      replace ht := Lib.hid ht
      go_wp2_with fail
      refine (Utf.Check_no _ x _ hbs.out hno.out).mono ?_
      rintro e2 w2 ⟨rfl, b2⟩
      have kb2 := Lib.hid ((kb_g (g := g) kb.out).trans (.of_below b2))
      clear b2
      go_wp2_with fail
      go_ret
      exact .inr ⟨by rw [hv.out]; rfl, rfl, kb2.out⟩
    | true =>
      rw [ht] at hv
      obtain ⟨ps, hps⟩ := (M.isText_iff x).1 ht
      replace hps := Lib.hid hps
      replace ht := Lib.hid ht
      go_wp2_with fail
      refine (Utf.Check_yes _ x ps _ hbs.out hps.out).mono ?_
      rintro e2 w2 ⟨rfl, b2⟩
      have hs2 := b2.size
      have kb2 := kb.out.trans (.of_below b2)
      have p2 := p1.out.later b2
      have c2 : w2.cell? ⟨w.heap.size, 0, none⟩ = some (.slice A x.length c) := (b2.cell (p := ⟨w.heap.size, 0, none⟩) hs1).trans c1
      have hg2 : w2.heap[g]? = some (.cells cur t (0, 0)) := by rw [b2.block g (by omega)]; exact hg1.out
      have cj : w2.cell? ⟨g, j, none⟩ = some u := (cell_row hg2 j).trans (hz.out 0 u rfl)
      have fj := frozen_row hg2 j
      have hst : (convert 33 9 (.slice A x.length c)).run Tryz.prog w2 = .ok (str x) w2 := run_str w2 A c x ((hbx.out.below (b2.mono (by omega)) (Nat.le_refl _)).below (Below.refl _ _) (by omega))
      obtain ⟨s, hs⟩ : ∃ s, .string s = str x := ⟨_, rfl⟩
      rw [← hs] at hst
      have fin := Lib.hid (show MdPost rStr M.cName.rd B P g j bs w (.returned (.bool true)) (w2.setCell ⟨g, j, none⟩ (.string s)) by
        rw [hs]
        refine .inl ⟨x, r1, [str x], by rw [hv.out]; rfl, rfl, p2.set hne hB _, ⟨rfl, bytes_lt hbx.out, by have := hxl.out; omega⟩, fun i v hi => ?_, (Fr.of_kb kb2 hgl hne).trans (Fr.set w2 j _ (Nat.le_refl _) (by show j < j + 1; omega))⟩
        cases i with
        | zero => cases hi; exact World.cell?_setCell_same _ _ _ cj
        | succ i => cases hi)
      clear b2 kb2 p2 hg2 hs c1
      go_wp2_with fail
      go_ret
      exact fin.out
  · rw [hrd] at hv
    replace kb := Lib.hid (kb_new kb)
    go_wp2_with fail
    go_ret
    exact .inr ⟨hv.out, rfl, kb_g kb.out⟩
set_option maxRecDepth 100000 in
set_option maxHeartbeats 4000000 in
theorem mbytes_ok (u : Value) : MdOk 201 rBytes [u] M.cPiece.rd := by
  intro B P g j t cur bs w h hg hz hne hB
  have hPl := h.lt
  have hPlo := h.lo
  have hgl := lt_row hg
  have ha := Lib.hid (h.alloc (.cells #[.slice none 0 0] 33))
  have hPg : ¬ P = g := fun e => hne e.symm
  replace hg := Lib.hid hg
  replace hz := Lib.hid hz
  clear h
  go_enter Tryz.func201, Tryz.ntmps201
  go_wp2_with fail
  refine (mpiece_any B P w.heap.size 0 33 #[.slice none 0 0] (.slice none 0 0) bs _ ha.out (heap_alloc_new w _) rfl (by omega) (by omega)).mono ?_
  rintro e1 w1 (⟨x, r1, A, c, hrd, rfl, p1, c1, hc, hbx, hxl, fr⟩ | ⟨hrd, rfl, kb⟩)
  · have kb := kb_new fr.kb
    have hs1 : w.heap.size < w1.heap.size := by have := fr.kb.size; simp at this; omega
    have hg1 : w1.heap[g]? = some (.cells cur t (0, 0)) := by rw [kb.block g hgl hne]; exact hg.out
    have hbs := Lib.hid (show BS w1 w1.heap.size (.slice A x.length c) x from ⟨A, c, rfl, hc.1, hc.2, hbx.below (Below.refl _ _) (by omega)⟩)
    have fin := Lib.hid (show ∀ v' w', w'.ownsRow w1.heap.size 5 1 v' ([] ++ x).length (vals ([] ++ x)) → w1.grownBy w' none → w'.cell? ⟨g, j, none⟩ = some u ∧ w'.frozen? ⟨g, j, none⟩ = false ∧ MdPost rBytes M.cPiece.rd B P g j bs w (.returned (.bool true)) (w'.setCell ⟨g, j, none⟩ v') from by
      intro v' w' hown hgr
      rw [List.nil_append] at hown
      have hsw := hgr.size
      have b2 : Below w1.heap.size w1 w' := ⟨hgr.os, hgr.tape, hgr.output, hgr.size, fun k hk => hgr.block k hk (by simp)⟩
      have p2 := p1.later b2
      have hg2 : w'.heap[g]? = some (.cells cur t (0, 0)) := by rw [b2.block g (by omega)]; exact hg1
      have cj : w'.cell? ⟨g, j, none⟩ = some u := (cell_row hg2 j).trans (hz.out 0 u rfl)
      have hbl := fun k hk => hown.lt k hk
      refine ⟨cj, frozen_row hg2 j, .inl ⟨x, r1, [v'], hrd, rfl, p2.set hne hB _, ⟨v', rfl, BSS.of_own (ownsRow_agree hown fun k hk => Below.heap_setCell _ _ _ _ (by show k ≠ g; have := (hbl k hk).1; omega)) (fun k hk => ⟨by have := (hbl k hk).1; omega, by simpa using (hbl k hk).2⟩) (by omega) (bytes_lt hbx)⟩, fun i v hi => ?_, ((Fr.of_kb kb hgl hne).trans (Fr.of_below b2 (by omega) hne)).trans (Fr.set w' j _ (Nat.le_refl _) (by show j < j + 1; omega))⟩⟩
      cases i with
      | zero => cases hi; exact World.cell?_setCell_same _ _ _ cj
      | succ i => cases hi)
    have hxl' := hxl
    clear fr p1 hg1 kb hrd hbx
    replace hc := Lib.hid hc
    replace hxl := Lib.hid hxl
    clear hxl'
    go_wp2_with (first | (at_builtin; refine wpList_cat rfl _ _ rfl w1.heap.size (.slice none 0 0) (.slice A x.length c) [] x rfl (World.ownsRow_nil _ _ _ _) rfl hbs.out (by have := hxl.out; simp; omega) (Nat.le_refl _) ?_; intro v' w' hown hgr; obtain ⟨q1, q2, q3⟩ := fin.out v' w' hown hgr; replace q3 := Lib.hid q3; obtain ⟨A', n', c', rfl⟩ : ∃ A' n' c', v' = .slice A' n' c' := (by rcases hown.2 with ⟨rfl, _⟩ | ⟨g', cap, cu, rfl, _⟩ <;> exact ⟨_, _, _, rfl⟩); clear hown hgr))
    go_ret
    exact q3.out
  · replace kb := Lib.hid (kb_new kb)
    replace hrd := Lib.hid hrd
    go_wp2_with fail
    go_ret
    exact .inr ⟨hrd.out, rfl, kb_g kb.out⟩
end Go.Proofs.YtilaheifccjjeaaGreat
