/-
  The ground of the proofs of this seat, put together: XHeavy, MEmpty0, MEmptyM, CatC, MEmpty1, MEmpty2. No condition beyond what each text names.
-/
import Derived.Test.YtilaheifccjjeaaGreatXGL
import Derived.Test.YtilaheifccjjeaaGreatXGP
import Derived.Test.YtilaheifccjjeaaGreatXGK
import Derived.Test.YtilaheifccjjeaaGreatXGC
import Derived.Test.YtilaheifccjjeaaGreatXGA
import Derived.Test.YtilaheifccjjeaaGreatXGB
import Derived.Test.YtilaheifccjjeaaGreatXGD
import Derived.Test.YtilaheifccjjeaaGreatXGE
import Derived.Test.YtilaheifccjjeaaGreatXGF
import Derived.Test.YtilaheifccjjeaaGreatXGG
import Derived.Test.YtilaheifccjjeaaGreatXGH
import Derived.Test.YtilaheifccjjeaaGreatXGI
import Derived.Test.YtilaheifccjjeaaGreatXGJ
import Derived.Test.YtilaheifccjjeaaGreatXGM
import Derived.Test.YtilaheifccjjeaaGreatXGN
import Derived.Test.YtilaheifccjjeaaGreatXGO
namespace Go.Proofs.YtilaheifccjjeaaGreat
open Go.RowKit
theorem LstO.le {α : Type} {R : Rep α} {w : World} {S : Nat → Prop} {A : Option Addr} {n c : Nat} {xs : List α} (h : LstO R w S (.slice A n c) xs) : n ≤ 140737488355328 := by
  obtain ⟨_, _, e, h1, _⟩ := h
  cases e
  exact h1.1
/-- What a loop of Heavy keeps up. -/
def HL {α : Type} (xs : List α) (good : α → Prop) (Pr : Prop) (cap : Int) (w : World) (n i : Value) (w' : World) : Prop :=
  ∃ (k : Nat) (r : Int), k ≤ xs.length ∧ i = .int .i64 k ∧ n = .int .i64 r ∧ 0 ≤ r ∧ r ≤ cap + (k : Int) * 281474976710656 ∧ (r ≤ 4000 → Pr ∧ ∀ j x, j < k → xs[j]? = some x → good x) ∧ Below w.heap.size w w'
theorem HL.ended {α : Type} {xs : List α} {good : α → Prop} {Pr : Prop} {r : Int} (h : r ≤ 4000 → Pr ∧ ∀ j x, j < xs.length → xs[j]? = some x → good x) : r ≤ 4000 → Pr ∧ ∀ x ∈ xs, good x := fun hr => ⟨(h hr).1, fun x hx => by
  obtain ⟨j, hj, e⟩ := List.mem_iff_getElem.1 hx
  exact (h hr).2 j x hj (by rw [List.getElem?_eq_getElem hj, e])⟩
theorem HL.step {α : Type} {xs : List α} {good : α → Prop} {Pr : Prop} {r r' : Int} {k : Nat} {x : α} (h : r ≤ 4000 → Pr ∧ ∀ j x, j < k → xs[j]? = some x → good x) (hx : xs[k]? = some x) (hr : r' ≤ 4000 → r ≤ 4000 ∧ good x) : r' ≤ 4000 → Pr ∧ ∀ j x, j < k + 1 → xs[j]? = some x → good x := fun hq => ⟨(h (hr hq).1).1, fun j y hj hy => by
  by_cases hjk : j < k
  · exact (h (hr hq).1).2 j y hjk hy
  · obtain rfl : j = k := by omega
    rw [hx] at hy
    injection hy with hy
    rw [← hy]
    exact (hr hq).2⟩
theorem sby_size (s : ByteArray) : s.size = (sby s).length := by unfold sby; rw [List.length_map]; simp
theorem form_impO {w : World} {S : Nat → Prop} {cs : List Value} {x : M.Imp} (h : rImpO.is w S x cs) : ∃ s t v2 v3 v4 v5 v6, cs = [.string s, .string t, v2, v3, v4, v5, v6] ∧ s.size = x.mo.length ∧ t.size = x.na.length ∧ x.mo.length ≤ 140737488355328 ∧ x.na.length ≤ 140737488355328 := by
  obtain ⟨c, d, rfl, ⟨c, _, rfl, ⟨c, _, rfl, ⟨c, _, rfl, ⟨c, _, rfl, ⟨rfl, h1, h2⟩, rfl, h3, h4⟩, rfl, _⟩, rfl, _⟩, e1⟩, ⟨_, _, rfl, ⟨rfl, _⟩, rfl, _⟩⟩ := h
  obtain ⟨s, hs, hb⟩ := str_form x.mo h1
  obtain ⟨t, ht, hc⟩ := str_form x.na h3
  cases e1
  refine ⟨s, t, _, _, _, _, _, by rw [← hs, ← ht]; rfl, by rw [sby_size, hb], by rw [sby_size, hc], h2, h4⟩
theorem form_expO {w : World} {S : Nat → Prop} {cs : List Value} {x : M.Exp} (h : rExpO.is w S x cs) : ∃ s v2 v3, cs = [.string s, v2, v3] ∧ s.size = x.na.length ∧ x.na.length ≤ 140737488355328 := by
  obtain ⟨c, d, rfl, ⟨c, _, rfl, ⟨rfl, h1, h2⟩, rfl, _⟩, rfl, _⟩ := h
  obtain ⟨s, hs, hb⟩ := str_form x.na h1
  exact ⟨s, _, _, by rw [← hs]; rfl, by rw [sby_size, hb], h2⟩
theorem form_datO {w : World} {S : Nat → Prop} {cs : List Value} {x : M.Dat} (h : rDatO.is w S x cs) : ∃ hd A1 m1 c1 A2 m2 c2 A3 m3 c3 A4 c4, cs = [.int .i64 x.me, .int .i64 hd.op, .int .i64 hd.ty, .int .i64 hd.ix, .int .i64 hd.al, .int .i64 hd.ofs, .int .i64 hd.val, .slice A1 m1 c1, .slice A2 m2 c2, .slice A3 m3 c3, .slice A4 x.bs.length c4] ∧ rIns.is w S x.off (item9 hd (.slice A1 m1 c1) (.slice A2 m2 c2) (.slice A3 m3 c3)) ∧ BSO w S (.slice A4 x.bs.length c4) x.bs := by
  obtain ⟨c, d, rfl, ⟨c1, c2, rfl, ⟨rfl, h1⟩, h2⟩, v, rfl, h3⟩ := h
  obtain ⟨hd, A1, m1, c1, A2, m2, c2, A3, m3, c3, rfl⟩ := form_ins h2
  have h3' := h3
  obtain ⟨A4, c4, rfl, _⟩ := h3
  exact ⟨hd, A1, m1, c1, A2, m2, c2, A3, m3, c3, A4, c4, rfl, h2, h3'⟩
theorem lit_LB {w wr : World} {x : M.L} {hd : M.Hd} {v1 v2 v3 : Value} (h : rIns.is w (· < w.heap.size) x (item9 hd v1 v2 v3)) (b : Below w.heap.size w wr) :
    LB (wr.alloc (.cells #[.int .i64 hd.op, .int .i64 hd.ty, .int .i64 hd.ix, .int .i64 hd.al, .int .i64 hd.ofs, .int .i64 hd.val, v1, v2, v3] 68)) (.slice (some ⟨wr.heap.size, 0, none⟩) 1 1) x := by
  obtain ⟨hd', bo, el, vL, vB, vE, rfl, he, hr, hL, hB, hE⟩ := h
  have e9 : hd'.op = hd.op ∧ hd'.ty = hd.ty ∧ hd'.ix = hd.ix ∧ hd'.al = hd.al ∧ hd'.ofs = hd.ofs ∧ hd'.val = hd.val ∧ vL = v1 ∧ vB = v2 ∧ vE = v3 := by
    simp [item9] at he
    obtain ⟨a0, a1, a2, a3, a4, a5, a6, a7, a8⟩ := he
    exact ⟨a0.symm, a1.symm, a2.symm, a3.symm, a4.symm, a5.symm, a6.symm, a7.symm, a8.symm⟩
  obtain ⟨a0, a1, a2, a3, a4, a5, rfl, rfl, rfl⟩ := e9
  have bA := b.trans (((Below.refl wr.heap.size wr).alloc (Nat.le_refl _) (.cells #[.int .i64 hd.op, .int .i64 hd.ty, .int .i64 hd.ix, .int .i64 hd.al, .int .i64 hd.ofs, .int .i64 hd.val, vL, vB, vE] 68)).mono b.size)
  have ag := below_agree bA
  have up : ∀ k, k < w.heap.size → k < (wr.alloc (.cells #[.int .i64 hd.op, .int .i64 hd.ty, .int .i64 hd.ix, .int .i64 hd.al, .int .i64 hd.ofs, .int .i64 hd.val, vL, vB, vE] 68)).heap.size := fun k hk => by have := b.size; simp; omega
  refine one_LS ?_ hr (hL.agree ag up) (LS.agree hB ag up) (LS.agree hE ag up) (by simp)
  constructor <;> simp [a0, a1, a2, a3, a4, a5]
/-- What Heavy answers. -/
def HvM (m : M.Mod) (w : World) (e : Ending) (w' : World) : Prop := (e = .returned (.bool true) ∨ (e = .returned (.bool false) ∧ Goods m)) ∧ Below w.heap.size w w'
set_option maxRecDepth 100000 in
set_option maxHeartbeats 8000000 in
theorem Heavy_t (w : World) (m : M.Mod) (A0 A1 A2 A3 A4 A5 A6 A8 A9 : Option Addr) (n0 n1 n2 n3 n4 n5 n6 n8 n9 c0 c1 c2 c3 c4 c5 c6 c8 c9 : Nat) (st : Int)
    (e0 : n0 = m.types.length) (e1 : n1 = m.imports.length) (e6 : n6 = m.exports.length) (e2 : n2 = m.funcs.length) (e5 : n5 = m.globals.length) (e8 : n8 = m.elems.length) (e9 : n9 = m.datas.length) (e3 : n3 = m.tables.length) (e4 : n4 = m.memories.length) (hB : n0 ≤ 140737488355328 ∧ n1 ≤ 140737488355328 ∧ n2 ≤ 140737488355328 ∧ n3 ≤ 140737488355328 ∧ n4 ≤ 140737488355328 ∧ n5 ≤ 140737488355328 ∧ n6 ≤ 140737488355328 ∧ n8 ≤ 140737488355328 ∧ n9 ≤ 140737488355328)
    (l0 : LstO rFT w (· < w.heap.size) (.slice A0 n0 c0) m.types) (l1 : LstO rImpO w (· < w.heap.size) (.slice A1 n1 c1) m.imports) (l6 : LstO rExpO w (· < w.heap.size) (.slice A6 n6 c6) m.exports) (l2 : LstO rFn w (· < w.heap.size) (.slice A2 n2 c2) m.funcs) (l5 : LstO rGlo w (· < w.heap.size) (.slice A5 n5 c5) m.globals) (l8 : LstO rElm w (· < w.heap.size) (.slice A8 n8 c8) m.elems) (l9 : LstO rDatO w (· < w.heap.size) (.slice A9 n9 c9) m.datas) :
    Calls Tryz.prog 17 #[.agg #[.slice A0 n0 c0, .slice A1 n1 c1, .slice A2 n2 c2, .slice A3 n3 c3, .slice A4 n4 c4, .slice A5 n5 c5, .slice A6 n6 c6, .int .i64 st, .slice A8 n8 c8, .slice A9 n9 c9]] w (HvM m w) := by
  obtain ⟨b0, b1, b2, b3, b4, b5, b6, b8, b9⟩ := hB
  replace l0 := Lib.hid l0
  replace e0 := Lib.hid e0
  replace l1 := Lib.hid l1
  replace e1 := Lib.hid e1
  replace l6 := Lib.hid l6
  replace e6 := Lib.hid e6
  replace l2 := Lib.hid l2
  replace e2 := Lib.hid e2
  replace l5 := Lib.hid l5
  replace e5 := Lib.hid e5
  replace l8 := Lib.hid l8
  replace e8 := Lib.hid e8
  replace l9 := Lib.hid l9
  replace e9 := Lib.hid e9
  replace e3 := Lib.hid e3
  replace e4 := Lib.hid e4
  have bb : Below w.heap.size w (w.alloc (.cells #[.slice A0 n0 c0, .slice A1 n1 c1, .slice A2 n2 c2, .slice A3 n3 c3, .slice A4 n4 c4, .slice A5 n5 c5, .slice A6 n6 c6, .int .i64 st, .slice A8 n8 c8, .slice A9 n9 c9] 32)) := (Below.refl _ _).alloc (Nat.le_refl _) _
  have hblk : (w.alloc (.cells #[.slice A0 n0 c0, .slice A1 n1 c1, .slice A2 n2 c2, .slice A3 n3 c3, .slice A4 n4 c4, .slice A5 n5 c5, .slice A6 n6 c6, .int .i64 st, .slice A8 n8 c8, .slice A9 n9 c9] 32)).heap[w.heap.size]? = some (.cells #[.slice A0 n0 c0, .slice A1 n1 c1, .slice A2 n2 c2, .slice A3 n3 c3, .slice A4 n4 c4, .slice A5 n5 c5, .slice A6 n6 c6, .int .i64 st, .slice A8 n8 c8, .slice A9 n9 c9] 32 (0, 0)) := heap_alloc_new w _
  by_cases hN : 2000 < n0 + n1 + n2 + n5 + n6 + n8 + n9 + n3 + n4
  · replace bb := Lib.hid bb
    clear hblk
    go_enter Tryz.func17, Tryz.ntmps17
    go_wp2_with fail
    go_ret
    exact ⟨.inl rfl, bb.out⟩
  · obtain ⟨w1, hw1⟩ : ∃ w1, w1 = w.alloc (.cells #[.slice A0 n0 c0, .slice A1 n1 c1, .slice A2 n2 c2, .slice A3 n3 c3, .slice A4 n4 c4, .slice A5 n5 c5, .slice A6 n6 c6, .int .i64 st, .slice A8 n8 c8, .slice A9 n9 c9] 32) := ⟨_, rfl⟩
    rw [← hw1] at bb hblk
    have hlt1 : w.heap.size < w1.heap.size := by rw [hw1]; simp
    replace hw1 := Lib.hid hw1
    replace bb := Lib.hid bb
    replace hblk := Lib.hid hblk
    go_enter Tryz.func17, Tryz.ntmps17
    go_wp2_with fail
    rw [← hw1.out]
    have b00 : Below w1.heap.size w1 w1 := Below.refl _ _
    have u0 : ((n0 : Int) + n1 + n2 + n5 + n6 + n8 + n9 + n3 + n4) ≤ 2000 := by omega
    have u1 : (0 : Int) ≤ ((n0 : Int) + n1 + n2 + n5 + n6 + n8 + n9 + n3 + n4) := by omega
    go_loopw [3, 4] (fun n i w' => HL m.types (fun x => x.ps.length ≤ 4000 ∧ x.rs.length ≤ 4000) (True) 2000 w1 n i w') (fun _ i _ => n0 - (intOf i).toNat)
    case atStart => exact ⟨0, _, by omega, rfl, rfl, by omega, by omega, fun _ => ⟨trivial, fun j x hj => by omega⟩, b00⟩
    case round =>
      obtain ⟨k, r, hk, rfl, rfl, r0, r1, hr, hbw⟩ := hrel
      have hcell := fun j => cell_of_row wr w.heap.size j _ _ (0, 0) ((hbw.block w.heap.size hlt1).trans hblk.out)
      have d0 : wr.cell? ⟨w.heap.size, 0, none⟩ = some (.slice A0 n0 c0) := by rw [hcell]; rfl
      clear hcell
      replace hr := Lib.hid hr
      have hk0 : k ≤ n0 := by rw [e0.out]; exact hk
      by_cases hlt : k < n0
      · have hkm : k < m.types.length := by rw [← e0.out]; exact hlt
        have hx := List.getElem?_eq_getElem hkm
        obtain ⟨x, hxx⟩ : ∃ x, x = m.types[k] := ⟨_, rfl⟩
        rw [← hxx] at hx
        clear hxx
        obtain ⟨g, o, cs, rfl, hg, his, hc⟩ := l0.out.nth hx
        obtain ⟨B1, q1, B2, q2, rfl, hn1, hn2⟩ := form_ft his
        obtain ⟨_, _, _, ⟨p1, _, _⟩, _⟩ := hn1
        obtain ⟨_, _, _, ⟨p2, _, _⟩, _⟩ := hn2
        have f0 : wr.cell? ⟨g, o + k * 2, none⟩ = some (.slice B1 x.ps.length q1) := ((bb.out.trans (hbw.mono bb.out.size)).cell (p := ⟨g, o + k * 2, none⟩) hg).trans (hc 0 _ rfl)
        have f1 : wr.cell? ⟨g, o + k * 2 + 1, none⟩ = some (.slice B2 x.rs.length q2) := ((bb.out.trans (hbw.mono bb.out.size)).cell (p := ⟨g, o + k * 2 + 1, none⟩) hg).trans (hc 1 _ rfl)
        have t0 : (0 : Int) ≤ (k : Int) := by omega
        have t1 : (k : Int) < (n0 : Int) := by omega
        replace hx := Lib.hid hx
        clear hc his
        have o1 : r + (x.ps.length : Int) + (x.rs.length : Int) ≤ 2000 + ((k + 1 : Nat) : Int) * 281474976710656 := by omega
        go_wp2_with fail
        go_quiet (fail)
        go_wp2_with fail
        refine ⟨⟨k + 1, r + (x.ps.length : Int) + (x.rs.length : Int), by have := e0.out; omega, by go_num, by first | rfl | go_num, by omega, o1, HL.step hr.out hx.out (fun h => ⟨by omega, by omega, by omega⟩), by first | exact hbw | exact below_drewN hbw _⟩, by simp [intOf]; omega⟩
      · obtain rfl : n0 = k := by omega
        replace hr := Lib.hid (HL.ended (by rw [e0.out] at hr; exact hr.out))
        go_wp2_with fail
        go_loopw [3, 5] (fun n i w' => HL m.imports (fun x => x.mo.length ≤ 100000 ∧ x.na.length ≤ 100000) ((True) ∧ ∀ x ∈ m.types, x.ps.length ≤ 4000 ∧ x.rs.length ≤ 4000) 562949953421314000 w1 n i w') (fun _ i _ => n1 - (intOf i).toNat)
        case atStart => exact ⟨0, _, by omega, rfl, rfl, by omega, by omega, fun h => ⟨hr.out h, fun j x hj => by omega⟩, hbw⟩
        case round =>
          obtain ⟨k, r, hk, rfl, rfl, r0, r1, hr, hbw⟩ := hrel
          have hcell := fun j => cell_of_row wr w.heap.size j _ _ (0, 0) ((hbw.block w.heap.size hlt1).trans hblk.out)
          have d0 : wr.cell? ⟨w.heap.size, 1, none⟩ = some (.slice A1 n1 c1) := by rw [hcell]; rfl
          clear hcell
          replace hr := Lib.hid hr
          have hk0 : k ≤ n1 := by rw [e1.out]; exact hk
          by_cases hlt : k < n1
          · have hkm : k < m.imports.length := by rw [← e1.out]; exact hlt
            have hx := List.getElem?_eq_getElem hkm
            obtain ⟨x, hxx⟩ : ∃ x, x = m.imports[k] := ⟨_, rfl⟩
            rw [← hxx] at hx
            clear hxx
            obtain ⟨g, o, cs, rfl, hg, his, hc⟩ := l1.out.nth hx
            obtain ⟨s1, s2, v2, v3, v4, v5, v6, rfl, z1, z2, p1, p2⟩ := form_impO his
            have f0 : wr.cell? ⟨g, o + k * 7, none⟩ = some (.string s1) := ((bb.out.trans (hbw.mono bb.out.size)).cell (p := ⟨g, o + k * 7, none⟩) hg).trans (hc 0 _ rfl)
            have f1 : wr.cell? ⟨g, o + k * 7 + 1, none⟩ = some (.string s2) := ((bb.out.trans (hbw.mono bb.out.size)).cell (p := ⟨g, o + k * 7 + 1, none⟩) hg).trans (hc 1 _ rfl)
            have t0 : (0 : Int) ≤ (k : Int) := by omega
            have t1 : (k : Int) < (n1 : Int) := by omega
            replace hx := Lib.hid hx
            clear hc his
            have o1 : r + (x.mo.length : Int) / 20 + (x.na.length : Int) / 20 ≤ 562949953421314000 + ((k + 1 : Nat) : Int) * 281474976710656 := by omega
            go_wp2_with fail
            go_quiet (fail)
            go_wp2_with fail
            refine ⟨⟨k + 1, r + (x.mo.length : Int) / 20 + (x.na.length : Int) / 20, by have := e1.out; omega, by go_num, by first | rfl | go_num, by omega, o1, HL.step hr.out hx.out (fun h => ⟨by omega, by omega, by omega⟩), by first | exact hbw | exact below_drewN hbw _⟩, by simp [intOf]; omega⟩
          · obtain rfl : n1 = k := by omega
            replace hr := Lib.hid (HL.ended (by rw [e1.out] at hr; exact hr.out))
            go_wp2_with fail
            go_loopw [3, 6] (fun n i w' => HL m.exports (fun x => x.na.length ≤ 100000) (((True) ∧ ∀ x ∈ m.types, x.ps.length ≤ 4000 ∧ x.rs.length ≤ 4000) ∧ ∀ x ∈ m.imports, x.mo.length ≤ 100000 ∧ x.na.length ≤ 100000) 1125899906842626000 w1 n i w') (fun _ i _ => n6 - (intOf i).toNat)
            case atStart => exact ⟨0, _, by omega, rfl, rfl, by omega, by omega, fun h => ⟨hr.out h, fun j x hj => by omega⟩, hbw⟩
            case round =>
              obtain ⟨k, r, hk, rfl, rfl, r0, r1, hr, hbw⟩ := hrel
              have hcell := fun j => cell_of_row wr w.heap.size j _ _ (0, 0) ((hbw.block w.heap.size hlt1).trans hblk.out)
              have d0 : wr.cell? ⟨w.heap.size, 6, none⟩ = some (.slice A6 n6 c6) := by rw [hcell]; rfl
              clear hcell
              replace hr := Lib.hid hr
              have hk0 : k ≤ n6 := by rw [e6.out]; exact hk
              by_cases hlt : k < n6
              · have hkm : k < m.exports.length := by rw [← e6.out]; exact hlt
                have hx := List.getElem?_eq_getElem hkm
                obtain ⟨x, hxx⟩ : ∃ x, x = m.exports[k] := ⟨_, rfl⟩
                rw [← hxx] at hx
                clear hxx
                obtain ⟨g, o, cs, rfl, hg, his, hc⟩ := l6.out.nth hx
                obtain ⟨s1, v2, v3, rfl, z1, p1⟩ := form_expO his
                have f0 : wr.cell? ⟨g, o + k * 3, none⟩ = some (.string s1) := ((bb.out.trans (hbw.mono bb.out.size)).cell (p := ⟨g, o + k * 3, none⟩) hg).trans (hc 0 _ rfl)
                have t0 : (0 : Int) ≤ (k : Int) := by omega
                have t1 : (k : Int) < (n6 : Int) := by omega
                replace hx := Lib.hid hx
                clear hc his
                have o1 : r + (x.na.length : Int) / 20 ≤ 1125899906842626000 + ((k + 1 : Nat) : Int) * 281474976710656 := by omega
                go_wp2_with fail
                skip
                skip
                refine ⟨⟨k + 1, r + (x.na.length : Int) / 20, by have := e6.out; omega, by go_num, by first | rfl | go_num, by omega, o1, HL.step hr.out hx.out (fun h => ⟨by omega, by omega⟩), by first | exact hbw | exact below_drewN hbw _⟩, by simp [intOf]; omega⟩
              · obtain rfl : n6 = k := by omega
                replace hr := Lib.hid (HL.ended (by rw [e6.out] at hr; exact hr.out))
                go_wp2_with fail
                go_loopw [3, 7] (fun n i w' => HL m.funcs (fun x => x.lo.length ≤ 4000 ∧ x.bo.sz ≤ 4000) ((((True) ∧ ∀ x ∈ m.types, x.ps.length ≤ 4000 ∧ x.rs.length ≤ 4000) ∧ ∀ x ∈ m.imports, x.mo.length ≤ 100000 ∧ x.na.length ≤ 100000) ∧ ∀ x ∈ m.exports, x.na.length ≤ 100000) 1688849860263938000 w1 n i w') (fun _ i _ => n2 - (intOf i).toNat)
                case atStart => exact ⟨0, _, by omega, rfl, rfl, by omega, by omega, fun h => ⟨hr.out h, fun j x hj => by omega⟩, hbw⟩
                case round =>
                  obtain ⟨k, r, hk, rfl, rfl, r0, r1, hr, hbw⟩ := hrel
                  have hcell := fun j => cell_of_row wr w.heap.size j _ _ (0, 0) ((hbw.block w.heap.size hlt1).trans hblk.out)
                  have d0 : wr.cell? ⟨w.heap.size, 2, none⟩ = some (.slice A2 n2 c2) := by rw [hcell]; rfl
                  clear hcell
                  replace hr := Lib.hid hr
                  have hk0 : k ≤ n2 := by rw [e2.out]; exact hk
                  by_cases hlt : k < n2
                  · have hkm : k < m.funcs.length := by rw [← e2.out]; exact hlt
                    have hx := List.getElem?_eq_getElem hkm
                    obtain ⟨x, hxx⟩ : ∃ x, x = m.funcs[k] := ⟨_, rfl⟩
                    rw [← hxx] at hx
                    clear hxx
                    obtain ⟨g, o, cs, rfl, hg, his, hc⟩ := l2.out.nth hx
                    obtain ⟨B1, q1, B2, q2, rfl, _, hn2, hn3⟩ := form_fn his
                    obtain ⟨_, _, _, ⟨p1, _, _⟩, _⟩ := hn2
                    have bq := bb.out.trans (hbw.mono bb.out.size)
                    have f1 : wr.cell? ⟨g, o + k * 3 + 1, none⟩ = some (.slice B1 x.lo.length q1) := (bq.cell (p := ⟨g, o + k * 3 + 1, none⟩) hg).trans (hc 1 _ rfl)
                    have f2 : wr.cell? ⟨g, o + k * 3 + 2, none⟩ = some (.slice B2 x.bo.len q2) := (bq.cell (p := ⟨g, o + k * 3 + 2, none⟩) hg).trans (hc 2 _ rfl)
                    have hL := Lib.hid (hn3.agree (below_agree bq) (fun k hk => show k < wr.heap.size from Nat.lt_of_lt_of_le hk bq.size))
                    have t0 : (0 : Int) ≤ (k : Int) := by omega
                    have t1 : (k : Int) < (n2 : Int) := by omega
                    replace hx := Lib.hid hx
                    clear hc his hn3 bq
                    go_wp2_with fail
                    go_still_tail 15, (by kernel_rfl)
                    change wpList _ _ _ _ _ wr.drew
                    go_wp2_with fail
                    refine (Weight6 (x.bo.sz + 1) x.bo _ (r + x.lo.length) 0 _ (Nat.lt_succ_self _) (hL.out.later (Below.refl _ _).drew) (by omega) (by omega) (by omega) (by omega)).mono ?_
                    rintro ew ww ⟨rw', rfl, q0, q1, q2, bw⟩
                    have o1 : rw' ≤ 1688849860263938000 + ((k + 1 : Nat) : Int) * 281474976710656 := by omega
                    have o2 := Lib.hid (hbw.drew.trans (bw.mono hbw.drew.size))
                    replace q2 := Lib.hid q2
                    go_wp2_with fail
                    refine ⟨⟨k + 1, rw', by have := e2.out; omega, by go_num, by first | rfl | go_num, q0, o1, HL.step hr.out hx.out (fun h => by have := q2.out (by omega); exact ⟨by omega, by omega, by omega⟩), o2.out⟩, by simp [intOf]; omega⟩
                  · obtain rfl : n2 = k := by omega
                    replace hr := Lib.hid (HL.ended (by rw [e2.out] at hr; exact hr.out))
                    go_wp2_with fail
                    go_loopw [3, 8] (fun n i w' => HL m.globals (fun x => x.ini.sz ≤ 4000) (((((True) ∧ ∀ x ∈ m.types, x.ps.length ≤ 4000 ∧ x.rs.length ≤ 4000) ∧ ∀ x ∈ m.imports, x.mo.length ≤ 100000 ∧ x.na.length ≤ 100000) ∧ ∀ x ∈ m.exports, x.na.length ≤ 100000) ∧ ∀ x ∈ m.funcs, x.lo.length ≤ 4000 ∧ x.bo.sz ≤ 4000) 2251799813685250000 w1 n i w') (fun _ i _ => n5 - (intOf i).toNat)
                    case atStart => exact ⟨0, _, by omega, rfl, rfl, by omega, by omega, fun h => ⟨hr.out h, fun j x hj => by omega⟩, hbw⟩
                    case round =>
                      obtain ⟨k, r, hk, rfl, rfl, r0, r1, hr, hbw⟩ := hrel
                      have hcell := fun j => cell_of_row wr w.heap.size j _ _ (0, 0) ((hbw.block w.heap.size hlt1).trans hblk.out)
                      have d0 : wr.cell? ⟨w.heap.size, 5, none⟩ = some (.slice A5 n5 c5) := by rw [hcell]; rfl
                      clear hcell
                      replace hr := Lib.hid hr
                      have hk0 : k ≤ n5 := by rw [e5.out]; exact hk
                      by_cases hlt : k < n5
                      · have hkm : k < m.globals.length := by rw [← e5.out]; exact hlt
                        have hx := List.getElem?_eq_getElem hkm
                        obtain ⟨x, hxx⟩ : ∃ x, x = m.globals[k] := ⟨_, rfl⟩
                        rw [← hxx] at hx
                        clear hxx
                        obtain ⟨g, o, cs, rfl, hg, his, hc⟩ := l5.out.nth hx
                        obtain ⟨hd, B1, m1, q1, B2, m2, q2, B3, m3, q3, rfl, hin⟩ := form_glo his
                        have bq := bb.out.trans (hbw.mono bb.out.size)
                        have f0 : wr.cell? ⟨g, o + k * 11 + 2, none⟩ = some (.int .i64 hd.op) := (bq.cell (p := ⟨g, o + k * 11 + 2, none⟩) hg).trans (hc 2 _ rfl)
                        have f1 : wr.cell? ⟨g, o + k * 11 + 2 + 1, none⟩ = some (.int .i64 hd.ty) := (bq.cell (p := ⟨g, o + k * 11 + 2 + 1, none⟩) hg).trans (hc 3 _ rfl)
                        have f2 : wr.cell? ⟨g, o + k * 11 + 2 + 2, none⟩ = some (.int .i64 hd.ix) := (bq.cell (p := ⟨g, o + k * 11 + 2 + 2, none⟩) hg).trans (hc 4 _ rfl)
                        have f3 : wr.cell? ⟨g, o + k * 11 + 2 + 3, none⟩ = some (.int .i64 hd.al) := (bq.cell (p := ⟨g, o + k * 11 + 2 + 3, none⟩) hg).trans (hc 5 _ rfl)
                        have f4 : wr.cell? ⟨g, o + k * 11 + 2 + 4, none⟩ = some (.int .i64 hd.ofs) := (bq.cell (p := ⟨g, o + k * 11 + 2 + 4, none⟩) hg).trans (hc 6 _ rfl)
                        have f5 : wr.cell? ⟨g, o + k * 11 + 2 + 5, none⟩ = some (.int .i64 hd.val) := (bq.cell (p := ⟨g, o + k * 11 + 2 + 5, none⟩) hg).trans (hc 7 _ rfl)
                        have f6 : wr.cell? ⟨g, o + k * 11 + 2 + 6, none⟩ = some (.slice B1 m1 q1) := (bq.cell (p := ⟨g, o + k * 11 + 2 + 6, none⟩) hg).trans (hc 8 _ rfl)
                        have f7 : wr.cell? ⟨g, o + k * 11 + 2 + 7, none⟩ = some (.slice B2 m2 q2) := (bq.cell (p := ⟨g, o + k * 11 + 2 + 7, none⟩) hg).trans (hc 9 _ rfl)
                        have f8 : wr.cell? ⟨g, o + k * 11 + 2 + 8, none⟩ = some (.slice B3 m3 q3) := (bq.cell (p := ⟨g, o + k * 11 + 2 + 8, none⟩) hg).trans (hc 10 _ rfl)
                        have bA : Below wr.heap.size wr (wr.alloc (.cells #[.int .i64 hd.op, .int .i64 hd.ty, .int .i64 hd.ix, .int .i64 hd.al, .int .i64 hd.ofs, .int .i64 hd.val, .slice B1 m1 q1, .slice B2 m2 q2, .slice B3 m3 q3] 68)) := (Below.refl _ _).alloc (Nat.le_refl _) _
                        have hL := Lib.hid (lit_LB hin bq)
                        have t0 : (0 : Int) ≤ (k : Int) := by omega
                        have t1 : (k : Int) < (n5 : Int) := by omega
                        replace hx := Lib.hid hx
                        have hgl : g < wr.heap.size := Nat.lt_of_lt_of_le hg bq.size
                        have hwl : w.heap.size < wr.heap.size := Nat.lt_of_lt_of_le hlt1 hbw.size
                        clear hc his hin
                        go_wp2_with fail
                        refine (Weight6 (x.ini.sz + 1) x.ini _ r 0 _ (Nat.lt_succ_self _) hL.out (by omega) (by omega) (by omega) (by omega)).mono ?_
                        rintro ew ww ⟨rw', rfl, q0', q1', q2', bw⟩
                        have o1 : rw' ≤ 2251799813685250000 + ((k + 1 : Nat) : Int) * 281474976710656 := by omega
                        have o2 := Lib.hid (hbw.trans ((bA.trans (bw.mono bA.size)).mono hbw.size))
                        replace q2' := Lib.hid q2'
                        go_wp2_with fail
                        refine ⟨⟨k + 1, rw', by have := e5.out; omega, by go_num, by first | rfl | go_num, q0', o1, HL.step hr.out hx.out (fun h => by have := q2'.out (by omega); omega), o2.out⟩, by simp [intOf]; omega⟩
                      · obtain rfl : n5 = k := by omega
                        replace hr := Lib.hid (HL.ended (by rw [e5.out] at hr; exact hr.out))
                        go_wp2_with fail
                        go_loopw [3, 9] (fun n i w' => HL m.elems (fun x => x.off.sz ≤ 4000 ∧ x.fs.length ≤ 4000) ((((((True) ∧ ∀ x ∈ m.types, x.ps.length ≤ 4000 ∧ x.rs.length ≤ 4000) ∧ ∀ x ∈ m.imports, x.mo.length ≤ 100000 ∧ x.na.length ≤ 100000) ∧ ∀ x ∈ m.exports, x.na.length ≤ 100000) ∧ ∀ x ∈ m.funcs, x.lo.length ≤ 4000 ∧ x.bo.sz ≤ 4000) ∧ ∀ x ∈ m.globals, x.ini.sz ≤ 4000) 2814749767106562000 w1 n i w') (fun _ i _ => n8 - (intOf i).toNat)
                        case atStart => exact ⟨0, _, by omega, rfl, rfl, by omega, by omega, fun h => ⟨hr.out h, fun j x hj => by omega⟩, hbw⟩
                        case round =>
                          obtain ⟨k, r, hk, rfl, rfl, r0, r1, hr, hbw⟩ := hrel
                          have hcell := fun j => cell_of_row wr w.heap.size j _ _ (0, 0) ((hbw.block w.heap.size hlt1).trans hblk.out)
                          have d0 : wr.cell? ⟨w.heap.size, 8, none⟩ = some (.slice A8 n8 c8) := by rw [hcell]; rfl
                          clear hcell
                          replace hr := Lib.hid hr
                          have hk0 : k ≤ n8 := by rw [e8.out]; exact hk
                          by_cases hlt : k < n8
                          · have hkm : k < m.elems.length := by rw [← e8.out]; exact hlt
                            have hx := List.getElem?_eq_getElem hkm
                            obtain ⟨x, hxx⟩ : ∃ x, x = m.elems[k] := ⟨_, rfl⟩
                            rw [← hxx] at hx
                            clear hxx
                            obtain ⟨g, o, cs, rfl, hg, his, hc⟩ := l8.out.nth hx
                            obtain ⟨hd, B1, m1, q1, B2, m2, q2, B3, m3, q3, B4, q4, rfl, _, hin, hN4⟩ := form_elm his
                            obtain ⟨_, _, _, ⟨p1, _, _⟩, _⟩ := hN4
                            have bq := bb.out.trans (hbw.mono bb.out.size)
                            have f0 : wr.cell? ⟨g, o + k * 11 + 1, none⟩ = some (.int .i64 hd.op) := (bq.cell (p := ⟨g, o + k * 11 + 1, none⟩) hg).trans (hc 1 _ rfl)
                            have f1 : wr.cell? ⟨g, o + k * 11 + 1 + 1, none⟩ = some (.int .i64 hd.ty) := (bq.cell (p := ⟨g, o + k * 11 + 1 + 1, none⟩) hg).trans (hc 2 _ rfl)
                            have f2 : wr.cell? ⟨g, o + k * 11 + 1 + 2, none⟩ = some (.int .i64 hd.ix) := (bq.cell (p := ⟨g, o + k * 11 + 1 + 2, none⟩) hg).trans (hc 3 _ rfl)
                            have f3 : wr.cell? ⟨g, o + k * 11 + 1 + 3, none⟩ = some (.int .i64 hd.al) := (bq.cell (p := ⟨g, o + k * 11 + 1 + 3, none⟩) hg).trans (hc 4 _ rfl)
                            have f4 : wr.cell? ⟨g, o + k * 11 + 1 + 4, none⟩ = some (.int .i64 hd.ofs) := (bq.cell (p := ⟨g, o + k * 11 + 1 + 4, none⟩) hg).trans (hc 5 _ rfl)
                            have f5 : wr.cell? ⟨g, o + k * 11 + 1 + 5, none⟩ = some (.int .i64 hd.val) := (bq.cell (p := ⟨g, o + k * 11 + 1 + 5, none⟩) hg).trans (hc 6 _ rfl)
                            have f6 : wr.cell? ⟨g, o + k * 11 + 1 + 6, none⟩ = some (.slice B1 m1 q1) := (bq.cell (p := ⟨g, o + k * 11 + 1 + 6, none⟩) hg).trans (hc 7 _ rfl)
                            have f7 : wr.cell? ⟨g, o + k * 11 + 1 + 7, none⟩ = some (.slice B2 m2 q2) := (bq.cell (p := ⟨g, o + k * 11 + 1 + 7, none⟩) hg).trans (hc 8 _ rfl)
                            have f8 : wr.cell? ⟨g, o + k * 11 + 1 + 8, none⟩ = some (.slice B3 m3 q3) := (bq.cell (p := ⟨g, o + k * 11 + 1 + 8, none⟩) hg).trans (hc 9 _ rfl)
                            have f9 : wr.cell? ⟨g, o + k * 11 + 10, none⟩ = some (.slice B4 x.fs.length q4) := (bq.cell (p := ⟨g, o + k * 11 + 10, none⟩) hg).trans (hc 10 _ rfl)
                            have bA : Below wr.heap.size wr (wr.alloc (.cells #[.int .i64 hd.op, .int .i64 hd.ty, .int .i64 hd.ix, .int .i64 hd.al, .int .i64 hd.ofs, .int .i64 hd.val, .slice B1 m1 q1, .slice B2 m2 q2, .slice B3 m3 q3] 68)) := (Below.refl _ _).alloc (Nat.le_refl _) _
                            have hL := Lib.hid (lit_LB hin bq)
                            have t0 : (0 : Int) ≤ (k : Int) := by omega
                            have t1 : (k : Int) < (n8 : Int) := by omega
                            replace hx := Lib.hid hx
                            have hgl : g < wr.heap.size := Nat.lt_of_lt_of_le hg bq.size
                            have hwl : w.heap.size < wr.heap.size := Nat.lt_of_lt_of_le hlt1 hbw.size
                            clear hc his hin
                            have hLd := Lib.hid (hL.out.later (Below.refl _ _).drew)
                            have bAd := Lib.hid bA.drew
                            have s0 : (0 : Int) ≤ (r + (x.fs.length : Int)) := by omega
                            have s1 : (r + (x.fs.length : Int)) ≤ 4611686018427387904 := by omega
                            have s2 : (0 : Int) ≤ 0 := by omega
                            have s3 : (0 : Int) ≤ 61 := by omega
                            have hwr : IntKind.i64.wrap (r + (x.fs.length : Int)) = (r + (x.fs.length : Int)) := by rw [IntKind.wrap_i64]; omega
                            replace hwr := Lib.hid hwr
                            go_wp2_with fail
                            go_region_held3 (fun w' => w'.cell? ⟨w.heap.size, 8, none⟩ = some (.slice (some ⟨g, o, none⟩) n8 c8) ∧ w'.cell? ⟨g, o + k * 11 + 1, none⟩ = some (.int .i64 hd.op) ∧ w'.cell? ⟨g, o + k * 11 + 1 + 1, none⟩ = some (.int .i64 hd.ty) ∧ w'.cell? ⟨g, o + k * 11 + 1 + 2, none⟩ = some (.int .i64 hd.ix) ∧ w'.cell? ⟨g, o + k * 11 + 1 + 3, none⟩ = some (.int .i64 hd.al) ∧ w'.cell? ⟨g, o + k * 11 + 1 + 4, none⟩ = some (.int .i64 hd.ofs) ∧ w'.cell? ⟨g, o + k * 11 + 1 + 5, none⟩ = some (.int .i64 hd.val) ∧ w'.cell? ⟨g, o + k * 11 + 1 + 6, none⟩ = some (.slice B1 m1 q1) ∧ w'.cell? ⟨g, o + k * 11 + 1 + 7, none⟩ = some (.slice B2 m2 q2) ∧ w'.cell? ⟨g, o + k * 11 + 1 + 8, none⟩ = some (.slice B3 m3 q3) ∧ w'.cell? ⟨g, o + k * 11 + 10, none⟩ = some (.slice B4 x.fs.length q4))
                              (first | exact ⟨d0, f0, f1, f2, f3, f4, f5, f6, f7, f8, f9⟩ | exact ⟨(bA.cell (p := _) hwl).trans d0, (bA.cell (p := _) hgl).trans f0, (bA.cell (p := _) hgl).trans f1, (bA.cell (p := _) hgl).trans f2, (bA.cell (p := _) hgl).trans f3, (bA.cell (p := _) hgl).trans f4, (bA.cell (p := _) hgl).trans f5, (bA.cell (p := _) hgl).trans f6, (bA.cell (p := _) hgl).trans f7, (bA.cell (p := _) hgl).trans f8, (bA.cell (p := _) hgl).trans f9⟩ | exact ⟨(bAd.out.cell (p := _) hwl).trans d0, (bAd.out.cell (p := _) hgl).trans f0, (bAd.out.cell (p := _) hgl).trans f1, (bAd.out.cell (p := _) hgl).trans f2, (bAd.out.cell (p := _) hgl).trans f3, (bAd.out.cell (p := _) hgl).trans f4, (bAd.out.cell (p := _) hgl).trans f5, (bAd.out.cell (p := _) hgl).trans f6, (bAd.out.cell (p := _) hgl).trans f7, (bAd.out.cell (p := _) hgl).trans f8, (bAd.out.cell (p := _) hgl).trans f9⟩ | exact ⟨((bAd.out.trans (bw.mono bAd.out.size)).cell (p := _) hwl).trans d0, ((bAd.out.trans (bw.mono bAd.out.size)).cell (p := _) hgl).trans f0, ((bAd.out.trans (bw.mono bAd.out.size)).cell (p := _) hgl).trans f1, ((bAd.out.trans (bw.mono bAd.out.size)).cell (p := _) hgl).trans f2, ((bAd.out.trans (bw.mono bAd.out.size)).cell (p := _) hgl).trans f3, ((bAd.out.trans (bw.mono bAd.out.size)).cell (p := _) hgl).trans f4, ((bAd.out.trans (bw.mono bAd.out.size)).cell (p := _) hgl).trans f5, ((bAd.out.trans (bw.mono bAd.out.size)).cell (p := _) hgl).trans f6, ((bAd.out.trans (bw.mono bAd.out.size)).cell (p := _) hgl).trans f7, ((bAd.out.trans (bw.mono bAd.out.size)).cell (p := _) hgl).trans f8, ((bAd.out.trans (bw.mono bAd.out.size)).cell (p := _) hgl).trans f9⟩)
                              (first | (go_at_call 47; rw [hwr.out]; (with_reducible refine (Weight6 (x.off.sz + 1) x.off _ (r + (x.fs.length : Int)) 0 _ (Nat.lt_succ_self _) hLd.out s0 s1 s2 s3).mono ?_); rintro ew ww ⟨rw', rfl, q0', q1', q2', bw⟩))
                            have o1 : rw' ≤ 2814749767106562000 + ((k + 1 : Nat) : Int) * 281474976710656 := by omega
                            have o2 := Lib.hid (hbw.trans ((bAd.out.trans (bw.mono bAd.out.size)).mono hbw.size))
                            replace q2' := Lib.hid q2'
                            go_wp2_with fail
                            refine ⟨⟨k + 1, rw', by have := e8.out; omega, by go_num, by first | rfl | go_num, q0', o1, HL.step hr.out hx.out (fun h => by have := q2'.out (by omega); exact ⟨by omega, ⟨by omega, by omega⟩⟩), o2.out⟩, by simp [intOf]; omega⟩
                          · obtain rfl : n8 = k := by omega
                            replace hr := Lib.hid (HL.ended (by rw [e8.out] at hr; exact hr.out))
                            go_wp2_with fail
                            go_loopw [3, 10] (fun n i w' => HL m.datas (fun x => x.off.sz ≤ 4000 ∧ x.bs.length ≤ 100000) (((((((True) ∧ ∀ x ∈ m.types, x.ps.length ≤ 4000 ∧ x.rs.length ≤ 4000) ∧ ∀ x ∈ m.imports, x.mo.length ≤ 100000 ∧ x.na.length ≤ 100000) ∧ ∀ x ∈ m.exports, x.na.length ≤ 100000) ∧ ∀ x ∈ m.funcs, x.lo.length ≤ 4000 ∧ x.bo.sz ≤ 4000) ∧ ∀ x ∈ m.globals, x.ini.sz ≤ 4000) ∧ ∀ x ∈ m.elems, x.off.sz ≤ 4000 ∧ x.fs.length ≤ 4000) 3377699720527874000 w1 n i w') (fun _ i _ => n9 - (intOf i).toNat)
                            case atStart => exact ⟨0, _, by omega, rfl, rfl, by omega, by omega, fun h => ⟨hr.out h, fun j x hj => by omega⟩, hbw⟩
                            case round =>
                              obtain ⟨k, r, hk, rfl, rfl, r0, r1, hr, hbw⟩ := hrel
                              have hcell := fun j => cell_of_row wr w.heap.size j _ _ (0, 0) ((hbw.block w.heap.size hlt1).trans hblk.out)
                              have d0 : wr.cell? ⟨w.heap.size, 9, none⟩ = some (.slice A9 n9 c9) := by rw [hcell]; rfl
                              clear hcell
                              replace hr := Lib.hid hr
                              have hk0 : k ≤ n9 := by rw [e9.out]; exact hk
                              by_cases hlt : k < n9
                              · have hkm : k < m.datas.length := by rw [← e9.out]; exact hlt
                                have hx := List.getElem?_eq_getElem hkm
                                obtain ⟨x, hxx⟩ : ∃ x, x = m.datas[k] := ⟨_, rfl⟩
                                rw [← hxx] at hx
                                clear hxx
                                obtain ⟨g, o, cs, rfl, hg, his, hc⟩ := l9.out.nth hx
                                obtain ⟨hd, B1, m1, q1, B2, m2, q2, B3, m3, q3, B4, q4, rfl, hin, hN4⟩ := form_datO his
                                obtain ⟨_, _, _, ⟨p1, _, _⟩, _⟩ := hN4
                                have bq := bb.out.trans (hbw.mono bb.out.size)
                                have f0 : wr.cell? ⟨g, o + k * 11 + 1, none⟩ = some (.int .i64 hd.op) := (bq.cell (p := ⟨g, o + k * 11 + 1, none⟩) hg).trans (hc 1 _ rfl)
                                have f1 : wr.cell? ⟨g, o + k * 11 + 1 + 1, none⟩ = some (.int .i64 hd.ty) := (bq.cell (p := ⟨g, o + k * 11 + 1 + 1, none⟩) hg).trans (hc 2 _ rfl)
                                have f2 : wr.cell? ⟨g, o + k * 11 + 1 + 2, none⟩ = some (.int .i64 hd.ix) := (bq.cell (p := ⟨g, o + k * 11 + 1 + 2, none⟩) hg).trans (hc 3 _ rfl)
                                have f3 : wr.cell? ⟨g, o + k * 11 + 1 + 3, none⟩ = some (.int .i64 hd.al) := (bq.cell (p := ⟨g, o + k * 11 + 1 + 3, none⟩) hg).trans (hc 4 _ rfl)
                                have f4 : wr.cell? ⟨g, o + k * 11 + 1 + 4, none⟩ = some (.int .i64 hd.ofs) := (bq.cell (p := ⟨g, o + k * 11 + 1 + 4, none⟩) hg).trans (hc 5 _ rfl)
                                have f5 : wr.cell? ⟨g, o + k * 11 + 1 + 5, none⟩ = some (.int .i64 hd.val) := (bq.cell (p := ⟨g, o + k * 11 + 1 + 5, none⟩) hg).trans (hc 6 _ rfl)
                                have f6 : wr.cell? ⟨g, o + k * 11 + 1 + 6, none⟩ = some (.slice B1 m1 q1) := (bq.cell (p := ⟨g, o + k * 11 + 1 + 6, none⟩) hg).trans (hc 7 _ rfl)
                                have f7 : wr.cell? ⟨g, o + k * 11 + 1 + 7, none⟩ = some (.slice B2 m2 q2) := (bq.cell (p := ⟨g, o + k * 11 + 1 + 7, none⟩) hg).trans (hc 8 _ rfl)
                                have f8 : wr.cell? ⟨g, o + k * 11 + 1 + 8, none⟩ = some (.slice B3 m3 q3) := (bq.cell (p := ⟨g, o + k * 11 + 1 + 8, none⟩) hg).trans (hc 9 _ rfl)
                                have f9 : wr.cell? ⟨g, o + k * 11 + 10, none⟩ = some (.slice B4 x.bs.length q4) := (bq.cell (p := ⟨g, o + k * 11 + 10, none⟩) hg).trans (hc 10 _ rfl)
                                have bA : Below wr.heap.size wr (wr.alloc (.cells #[.int .i64 hd.op, .int .i64 hd.ty, .int .i64 hd.ix, .int .i64 hd.al, .int .i64 hd.ofs, .int .i64 hd.val, .slice B1 m1 q1, .slice B2 m2 q2, .slice B3 m3 q3] 68)) := (Below.refl _ _).alloc (Nat.le_refl _) _
                                have hL := Lib.hid (lit_LB hin bq)
                                have t0 : (0 : Int) ≤ (k : Int) := by omega
                                have t1 : (k : Int) < (n9 : Int) := by omega
                                replace hx := Lib.hid hx
                                have hgl : g < wr.heap.size := Nat.lt_of_lt_of_le hg bq.size
                                have hwl : w.heap.size < wr.heap.size := Nat.lt_of_lt_of_le hlt1 hbw.size
                                clear hc his hin
                                have hLd := Lib.hid (hL.out.later (Below.refl _ _).drew)
                                have bAd := Lib.hid bA.drew
                                have s0 : (0 : Int) ≤ (r + (x.bs.length : Int) / 20) := by omega
                                have s1 : (r + (x.bs.length : Int) / 20) ≤ 4611686018427387904 := by omega
                                have s2 : (0 : Int) ≤ 0 := by omega
                                have s3 : (0 : Int) ≤ 61 := by omega
                                have hwr : IntKind.i64.wrap (r + (x.bs.length : Int) / 20) = (r + (x.bs.length : Int) / 20) := by rw [IntKind.wrap_i64]; omega
                                replace hwr := Lib.hid hwr
                                have hwq : IntKind.i64.wrap ((x.bs.length : Int) / 20) = (x.bs.length : Int) / 20 := by rw [IntKind.wrap_i64]; omega
                                replace hwq := Lib.hid hwq
                                go_wp2_with fail
                                go_region_held3 (fun w' => w'.cell? ⟨w.heap.size, 9, none⟩ = some (.slice (some ⟨g, o, none⟩) n9 c9) ∧ w'.cell? ⟨g, o + k * 11 + 1, none⟩ = some (.int .i64 hd.op) ∧ w'.cell? ⟨g, o + k * 11 + 1 + 1, none⟩ = some (.int .i64 hd.ty) ∧ w'.cell? ⟨g, o + k * 11 + 1 + 2, none⟩ = some (.int .i64 hd.ix) ∧ w'.cell? ⟨g, o + k * 11 + 1 + 3, none⟩ = some (.int .i64 hd.al) ∧ w'.cell? ⟨g, o + k * 11 + 1 + 4, none⟩ = some (.int .i64 hd.ofs) ∧ w'.cell? ⟨g, o + k * 11 + 1 + 5, none⟩ = some (.int .i64 hd.val) ∧ w'.cell? ⟨g, o + k * 11 + 1 + 6, none⟩ = some (.slice B1 m1 q1) ∧ w'.cell? ⟨g, o + k * 11 + 1 + 7, none⟩ = some (.slice B2 m2 q2) ∧ w'.cell? ⟨g, o + k * 11 + 1 + 8, none⟩ = some (.slice B3 m3 q3) ∧ w'.cell? ⟨g, o + k * 11 + 10, none⟩ = some (.slice B4 x.bs.length q4))
                                  (first | exact ⟨d0, f0, f1, f2, f3, f4, f5, f6, f7, f8, f9⟩ | exact ⟨(bA.cell (p := _) hwl).trans d0, (bA.cell (p := _) hgl).trans f0, (bA.cell (p := _) hgl).trans f1, (bA.cell (p := _) hgl).trans f2, (bA.cell (p := _) hgl).trans f3, (bA.cell (p := _) hgl).trans f4, (bA.cell (p := _) hgl).trans f5, (bA.cell (p := _) hgl).trans f6, (bA.cell (p := _) hgl).trans f7, (bA.cell (p := _) hgl).trans f8, (bA.cell (p := _) hgl).trans f9⟩ | exact ⟨(bAd.out.cell (p := _) hwl).trans d0, (bAd.out.cell (p := _) hgl).trans f0, (bAd.out.cell (p := _) hgl).trans f1, (bAd.out.cell (p := _) hgl).trans f2, (bAd.out.cell (p := _) hgl).trans f3, (bAd.out.cell (p := _) hgl).trans f4, (bAd.out.cell (p := _) hgl).trans f5, (bAd.out.cell (p := _) hgl).trans f6, (bAd.out.cell (p := _) hgl).trans f7, (bAd.out.cell (p := _) hgl).trans f8, (bAd.out.cell (p := _) hgl).trans f9⟩ | exact ⟨((bAd.out.trans (bw.mono bAd.out.size)).cell (p := _) hwl).trans d0, ((bAd.out.trans (bw.mono bAd.out.size)).cell (p := _) hgl).trans f0, ((bAd.out.trans (bw.mono bAd.out.size)).cell (p := _) hgl).trans f1, ((bAd.out.trans (bw.mono bAd.out.size)).cell (p := _) hgl).trans f2, ((bAd.out.trans (bw.mono bAd.out.size)).cell (p := _) hgl).trans f3, ((bAd.out.trans (bw.mono bAd.out.size)).cell (p := _) hgl).trans f4, ((bAd.out.trans (bw.mono bAd.out.size)).cell (p := _) hgl).trans f5, ((bAd.out.trans (bw.mono bAd.out.size)).cell (p := _) hgl).trans f6, ((bAd.out.trans (bw.mono bAd.out.size)).cell (p := _) hgl).trans f7, ((bAd.out.trans (bw.mono bAd.out.size)).cell (p := _) hgl).trans f8, ((bAd.out.trans (bw.mono bAd.out.size)).cell (p := _) hgl).trans f9⟩)
                                  (first | (go_at_call 47; rw [hwq.out, hwr.out]; (with_reducible refine (Weight6 (x.off.sz + 1) x.off _ (r + (x.bs.length : Int) / 20) 0 _ (Nat.lt_succ_self _) hLd.out s0 s1 s2 s3).mono ?_); rintro ew ww ⟨rw', rfl, q0', q1', q2', bw⟩))
                                have o1 : rw' ≤ 3377699720527874000 + ((k + 1 : Nat) : Int) * 281474976710656 := by omega
                                have o2 := Lib.hid (hbw.trans ((bAd.out.trans (bw.mono bAd.out.size)).mono hbw.size))
                                replace q2' := Lib.hid q2'
                                go_wp2_with fail
                                refine ⟨⟨k + 1, rw', by have := e9.out; omega, by go_num, by first | rfl | go_num, q0', o1, HL.step hr.out hx.out (fun h => by have := q2'.out (by omega); exact ⟨by omega, ⟨by omega, by omega⟩⟩), o2.out⟩, by simp [intOf]; omega⟩
                              · obtain rfl : n9 = k := by omega
                                replace hr := Lib.hid (HL.ended (by rw [e9.out] at hr; exact hr.out))
                                have hend := Lib.hid (bb.out.trans (hbw.mono bb.out.size))
                                by_cases hbig : 4000 < r
                                · go_wp2_with fail
                                  go_ret
                                  exact ⟨.inl rfl, hend.out⟩
                                · go_wp2_with fail
                                  go_ret
                                  obtain ⟨⟨⟨⟨⟨⟨⟨_, q1⟩, q2⟩, q3⟩, q4⟩, q5⟩, q6⟩, q7⟩ := hr.out (by omega)
                                  have := e0.out; have := e1.out; have := e2.out; have := e5.out; have := e6.out; have := e8.out; have := e9.out; have := e3.out; have := e4.out
                                  exact ⟨.inr ⟨rfl, ⟨by omega, q1, q2, q3, q4, q5, q6, q7⟩⟩, hend.out⟩
theorem Heavy_any (w : World) (cs : Array Value) (m : M.Mod) (h : MRaw w (· < w.heap.size) cs m) : Calls Tryz.prog 17 #[.agg cs] w (HvM m w) := by
  obtain ⟨A0, c0, A1, c1, A2, c2, A3, c3, A4, c4, A5, c5, A6, c6, A8, c8, A9, c9, rfl, l0, l1, l2, l3, l4, l5, l6, l8, l9⟩ := h.ex
  exact Heavy_t w m A0 A1 A2 A3 A4 A5 A6 A8 A9 _ _ _ _ _ _ _ _ _ c0 c1 c2 c3 c4 c5 c6 c8 c9 m.start rfl rfl rfl rfl rfl rfl rfl rfl rfl ⟨l0.le, l1.le, l2.le, l3.le, l4.le, l5.le, l6.le, l8.le, l9.le⟩ l0 l1 l6 l2 l5 l8 l9
end Go.Proofs.YtilaheifccjjeaaGreat
namespace Go.Proofs.YtilaheifccjjeaaGreat
open Go.RowKit
theorem eq0_EqFuncTypes (A B : Option Addr) (c d : Nat) (w : World) : Calls Tryz.prog 38 #[.slice A 0 c, .slice B 0 d] w fun e w' => e = .returned (.bool true) ∧ w = w' := by
  go_enter Tryz.func38, Tryz.ntmps38
  go_wp2_with fail
  go_loopw [5] (fun i w' => i = .int .i64 0 ∧ w' = w) (fun _ _ => 0)
  case atStart => exact ⟨rfl, rfl⟩
  case round =>
    obtain ⟨rfl, rfl⟩ := hrel
    go_wp2_with fail
    go_ret
    exact ⟨rfl, rfl⟩
theorem eq0_EqImports (A B : Option Addr) (c d : Nat) (w : World) : Calls Tryz.prog 39 #[.slice A 0 c, .slice B 0 d] w fun e w' => e = .returned (.bool true) ∧ w = w' := by
  go_enter Tryz.func39, Tryz.ntmps39
  go_wp2_with fail
  go_loopw [5] (fun i w' => i = .int .i64 0 ∧ w' = w) (fun _ _ => 0)
  case atStart => exact ⟨rfl, rfl⟩
  case round =>
    obtain ⟨rfl, rfl⟩ := hrel
    go_wp2_with fail
    go_ret
    exact ⟨rfl, rfl⟩
theorem eq0_EqFuncs (A B : Option Addr) (c d : Nat) (w : World) : Calls Tryz.prog 40 #[.slice A 0 c, .slice B 0 d] w fun e w' => e = .returned (.bool true) ∧ w = w' := by
  go_enter Tryz.func40, Tryz.ntmps40
  go_wp2_with fail
  go_loopw [5] (fun i w' => i = .int .i64 0 ∧ w' = w) (fun _ _ => 0)
  case atStart => exact ⟨rfl, rfl⟩
  case round =>
    obtain ⟨rfl, rfl⟩ := hrel
    go_wp2_with fail
    go_ret
    exact ⟨rfl, rfl⟩
theorem eq0_EqLimits (A B : Option Addr) (c d : Nat) (w : World) : Calls Tryz.prog 41 #[.slice A 0 c, .slice B 0 d] w fun e w' => e = .returned (.bool true) ∧ w = w' := by
  go_enter Tryz.func41, Tryz.ntmps41
  go_wp2_with fail
  go_loopw [5] (fun i w' => i = .int .i64 0 ∧ w' = w) (fun _ _ => 0)
  case atStart => exact ⟨rfl, rfl⟩
  case round =>
    obtain ⟨rfl, rfl⟩ := hrel
    go_wp2_with fail
    go_ret
    exact ⟨rfl, rfl⟩
theorem eq0_EqGlobals (A B : Option Addr) (c d : Nat) (w : World) : Calls Tryz.prog 42 #[.slice A 0 c, .slice B 0 d] w fun e w' => e = .returned (.bool true) ∧ w = w' := by
  go_enter Tryz.func42, Tryz.ntmps42
  go_wp2_with fail
  go_loopw [5] (fun i w' => i = .int .i64 0 ∧ w' = w) (fun _ _ => 0)
  case atStart => exact ⟨rfl, rfl⟩
  case round =>
    obtain ⟨rfl, rfl⟩ := hrel
    go_wp2_with fail
    go_ret
    exact ⟨rfl, rfl⟩
theorem eq0_EqExports (A B : Option Addr) (c d : Nat) (w : World) : Calls Tryz.prog 43 #[.slice A 0 c, .slice B 0 d] w fun e w' => e = .returned (.bool true) ∧ w = w' := by
  go_enter Tryz.func43, Tryz.ntmps43
  go_wp2_with fail
  go_loopw [5] (fun i w' => i = .int .i64 0 ∧ w' = w) (fun _ _ => 0)
  case atStart => exact ⟨rfl, rfl⟩
  case round =>
    obtain ⟨rfl, rfl⟩ := hrel
    go_wp2_with fail
    go_ret
    exact ⟨rfl, rfl⟩
theorem eq0_EqElems (A B : Option Addr) (c d : Nat) (w : World) : Calls Tryz.prog 44 #[.slice A 0 c, .slice B 0 d] w fun e w' => e = .returned (.bool true) ∧ w = w' := by
  go_enter Tryz.func44, Tryz.ntmps44
  go_wp2_with fail
  go_loopw [5] (fun i w' => i = .int .i64 0 ∧ w' = w) (fun _ _ => 0)
  case atStart => exact ⟨rfl, rfl⟩
  case round =>
    obtain ⟨rfl, rfl⟩ := hrel
    go_wp2_with fail
    go_ret
    exact ⟨rfl, rfl⟩
theorem eq0_EqDatas (A B : Option Addr) (c d : Nat) (w : World) : Calls Tryz.prog 45 #[.slice A 0 c, .slice B 0 d] w fun e w' => e = .returned (.bool true) ∧ w = w' := by
  go_enter Tryz.func45, Tryz.ntmps45
  go_wp2_with fail
  go_loopw [5] (fun i w' => i = .int .i64 0 ∧ w' = w) (fun _ _ => 0)
  case atStart => exact ⟨rfl, rfl⟩
  case round =>
    obtain ⟨rfl, rfl⟩ := hrel
    go_wp2_with fail
    go_ret
    exact ⟨rfl, rfl⟩
end Go.Proofs.YtilaheifccjjeaaGreat
namespace Go.Proofs.YtilaheifccjjeaaGreat.M
def one (id : Nat) : List Nat := [id, 1, 0]
theorem head_some : rdModule header = some mod0 := rfl
end Go.Proofs.YtilaheifccjjeaaGreat.M
namespace Go.Proofs.YtilaheifccjjeaaGreat
open Go.RowKit
theorem take_succ' (bs : List Nat) (k : Nat) (h : k < bs.length) : bs.take (k + 1) = bs.take k ++ [bs.getD k 0] := by
  rw [List.take_add_one, List.getElem?_eq_getElem h, List.getD_eq_getElem?_getD, List.getElem?_eq_getElem h]
  rfl
theorem CopyBytes_any (v : Value) (bs : List Nat) (w : World) (hn : bs.length ≤ 1000000) (h : BS w w.heap.size v bs) :
    Calls Tryz.prog 16 #[v] w (Gives bs w) := by
  obtain ⟨i0, hi0, hz0, hz1, hz2⟩ := info_parts u8_info
  obtain ⟨A, c, rfl, a1, a2, ha⟩ := h
  obtain ⟨n, hN⟩ : ∃ n, n = bs.length := ⟨_, rfl⟩
  obtain ⟨f, hf⟩ : ∃ f : Nat → Nat, f = fun i => bs.getD i 0 := ⟨_, rfl⟩
  rw [← hN] at a1 ha hn ⊢
  rw [← hf] at ha
  replace hf := Lib.hid hf
  replace hN := Lib.hid hN
  unfold maxLen at a2
  replace ha := Lib.hid ha
  go_enter Tryz.func16, Tryz.ntmps16
  go_wp2
  go_loopw [3, 4] (fun b i w' => ∃ k : Nat, k ≤ n ∧ i = .int .i64 k ∧ w'.ownsRow w.heap.size 5 1 b k (vals (bs.take k)) ∧ Below w.heap.size w w') (fun _ i _ => n - (intOf i).toNat)
  case atStart => exact ⟨0, by omega, rfl, World.ownsRow_nil _ _ _ _, Below.refl _ _⟩
  case round =>
    obtain ⟨k, hk, rfl, hown, hb⟩ := hrel
    replace hown := Lib.hid hown
    by_cases hlt : k < n
    · obtain ⟨a1, rfl, _, hx, q1⟩ := ha.out.later hb k hlt
      have t0 : (0 : Int) ≤ (k : Int) := by omega
      have t1 : (k : Int) < (n : Int) := by omega
      go_wp2_with (first
        | (at_builtin; refine wpList_append_own _ rfl _ _ 33 rfl w.heap.size 5 i0 (.int .u8 0) 1 1 Tryz.underlying33 hi0 hz0 hz1 hz2 rfl (by decide) u3 k (vals (bs.take k)) rfl (hown.out.alloc _) ⟨_, 0, none⟩ 1 1 [_] rfl rfl (cell_one_new _ _ _) (fun x hx => by simp at hx; subst hx; rfl) (by unfold maxLen; omega) (by omega) (by have := hb.size; simp; omega) ?_; intro v' w3 hown' hgrow3 hnil3))
      refine ⟨⟨k + 1, by omega, by go_num, ?_, ?_⟩, by simp [intOf]; omega⟩
      · rw [take_succ' bs k (by rw [← hN.out]; exact hlt), vals_append]
        rw [hf.out] at hown'
        exact hown'
      · exact (hb.alloc hb.size _).grown hgrow3 (by have := hb.size; simp; omega) (fun q hq => (hown.out.lt q hq).1)
    · obtain rfl : k = n := by omega
      go_wp2
      go_ret
      refine ⟨_, rfl, ?_, hb⟩
      have := hown.out
      rw [hN.out, List.take_length] at this
      exact this
end Go.Proofs.YtilaheifccjjeaaGreat
namespace Go.Proofs.YtilaheifccjjeaaGreat
open Go.RowKit
set_option maxRecDepth 100000 in
set_option maxHeartbeats 8000000 in
theorem eqMod0 (A0 : Option Addr) (c0 : Nat) (A1 : Option Addr) (c1 : Nat) (A2 : Option Addr) (c2 : Nat) (A3 : Option Addr) (c3 : Nat) (A4 : Option Addr) (c4 : Nat) (A5 : Option Addr) (c5 : Nat) (A6 : Option Addr) (c6 : Nat) (A8 : Option Addr) (c8 : Nat) (A9 : Option Addr) (c9 : Nat) (s : Int) (w : World) : Calls Tryz.prog 13 #[.agg #[.slice A0 0 c0, .slice A1 0 c1, .slice A2 0 c2, .slice A3 0 c3, .slice A4 0 c4, .slice A5 0 c5, .slice A6 0 c6, .int .i64 s, .slice A8 0 c8, .slice A9 0 c9], .agg #[.slice none 0 0, .slice none 0 0, .slice none 0 0, .slice none 0 0, .slice none 0 0, .slice none 0 0, .slice none 0 0, .int .i64 s, .slice none 0 0, .slice none 0 0]] w fun e w' => e = .returned (.bool true) ∧ Below w.heap.size w w' := by
  have ts : (s == s) = true := by simp
  go_enter Tryz.func13, Tryz.ntmps13
  go_wp2_with fail
  refine (eq0_EqFuncTypes _ _ _ _ _).mono ?_
  rintro e w' ⟨rfl, rfl⟩
  go_wp2_with fail
  refine (eq0_EqImports _ _ _ _ _).mono ?_
  rintro e w' ⟨rfl, rfl⟩
  go_wp2_with fail
  refine (eq0_EqFuncs _ _ _ _ _).mono ?_
  rintro e w' ⟨rfl, rfl⟩
  go_wp2_with fail
  refine (eq0_EqLimits _ _ _ _ _).mono ?_
  rintro e w' ⟨rfl, rfl⟩
  go_wp2_with fail
  refine (eq0_EqLimits _ _ _ _ _).mono ?_
  rintro e w' ⟨rfl, rfl⟩
  go_wp2_with fail
  refine (eq0_EqGlobals _ _ _ _ _).mono ?_
  rintro e w' ⟨rfl, rfl⟩
  go_wp2_with fail
  refine (eq0_EqExports _ _ _ _ _).mono ?_
  rintro e w' ⟨rfl, rfl⟩
  go_wp2_with fail
  refine (eq0_EqElems _ _ _ _ _).mono ?_
  rintro e w' ⟨rfl, rfl⟩
  go_wp2_with fail
  refine (eq0_EqDatas _ _ _ _ _).mono ?_
  rintro e w' ⟨rfl, rfl⟩
  go_wp2_with fail
  go_ret
  exact ⟨rfl, ((Below.refl _ _).alloc (Nat.le_refl _) _).alloc (by simp) _⟩
end Go.Proofs.YtilaheifccjjeaaGreat
namespace Go.Proofs.YtilaheifccjjeaaGreat
open Go.RowKit
theorem lit_BS6 (w1 : World) (bs : List Nat) (cs : Array Value) (t : TypeId) (g n c : Nat) (hcs : cs = (vals bs).toArray) (hb : ∀ b ∈ bs, b < 256) (hg : w1.heap[g]? = some (.cells cs t)) (hgl : g < w1.heap.size) (hn : n = bs.length) (hc : n ≤ c) (hm : c ≤ maxLen) : BS w1 w1.heap.size (.slice (some ⟨g, 0, none⟩) n c) bs := by
  subst hn
  refine ⟨_, _, rfl, hc, hm, fun i hi => ⟨_, rfl, hgl, ?_, ?_⟩⟩
  · show bs.getD i 0 < 256
    rw [List.getD_eq_getElem?_getD, List.getElem?_eq_getElem hi]
    exact hb _ (List.getElem_mem hi)
  · rw [add_none, cell_of_row w1 g (0 + i) cs t (0, 0) hg, Nat.zero_add, hcs]
    have := getD_vals bs i hi
    simpa using this
theorem LAt.none {α : Type} {w : World} {S : Nat → Prop} {cur : Array Value} {k : Nat} {R : Rep α} {x : List α} (h : LAt w S cur k R x) (hx : x = []) : ∃ A c, cur[k]? = some (.slice A 0 c) := by
  subst hx
  obtain ⟨v, h1, h2⟩ := h
  obtain ⟨A, c, e, _⟩ := h2.form
  subst e
  exact ⟨A, c, h1⟩
def Emp (s : Int) (w : World) (e : Ending) (w' : World) : Prop :=
  ∃ A0 c0 A1 c1 A2 c2 A3 c3 A4 c4 A5 c5 A6 c6 A8 c8 A9 c9, e = .returned (.tuple #[.agg #[.slice A0 0 c0, .slice A1 0 c1, .slice A2 0 c2, .slice A3 0 c3, .slice A4 0 c4, .slice A5 0 c5, .slice A6 0 c6, .int .i64 s, .slice A8 0 c8, .slice A9 0 c9], .int .i64 0]) ∧ Below w.heap.size w w'
theorem dec_empty (v : Value) (bs : List Nat) (s : Int) (w : World) (hb : BS w w.heap.size v bs) (h : M.rdModule bs = some ⟨[], [], [], [], [], [], [], s, [], []⟩) : Calls Tryz.prog 15 #[v] w (Emp s w) := by
  refine (MDecode_any v bs w hb).mono ?_
  rintro e w' (⟨m, cs, h1, rfl, h10, hm, b⟩ | ⟨h1, _⟩)
  · rw [h] at h1
    cases h1
    obtain ⟨A0, c0, e0⟩ := hm.l0.none rfl
    obtain ⟨A1, c1, e1⟩ := hm.l1.none rfl
    obtain ⟨A2, c2, e2⟩ := hm.l2.none rfl
    obtain ⟨A3, c3, e3⟩ := hm.l3.none rfl
    obtain ⟨A4, c4, e4⟩ := hm.l4.none rfl
    obtain ⟨A5, c5, e5⟩ := hm.l5.none rfl
    obtain ⟨A6, c6, e6⟩ := hm.l6.none rfl
    have e7 := hm.l7.1
    obtain ⟨A8, c8, e8⟩ := hm.l8.none rfl
    obtain ⟨A9, c9, e9⟩ := hm.l9.none rfl
    refine ⟨A0, c0, A1, c1, A2, c2, A3, c3, A4, c4, A5, c5, A6, c6, A8, c8, A9, c9, ?_, b⟩
    have : cs = #[.slice A0 0 c0, .slice A1 0 c1, .slice A2 0 c2, .slice A3 0 c3, .slice A4 0 c4, .slice A5 0 c5, .slice A6 0 c6, .int .i64 s, .slice A8 0 c8, .slice A9 0 c9] := by
      apply Array.ext_getElem?
      intro i
      by_cases hi : i < 10
      · have : i = 0 ∨ i = 1 ∨ i = 2 ∨ i = 3 ∨ i = 4 ∨ i = 5 ∨ i = 6 ∨ i = 7 ∨ i = 8 ∨ i = 9 := by omega
        rcases this with rfl | rfl | rfl | rfl | rfl | rfl | rfl | rfl | rfl | rfl
        · rw [e0]; rfl
        · rw [e1]; rfl
        · rw [e2]; rfl
        · rw [e3]; rfl
        · rw [e4]; rfl
        · rw [e5]; rfl
        · rw [e6]; rfl
        · rw [e7]; rfl
        · rw [e8]; rfl
        · rw [e9]; rfl
      · rw [Array.getElem?_eq_none (by omega), Array.getElem?_eq_none (by simp; omega)]
    rw [this]
  · rw [h] at h1
    cases h1
theorem dec_none (v : Value) (bs : List Nat) (w : World) (hb : BS w w.heap.size v bs) (h : M.rdModule bs = none) : Calls Tryz.prog 15 #[v] w fun e w' => e = .returned (.tuple #[.agg mod0V, .int .i64 100]) ∧ Below w.heap.size w w' := by
  refine (MDecode_any v bs w hb).mono ?_
  rintro e w' (⟨m, cs, h1, _⟩ | ⟨_, h2, h3⟩)
  · rw [h] at h1
    cases h1
  · exact ⟨h2, h3⟩
set_option maxRecDepth 100000 in
set_option maxHeartbeats 4000000 in
theorem wakes_any (w : World) : Calls Tryz.prog 14 #[] w fun e w' => e = .returned (.bool true) ∧ Below w.heap.size w w' := by
  go_enter Tryz.func14, Tryz.ntmps14
  go_wp2_with fail
  refine (dec_empty _ M.header _ _ (lit_BS6 _ _ _ 5 w.heap.size 8 8 rfl (by decide) (heap_alloc_new w _) (by simp) rfl (by omega) (by unfold maxLen; omega)) M.head_some).mono ?_
  rintro e1 w1 ⟨A0, c0, A1, c1, A2, c2, A3, c3, A4, c4, A5, c5, A6, c6, A8, c8, A9, c9, rfl, b1⟩
  have b2 : Below w.heap.size w w1 := ((Below.refl _ _).alloc (Nat.le_refl _) _).trans (b1.mono (by simp))
  replace b2 := Lib.hid b2
  clear b1
  go_wp2_with (go_at_call 11; refine (num_any _ _).mono ?_; rintro e wn ⟨rfl, rfl⟩)
  refine (eqMod0 _ _ _ _ _ _ _ _ _ _ _ _ _ _ _ _ _ _ _ _).mono ?_
  rintro e2 w2 ⟨rfl, b3⟩
  have b4 := Lib.hid (b2.out.trans (((Below.refl w1.heap.size w1).alloc (Nat.le_refl _) _).trans (b3.mono (by simp)) |>.mono b2.out.size))
  clear b3
  go_wp2_with fail
  go_ret
  exact ⟨rfl, b4.out⟩
end Go.Proofs.YtilaheifccjjeaaGreat
