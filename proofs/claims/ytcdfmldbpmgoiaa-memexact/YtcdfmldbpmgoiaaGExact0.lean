/-
  Two memories with the same bytes, the program's and the page's, that lie apart from each other; condition: both were made by the call.
-/
import Derived.Test.YtcdfmldbpmgoiaaGParts0
import Derived.Test.YtcdfmldbpmgoiaaGPage3
namespace Go.Proofs.Ytcdfmldbpmgoiaa
open Go.RowKit
theorem own_obj {w : World} {b n q : Nat} {v : Value} {xs : List Value} (h : w.ownsRow b 5 1 v n xs) (hq : v.ownBlock = some q) : ∃ cur, w.heap[q]? = some (.cells cur 5 (0, 0)) := by
  rcases h.2 with ⟨rfl, _⟩ | ⟨g, cap, cur, rfl, _, h2, _⟩
  · cases hq
  · cases hq
    exact ⟨cur, h2⟩
theorem MAt.not_own {T : Nat} {w : World} {B g b n : Nat} {v u : Value} {bs : List Nat} {most : Int} {xs : List Value} (h : MAt T w B g v bs most) (ho : w.ownsRow b 5 1 u n xs) : u.ownBlock ≠ some g := fun e => by
  obtain ⟨cur, hc⟩ := own_obj ho e
  rw [h.obj] at hc
  injection hc with hc
  injection hc with _ hc
  exact h.ne hc
/-- Both memories, and that nothing older than w0 has turned. -/
structure Two (w0 : World) (B C g k : Nat) (v u : Value) (most : Int) (w : World) (bs : List Nat) : Prop where
  a : MAt 62 w B g v bs most
  b : MAt 48 w C k u bs most
  ap : ∀ q, v.ownBlock = some q → u.ownBlock ≠ some q
  len : bs.length ≤ 1048576
  pg : bs.length % 65536 = 0
  lo : w0.heap.size ≤ B
  lo2 : w0.heap.size ≤ C
  most_le : -1 ≤ most ∧ most ≤ 16
  bel : Below w0.heap.size w0 w
section
variable {w0 w w1 w2 : World} {B C g k : Nat} {v u : Value} {most : Int} {bs cs : List Nat}
theorem Two.gk (h : Two w0 B C g k v u most w bs) : g ≠ k := fun e => by
  have h1 := h.a.obj
  rw [e, h.b.obj] at h1
  injection h1 with h1
  injection h1 with _ h1
  exact absurd h1 (by decide)
theorem Two.later (h : Two w0 B C g k v u most w bs) (hb : Below w.heap.size w w1) : Two w0 B C g k v u most w1 bs :=
  ⟨h.a.later hb, h.b.later hb, h.ap, h.len, h.pg, h.lo, h.lo2, h.most_le, h.bel.trans (hb.mono h.bel.size)⟩
/-- The page's memory turns first. -/
theorem Two.page (h : Two w0 B C g k v u most w bs) (hx : But (fun q => u.ownBlock = some q) w w1) : MAt 62 w1 B g v bs most :=
  h.a.but hx (h.a.not_own h.b.row) (fun q hq e => h.ap q hq e)
theorem Two.own (h : Two w0 B C g k v u most w bs) (hx : But (fun q => v.ownBlock = some q) w w1) : MAt 48 w1 C k u bs most :=
  h.b.but hx (h.b.not_own h.a.row) (fun q hq e => h.ap q e hq)
theorem Two.belP (h : Two w0 B C g k v u most w bs) (hx : But (fun q => u.ownBlock = some q) w w1) : Below w0.heap.size w0 w1 :=
  h.bel.trans (hx.below (fun q hq => Nat.le_trans h.lo2 (h.b.row.lt q hq).1) h.bel.size)
theorem Two.belO (h : Two w0 B C g k v u most w bs) (hx : But (fun q => v.ownBlock = some q) w w1) : Below w0.heap.size w0 w1 :=
  h.bel.trans (hx.below (fun q hq => Nat.le_trans h.lo (h.a.row.lt q hq).1) h.bel.size)
/-- Both have turned: the page's first. -/
theorem Two.both (h : Two w0 B C g k v u most w bs) (hx : But (fun q => u.ownBlock = some q) w w1) (hb : MAt 48 w1 C k u cs most) (hy : But (fun q => v.ownBlock = some q) w1 w2) (ha : MAt 62 w2 B g v cs most) (hl : cs.length = bs.length) : Two w0 B C g k v u most w2 cs := by
  have h1 := h.page hx
  have hb2 : MAt 48 w2 C k u cs most := hb.but hy (hb.not_own h1.row) (fun q hq e => h.ap q e hq)
  exact ⟨ha, hb2, h.ap, by rw [hl]; exact h.len, by rw [hl]; exact h.pg, h.lo, h.lo2, h.most_le, (h.belP hx).trans (hy.below (fun q hq => Nat.le_trans h.lo (h1.row.lt q hq).1) (h.belP hx).size)⟩
/-- The program's alone has turned, and is as it was. -/
theorem Two.same (h : Two w0 B C g k v u most w bs) (hy : But (fun q => v.ownBlock = some q) w w2) (ha : MAt 62 w2 B g v bs most) : Two w0 B C g k v u most w2 bs :=
  ⟨ha, h.own hy, h.ap, h.len, h.pg, h.lo, h.lo2, h.most_le, h.belO hy⟩
theorem Two.drewN (h : Two w0 B C g k v u most w bs) (n : Nat) : Two w0 B C g k v u most (w.drewN n) bs :=
  ⟨⟨h.a.obj, h.a.ge, h.a.row, h.a.lt, h.a.ne, h.a.len⟩, ⟨h.b.obj, h.b.ge, h.b.row, h.b.lt, h.b.ne, h.b.len⟩, h.ap, h.len, h.pg, h.lo, h.lo2, h.most_le, ⟨h.bel.os, h.bel.tape, h.bel.output, h.bel.size, h.bel.block⟩⟩
/-- Both have grown: the program's first. -/
theorem Two.grown {v' u' : Value} (h : Two w0 B C g k v u most w bs) (hx : But (Ft g v) w w1) (ha : MAt 62 w1 B g v' cs most) (hv : v'.ownBlock = v.ownBlock ∨ v'.ownBlock = some w.heap.size) (hy : But (Ft k u) w1 w2) (hb : MAt 48 w2 C k u' cs most) (hu : u'.ownBlock = u.ownBlock ∨ u'.ownBlock = some w1.heap.size) (hl : cs.length ≤ 1048576) (hp : cs.length % 65536 = 0) : Two w0 B C g k v' u' most w2 cs := by
  have hgk := h.gk
  have b1 : MAt 48 w1 C k u bs most := h.b.but hx (fun e => e.elim (fun e => hgk e.symm) (h.b.not_own h.a.row)) (fun q hq e => e.elim (fun e => h.a.not_own h.b.row (e ▸ hq)) (fun e => h.ap q e hq))
  have hvu : ∀ q, v'.ownBlock = some q → u.ownBlock ≠ some q := fun q hq e => by
    rcases hv with hv | hv
    · exact h.ap q (hv ▸ hq) e
    · rw [hv] at hq
      injection hq with hq
      have := (h.b.row.lt q e).2
      omega
  have a2 : MAt 62 w2 B g v' cs most := ha.but hy (fun e => e.elim (fun e => hgk e) (fun e => ha.not_own b1.row e)) (fun q hq e => e.elim (fun e => b1.not_own ha.row (e ▸ hq)) (fun e => hvu q hq e))
  refine ⟨a2, hb, fun q hq e => ?_, hl, hp, h.lo, h.lo2, h.most_le, (h.bel.trans (hx.below (fun q hq => Nat.le_trans h.lo (h.a.ft q hq)) h.bel.size)).trans (hy.below (fun q hq => Nat.le_trans h.lo2 (b1.ft q hq)) (Nat.le_trans h.bel.size hx.size))⟩
  rcases hu with hu | hu
  · exact hvu q hq (hu ▸ e)
  · rw [hu] at e
    injection e with e
    have := (ha.row.lt q hq).2
    omega
end
section
variable {w0 w w1 w2 : World} {B C g k : Nat} {v u : Value} {most : Int} {bs cs : List Nat}
/-- The page's has turned, some new memory was made, then the program's has turned. -/
theorem Two.done (h : Two w0 B C g k v u most w bs) (hb1 : MAt 48 w1 C k u cs most) (ha1 : MAt 62 w1 B g v bs most) (hbel : Below w0.heap.size w0 w1) (hy : But (fun q => v.ownBlock = some q) w1 w2) (ha : MAt 62 w2 B g v cs most) (hl : cs.length = bs.length) : Two w0 B C g k v u most w2 cs :=
  ⟨ha, hb1.but hy (hb1.not_own ha1.row) (fun q hq e => h.ap q e hq), h.ap, by rw [hl]; exact h.len, by rw [hl]; exact h.pg, h.lo, h.lo2, h.most_le, hbel.trans (hy.below (fun q hq => Nat.le_trans h.lo (ha1.row.lt q hq).1) hbel.size)⟩
/-- Bytes of the call's own are written over. -/
theorem Two.spoil {uu : Value} {b n N : Nat} {xs : List Value} (h : Two w0 B C g k v u most w bs) (ho : w.ownsRow b 5 1 uu n xs) (hN : w0.heap.size ≤ N) (hb : N ≤ b) (hv : ∀ q, v.ownBlock = some q → q < N) (hu : ∀ q, u.ownBlock = some q → q < N) (hx : But (fun q => uu.ownBlock = some q) w w1) : Two w0 B C g k v u most w1 bs :=
  ⟨h.a.but hx (h.a.not_own ho) (fun q hq e => by have := hv q hq; have := (ho.lt q e).1; omega), h.b.but hx (h.b.not_own ho) (fun q hq e => by have := hu q hq; have := (ho.lt q e).1; omega), h.ap, h.len, h.pg, h.lo, h.lo2, h.most_le, h.bel.trans (hx.below (fun q hq => by have := (ho.lt q hq).1; omega) h.bel.size)⟩
end
theorem MAt.cut {T : Nat} {w : World} {B g c : Nat} {A : Option Addr} {bs : List Nat} {most : Int} (h : MAt T w B g (.slice A bs.length c) bs most) (a n : Nat) (hn : a + n ≤ bs.length) : BS w w.heap.size (.slice (if c = a then A else A.map (·.add a)) n (c - a)) ((bs.drop a).take n) := by
  obtain ⟨A', c', e, h1, h2⟩ := h.form
  cases e
  have hl : ((bs.drop a).take n).length = n := by simp; omega
  refine ⟨_, c - a, by rw [hl], by rw [hl]; omega, by unfold maxLen at *; omega, fun i hi => ?_⟩
  rw [hl] at hi
  obtain ⟨r, rfl, hr, hc⟩ := h.part a n hn (by omega)
  rw [if_neg (by omega)]
  have hb : i < ((bs.drop a).take n).length := by rw [hl]; exact hi
  refine ⟨⟨r, a, none⟩, by simp [add_none], hr, ?_, hc i _ (getD_vals _ i hb)⟩
  show ((bs.drop a).take n).getD i 0 < 256
  rw [List.getD_eq_getElem?_getD, List.getElem?_eq_getElem hb]
  exact h.lt _ (List.mem_of_mem_drop (List.mem_of_mem_take (List.getElem_mem hb)))
theorem nil_BS (w : World) (B : Nat) : BS w B (.slice none 0 0) [] := ⟨none, 0, rfl, by simp, by unfold maxLen; omega, fun i hi => by simp at hi⟩
theorem pGrow_yes (T : Nat) (w : World) (B g : Nat) (v : Value) (bs cs : List Nat) (most n : Int) (s : Nat) (h : MAt T w B g v bs most) (hB : B ≤ w.heap.size) (hm : -1 ≤ most ∧ most ≤ 16) (hl : bs.length ≤ 1048576) (hn : Rg n) (hs : s = bs.length / 65536) (hy : 0 ≤ n ∧ n ≤ most - (s : Int)) (k : Nat) (hk : k = n.toNat * 65536) (hcs : cs = bs ++ List.replicate k 0) :
    Calls Try.prog 21 #[Mp g, .int .i64 n] w fun e w' => e = .returned (.int .i64 (s : Int)) ∧ ∃ v', MAt T w' B g v' cs most ∧ But (Ft g v) w w' ∧ (v'.ownBlock = v.ownBlock ∨ v'.ownBlock = some w.heap.size) := by
  have hgr : M.gr bs most n = true := by unfold M.gr; rw [← hs]; simpa using hy
  refine (pGrow_any T w B g v bs most n h hB hm hl hn).mono ?_
  rintro e w' (⟨h1, _⟩ | ⟨_, h2, h3⟩)
  · rw [hgr] at h1; cases h1
  · rw [← hs] at h2
    rw [← hk, ← hcs] at h3
    exact ⟨h2, h3⟩
theorem pGrow_no (T : Nat) (w : World) (B g : Nat) (v : Value) (bs : List Nat) (most n : Int) (h : MAt T w B g v bs most) (hB : B ≤ w.heap.size) (hm : -1 ≤ most ∧ most ≤ 16) (hl : bs.length ≤ 1048576) (hn : Rg n) (hy : ¬ (0 ≤ n ∧ n ≤ most - ((bs.length / 65536 : Nat) : Int))) :
    Calls Try.prog 21 #[Mp g, .int .i64 n] w fun e w' => e = .returned (.int .i64 (-1)) ∧ w' = w := by
  have hgr : M.gr bs most n = false := by unfold M.gr; simpa using hy
  refine (pGrow_any T w B g v bs most n h hB hm hl hn).mono ?_
  rintro e w' (⟨_, h2⟩ | ⟨h1, _⟩)
  · exact h2
  · rw [hgr] at h1; cases h1
/-- An act in a block of its own. -/
structure Box (w : World) (b : Nat) (d a f m : Int) (x : Nat) (vB : Value) : Prop where
  x0 : w.cell? ⟨b, 0, none⟩ = some (.int .i64 d)
  x1 : w.cell? ⟨b, 1, none⟩ = some (.int .i64 a)
  x2 : w.cell? ⟨b, 2, none⟩ = some (.int .i64 f)
  x3 : w.cell? ⟨b, 3, none⟩ = some (.int .i64 m)
  x4 : w.cell? ⟨b, 4, none⟩ = some (.int .u64 (x : Int))
  x5 : w.cell? ⟨b, 5, none⟩ = some vB
theorem Box.lt {w : World} {b : Nat} {d a f m : Int} {x : Nat} {vB : Value} (h : Box w b d a f m x vB) : b < w.heap.size := World.block_lt_of_cell? w _ h.x0
theorem Box.but {w w' : World} {b : Nat} {d a f m : Int} {x : Nat} {vB : Value} {X : Nat → Prop} (h : Box w b d a f m x vB) (hb : But X w w') (hX : ¬ X b) : Box w' b d a f m x vB :=
  have e : ∀ o : Nat, w'.cell? ⟨b, o, none⟩ = w.cell? ⟨b, o, none⟩ := fun o => World.cell?_of_block (hb.block b h.lt hX)
  ⟨(e 0).trans h.x0, (e 1).trans h.x1, (e 2).trans h.x2, (e 3).trans h.x3, (e 4).trans h.x4, (e 5).trans h.x5⟩
theorem Box.later {w w' : World} {b : Nat} {d a f m : Int} {x : Nat} {vB : Value} (h : Box w b d a f m x vB) (hb : Below w.heap.size w w') : Box w' b d a f m x vB := h.but (X := fun _ => False) (.ofBelow hb) (fun h => h)
theorem Below.drewN' (w : World) (n : Nat) : Below w.heap.size w (w.drewN n) := ⟨rfl, rfl, rfl, Nat.le_refl _, fun _ _ => rfl⟩
theorem Box.drewN {w : World} {b : Nat} {d a f m : Int} {x : Nat} {vB : Value} (h : Box w b d a f m x vB) (n : Nat) : Box (w.drewN n) b d a f m x vB := ⟨h.x0, h.x1, h.x2, h.x3, h.x4, h.x5⟩
theorem BS.but {w w' : World} {B : Nat} {v : Value} {bs : List Nat} {X : Nat → Prop} (h : BS w B v bs) (hb : But X w w') (hB : B ≤ w.heap.size) (hX : ∀ q, X q → B ≤ q) : BS w' B v bs := by
  have h1 : Below B w w' := hb.below hX hB
  exact h.below h1 (Nat.le_refl _)
theorem Acts.later {w w' : World} {A : Option Addr} {n : Nat} (h : Acts w A n) (hb : Below w.heap.size w w') : Acts w' A n := fun i hi => by
  obtain ⟨g, o, d, a, f, m, x, vB, bs, e, hg, c, r, hB, hl⟩ := h i hi
  exact ⟨g, o, d, a, f, m, x, vB, bs, e, Nat.lt_of_lt_of_le hg hb.size, ⟨(hb.cell (p := ⟨g, _, none⟩) hg).trans c.c0, (hb.cell (p := ⟨g, _, none⟩) hg).trans c.c1, (hb.cell (p := ⟨g, _, none⟩) hg).trans c.c2, (hb.cell (p := ⟨g, _, none⟩) hg).trans c.c3, (hb.cell (p := ⟨g, _, none⟩) hg).trans c.c4, (hb.cell (p := ⟨g, _, none⟩) hg).trans c.c5⟩, r, hB.later hb, hl⟩
theorem M.form_iff {a o n : Int} : M.form a o n = true ↔ (n = 1 ∨ n = 2 ∨ n = 4 ∨ n = 8) ∧ (0 ≤ a ∧ a < 4294967296) ∧ (0 ≤ o ∧ o < 4294967296) := by unfold M.form; simp
theorem lay_step {bs xs : List Nat} {a k : Nat} (h : a + xs.length ≤ bs.length) (hk : k < xs.length) : M.lay bs a (xs.take (k + 1)) = (M.lay bs a (xs.take k)).set (a + k) (xs.getD k 0) := by
  have hl : (bs.take a ++ xs.take k).length = a + k := by simp; omega
  have hk1 : (xs.take k).length = k := by simp; omega
  have e : xs.take (k + 1) = xs.take k ++ [xs.getD k 0] := by
    rw [List.take_add_one, List.getElem?_eq_getElem hk, List.getD_eq_getElem?_getD, List.getElem?_eq_getElem hk]; rfl
  have hd : bs.drop (a + k) = bs.getD (a + k) 0 :: bs.drop (a + k + 1) := by
    rw [List.drop_eq_getElem_cons (by omega), List.getD_eq_getElem?_getD, List.getElem?_eq_getElem (by omega)]; rfl
  show bs.take a ++ (xs.take (k + 1) ++ bs.drop (a + (xs.take (k + 1)).length)) = (bs.take a ++ (xs.take k ++ bs.drop (a + (xs.take k).length))).set (a + k) _
  rw [hk1, hd, ← List.append_assoc (bs.take a) (xs.take k), List.set_append_right _ _ (by rw [hl]; exact Nat.le_refl _), hl, Nat.sub_self, List.set_cons_zero, e, List.length_append, hk1]
  simp [List.append_assoc, Nat.add_assoc]
end Go.Proofs.Ytcdfmldbpmgoiaa
