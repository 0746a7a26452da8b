/-
  How a disk lies: its four cells and the two rows of its bytes, safe and seen; what a sector written there turns, and that nothing else is turned; condition: the disk was made by the call.
-/
import Derived.Test.YtncafkifebannaaMem
import Derived.Test.YtncafkifebannaaDMath
import Derived.Laws.CopyOwn
import Derived.Laws.MakeOwn
import Derived.Laws.BitsLemmas
namespace Go.Proofs.Ytncafkifebannaa
open Go.RowKit
abbrev Rg (z : Int) : Prop := -9223372036854775808 ≤ z ∧ z ≤ 9223372036854775807
abbrev Mp (g : Nat) : Value := .pointer (some ⟨g, 0, none⟩)
theorem ret_bool {a b : Bool} (h : a = b) : Ending.returned (.bool a) = Ending.returned (.bool b) := by rw [h]
theorem ret_int {k : IntKind} {a b : Int} (h : a = b) : Ending.returned (.int k a) = Ending.returned (.int k b) := by rw [h]
theorem and1 (n : Int) : bits .and .i64 n 1 = n % 2 := by
  have h1 : (BitVec.ofInt 64 1).toNat = 2 ^ 1 - 1 := by decide
  have key : (BitVec.ofInt 64 n &&& BitVec.ofInt 64 1).toNat = (n % ((2 ^ 64 : Nat) : Int)).toNat % 2 ^ 1 := by
    rw [BitVec.toNat_and, BitVec.toNat_ofInt, h1, Nat.and_two_pow_sub_one_eq_mod]
  show IntKind.i64.wrap ((BitVec.ofInt 64 n &&& BitVec.ofInt 64 1).toNat : Nat) = n % 2
  rw [key, IntKind.wrap_i64]
  omega
/-- Blocks outside X are as they were; so are the streams; no block has gone. -/
structure But (X : Nat → Prop) (w w' : World) : Prop where
  os : w'.os = w.os
  tape : w'.tape = w.tape
  output : w'.output = w.output
  size : w.heap.size ≤ w'.heap.size
  block : ∀ k, k < w.heap.size → ¬ X k → w'.heap[k]? = w.heap[k]?
theorem But.refl (X : Nat → Prop) (w : World) : But X w w := ⟨rfl, rfl, rfl, Nat.le_refl _, fun _ _ _ => rfl⟩
theorem But.trans {X : Nat → Prop} {a b c : World} (h : But X a b) (k : But X b c) : But X a c :=
  ⟨k.os.trans h.os, k.tape.trans h.tape, k.output.trans h.output, Nat.le_trans h.size k.size, fun i hi hx => (k.block i (Nat.lt_of_lt_of_le hi h.size) hx).trans (h.block i hi hx)⟩
theorem But.mono {X Y : Nat → Prop} {w w' : World} (h : But X w w') (hY : ∀ k, k < w.heap.size → X k → Y k) : But Y w w' := ⟨h.os, h.tape, h.output, h.size, fun k hk hy => h.block k hk (fun hx => hy (hY k hk hx))⟩
theorem But.ofBelow {X : Nat → Prop} {w w' : World} (h : Below w.heap.size w w') : But X w w' := ⟨h.os, h.tape, h.output, h.size, fun k hk _ => h.block k hk⟩
theorem But.below {X : Nat → Prop} {B : Nat} {w w' : World} (h : But X w w') (hX : ∀ k, X k → B ≤ k) (hB : B ≤ w.heap.size) : Below B w w' :=
  ⟨h.os, h.tape, h.output, h.size, fun k hk => h.block k (by omega) (fun hx => by have := hX k hx; omega)⟩
theorem But.grown {w w' : World} {row : Option Nat} (h : w.grownBy w' row) : But (fun k => row = some k) w w' := ⟨h.os, h.tape, h.output, h.size, fun k hk hx => h.block k hk (fun e => hx e.symm)⟩
theorem But.setCell (w : World) (g o : Nat) (u : Value) : But (· = g) w (w.setCell ⟨g, o, none⟩ u) := ⟨rfl, rfl, rfl, by simp, fun k _ hk => Below.heap_setCell _ _ _ _ hk⟩
theorem But.alloc (X : Nat → Prop) (w : World) (o : Obj) : But X w (w.alloc o) := ⟨rfl, rfl, rfl, by simp, fun k hk _ => Below.heap_alloc _ _ _ hk⟩
theorem own_but {X : Nat → Prop} {w w' : World} {b e s n : Nat} {v : Value} {xs : List Value} (h : w.ownsRow b e s v n xs) (hb : But X w w') (hX : ∀ k, v.ownBlock = some k → ¬ X k) : w'.ownsRow b e s v n xs := by
  refine ⟨h.1, ?_⟩
  rcases h.2 with hn | ⟨g, cap, cur, rfl, h1, h2, h3⟩
  · exact .inl hn
  · exact .inr ⟨g, cap, cur, rfl, h1, by rw [hb.block g (Array.getElem?_eq_some_iff.1 h2).1 (hX g rfl)]; exact h2, h3⟩
theorem obj_but {X : Nat → Prop} {w w' : World} {g : Nat} {o : Obj} (h : w.heap[g]? = some o) (hb : But X w w') (hX : ¬ X g) : w'.heap[g]? = some o := by
  rw [hb.block g (Array.getElem?_eq_some_iff.1 h).1 hX]; exact h
theorem getD_vals (bs : List Nat) (i : Nat) (h : i < bs.length) : (vals bs)[i]? = some (.int .u8 ((bs.getD i 0 : Nat) : Int)) := by
  unfold vals
  rw [List.getElem?_map, List.getElem?_eq_getElem h, List.getD_eq_getElem?_getD, List.getElem?_eq_getElem h]
  rfl
theorem vals_one (ts : List Nat) : ∀ u ∈ vals ts, u.oneCell' = true := by
  intro u hu
  obtain ⟨b, _, rfl⟩ := List.mem_map.1 hu
  rfl
theorem vals_append (a b : List Nat) : vals (a ++ b) = vals a ++ vals b := by simp [vals]
theorem vals_length (a : List Nat) : (vals a).length = a.length := by simp [vals]
theorem u8_info : (Try.prog.info? 5).map (fun i => (i.zero, i.size, i.bytes)) = some (some (.int .u8 0), 1, 1) := by kernel_rfl
/-- New memory that holds bytes reads as these bytes. -/
theorem own_BS {w : World} {base : Nat} {v : Value} {bs : List Nat} (h : w.ownsRow base 5 1 v bs.length (vals bs)) (hlt : ∀ b ∈ bs, b < 256) : BS w w.heap.size v bs := by
  rcases h.2 with ⟨rfl, h0⟩ | ⟨g, cap, cur, rfl, _, _, h1, h2, _⟩
  · exact ⟨none, 0, by rw [h0], by omega, by unfold maxLen; omega, fun i hi => by omega⟩
  · refine ⟨_, _, rfl, h1, h2, fun i hi => ⟨⟨g, 0, none⟩, rfl, (h.lt g rfl).2, ?_, ?_⟩⟩
    · exact hlt _ (by show bs.getD i 0 ∈ bs; rw [List.getD_eq_getElem?_getD, List.getElem?_eq_getElem hi]; exact List.getElem_mem hi)
    · exact h.cells (g := g) rfl i _ (getD_vals bs i hi)
theorem own_later {w w' : World} {b e s n : Nat} {v : Value} {xs : List Value} (h : w.ownsRow b e s v n xs) (hb : Below w.heap.size w w') : w'.ownsRow b e s v n xs :=
  h.kept (row := none) ⟨hb.os, hb.tape, hb.output, hb.size, fun i hi _ => hb.block i hi⟩ (by cases v.ownBlock <;> simp)
theorem own_form {w : World} {b e s k : Nat} {v : Value} {xs : List Value} (h : w.ownsRow b e s v k xs) : ∃ A c, v = .slice A k c ∧ k ≤ c ∧ c ≤ maxLen := by
  rcases h.2 with ⟨rfl, rfl⟩ | ⟨g, cap, cur, rfl, _, _, h1, h2, _⟩
  · exact ⟨none, 0, rfl, Nat.le_refl _, by unfold maxLen; omega⟩
  · exact ⟨_, _, rfl, h1, h2⟩
theorem own_at {w : World} {b e s k c : Nat} {A : Option Addr} {xs : List Value} (h : w.ownsRow b e s (.slice A k c) k xs) (hk : 0 < k) : ∃ g cur, A = some ⟨g, 0, none⟩ ∧ b ≤ g ∧ w.heap[g]? = some (.cells cur e (0, 0)) ∧ cur.size = c * s ∧ k ≤ c ∧ c ≤ maxLen ∧ xs = cur.toList.take (k * s) := by
  rcases h.2 with ⟨e, rfl⟩ | ⟨g, cap, cur, e, h1, h2, h3, h4, h5, h6⟩
  · omega
  · cases e
    exact ⟨g, cur, rfl, h1, h2, h5, h3, h4, h6.symm⟩
/-- Block r, with room for c bytes, begins with these bytes. -/
def RowAt (w : World) (r c : Nat) (bs : List Nat) : Prop :=
  ∃ cur : Array Value, w.heap[r]? = some (.cells cur 5 (0, 0)) ∧ cur.size = c ∧ bs.length ≤ c ∧ c ≤ maxLen ∧ cur.toList.take bs.length = vals bs ∧ ∀ b ∈ bs, b < 256
theorem RowAt.of_own {w : World} {b r c L : Nat} {bs : List Nat} (h : w.ownsRow b 5 1 (.slice (some ⟨r, 0, none⟩) L c) L (vals bs)) (hl : ∀ x ∈ bs, x < 256) : RowAt w r c bs ∧ b ≤ r ∧ bs.length = L := by
  have hL : bs.length = L := by have := h.1; rw [vals_length] at this; omega
  rcases h.2 with ⟨e, _⟩ | ⟨g, cap, cur, e, h1, h2, h3, h4, h5, h6⟩
  · cases e
  · cases e
    exact ⟨⟨cur, h2, by omega, by omega, h4, by rw [hL]; simpa using h6, hl⟩, h1, hL⟩
theorem RowAt.but {w w' : World} {X : Nat → Prop} {r c : Nat} {bs : List Nat} (h : RowAt w r c bs) (hb : But X w w') (hX : ¬ X r) : RowAt w' r c bs := by
  obtain ⟨cur, h1, h2⟩ := h
  exact ⟨cur, obj_but h1 hb hX, h2⟩
theorem RowAt.lt {w : World} {r c : Nat} {bs : List Nat} (h : RowAt w r c bs) : r < w.heap.size := by
  obtain ⟨cur, h1, _⟩ := h
  exact (Array.getElem?_eq_some_iff.1 h1).1
theorem RowAt.le {w : World} {r c : Nat} {bs : List Nat} (h : RowAt w r c bs) : bs.length ≤ c ∧ c ≤ maxLen := by
  obtain ⟨cur, _, _, h1, h2, _⟩ := h
  exact ⟨h1, h2⟩
theorem RowAt.small {w : World} {r c : Nat} {bs : List Nat} (h : RowAt w r c bs) : ∀ b ∈ bs, b < 256 := by
  obtain ⟨cur, _, _, _, _, _, h1⟩ := h
  exact h1
theorem RowAt.cell {w : World} {r c : Nat} {bs : List Nat} (h : RowAt w r c bs) (i : Nat) (hi : i < bs.length) : w.cell? ⟨r, i, none⟩ = some (.int .u8 ((bs.getD i 0 : Nat) : Int)) := by
  obtain ⟨cur, h1, h2, h3, h4, h5, _⟩ := h
  rw [cell_of_row w r i cur _ (0, 0) h1, ← getD_vals bs i hi, ← h5, List.getElem?_take_of_lt hi]
  simp
theorem getD_take_drop (bs : List Nat) (a n j : Nat) (hj : j < n) : ((bs.drop a).take n).getD j 0 = bs.getD (a + j) 0 := by
  rw [List.getD_eq_getElem?_getD, List.getElem?_take_of_lt hj, List.getElem?_drop, List.getD_eq_getElem?_getD]
/-- A part of the row, as a slice. -/
theorem RowAt.part {w : World} {r c : Nat} {bs : List Nat} (h : RowAt w r c bs) (a n d : Nat) (hn : a + n ≤ bs.length) (hd : n ≤ d ∧ d ≤ maxLen) : BS w w.heap.size (.slice (some ⟨r, a, none⟩) n d) ((bs.drop a).take n) := by
  have hl : ((bs.drop a).take n).length = n := by rw [List.length_take, List.length_drop]; omega
  refine ⟨some ⟨r, a, none⟩, d, by rw [hl], by rw [hl]; exact hd.1, hd.2, fun i hi => ?_⟩
  rw [hl] at hi
  refine ⟨⟨r, a, none⟩, rfl, h.lt, ?_, ?_⟩
  · show ((bs.drop a).take n).getD i 0 < 256
    rw [getD_take_drop _ _ _ _ hi, List.getD_eq_getElem?_getD, List.getElem?_eq_getElem (by omega)]
    exact h.small _ (List.getElem_mem (by omega))
  · show w.cell? _ = some (.int .u8 ((((bs.drop a).take n).getD i 0 : Nat) : Int))
    rw [add_none, h.cell (a + i) (by omega), getD_take_drop _ _ _ _ hi]
theorem vals_splice (bs : List Nat) (a : Nat) (xs : List Nat) (rest : List Value) (h : a + xs.length ≤ bs.length) : splice (vals bs ++ rest) a (vals xs) = vals (M.lay bs a xs) ++ rest := by
  unfold M.lay splice
  rw [List.take_append_of_le_length (by rw [vals_length]; omega), List.drop_append_of_le_length (by rw [vals_length, vals_length]; omega), vals_append, vals_append, vals_length]
  simp [vals]
/-- Bytes copied into the row. -/
theorem RowAt.copy {w : World} {r c : Nat} {bs xs : List Nat} (h : RowAt w r c bs) (ty : TypeId) (hty : Try.prog.underlying ty = some (.slice 5)) (a n e d : Nat) {U : Option Addr} (hU : BS w w.heap.size (.slice U xs.length d) xs) (hn : a + xs.length ≤ bs.length) (hx : 0 < xs.length) (hm : xs.length ≤ n) :
    ∃ w2, (Builtin.copy_ #[ty, ty] 3 #[.slice (some ⟨r, a, none⟩) n e, .slice U xs.length d]).run Try.prog w = .ok (goInt xs.length) w2 ∧ RowAt w2 r c (M.lay bs a xs) ∧ But (· = r) w w2 := by
  have hsz : (Try.prog.info? 5).map (·.size) = some 1 := by kernel_rfl
  obtain ⟨cur, h1, h2, h3, h4, h5, h6⟩ := h
  have hU' := hU
  obtain ⟨U', d', e1, u1, u2, hB⟩ := hU'
  cases e1
  obtain ⟨ad, hA, _⟩ := hB 0 hx
  subst hA
  have hsrc : ∀ j v, (vals xs)[j]? = some v → w.cell? (ad.add j) = some v := fun j u hu => by
    have hj : j < xs.length := by
      have := (List.getElem?_eq_some_iff.1 hu).1
      rwa [vals_length] at this
    obtain ⟨ad', hA', _, _, hc⟩ := hB j hj
    injection hA' with hA'
    subst hA'
    rw [hc, ← hu, getD_vals _ _ hj]
  have hrun := run_copy_row (P := Try.prog) w ty ty 3 5 r a n e ad xs.length d cur 5 (vals xs) hty hsz h1 (by rw [vals_length]; show _ = min _ _; omega) hsrc (by rw [vals_length]; omega) (vals_one _)
  have hcur : cur.toList = vals bs ++ cur.toList.drop bs.length := by
    rw [← h5]; exact (List.take_append_drop _ _).symm
  have hs := vals_splice bs a xs (cur.toList.drop bs.length) hn
  rw [← hcur] at hs
  have hL := M.lay_length hn
  refine ⟨_, by rw [vals_length] at hrun; exact hrun, ⟨_, setRow_heap w r cur _ _ _ h1, ?_, by rw [hL]; exact h3, h4, ?_, M.lay_lt h6 hU.lt⟩, ⟨rfl, rfl, rfl, by simp, fun k _ hk => setRow_other w r k _ hk⟩⟩
  · have := vals_length xs
    simp [this]
    omega
  · have hs' : List.take a cur.toList ++ vals xs ++ List.drop (a + xs.length) cur.toList = vals (M.lay bs a xs) ++ List.drop bs.length cur.toList := by
      rw [← hs]; unfold splice; rw [List.append_assoc, vals_length]
    rw [hs']
    exact List.take_left' (by rw [vals_length])
/-- A disk: a block of four cells, the rows of its safe and seen bytes. -/
structure DAt (w : World) (B g r q n cS cE : Nat) (S E : List Nat) (k last : Int) : Prop where
  obj : w.heap[g]? = some (.cells #[.slice (some ⟨r, 0, none⟩) (n * 64) cS, .slice (some ⟨q, 0, none⟩) (n * 64) cE, .int .i64 k, .int .i64 last] 69 (0, 0))
  ge : B ≤ g ∧ B ≤ r ∧ B ≤ q
  rS : RowAt w r cS S
  rE : RowAt w q cE E
  lS : S.length = n * 64
  lE : E.length = n * 64
  ap : r ≠ q
  n0 : 0 < n ∧ n ≤ 16384
def DX (g r q k : Nat) : Prop := k = g ∨ k = r ∨ k = q
section
variable {w w' : World} {B g r q n cS cE : Nat} {S E : List Nat} {k last : Int} {X : Nat → Prop}
theorem DAt.gr (h : DAt w B g r q n cS cE S E k last) : g ≠ r := fun e => by
  obtain ⟨cur, h1, _⟩ := h.rS
  rw [← e, h.obj] at h1
  injection h1 with h1
  injection h1 with _ h1
  exact absurd h1 (by decide)
theorem DAt.gq (h : DAt w B g r q n cS cE S E k last) : g ≠ q := fun e => by
  obtain ⟨cur, h1, _⟩ := h.rE
  rw [← e, h.obj] at h1
  injection h1 with h1
  injection h1 with _ h1
  exact absurd h1 (by decide)
theorem DAt.but (h : DAt w B g r q n cS cE S E k last) (hb : But X w w') (hX : ∀ k, DX g r q k → ¬ X k) : DAt w' B g r q n cS cE S E k last :=
  ⟨obj_but h.obj hb (hX g (.inl rfl)), h.ge, h.rS.but hb (hX r (.inr (.inl rfl))), h.rE.but hb (hX q (.inr (.inr rfl))), h.lS, h.lE, h.ap, h.n0⟩
theorem DAt.later (h : DAt w B g r q n cS cE S E k last) (hb : Below w.heap.size w w') : DAt w' B g r q n cS cE S E k last :=
  h.but (X := fun _ => False) (.ofBelow hb) (fun _ _ h => h)
theorem DAt.ft (h : DAt w B g r q n cS cE S E k last) : ∀ k, DX g r q k → B ≤ k := fun k e => by
  rcases e with rfl | rfl | rfl
  · exact h.ge.1
  · exact h.ge.2.1
  · exact h.ge.2.2
theorem DAt.lt (h : DAt w B g r q n cS cE S E k last) : ∀ k, DX g r q k → k < w.heap.size := fun k e => by
  rcases e with rfl | rfl | rfl
  · exact (Array.getElem?_eq_some_iff.1 h.obj).1
  · exact h.rS.lt
  · exact h.rE.lt
theorem DAt.c0 (h : DAt w B g r q n cS cE S E k last) : w.cell? ⟨g, 0, none⟩ = some (.slice (some ⟨r, 0, none⟩) (n * 64) cS) := by rw [cell_of_row w g 0 _ _ (0, 0) h.obj]; rfl
theorem DAt.c1 (h : DAt w B g r q n cS cE S E k last) : w.cell? ⟨g, 1, none⟩ = some (.slice (some ⟨q, 0, none⟩) (n * 64) cE) := by rw [cell_of_row w g 1 _ _ (0, 0) h.obj]; rfl
theorem DAt.c2 (h : DAt w B g r q n cS cE S E k last) : w.cell? ⟨g, 2, none⟩ = some (.int .i64 k) := by rw [cell_of_row w g 2 _ _ (0, 0) h.obj]; rfl
theorem DAt.c3 (h : DAt w B g r q n cS cE S E k last) : w.cell? ⟨g, 3, none⟩ = some (.int .i64 last) := by rw [cell_of_row w g 3 _ _ (0, 0) h.obj]; rfl
theorem DAt.f (h : DAt w B g r q n cS cE S E k last) (o : Nat) : w.frozen? ⟨g, o, none⟩ = false := frozen_of_row w g o _ _ h.obj
theorem DAt.cap (h : DAt w B g r q n cS cE S E k last) : (n * 64 ≤ cS ∧ cS ≤ maxLen) ∧ (n * 64 ≤ cE ∧ cE ≤ maxLen) := by
  have h1 := h.rS.le
  have h2 := h.rE.le
  rw [h.lS] at h1
  rw [h.lE] at h2
  exact ⟨h1, h2⟩
/-- One stroke more. -/
theorem DAt.tick (h : DAt w B g r q n cS cE S E k last) (j : Int) : DAt (w.setCell ⟨g, 2, none⟩ (.int .i64 j)) B g r q n cS cE S E j last ∧ But (DX g r q) w (w.setCell ⟨g, 2, none⟩ (.int .i64 j)) := by
  have hb := But.setCell w g 2 (.int .i64 j)
  refine ⟨⟨?_, h.ge, h.rS.but hb (Ne.symm h.gr), h.rE.but hb (Ne.symm h.gq), h.lS, h.lE, h.ap, h.n0⟩, hb.mono fun _ _ e => .inl e⟩
  rw [heap_setCell_same w g 2 _ _ _ h.obj]
  rfl
theorem below_drewN' (w : World) (n : Nat) : Below w.heap.size w (w.drewN n) := ⟨rfl, rfl, rfl, Nat.le_refl _, fun _ _ => rfl⟩
theorem DAt.secE (h : DAt w B g r q n cS cE S E k last) (i : Nat) (hi : i < n) : BS w w.heap.size (.slice (some ⟨q, i * 64, none⟩) 64 (cE - i * 64)) (M.sec E i) :=
  h.rE.part (i * 64) 64 _ (by rw [h.lE]; omega) (by have := h.cap; unfold maxLen at *; omega)
theorem DAt.secS (h : DAt w B g r q n cS cE S E k last) (i : Nat) (hi : i < n) : BS w w.heap.size (.slice (some ⟨r, i * 64, none⟩) 64 (cS - i * 64)) (M.sec S i) :=
  h.rS.part (i * 64) 64 _ (by rw [h.lS]; omega) (by have := h.cap; unfold maxLen at *; omega)
end
end Go.Proofs.Ytncafkifebannaa
