/-
  How a memory lies: its two cells and the row of its bytes, what a byte written there turns, and that nothing else is turned; condition: the memory was made by the call.
-/
import Derived.Test.YtcdfmldbpmgoiaaMem
import Derived.Test.YtcdfmldbpmgoiaaGMath
import Derived.Laws.CopyOwn
import Derived.Laws.MakeOwn
import Derived.Lib.AppendZerosOnto
namespace Go.Proofs.Ytcdfmldbpmgoiaa
open Go.RowKit
/-- Blocks outside X are as they were; so are the streams; no block has gone. -/
structure But (X : Nat → Prop) (w w' : World) : Prop where
  os : w'.os = w.os
  tape : w'.tape = w.tape
  output : w'.output = w.output
  size : w.heap.size ≤ w'.heap.size
  block : ∀ k, k < w.heap.size → ¬ X k → w'.heap[k]? = w.heap[k]?
theorem But.refl (X : Nat → Prop) (w : World) : But X w w := ⟨rfl, rfl, rfl, Nat.le_refl _, fun _ _ _ => rfl⟩
theorem But.trans {X : Nat → Prop} {a b c : World} (h : But X a b) (k : But X b c) : But X a c :=
  ⟨k.os.trans h.os, k.tape.trans h.tape, k.output.trans h.output, Nat.le_trans h.size k.size, fun i hi hx => (k.block i (Nat.lt_of_lt_of_le hi h.size) hx).trans (h.block i hi hx)⟩
theorem But.mono {X Y : Nat → Prop} {w w' : World} (h : But X w w') (hY : ∀ k, k < w.heap.size → X k → Y k) : But Y w w' := ⟨h.os, h.tape, h.output, h.size, fun k hk hy => h.block k hk (fun hx => hy (hY k hk hx))⟩
theorem But.ofBelow {X : Nat → Prop} {w w' : World} (h : Below w.heap.size w w') : But X w w' := ⟨h.os, h.tape, h.output, h.size, fun k hk _ => h.block k hk⟩
theorem But.below {X : Nat → Prop} {B : Nat} {w w' : World} (h : But X w w') (hX : ∀ k, X k → B ≤ k) (hB : B ≤ w.heap.size) : Below B w w' :=
  ⟨h.os, h.tape, h.output, h.size, fun k hk => h.block k (by omega) (fun hx => by have := hX k hx; omega)⟩
theorem But.grown {w w' : World} {row : Option Nat} (h : w.grownBy w' row) : But (fun k => row = some k) w w' := ⟨h.os, h.tape, h.output, h.size, fun k hk hx => h.block k hk (fun e => hx e.symm)⟩
theorem But.setCell (w : World) (g o : Nat) (u : Value) : But (· = g) w (w.setCell ⟨g, o, none⟩ u) := ⟨rfl, rfl, rfl, by simp, fun k _ hk => Below.heap_setCell _ _ _ _ hk⟩
theorem But.alloc (X : Nat → Prop) (w : World) (o : Obj) : But X w (w.alloc o) := ⟨rfl, rfl, rfl, by simp, fun k hk _ => Below.heap_alloc _ _ _ hk⟩
theorem own_but {X : Nat → Prop} {w w' : World} {b e s n : Nat} {v : Value} {xs : List Value} (h : w.ownsRow b e s v n xs) (hb : But X w w') (hX : ∀ k, v.ownBlock = some k → ¬ X k) : w'.ownsRow b e s v n xs := by
  refine ⟨h.1, ?_⟩
  rcases h.2 with hn | ⟨g, cap, cur, rfl, h1, h2, h3⟩
  · exact .inl hn
  · exact .inr ⟨g, cap, cur, rfl, h1, by rw [hb.block g (Array.getElem?_eq_some_iff.1 h2).1 (hX g rfl)]; exact h2, h3⟩
theorem obj_but {X : Nat → Prop} {w w' : World} {g : Nat} {o : Obj} (h : w.heap[g]? = some o) (hb : But X w w') (hX : ¬ X g) : w'.heap[g]? = some o := by
  rw [hb.block g (Array.getElem?_eq_some_iff.1 h).1 hX]; exact h
theorem getD_vals (bs : List Nat) (i : Nat) (h : i < bs.length) : (vals bs)[i]? = some (.int .u8 ((bs.getD i 0 : Nat) : Int)) := by
  unfold vals
  rw [List.getElem?_map, List.getElem?_eq_getElem h, List.getD_eq_getElem?_getD, List.getElem?_eq_getElem h]
  rfl
theorem vals_one (ts : List Nat) : ∀ u ∈ vals ts, u.oneCell' = true := by
  intro u hu
  obtain ⟨b, _, rfl⟩ := List.mem_map.1 hu
  rfl
theorem vals_append (a b : List Nat) : vals (a ++ b) = vals a ++ vals b := by simp [vals]
theorem vals_length (a : List Nat) : (vals a).length = a.length := by simp [vals]
/-- New memory that holds bytes reads as these bytes. -/
theorem own_BS {w : World} {base : Nat} {v : Value} {bs : List Nat} (h : w.ownsRow base 5 1 v bs.length (vals bs)) (hlt : ∀ b ∈ bs, b < 256) : BS w w.heap.size v bs := by
  rcases h.2 with ⟨rfl, h0⟩ | ⟨g, cap, cur, rfl, _, _, h1, h2, _⟩
  · exact ⟨none, 0, by rw [h0], by omega, by unfold maxLen; omega, fun i hi => by omega⟩
  · refine ⟨_, _, rfl, h1, h2, fun i hi => ⟨⟨g, 0, none⟩, rfl, (h.lt g rfl).2, ?_, ?_⟩⟩
    · exact hlt _ (by show bs.getD i 0 ∈ bs; rw [List.getD_eq_getElem?_getD, List.getElem?_eq_getElem hi]; exact List.getElem_mem hi)
    · exact h.cells (g := g) rfl i _ (getD_vals bs i hi)
theorem own_later {w w' : World} {b e s n : Nat} {v : Value} {xs : List Value} (h : w.ownsRow b e s v n xs) (hb : Below w.heap.size w w') : w'.ownsRow b e s v n xs :=
  h.kept (row := none) ⟨hb.os, hb.tape, hb.output, hb.size, fun i hi _ => hb.block i hi⟩ (by cases v.ownBlock <;> simp)
theorem own_form {w : World} {b e s k : Nat} {v : Value} {xs : List Value} (h : w.ownsRow b e s v k xs) : ∃ A c, v = .slice A k c ∧ k ≤ c ∧ c ≤ maxLen := by
  rcases h.2 with ⟨rfl, rfl⟩ | ⟨g, cap, cur, rfl, _, _, h1, h2, _⟩
  · exact ⟨none, 0, rfl, Nat.le_refl _, by unfold maxLen; omega⟩
  · exact ⟨_, _, rfl, h1, h2⟩
theorem own_at {w : World} {b e s k c : Nat} {A : Option Addr} {xs : List Value} (h : w.ownsRow b e s (.slice A k c) k xs) (hk : 0 < k) : ∃ g cur, A = some ⟨g, 0, none⟩ ∧ b ≤ g ∧ w.heap[g]? = some (.cells cur e (0, 0)) ∧ cur.size = c * s ∧ k ≤ c ∧ c ≤ maxLen ∧ xs = cur.toList.take (k * s) := by
  rcases h.2 with ⟨e, rfl⟩ | ⟨g, cap, cur, e, h1, h2, h3, h4, h5, h6⟩
  · omega
  · cases e
    exact ⟨g, cur, rfl, h1, h2, h5, h3, h4, h6.symm⟩
/-- A memory: a block of two cells, the row of its bytes, of type T. -/
structure MAt (T : Nat) (w : World) (B g : Nat) (v : Value) (bs : List Nat) (most : Int) : Prop where
  obj : w.heap[g]? = some (.cells #[v, .int .i64 most] T (0, 0))
  ge : B ≤ g
  row : w.ownsRow B 5 1 v bs.length (vals bs)
  lt : ∀ b ∈ bs, b < 256
  ne : T ≠ 5
  len : bs.length ≤ 4294967296
/-- The blocks of a memory. -/
def Ft (g : Nat) (v : Value) (k : Nat) : Prop := k = g ∨ v.ownBlock = some k
theorem MAt.but {T : Nat} {X : Nat → Prop} {w w' : World} {B g : Nat} {v : Value} {bs : List Nat} {most : Int} (h : MAt T w B g v bs most) (hb : But X w w') (hg : ¬ X g) (hv : ∀ k, v.ownBlock = some k → ¬ X k) : MAt T w' B g v bs most :=
  ⟨obj_but h.obj hb hg, h.ge, own_but h.row hb hv, h.lt, h.ne, h.len⟩
theorem MAt.later {T : Nat} {w w' : World} {B g : Nat} {v : Value} {bs : List Nat} {most : Int} (h : MAt T w B g v bs most) (hb : Below w.heap.size w w') : MAt T w' B g v bs most :=
  h.but (X := fun _ => False) (.ofBelow hb) (fun h => h) (fun _ _ h => h)
theorem MAt.ft {T : Nat} {w : World} {B g : Nat} {v : Value} {bs : List Nat} {most : Int} (h : MAt T w B g v bs most) : ∀ k, Ft g v k → B ≤ k
  | _, .inl e => e ▸ h.ge
  | k, .inr e => (h.row.lt k e).1
theorem MAt.size {T : Nat} {w : World} {B g : Nat} {v : Value} {bs : List Nat} {most : Int} (h : MAt T w B g v bs most) : g < w.heap.size := (Array.getElem?_eq_some_iff.1 h.obj).1
theorem MAt.below {T : Nat} {w w' : World} {B g : Nat} {v : Value} {bs : List Nat} {most : Int} (h : MAt T w B g v bs most) (hb : But (Ft g v) w w') (hB : B ≤ w.heap.size) : Below B w w' := hb.below h.ft hB
theorem MAt.c0 {T : Nat} {w : World} {B g : Nat} {v : Value} {bs : List Nat} {most : Int} (h : MAt T w B g v bs most) : w.cell? ⟨g, 0, none⟩ = some v := by rw [cell_of_row w g 0 _ _ (0, 0) h.obj]; rfl
theorem MAt.c1 {T : Nat} {w : World} {B g : Nat} {v : Value} {bs : List Nat} {most : Int} (h : MAt T w B g v bs most) : w.cell? ⟨g, 1, none⟩ = some (.int .i64 most) := by rw [cell_of_row w g 1 _ _ (0, 0) h.obj]; rfl
theorem MAt.f0 {T : Nat} {w : World} {B g : Nat} {v : Value} {bs : List Nat} {most : Int} (h : MAt T w B g v bs most) (o : Nat) : w.frozen? ⟨g, o, none⟩ = false := frozen_of_row w g o _ _ h.obj
theorem MAt.form {T : Nat} {w : World} {B g : Nat} {v : Value} {bs : List Nat} {most : Int} (h : MAt T w B g v bs most) : ∃ A c, v = .slice A bs.length c ∧ bs.length ≤ c ∧ c ≤ maxLen := own_form h.row
/-- A byte's cell. -/
theorem MAt.byte {T : Nat} {w : World} {B g n c : Nat} {A : Option Addr} {bs : List Nat} {most : Int} (h : MAt T w B g (.slice A n c) bs most) (i : Nat) (hi : i < bs.length) :
    ∃ r, A = some ⟨r, 0, none⟩ ∧ w.cell? ⟨r, i, none⟩ = some (.int .u8 ((bs.getD i 0 : Nat) : Int)) ∧ w.frozen? ⟨r, i, none⟩ = false := by
  have hn : n = bs.length := by
    obtain ⟨A', c', e, _⟩ := h.form
    cases e; rfl
  subst hn
  obtain ⟨r, cur, rfl, h1, h2, _⟩ := own_at h.row (by omega)
  refine ⟨r, rfl, ?_, frozen_of_row w r i cur _ h2⟩
  have := h.row.cells (g := r) rfl i _ (getD_vals bs i hi)
  rwa [add_none, Nat.zero_add] at this
/-- A byte is written. -/
theorem MAt.set {T : Nat} {w : World} {B g r n c : Nat} {bs : List Nat} {most : Int} (h : MAt T w B g (.slice (some ⟨r, 0, none⟩) n c) bs most) (i x : Nat) (hi : i < bs.length) (hx : x < 256) :
    MAt T (w.setCell ⟨r, i, none⟩ (.int .u8 (x : Int))) B g (.slice (some ⟨r, 0, none⟩) n c) (bs.set i x) most ∧ But (fun k => k = r) w (w.setCell ⟨r, i, none⟩ (.int .u8 (x : Int))) := by
  have hn : n = bs.length := by
    obtain ⟨A', c', e, _⟩ := h.form
    cases e; rfl
  subst hn
  obtain ⟨r', cur, e, h1, h2, h3, h4, h5, h6⟩ := own_at h.row (by omega)
  cases e
  have hne : g ≠ r := fun e => by
    have := h.obj
    rw [e, h2] at this
    injection this with this
    injection this with _ this
    exact h.ne this.symm
  refine ⟨⟨by rw [Below.heap_setCell _ _ _ _ hne]; exact h.obj, h.ge, ⟨by simp [vals], .inr ⟨r, c, cur.setIfInBounds i (.int .u8 (x : Int)), by simp, h1, heap_setCell_same w r i cur _ _ h2, by simpa using h4, h5, by simpa using h3, ?_⟩⟩, fun b hb => ?_, h.ne, by simpa using h.len⟩, But.setCell w r i _⟩
  · rw [List.length_set, Array.toList_setIfInBounds, List.take_set, ← h6]
    unfold vals
    rw [List.map_set]
  · rcases List.mem_or_eq_of_mem_set hb with h1 | h1
    · exact h.lt b h1
    · omega
end Go.Proofs.Ytcdfmldbpmgoiaa
