/-
  How the page's disk lies, made anew from an image; condition: the page's disk was made by the call.
-/
import Derived.Test.YtghogkanhcihbaaDPage
namespace Go.Proofs.Ytghogkanhcihbaa
open Go.RowKit
theorem own_objT {w : World} {b e s n q : Nat} {v : Value} {xs : List Value} (h : w.ownsRow b e s v n xs) (hq : v.ownBlock = some q) : ∃ cur, w.heap[q]? = some (.cells cur e (0, 0)) := by
  rcases h.2 with ⟨rfl, _⟩ | ⟨g, cap, cur, rfl, _, h2, _⟩
  · cases hq
  · cases hq
    exact ⟨cur, h2⟩
theorem typ_ne {w : World} {q : Nat} {c1 c2 : Array Value} {t1 t2 : TypeId} (h1 : w.heap[q]? = some (.cells c1 t1 (0, 0))) (h2 : w.heap[q]? = some (.cells c2 t2 (0, 0))) : t1 = t2 := by
  rw [h1] at h2
  injection h2 with h2
  injection h2
/-- The page's disk: its block, the rows of its safe and seen sectors, its troubles. -/
structure PRaw (w : World) (B g : Nat) (vs ve vt : Value) (ss es : List Value) (ts : List Int) (n1 n2 : Nat) (off : Bool) (k : Int) : Prop where
  obj : w.heap[g]? = some (.cells #[vs, ve, vt, .bool off, .int .i64 k] 65 (0, 0))
  ge : B ≤ g
  rs : w.ownsRow B 26 1 vs n1 ss
  re : w.ownsRow B 26 1 ve n2 es
  rt : w.ownsRow B 57 1 vt ts.length (nvals ts)
  ap : ∀ q, vs.ownBlock = some q → ve.ownBlock ≠ some q
def PX (g : Nat) (vs ve : Value) (z : Nat) : Prop := z = g ∨ vs.ownBlock = some z ∨ ve.ownBlock = some z
/-- The sectors of a row: each in a block of its own. -/
def Secs (w : World) (B n : Nat) (ss : List Value) (S : List Nat) : Prop := ∀ i, i < n → ∃ r c, ss[i]? = some (.slice (some ⟨r, 0, none⟩) 64 c) ∧ RowAt w r c (M.sec S i) ∧ B ≤ r
section
variable {w w' w3 : World} {B g : Nat} {vs ve vt v' : Value} {ss es ss' : List Value} {ts : List Int} {n1 n2 n : Nat} {off off' : Bool} {k k' : Int} {X : Nat → Prop} {S : List Nat}
theorem PRaw.gs (h : PRaw w B g vs ve vt ss es ts n1 n2 off k) : vs.ownBlock ≠ some g := fun e => by
  obtain ⟨cur, hc⟩ := own_objT h.rs e
  exact absurd (typ_ne h.obj hc) (by decide)
theorem PRaw.gn (h : PRaw w B g vs ve vt ss es ts n1 n2 off k) : ve.ownBlock ≠ some g := fun e => by
  obtain ⟨cur, hc⟩ := own_objT h.re e
  exact absurd (typ_ne h.obj hc) (by decide)
theorem PRaw.gt (h : PRaw w B g vs ve vt ss es ts n1 n2 off k) : vt.ownBlock ≠ some g := fun e => by
  obtain ⟨cur, hc⟩ := own_objT h.rt e
  exact absurd (typ_ne h.obj hc) (by decide)
theorem PRaw.st (h : PRaw w B g vs ve vt ss es ts n1 n2 off k) : ∀ q, vt.ownBlock = some q → vs.ownBlock ≠ some q := fun q e e2 => by
  obtain ⟨cur, hc⟩ := own_objT h.rs e2
  obtain ⟨cur2, hc2⟩ := own_objT h.rt e
  exact absurd (typ_ne hc2 hc) (by decide)
theorem PRaw.et (h : PRaw w B g vs ve vt ss es ts n1 n2 off k) : ∀ q, vt.ownBlock = some q → ve.ownBlock ≠ some q := fun q e e2 => by
  obtain ⟨cur, hc⟩ := own_objT h.re e2
  obtain ⟨cur2, hc2⟩ := own_objT h.rt e
  exact absurd (typ_ne hc2 hc) (by decide)
theorem PRaw.but (h : PRaw w B g vs ve vt ss es ts n1 n2 off k) (hb : But X w w') (hX : ∀ z, PX g vs ve z ∨ vt.ownBlock = some z → ¬ X z) : PRaw w' B g vs ve vt ss es ts n1 n2 off k :=
  ⟨obj_but h.obj hb (hX g (.inl (.inl rfl))), h.ge, own_but h.rs hb (fun z e => hX z (.inl (.inr (.inl e)))), own_but h.re hb (fun z e => hX z (.inl (.inr (.inr e)))), own_but h.rt hb (fun z e => hX z (.inr e)), h.ap⟩
theorem PRaw.later (h : PRaw w B g vs ve vt ss es ts n1 n2 off k) (hb : Below w.heap.size w w') : PRaw w' B g vs ve vt ss es ts n1 n2 off k :=
  h.but (X := fun _ => False) (.ofBelow hb) (fun _ _ h => h)
theorem PRaw.ft (h : PRaw w B g vs ve vt ss es ts n1 n2 off k) : ∀ z, PX g vs ve z → B ≤ z := fun z e => by
  rcases e with rfl | e | e
  · exact h.ge
  · exact (h.rs.lt z e).1
  · exact (h.re.lt z e).1
theorem PRaw.lt (h : PRaw w B g vs ve vt ss es ts n1 n2 off k) : ∀ z, PX g vs ve z → z < w.heap.size := fun z e => by
  rcases e with rfl | e | e
  · exact (Array.getElem?_eq_some_iff.1 h.obj).1
  · exact (h.rs.lt z e).2
  · exact (h.re.lt z e).2
/-- A sector's block is none of these. -/
theorem PRaw.sec_ne (h : PRaw w B g vs ve vt ss es ts n1 n2 off k) {r c : Nat} {bs : List Nat} (hr : RowAt w r c bs) : ¬ PX g vs ve r := fun e => by
  obtain ⟨cur, h1, _⟩ := hr
  rcases e with rfl | e | e
  · exact absurd (typ_ne h.obj h1) (by decide)
  · obtain ⟨cur2, hc⟩ := own_objT h.rs e
    exact absurd (typ_ne hc h1) (by decide)
  · obtain ⟨cur2, hc⟩ := own_objT h.re e
    exact absurd (typ_ne hc h1) (by decide)
theorem Secs.but (h : Secs w B n ss S) (hb : But X w w') (hX : ∀ r c bs, RowAt w r c bs → B ≤ r → ¬ X r) : Secs w' B n ss S := fun i hi => by
  obtain ⟨r, c, h1, h2, h3⟩ := h i hi
  exact ⟨r, c, h1, h2.but hb (hX r c _ h2 h3), h3⟩
theorem Secs.later (h : Secs w B n ss S) (hb : Below w.heap.size w w') : Secs w' B n ss S := h.but (X := fun _ => False) (.ofBelow hb) (fun _ _ _ _ _ h => h)
theorem PRaw.c0 (h : PRaw w B g vs ve vt ss es ts n1 n2 off k) : w.cell? ⟨g, 0, none⟩ = some vs := by rw [cell_of_row w g 0 _ _ (0, 0) h.obj]; rfl
theorem PRaw.c1 (h : PRaw w B g vs ve vt ss es ts n1 n2 off k) : w.cell? ⟨g, 1, none⟩ = some ve := by rw [cell_of_row w g 1 _ _ (0, 0) h.obj]; rfl
theorem PRaw.c2 (h : PRaw w B g vs ve vt ss es ts n1 n2 off k) : w.cell? ⟨g, 2, none⟩ = some vt := by rw [cell_of_row w g 2 _ _ (0, 0) h.obj]; rfl
theorem PRaw.c3 (h : PRaw w B g vs ve vt ss es ts n1 n2 off k) : w.cell? ⟨g, 3, none⟩ = some (.bool off) := by rw [cell_of_row w g 3 _ _ (0, 0) h.obj]; rfl
theorem PRaw.c4 (h : PRaw w B g vs ve vt ss es ts n1 n2 off k) : w.cell? ⟨g, 4, none⟩ = some (.int .i64 k) := by rw [cell_of_row w g 4 _ _ (0, 0) h.obj]; rfl
theorem PRaw.f (h : PRaw w B g vs ve vt ss es ts n1 n2 off k) (o : Nat) : w.frozen? ⟨g, o, none⟩ = false := frozen_of_row w g o _ _ h.obj
theorem PRaw.setK (h : PRaw w B g vs ve vt ss es ts n1 n2 off k) (j : Int) : PRaw (w.setCell ⟨g, 4, none⟩ (.int .i64 j)) B g vs ve vt ss es ts n1 n2 off j ∧ But (· = g) w (w.setCell ⟨g, 4, none⟩ (.int .i64 j)) := by
  have hb := But.setCell w g 4 (.int .i64 j)
  refine ⟨⟨?_, h.ge, own_but h.rs hb (fun z e e2 => h.gs (e2 ▸ e)), own_but h.re hb (fun z e e2 => h.gn (e2 ▸ e)), own_but h.rt hb (fun z e e2 => h.gt (e2 ▸ e)), h.ap⟩, hb⟩
  rw [heap_setCell_same w g 4 _ _ _ h.obj]
  rfl
theorem PRaw.setOff (h : PRaw w B g vs ve vt ss es ts n1 n2 off k) (j : Bool) : PRaw (w.setCell ⟨g, 3, none⟩ (.bool j)) B g vs ve vt ss es ts n1 n2 j k ∧ But (· = g) w (w.setCell ⟨g, 3, none⟩ (.bool j)) := by
  have hb := But.setCell w g 3 (.bool j)
  refine ⟨⟨?_, h.ge, own_but h.rs hb (fun z e e2 => h.gs (e2 ▸ e)), own_but h.re hb (fun z e e2 => h.gn (e2 ▸ e)), own_but h.rt hb (fun z e e2 => h.gt (e2 ▸ e)), h.ap⟩, hb⟩
  rw [heap_setCell_same w g 3 _ _ _ h.obj]
  rfl
/-- A sector more among the safe ones. -/
theorem PRaw.pushS (h : PRaw w B g vs ve vt ss es ts n1 n2 off k) (o : Obj) (hg : (w.alloc o).grownBy w3 vs.ownBlock) (hown : w3.ownsRow B 26 1 v' n ss') (hat : v'.ownBlock = vs.ownBlock ∨ v'.ownBlock = some (w.alloc o).heap.size) :
    w3.heap[g]? = some (.cells #[vs, ve, vt, .bool off, .int .i64 k] 65 (0, 0)) ∧ PRaw (w3.setCell ⟨g, 0, none⟩ v') B g v' ve vt ss' es ts n n2 off k ∧ But (PX g vs ve) w (w3.setCell ⟨g, 0, none⟩ v') := by
  have h1 := h.but (But.alloc (fun _ => False) w o) (fun _ _ h => h)
  have hb := But.grown hg
  have o3 := obj_but h1.obj hb (fun e => h1.gs e)
  have b3 := But.setCell w3 g 0 v'
  have hgv : v'.ownBlock ≠ some g := fun e => by
    obtain ⟨cur, hc⟩ := own_objT hown e
    exact absurd (typ_ne o3 hc) (by decide)
  refine ⟨o3, ⟨?_, h.ge, own_but hown b3 (fun z e e2 => hgv (e2 ▸ e)), own_but (own_but h1.re hb (fun z e e2 => h1.ap z e2 e)) b3 (fun z e e2 => h1.gn (e2 ▸ e)), own_but (own_but h1.rt hb (fun z e e2 => h1.st z e e2)) b3 (fun z e e2 => h1.gt (e2 ▸ e)), fun z e e2 => ?_⟩, ((But.alloc _ w o).trans (hb.mono fun _ _ e => .inr (.inl e))).trans (b3.mono fun _ _ e => .inl e)⟩
  · rw [heap_setCell_same w3 g 0 _ _ _ o3]
    rfl
  · rcases hat with hat | hat
    · exact h.ap z (hat ▸ e) e2
    · rw [hat] at e
      injection e with e
      have := (h1.re.lt z e2).2
      omega
/-- A sector more among the seen ones. -/
theorem PRaw.pushE (h : PRaw w B g vs ve vt ss es ts n1 n2 off k) (o : Obj) (hg : (w.alloc o).grownBy w3 ve.ownBlock) (hown : w3.ownsRow B 26 1 v' n ss') (hat : v'.ownBlock = ve.ownBlock ∨ v'.ownBlock = some (w.alloc o).heap.size) :
    w3.heap[g]? = some (.cells #[vs, ve, vt, .bool off, .int .i64 k] 65 (0, 0)) ∧ PRaw (w3.setCell ⟨g, 1, none⟩ v') B g vs v' vt ss ss' ts n1 n off k ∧ But (PX g vs ve) w (w3.setCell ⟨g, 1, none⟩ v') := by
  have h1 := h.but (But.alloc (fun _ => False) w o) (fun _ _ h => h)
  have hb := But.grown hg
  have o3 := obj_but h1.obj hb (fun e => h1.gn e)
  have b3 := But.setCell w3 g 1 v'
  have hgv : v'.ownBlock ≠ some g := fun e => by
    obtain ⟨cur, hc⟩ := own_objT hown e
    exact absurd (typ_ne o3 hc) (by decide)
  refine ⟨o3, ⟨?_, h.ge, own_but (own_but h1.rs hb (fun z e e2 => h1.ap z e e2)) b3 (fun z e e2 => h1.gs (e2 ▸ e)), own_but hown b3 (fun z e e2 => hgv (e2 ▸ e)), own_but (own_but h1.rt hb (fun z e e2 => h1.et z e e2)) b3 (fun z e e2 => h1.gt (e2 ▸ e)), fun z e e2 => ?_⟩, ((But.alloc _ w o).trans (hb.mono fun _ _ e => .inr (.inr e))).trans (b3.mono fun _ _ e => .inl e)⟩
  · rw [heap_setCell_same w3 g 1 _ _ _ o3]
    rfl
  · rcases hat with hat | hat
    · exact h.ap z e (hat ▸ e2)
    · rw [hat] at e2
      injection e2 with e2
      have := (h1.rs.lt z e).2
      omega
end
end Go.Proofs.Ytghogkanhcihbaa
