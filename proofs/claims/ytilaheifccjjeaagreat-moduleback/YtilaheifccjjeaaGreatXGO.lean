/-
  The ground of the proofs of this seat, put together: MSect, MSect2, MSect3, MJoin. No condition beyond what each text names.
-/
import Derived.Laws.EntriesVeiled
import Derived.Deep.WholeRow
import Derived.BigRegion
import Derived.Test.YtilaheifccjjeaaGreatXGN
import Derived.Test.YtilaheifccjjeaaGreatXGA
import Derived.Test.YtilaheifccjjeaaGreatXGB
import Derived.Test.YtilaheifccjjeaaGreatXGC
import Derived.Test.YtilaheifccjjeaaGreatXGD
import Derived.Test.YtilaheifccjjeaaGreatXGE
import Derived.Test.YtilaheifccjjeaaGreatXGF
import Derived.Test.YtilaheifccjjeaaGreatXGG
import Derived.Test.YtilaheifccjjeaaGreatXGH
import Derived.Test.YtilaheifccjjeaaGreatXGI
import Derived.Test.YtilaheifccjjeaaGreatXGJ
import Derived.Test.YtilaheifccjjeaaGreatXGK
import Derived.Test.YtilaheifccjjeaaGreatXGL
import Derived.Test.YtilaheifccjjeaaGreatXGM
namespace Go.Proofs.YtilaheifccjjeaaGreat
open Go.RowKit
/-- The cell k holds this. -/
def FAt {α : Type} (w : World) (S : Nat → Prop) (cur : Array Value) (k : Nat) (R : Rep α) (x : α) : Prop := ∃ v, cur[k]? = some v ∧ R.is w S x [v]
theorem FAt.keep {α : Type} {w w' : World} {S T : Nat → Prop} {cur cur' : Array Value} {k : Nat} {R : Rep α} {x : α} (h : FAt w S cur k R x) (ha : Agree S w w') (hT : ∀ b, S b → T b) (hc : cur'[k]? = cur[k]?) : FAt w' T cur' k R x := by
  obtain ⟨v, h1, h2⟩ := h
  exact ⟨v, hc.trans h1, R.agree h2 ha hT⟩
/-- The cell 2 holds functions' heads, in a row of their own, apart from S and D. -/
def HAt (w : World) (S : Nat → Prop) (D : Nat) (cur : Array Value) (x : List M.Fn) : Prop :=
  ∃ v ty cc, cur[2]? = some v ∧ w.ownsRow 0 ty 3 v x.length cc ∧ x.length ≤ 100000 ∧ RowOf rFn w (fun _ => False) x cc ∧ ∀ g, v.ownBlock = some g → ¬ S g ∧ D < g
theorem HAt.keep {w w' : World} {S T : Nat → Prop} {D : Nat} {cur cur' : Array Value} {x : List M.Fn} (h : HAt w S D cur x) (hb : ∀ v g, cur[2]? = some v → v.ownBlock = some g → g < w.heap.size → w'.heap[g]? = w.heap[g]?) (hT : ∀ g, g < w.heap.size → T g → S g) (hc : cur'[2]? = cur[2]?) : HAt w' T D cur' x := by
  obtain ⟨v, ty, cc, h1, h2, h3, h4, h5⟩ := h
  exact ⟨v, ty, cc, hc.trans h1, ownsRow_agree h2 fun g hg => hb v g h1 hg (h2.lt g hg).2, h3, h4.agree (fun k hk => hk.elim) (fun k hk => hk.elim), fun g hg => ⟨fun ht => (h5 g hg).1 (hT g (h2.lt g hg).2 ht), (h5 g hg).2⟩⟩
/-- Which cell a section is read into. -/
def idx : Nat → Option Nat
  | 1 => some 0 | 2 => some 1 | 3 => some 2 | 4 => some 3 | 5 => some 4 | 6 => some 5 | 7 => some 6 | 9 => some 8 | 10 => some 10 | 11 => some 9
  | _ => none
theorem idx_inj {a b i : Nat} (h1 : idx a = some i) (h2 : idx b = some i) : a = b := by
  unfold idx at h1 h2
  split at h1 <;> split at h2 <;> simp_all <;> omega
structure Dst (w : World) (S : Nat → Prop) (D last : Nat) (d : M.Dm) (cur : Array Value) : Prop where
  row : w.heap[D]? = some (.cells cur 102 (0, 0))
  sz : cur.size = 11
  f0 : FAt w S cur 0 (rLst rFT) d.m.types
  f1 : FAt w S cur 1 (rLst rImp) d.m.imports
  f2 : HAt w S D cur d.m.funcs
  f3 : FAt w S cur 3 (rLst rLim) d.m.tables
  f4 : FAt w S cur 4 (rLst rLim) d.m.memories
  f5 : FAt w S cur 5 (rLst rGlo) d.m.globals
  f6 : FAt w S cur 6 (rLst rExp) d.m.exports
  f7 : FAt w S cur 7 rInt d.m.start
  f8 : FAt w S cur 8 (rLst rElm) d.m.elems
  f9 : FAt w S cur 9 (rLst rDat) d.m.datas
  f10 : FAt w S cur 10 (rLst rFn) d.bodies
  z : ∀ id i, idx id = some i → last < id → cur[i]? = some (.slice none 0 0)
def SecPost (id B P D : Nat) (S : Nat → Prop) (last : Nat) (d : M.Dm) (bs : List Nat) (w : World) (e : Ending) (w' : World) : Prop :=
  (∃ d' r cur' T, M.sect id d bs = some (d', r) ∧ e = .returned (.bool true) ∧ PAt B w' P r ∧ (∀ k, T k → S k ∨ Since w.heap.size w' k) ∧ Dst w' T D (max last id) d' cur' ∧ Kb (fun k => k = P ∨ k = D) w w') ∨
  (M.sect id d bs = none ∧ e = .returned (.bool false) ∧ Kb (fun k => k = P ∨ k = D) w w')
def SecOk (id f : Nat) : Prop := ∀ (B P D last : Nat) (d : M.Dm) (cur : Array Value) (S : Nat → Prop) (bs : List Nat) (w : World), PAt B w P bs → Dst w S D last d cur → (id = 0 ∨ last < id) → D ≠ P → B ≤ D → ¬ S P → ¬ S D → (∀ k, S k → k < w.heap.size) → (∀ v, cur[2]? = some v → v.ownBlock ≠ some P) →
  Calls Tryz.prog f #[.pointer (some ⟨D, 0, none⟩), .pointer (some ⟨P, 0, none⟩)] w (SecPost id B P D S last d bs w)
theorem Dst.agree {w w' : World} {S : Nat → Prop} {P D : Nat} (hS : ∀ k, S k → k < w.heap.size) (h1 : ¬ S P) (h2 : ¬ S D) (kb : Kb (fun k => k = P ∨ k = D) w w') : Agree S w w' := fun k hk => kb.block k (hS k hk) (fun e => by rcases e with rfl | rfl; exact h1 hk; exact h2 hk)
theorem Dst.zkeep {w : World} {S : Nat → Prop} {D last id i : Nat} {d : M.Dm} {cur cur' : Array Value} (h : Dst w S D last d cur) (hi : idx id = some i) (hc : ∀ k, k ≠ i → cur'[k]? = cur[k]?) : ∀ id' i', idx id' = some i' → max last id < id' → cur'[i']? = some (.slice none 0 0) := fun id' i' h1 h2 => by
  rw [hc i' (fun e => by subst e; have := idx_inj h1 hi; omega)]
  exact h.z id' i' h1 (by omega)
theorem Dst.hkeep {w w' : World} {S T : Nat → Prop} {P D last : Nat} {d : M.Dm} {cur cur' : Array Value} (h : Dst w S D last d cur) (hF : ∀ v, cur[2]? = some v → v.ownBlock ≠ some P) (kb : Kb (fun k => k = P ∨ k = D) w w') (hT : ∀ k, T k → S k ∨ Since w.heap.size w' k) (hc : cur'[2]? = cur[2]?) : HAt w' T D cur' d.m.funcs := by
  have h2 := h.f2
  refine h2.keep (fun v g h1 hg hl => kb.block g hl (fun e => ?_)) (fun g hg ht => (hT g ht).resolve_right fun e => by have := e.1; omega) hc
  rcases e with rfl | rfl
  · exact hF v h1 hg
  · obtain ⟨v', ty, cc, q1, q2, q3, q4, q5⟩ := h2
    rw [h1] at q1
    cases q1
    exact Nat.lt_irrefl _ (q5 _ hg).2
theorem times_heads : ∀ (n : Nat) (bs : List Nat) (x : List M.Fn) (r : List Nat), M.rTimes M.cHead n bs = some (x, r) → ∀ y ∈ x, y.lo = [] ∧ y.bo = .nil
  | 0, bs, x, r, h => by cases h; intro y hy; cases hy
  | n + 1, bs, x, r, h => by
    obtain ⟨⟨x1, r1⟩, h1, h2⟩ := Option.bind_eq_some_iff.1 h
    obtain ⟨⟨x2, r2⟩, h3, h4⟩ := Option.bind_eq_some_iff.1 h2
    cases h4
    intro y hy
    rcases List.mem_cons.1 hy with rfl | hy
    · rw [head_rd] at h1
      obtain ⟨p, _, hp⟩ := Option.bind_eq_some_iff.1 h1
      cases hp
      exact ⟨rfl, rfl⟩
    · exact times_heads n r1 x2 r2 h3 y hy
theorem ns_nil {w w' : World} {S T : Nat → Prop} {v : Value} (h : NS w S v []) : NS w' T v [] := by
  obtain ⟨A, c, e, h1, _⟩ := h
  exact ⟨A, c, e, h1, fun i hi => by simp at hi⟩
theorem ls_nil {w w' : World} {S T : Nat → Prop} {v : Value} (h : LS w S v .nil) : LS w' T v .nil := by
  obtain ⟨A, c, e, h1, _⟩ := h
  exact ⟨A, c, e, h1, .inl rfl⟩
theorem heads_row {w : World} {S : Nat → Prop} : ∀ {xs : List M.Fn} {cs : List Value}, (∀ x ∈ xs, x.lo = [] ∧ x.bo = .nil) → RowOf rFn w S xs cs → RowOf rFn w (fun _ => False) xs cs
  | [], _, _, h => h
  | x :: t, cs, hx, ⟨c, d, h1, h2, h3⟩ => by
    obtain ⟨e1, e2⟩ := hx x (List.mem_cons_self ..)
    refine ⟨c, d, h1, ?_, heads_row (fun y hy => hx y (List.mem_cons_of_mem _ hy)) h3⟩
    obtain ⟨ca, cb, q1, ⟨cc, cd, q2, q3, ⟨v, q4, q5⟩⟩, ⟨u, q6, q7⟩⟩ := h2
    have q5 : NS w S v x.lo := q5
    have q7 : LS w S u x.bo := q7
    rw [e1] at q5
    rw [e2] at q7
    exact ⟨ca, cb, q1, ⟨cc, cd, q2, q3, ⟨v, q4, by show NS w _ v x.lo; rw [e1]; exact ns_nil q5⟩⟩, ⟨u, q6, by show LS w _ u x.bo; rw [e2]; exact ls_nil q7⟩⟩
theorem heads_at {w w' : World} {S : Nat → Prop} {D : Nat} {cur' : Array Value} {x : List M.Fn} {r bs : List Nat} {v : Value} (hrd : (M.vec M.cHead).rd bs = some (x, r)) (q4 : (rLst rFn).is w' (Since w.heap.size w') x [v]) (hv : cur'[2]? = some v) (hS : ∀ k, S k → k < w.heap.size) (hD : D < w.heap.size) : HAt w' S D cur' x := by
  obtain ⟨v', ty, cc, e, h1, h2, h3, h4⟩ := q4
  obtain rfl : v = v' := by simpa using e
  have hx : ∀ y ∈ x, y.lo = [] ∧ y.bo = .nil := by
    rw [vec_rd] at hrd
    obtain ⟨⟨n, r0⟩, _, h6⟩ := Option.bind_eq_some_iff.1 hrd
    simp only at h6
    split at h6
    · exact times_heads _ _ _ _ h6
    · cases h6
  exact ⟨v, ty, cc, hv, h1, h3, heads_row hx h4, fun g hg => ⟨fun hs => by have := hS g hs; have := (h2 g hg).1; omega, by have := (h2 g hg).1; omega⟩⟩
set_option maxRecDepth 100000 in
set_option maxHeartbeats 4000000 in
theorem sec_1 : SecOk 1 124 := by
  intro B P D last d cur S bs w hp h hl hne hB hSP hSD hS hF
  have hDl := lt_row h.row
  have cN := Lib.hid (list_ft B P D 0 102 cur bs w hp h.row (h.z 1 0 rfl (by omega)) hne hB)
  have yes := Lib.hid (show ∀ x r cs w', (M.vec M.cFT).rd bs = some (x, r) → PAt B w' P r → (rLst rFT).is w' (Since w.heap.size w') x cs → (∀ k u, cs[k]? = some u → w'.cell? ⟨D, 0 + k, none⟩ = some u) → Fr P D 0 1 w w' → SecPost 1 B P D S last d bs w (.returned (.bool true)) w' from fun x r cs w' q1 q3 q4 q5 fr => by
    obtain ⟨cur', r1, r2, r3⟩ := fr.row _ _ h.row
    have keep : ∀ k, k ≠ 0 → cur'[k]? = cur[k]? := fun k hk => r3 k (by omega)
    have ag := Dst.agree hS hSP hSD fr.kb
    have mono : ∀ b, S b → S b ∨ Since w.heap.size w' b := fun b hb => .inl hb
    have hT : ∀ k, (S k ∨ Since w.heap.size w' k) → S k ∨ Since w.heap.size w' k := fun k hk => hk
    have hlen := (rLst rFT).len q4
    obtain ⟨v, rfl⟩ : ∃ v, cs = [v] := by
      match cs, hlen with
      | [v], _ => exact ⟨v, rfl⟩
    have hv : cur'[0]? = some v := (cell_row r1 0).symm.trans (q5 0 v rfl)
    refine .inl ⟨⟨{ d.m with types := x }, d.bodies⟩, r, cur', (fun k => S k ∨ Since w.heap.size w' k), by show ((M.vec M.cFT).rd bs).bind _ = _; rw [q1]; rfl, rfl, q3, hT, ⟨r1, r2.trans h.sz, ?_, h.f1.keep ag mono (keep 1 (by decide)), h.hkeep hF fr.kb hT (keep 2 (by decide)), h.f3.keep ag mono (keep 3 (by decide)), h.f4.keep ag mono (keep 4 (by decide)), h.f5.keep ag mono (keep 5 (by decide)), h.f6.keep ag mono (keep 6 (by decide)), h.f7.keep ag mono (keep 7 (by decide)), h.f8.keep ag mono (keep 8 (by decide)), h.f9.keep ag mono (keep 9 (by decide)), h.f10.keep ag mono (keep 10 (by decide)), h.zkeep rfl keep⟩, fr.kb⟩
    exact ⟨v, hv, (rLst rFT).agree q4 (fun _ _ => rfl) (fun b hb => .inr hb)⟩)
  have no := Lib.hid (show (M.vec M.cFT).rd bs = none → M.sect 1 d bs = none from fun e => by show ((M.vec M.cFT).rd bs).bind _ = _; rw [e]; rfl)
  clear hp h hS hSP hSD hF
  go_enter Tryz.func124, Tryz.ntmps124
  go_wp2_with fail
  refine cN.out.mono ?_
  rintro e1 w1 (⟨x, r, cs, q1, rfl, q3, q4, q5, q6⟩ | ⟨q1, rfl, kb⟩)
  · have fin := Lib.hid (yes.out x r cs w1 q1 q3 q4 q5 q6)
    clear q3 q4 q5 q6
    go_wp2_with fail
    go_ret
    exact fin.out
  · have fin := Lib.hid (no.out q1)
    replace kb := Lib.hid kb
    go_wp2_with fail
    go_ret
    exact .inr ⟨fin.out, rfl, kb.out⟩
set_option maxRecDepth 100000 in
set_option maxHeartbeats 4000000 in
theorem sec_2 : SecOk 2 125 := by
  intro B P D last d cur S bs w hp h hl hne hB hSP hSD hS hF
  have hDl := lt_row h.row
  have cN := Lib.hid (list_imp B P D 1 102 cur bs w hp h.row (h.z 2 1 rfl (by omega)) hne hB)
  have yes := Lib.hid (show ∀ x r cs w', (M.vec M.cImp).rd bs = some (x, r) → PAt B w' P r → (rLst rImp).is w' (Since w.heap.size w') x cs → (∀ k u, cs[k]? = some u → w'.cell? ⟨D, 1 + k, none⟩ = some u) → Fr P D 1 1 w w' → SecPost 2 B P D S last d bs w (.returned (.bool true)) w' from fun x r cs w' q1 q3 q4 q5 fr => by
    obtain ⟨cur', r1, r2, r3⟩ := fr.row _ _ h.row
    have keep : ∀ k, k ≠ 1 → cur'[k]? = cur[k]? := fun k hk => r3 k (by omega)
    have ag := Dst.agree hS hSP hSD fr.kb
    have mono : ∀ b, S b → S b ∨ Since w.heap.size w' b := fun b hb => .inl hb
    have hT : ∀ k, (S k ∨ Since w.heap.size w' k) → S k ∨ Since w.heap.size w' k := fun k hk => hk
    have hlen := (rLst rImp).len q4
    obtain ⟨v, rfl⟩ : ∃ v, cs = [v] := by
      match cs, hlen with
      | [v], _ => exact ⟨v, rfl⟩
    have hv : cur'[1]? = some v := (cell_row r1 1).symm.trans (q5 0 v rfl)
    refine .inl ⟨⟨{ d.m with imports := x }, d.bodies⟩, r, cur', (fun k => S k ∨ Since w.heap.size w' k), by show ((M.vec M.cImp).rd bs).bind _ = _; rw [q1]; rfl, rfl, q3, hT, ⟨r1, r2.trans h.sz, h.f0.keep ag mono (keep 0 (by decide)), ?_, h.hkeep hF fr.kb hT (keep 2 (by decide)), h.f3.keep ag mono (keep 3 (by decide)), h.f4.keep ag mono (keep 4 (by decide)), h.f5.keep ag mono (keep 5 (by decide)), h.f6.keep ag mono (keep 6 (by decide)), h.f7.keep ag mono (keep 7 (by decide)), h.f8.keep ag mono (keep 8 (by decide)), h.f9.keep ag mono (keep 9 (by decide)), h.f10.keep ag mono (keep 10 (by decide)), h.zkeep rfl keep⟩, fr.kb⟩
    exact ⟨v, hv, (rLst rImp).agree q4 (fun _ _ => rfl) (fun b hb => .inr hb)⟩)
  have no := Lib.hid (show (M.vec M.cImp).rd bs = none → M.sect 2 d bs = none from fun e => by show ((M.vec M.cImp).rd bs).bind _ = _; rw [e]; rfl)
  clear hp h hS hSP hSD hF
  go_enter Tryz.func125, Tryz.ntmps125
  go_wp2_with fail
  refine cN.out.mono ?_
  rintro e1 w1 (⟨x, r, cs, q1, rfl, q3, q4, q5, q6⟩ | ⟨q1, rfl, kb⟩)
  · have fin := Lib.hid (yes.out x r cs w1 q1 q3 q4 q5 q6)
    clear q3 q4 q5 q6
    go_wp2_with fail
    go_ret
    exact fin.out
  · have fin := Lib.hid (no.out q1)
    replace kb := Lib.hid kb
    go_wp2_with fail
    go_ret
    exact .inr ⟨fin.out, rfl, kb.out⟩
set_option maxRecDepth 100000 in
set_option maxHeartbeats 4000000 in
theorem sec_3 : SecOk 3 126 := by
  intro B P D last d cur S bs w hp h hl hne hB hSP hSD hS hF
  have hDl := lt_row h.row
  have cN := Lib.hid (list_head B P D 2 102 cur bs w hp h.row (h.z 3 2 rfl (by omega)) hne hB)
  have yes := Lib.hid (show ∀ x r cs w', (M.vec M.cHead).rd bs = some (x, r) → PAt B w' P r → (rLst rFn).is w' (Since w.heap.size w') x cs → (∀ k u, cs[k]? = some u → w'.cell? ⟨D, 2 + k, none⟩ = some u) → Fr P D 2 1 w w' → SecPost 3 B P D S last d bs w (.returned (.bool true)) w' from fun x r cs w' q1 q3 q4 q5 fr => by
    obtain ⟨cur', r1, r2, r3⟩ := fr.row _ _ h.row
    have keep : ∀ k, k ≠ 2 → cur'[k]? = cur[k]? := fun k hk => r3 k (by omega)
    have ag := Dst.agree hS hSP hSD fr.kb
    have mono : ∀ b, S b → S b := fun b hb => hb
    have hT : ∀ k, S k → S k ∨ Since w.heap.size w' k := fun k hk => .inl hk
    have hlen := (rLst rFn).len q4
    obtain ⟨v, rfl⟩ : ∃ v, cs = [v] := by
      match cs, hlen with
      | [v], _ => exact ⟨v, rfl⟩
    have hv : cur'[2]? = some v := (cell_row r1 2).symm.trans (q5 0 v rfl)
    refine .inl ⟨⟨{ d.m with funcs := x }, d.bodies⟩, r, cur', S, by show ((M.vec M.cHead).rd bs).bind _ = _; rw [q1]; rfl, rfl, q3, hT, ⟨r1, r2.trans h.sz, h.f0.keep ag mono (keep 0 (by decide)), h.f1.keep ag mono (keep 1 (by decide)), ?_, h.f3.keep ag mono (keep 3 (by decide)), h.f4.keep ag mono (keep 4 (by decide)), h.f5.keep ag mono (keep 5 (by decide)), h.f6.keep ag mono (keep 6 (by decide)), h.f7.keep ag mono (keep 7 (by decide)), h.f8.keep ag mono (keep 8 (by decide)), h.f9.keep ag mono (keep 9 (by decide)), h.f10.keep ag mono (keep 10 (by decide)), h.zkeep rfl keep⟩, fr.kb⟩
    exact heads_at q1 q4 hv hS hDl)
  have no := Lib.hid (show (M.vec M.cHead).rd bs = none → M.sect 3 d bs = none from fun e => by show ((M.vec M.cHead).rd bs).bind _ = _; rw [e]; rfl)
  clear hp h hS hSP hSD hF
  go_enter Tryz.func126, Tryz.ntmps126
  go_wp2_with fail
  refine cN.out.mono ?_
  rintro e1 w1 (⟨x, r, cs, q1, rfl, q3, q4, q5, q6⟩ | ⟨q1, rfl, kb⟩)
  · have fin := Lib.hid (yes.out x r cs w1 q1 q3 q4 q5 q6)
    clear q3 q4 q5 q6
    go_wp2_with fail
    go_ret
    exact fin.out
  · have fin := Lib.hid (no.out q1)
    replace kb := Lib.hid kb
    go_wp2_with fail
    go_ret
    exact .inr ⟨fin.out, rfl, kb.out⟩
set_option maxRecDepth 100000 in
set_option maxHeartbeats 4000000 in
theorem sec_4 : SecOk 4 127 := by
  intro B P D last d cur S bs w hp h hl hne hB hSP hSD hS hF
  have hDl := lt_row h.row
  have cN := Lib.hid (list_tab B P D 3 102 cur bs w hp h.row (h.z 4 3 rfl (by omega)) hne hB)
  have yes := Lib.hid (show ∀ x r cs w', (M.vec M.cTab).rd bs = some (x, r) → PAt B w' P r → (rLst rLim).is w' (Since w.heap.size w') x cs → (∀ k u, cs[k]? = some u → w'.cell? ⟨D, 3 + k, none⟩ = some u) → Fr P D 3 1 w w' → SecPost 4 B P D S last d bs w (.returned (.bool true)) w' from fun x r cs w' q1 q3 q4 q5 fr => by
    obtain ⟨cur', r1, r2, r3⟩ := fr.row _ _ h.row
    have keep : ∀ k, k ≠ 3 → cur'[k]? = cur[k]? := fun k hk => r3 k (by omega)
    have ag := Dst.agree hS hSP hSD fr.kb
    have mono : ∀ b, S b → S b ∨ Since w.heap.size w' b := fun b hb => .inl hb
    have hT : ∀ k, (S k ∨ Since w.heap.size w' k) → S k ∨ Since w.heap.size w' k := fun k hk => hk
    have hlen := (rLst rLim).len q4
    obtain ⟨v, rfl⟩ : ∃ v, cs = [v] := by
      match cs, hlen with
      | [v], _ => exact ⟨v, rfl⟩
    have hv : cur'[3]? = some v := (cell_row r1 3).symm.trans (q5 0 v rfl)
    refine .inl ⟨⟨{ d.m with tables := x }, d.bodies⟩, r, cur', (fun k => S k ∨ Since w.heap.size w' k), by show ((M.vec M.cTab).rd bs).bind _ = _; rw [q1]; rfl, rfl, q3, hT, ⟨r1, r2.trans h.sz, h.f0.keep ag mono (keep 0 (by decide)), h.f1.keep ag mono (keep 1 (by decide)), h.hkeep hF fr.kb hT (keep 2 (by decide)), ?_, h.f4.keep ag mono (keep 4 (by decide)), h.f5.keep ag mono (keep 5 (by decide)), h.f6.keep ag mono (keep 6 (by decide)), h.f7.keep ag mono (keep 7 (by decide)), h.f8.keep ag mono (keep 8 (by decide)), h.f9.keep ag mono (keep 9 (by decide)), h.f10.keep ag mono (keep 10 (by decide)), h.zkeep rfl keep⟩, fr.kb⟩
    exact ⟨v, hv, (rLst rLim).agree q4 (fun _ _ => rfl) (fun b hb => .inr hb)⟩)
  have no := Lib.hid (show (M.vec M.cTab).rd bs = none → M.sect 4 d bs = none from fun e => by show ((M.vec M.cTab).rd bs).bind _ = _; rw [e]; rfl)
  clear hp h hS hSP hSD hF
  go_enter Tryz.func127, Tryz.ntmps127
  go_wp2_with fail
  refine cN.out.mono ?_
  rintro e1 w1 (⟨x, r, cs, q1, rfl, q3, q4, q5, q6⟩ | ⟨q1, rfl, kb⟩)
  · have fin := Lib.hid (yes.out x r cs w1 q1 q3 q4 q5 q6)
    clear q3 q4 q5 q6
    go_wp2_with fail
    go_ret
    exact fin.out
  · have fin := Lib.hid (no.out q1)
    replace kb := Lib.hid kb
    go_wp2_with fail
    go_ret
    exact .inr ⟨fin.out, rfl, kb.out⟩
set_option maxRecDepth 100000 in
set_option maxHeartbeats 4000000 in
theorem sec_5 : SecOk 5 128 := by
  intro B P D last d cur S bs w hp h hl hne hB hSP hSD hS hF
  have hDl := lt_row h.row
  have cN := Lib.hid (list_lim B P D 4 102 cur bs w hp h.row (h.z 5 4 rfl (by omega)) hne hB)
  have yes := Lib.hid (show ∀ x r cs w', (M.vec M.cLim).rd bs = some (x, r) → PAt B w' P r → (rLst rLim).is w' (Since w.heap.size w') x cs → (∀ k u, cs[k]? = some u → w'.cell? ⟨D, 4 + k, none⟩ = some u) → Fr P D 4 1 w w' → SecPost 5 B P D S last d bs w (.returned (.bool true)) w' from fun x r cs w' q1 q3 q4 q5 fr => by
    obtain ⟨cur', r1, r2, r3⟩ := fr.row _ _ h.row
    have keep : ∀ k, k ≠ 4 → cur'[k]? = cur[k]? := fun k hk => r3 k (by omega)
    have ag := Dst.agree hS hSP hSD fr.kb
    have mono : ∀ b, S b → S b ∨ Since w.heap.size w' b := fun b hb => .inl hb
    have hT : ∀ k, (S k ∨ Since w.heap.size w' k) → S k ∨ Since w.heap.size w' k := fun k hk => hk
    have hlen := (rLst rLim).len q4
    obtain ⟨v, rfl⟩ : ∃ v, cs = [v] := by
      match cs, hlen with
      | [v], _ => exact ⟨v, rfl⟩
    have hv : cur'[4]? = some v := (cell_row r1 4).symm.trans (q5 0 v rfl)
    refine .inl ⟨⟨{ d.m with memories := x }, d.bodies⟩, r, cur', (fun k => S k ∨ Since w.heap.size w' k), by show ((M.vec M.cLim).rd bs).bind _ = _; rw [q1]; rfl, rfl, q3, hT, ⟨r1, r2.trans h.sz, h.f0.keep ag mono (keep 0 (by decide)), h.f1.keep ag mono (keep 1 (by decide)), h.hkeep hF fr.kb hT (keep 2 (by decide)), h.f3.keep ag mono (keep 3 (by decide)), ?_, h.f5.keep ag mono (keep 5 (by decide)), h.f6.keep ag mono (keep 6 (by decide)), h.f7.keep ag mono (keep 7 (by decide)), h.f8.keep ag mono (keep 8 (by decide)), h.f9.keep ag mono (keep 9 (by decide)), h.f10.keep ag mono (keep 10 (by decide)), h.zkeep rfl keep⟩, fr.kb⟩
    exact ⟨v, hv, (rLst rLim).agree q4 (fun _ _ => rfl) (fun b hb => .inr hb)⟩)
  have no := Lib.hid (show (M.vec M.cLim).rd bs = none → M.sect 5 d bs = none from fun e => by show ((M.vec M.cLim).rd bs).bind _ = _; rw [e]; rfl)
  clear hp h hS hSP hSD hF
  go_enter Tryz.func128, Tryz.ntmps128
  go_wp2_with fail
  refine cN.out.mono ?_
  rintro e1 w1 (⟨x, r, cs, q1, rfl, q3, q4, q5, q6⟩ | ⟨q1, rfl, kb⟩)
  · have fin := Lib.hid (yes.out x r cs w1 q1 q3 q4 q5 q6)
    clear q3 q4 q5 q6
    go_wp2_with fail
    go_ret
    exact fin.out
  · have fin := Lib.hid (no.out q1)
    replace kb := Lib.hid kb
    go_wp2_with fail
    go_ret
    exact .inr ⟨fin.out, rfl, kb.out⟩
set_option maxRecDepth 100000 in
set_option maxHeartbeats 4000000 in
theorem sec_6 : SecOk 6 129 := by
  intro B P D last d cur S bs w hp h hl hne hB hSP hSD hS hF
  have hDl := lt_row h.row
  have cN := Lib.hid (list_glo B P D 5 102 cur bs w hp h.row (h.z 6 5 rfl (by omega)) hne hB)
  have yes := Lib.hid (show ∀ x r cs w', (M.vec M.cGlo).rd bs = some (x, r) → PAt B w' P r → (rLst rGlo).is w' (Since w.heap.size w') x cs → (∀ k u, cs[k]? = some u → w'.cell? ⟨D, 5 + k, none⟩ = some u) → Fr P D 5 1 w w' → SecPost 6 B P D S last d bs w (.returned (.bool true)) w' from fun x r cs w' q1 q3 q4 q5 fr => by
    obtain ⟨cur', r1, r2, r3⟩ := fr.row _ _ h.row
    have keep : ∀ k, k ≠ 5 → cur'[k]? = cur[k]? := fun k hk => r3 k (by omega)
    have ag := Dst.agree hS hSP hSD fr.kb
    have mono : ∀ b, S b → S b ∨ Since w.heap.size w' b := fun b hb => .inl hb
    have hT : ∀ k, (S k ∨ Since w.heap.size w' k) → S k ∨ Since w.heap.size w' k := fun k hk => hk
    have hlen := (rLst rGlo).len q4
    obtain ⟨v, rfl⟩ : ∃ v, cs = [v] := by
      match cs, hlen with
      | [v], _ => exact ⟨v, rfl⟩
    have hv : cur'[5]? = some v := (cell_row r1 5).symm.trans (q5 0 v rfl)
    refine .inl ⟨⟨{ d.m with globals := x }, d.bodies⟩, r, cur', (fun k => S k ∨ Since w.heap.size w' k), by show ((M.vec M.cGlo).rd bs).bind _ = _; rw [q1]; rfl, rfl, q3, hT, ⟨r1, r2.trans h.sz, h.f0.keep ag mono (keep 0 (by decide)), h.f1.keep ag mono (keep 1 (by decide)), h.hkeep hF fr.kb hT (keep 2 (by decide)), h.f3.keep ag mono (keep 3 (by decide)), h.f4.keep ag mono (keep 4 (by decide)), ?_, h.f6.keep ag mono (keep 6 (by decide)), h.f7.keep ag mono (keep 7 (by decide)), h.f8.keep ag mono (keep 8 (by decide)), h.f9.keep ag mono (keep 9 (by decide)), h.f10.keep ag mono (keep 10 (by decide)), h.zkeep rfl keep⟩, fr.kb⟩
    exact ⟨v, hv, (rLst rGlo).agree q4 (fun _ _ => rfl) (fun b hb => .inr hb)⟩)
  have no := Lib.hid (show (M.vec M.cGlo).rd bs = none → M.sect 6 d bs = none from fun e => by show ((M.vec M.cGlo).rd bs).bind _ = _; rw [e]; rfl)
  clear hp h hS hSP hSD hF
  go_enter Tryz.func129, Tryz.ntmps129
  go_wp2_with fail
  refine cN.out.mono ?_
  rintro e1 w1 (⟨x, r, cs, q1, rfl, q3, q4, q5, q6⟩ | ⟨q1, rfl, kb⟩)
  · have fin := Lib.hid (yes.out x r cs w1 q1 q3 q4 q5 q6)
    clear q3 q4 q5 q6
    go_wp2_with fail
    go_ret
    exact fin.out
  · have fin := Lib.hid (no.out q1)
    replace kb := Lib.hid kb
    go_wp2_with fail
    go_ret
    exact .inr ⟨fin.out, rfl, kb.out⟩
set_option maxRecDepth 100000 in
set_option maxHeartbeats 4000000 in
theorem sec_7 : SecOk 7 130 := by
  intro B P D last d cur S bs w hp h hl hne hB hSP hSD hS hF
  have hDl := lt_row h.row
  have cN := Lib.hid (list_exp B P D 6 102 cur bs w hp h.row (h.z 7 6 rfl (by omega)) hne hB)
  have yes := Lib.hid (show ∀ x r cs w', (M.vec M.cExp).rd bs = some (x, r) → PAt B w' P r → (rLst rExp).is w' (Since w.heap.size w') x cs → (∀ k u, cs[k]? = some u → w'.cell? ⟨D, 6 + k, none⟩ = some u) → Fr P D 6 1 w w' → SecPost 7 B P D S last d bs w (.returned (.bool true)) w' from fun x r cs w' q1 q3 q4 q5 fr => by
    obtain ⟨cur', r1, r2, r3⟩ := fr.row _ _ h.row
    have keep : ∀ k, k ≠ 6 → cur'[k]? = cur[k]? := fun k hk => r3 k (by omega)
    have ag := Dst.agree hS hSP hSD fr.kb
    have mono : ∀ b, S b → S b ∨ Since w.heap.size w' b := fun b hb => .inl hb
    have hT : ∀ k, (S k ∨ Since w.heap.size w' k) → S k ∨ Since w.heap.size w' k := fun k hk => hk
    have hlen := (rLst rExp).len q4
    obtain ⟨v, rfl⟩ : ∃ v, cs = [v] := by
      match cs, hlen with
      | [v], _ => exact ⟨v, rfl⟩
    have hv : cur'[6]? = some v := (cell_row r1 6).symm.trans (q5 0 v rfl)
    refine .inl ⟨⟨{ d.m with exports := x }, d.bodies⟩, r, cur', (fun k => S k ∨ Since w.heap.size w' k), by show ((M.vec M.cExp).rd bs).bind _ = _; rw [q1]; rfl, rfl, q3, hT, ⟨r1, r2.trans h.sz, h.f0.keep ag mono (keep 0 (by decide)), h.f1.keep ag mono (keep 1 (by decide)), h.hkeep hF fr.kb hT (keep 2 (by decide)), h.f3.keep ag mono (keep 3 (by decide)), h.f4.keep ag mono (keep 4 (by decide)), h.f5.keep ag mono (keep 5 (by decide)), ?_, h.f7.keep ag mono (keep 7 (by decide)), h.f8.keep ag mono (keep 8 (by decide)), h.f9.keep ag mono (keep 9 (by decide)), h.f10.keep ag mono (keep 10 (by decide)), h.zkeep rfl keep⟩, fr.kb⟩
    exact ⟨v, hv, (rLst rExp).agree q4 (fun _ _ => rfl) (fun b hb => .inr hb)⟩)
  have no := Lib.hid (show (M.vec M.cExp).rd bs = none → M.sect 7 d bs = none from fun e => by show ((M.vec M.cExp).rd bs).bind _ = _; rw [e]; rfl)
  clear hp h hS hSP hSD hF
  go_enter Tryz.func130, Tryz.ntmps130
  go_wp2_with fail
  refine cN.out.mono ?_
  rintro e1 w1 (⟨x, r, cs, q1, rfl, q3, q4, q5, q6⟩ | ⟨q1, rfl, kb⟩)
  · have fin := Lib.hid (yes.out x r cs w1 q1 q3 q4 q5 q6)
    clear q3 q4 q5 q6
    go_wp2_with fail
    go_ret
    exact fin.out
  · have fin := Lib.hid (no.out q1)
    replace kb := Lib.hid kb
    go_wp2_with fail
    go_ret
    exact .inr ⟨fin.out, rfl, kb.out⟩
set_option maxRecDepth 100000 in
set_option maxHeartbeats 4000000 in
theorem sec_9 : SecOk 9 132 := by
  intro B P D last d cur S bs w hp h hl hne hB hSP hSD hS hF
  have hDl := lt_row h.row
  have cN := Lib.hid (list_elm B P D 8 102 cur bs w hp h.row (h.z 9 8 rfl (by omega)) hne hB)
  have yes := Lib.hid (show ∀ x r cs w', (M.vec M.cElm).rd bs = some (x, r) → PAt B w' P r → (rLst rElm).is w' (Since w.heap.size w') x cs → (∀ k u, cs[k]? = some u → w'.cell? ⟨D, 8 + k, none⟩ = some u) → Fr P D 8 1 w w' → SecPost 9 B P D S last d bs w (.returned (.bool true)) w' from fun x r cs w' q1 q3 q4 q5 fr => by
    obtain ⟨cur', r1, r2, r3⟩ := fr.row _ _ h.row
    have keep : ∀ k, k ≠ 8 → cur'[k]? = cur[k]? := fun k hk => r3 k (by omega)
    have ag := Dst.agree hS hSP hSD fr.kb
    have mono : ∀ b, S b → S b ∨ Since w.heap.size w' b := fun b hb => .inl hb
    have hT : ∀ k, (S k ∨ Since w.heap.size w' k) → S k ∨ Since w.heap.size w' k := fun k hk => hk
    have hlen := (rLst rElm).len q4
    obtain ⟨v, rfl⟩ : ∃ v, cs = [v] := by
      match cs, hlen with
      | [v], _ => exact ⟨v, rfl⟩
    have hv : cur'[8]? = some v := (cell_row r1 8).symm.trans (q5 0 v rfl)
    refine .inl ⟨⟨{ d.m with elems := x }, d.bodies⟩, r, cur', (fun k => S k ∨ Since w.heap.size w' k), by show ((M.vec M.cElm).rd bs).bind _ = _; rw [q1]; rfl, rfl, q3, hT, ⟨r1, r2.trans h.sz, h.f0.keep ag mono (keep 0 (by decide)), h.f1.keep ag mono (keep 1 (by decide)), h.hkeep hF fr.kb hT (keep 2 (by decide)), h.f3.keep ag mono (keep 3 (by decide)), h.f4.keep ag mono (keep 4 (by decide)), h.f5.keep ag mono (keep 5 (by decide)), h.f6.keep ag mono (keep 6 (by decide)), h.f7.keep ag mono (keep 7 (by decide)), ?_, h.f9.keep ag mono (keep 9 (by decide)), h.f10.keep ag mono (keep 10 (by decide)), h.zkeep rfl keep⟩, fr.kb⟩
    exact ⟨v, hv, (rLst rElm).agree q4 (fun _ _ => rfl) (fun b hb => .inr hb)⟩)
  have no := Lib.hid (show (M.vec M.cElm).rd bs = none → M.sect 9 d bs = none from fun e => by show ((M.vec M.cElm).rd bs).bind _ = _; rw [e]; rfl)
  clear hp h hS hSP hSD hF
  go_enter Tryz.func132, Tryz.ntmps132
  go_wp2_with fail
  refine cN.out.mono ?_
  rintro e1 w1 (⟨x, r, cs, q1, rfl, q3, q4, q5, q6⟩ | ⟨q1, rfl, kb⟩)
  · have fin := Lib.hid (yes.out x r cs w1 q1 q3 q4 q5 q6)
    clear q3 q4 q5 q6
    go_wp2_with fail
    go_ret
    exact fin.out
  · have fin := Lib.hid (no.out q1)
    replace kb := Lib.hid kb
    go_wp2_with fail
    go_ret
    exact .inr ⟨fin.out, rfl, kb.out⟩
set_option maxRecDepth 100000 in
set_option maxHeartbeats 4000000 in
theorem sec_10 : SecOk 10 133 := by
  intro B P D last d cur S bs w hp h hl hne hB hSP hSD hS hF
  have hDl := lt_row h.row
  have cN := Lib.hid (list_body B P D 10 102 cur bs w hp h.row (h.z 10 10 rfl (by omega)) hne hB)
  have yes := Lib.hid (show ∀ x r cs w', (M.vec M.cFnB).rd bs = some (x, r) → PAt B w' P r → (rLst rFn).is w' (Since w.heap.size w') x cs → (∀ k u, cs[k]? = some u → w'.cell? ⟨D, 10 + k, none⟩ = some u) → Fr P D 10 1 w w' → SecPost 10 B P D S last d bs w (.returned (.bool true)) w' from fun x r cs w' q1 q3 q4 q5 fr => by
    obtain ⟨cur', r1, r2, r3⟩ := fr.row _ _ h.row
    have keep : ∀ k, k ≠ 10 → cur'[k]? = cur[k]? := fun k hk => r3 k (by omega)
    have ag := Dst.agree hS hSP hSD fr.kb
    have mono : ∀ b, S b → S b ∨ Since w.heap.size w' b := fun b hb => .inl hb
    have hT : ∀ k, (S k ∨ Since w.heap.size w' k) → S k ∨ Since w.heap.size w' k := fun k hk => hk
    have hlen := (rLst rFn).len q4
    obtain ⟨v, rfl⟩ : ∃ v, cs = [v] := by
      match cs, hlen with
      | [v], _ => exact ⟨v, rfl⟩
    have hv : cur'[10]? = some v := (cell_row r1 10).symm.trans (q5 0 v rfl)
    refine .inl ⟨⟨d.m, x⟩, r, cur', (fun k => S k ∨ Since w.heap.size w' k), by show ((M.vec M.cFnB).rd bs).bind _ = _; rw [q1]; rfl, rfl, q3, hT, ⟨r1, r2.trans h.sz, h.f0.keep ag mono (keep 0 (by decide)), h.f1.keep ag mono (keep 1 (by decide)), h.hkeep hF fr.kb hT (keep 2 (by decide)), h.f3.keep ag mono (keep 3 (by decide)), h.f4.keep ag mono (keep 4 (by decide)), h.f5.keep ag mono (keep 5 (by decide)), h.f6.keep ag mono (keep 6 (by decide)), h.f7.keep ag mono (keep 7 (by decide)), h.f8.keep ag mono (keep 8 (by decide)), h.f9.keep ag mono (keep 9 (by decide)), ?_, h.zkeep rfl keep⟩, fr.kb⟩
    exact ⟨v, hv, (rLst rFn).agree q4 (fun _ _ => rfl) (fun b hb => .inr hb)⟩)
  have no := Lib.hid (show (M.vec M.cFnB).rd bs = none → M.sect 10 d bs = none from fun e => by show ((M.vec M.cFnB).rd bs).bind _ = _; rw [e]; rfl)
  clear hp h hS hSP hSD hF
  go_enter Tryz.func133, Tryz.ntmps133
  go_wp2_with fail
  refine cN.out.mono ?_
  rintro e1 w1 (⟨x, r, cs, q1, rfl, q3, q4, q5, q6⟩ | ⟨q1, rfl, kb⟩)
  · have fin := Lib.hid (yes.out x r cs w1 q1 q3 q4 q5 q6)
    clear q3 q4 q5 q6
    go_wp2_with fail
    go_ret
    exact fin.out
  · have fin := Lib.hid (no.out q1)
    replace kb := Lib.hid kb
    go_wp2_with fail
    go_ret
    exact .inr ⟨fin.out, rfl, kb.out⟩
set_option maxRecDepth 100000 in
set_option maxHeartbeats 4000000 in
theorem sec_11 : SecOk 11 134 := by
  intro B P D last d cur S bs w hp h hl hne hB hSP hSD hS hF
  have hDl := lt_row h.row
  have cN := Lib.hid (list_dat B P D 9 102 cur bs w hp h.row (h.z 11 9 rfl (by omega)) hne hB)
  have yes := Lib.hid (show ∀ x r cs w', (M.vec M.cDat).rd bs = some (x, r) → PAt B w' P r → (rLst rDat).is w' (Since w.heap.size w') x cs → (∀ k u, cs[k]? = some u → w'.cell? ⟨D, 9 + k, none⟩ = some u) → Fr P D 9 1 w w' → SecPost 11 B P D S last d bs w (.returned (.bool true)) w' from fun x r cs w' q1 q3 q4 q5 fr => by
    obtain ⟨cur', r1, r2, r3⟩ := fr.row _ _ h.row
    have keep : ∀ k, k ≠ 9 → cur'[k]? = cur[k]? := fun k hk => r3 k (by omega)
    have ag := Dst.agree hS hSP hSD fr.kb
    have mono : ∀ b, S b → S b ∨ Since w.heap.size w' b := fun b hb => .inl hb
    have hT : ∀ k, (S k ∨ Since w.heap.size w' k) → S k ∨ Since w.heap.size w' k := fun k hk => hk
    have hlen := (rLst rDat).len q4
    obtain ⟨v, rfl⟩ : ∃ v, cs = [v] := by
      match cs, hlen with
      | [v], _ => exact ⟨v, rfl⟩
    have hv : cur'[9]? = some v := (cell_row r1 9).symm.trans (q5 0 v rfl)
    refine .inl ⟨⟨{ d.m with datas := x }, d.bodies⟩, r, cur', (fun k => S k ∨ Since w.heap.size w' k), by show ((M.vec M.cDat).rd bs).bind _ = _; rw [q1]; rfl, rfl, q3, hT, ⟨r1, r2.trans h.sz, h.f0.keep ag mono (keep 0 (by decide)), h.f1.keep ag mono (keep 1 (by decide)), h.hkeep hF fr.kb hT (keep 2 (by decide)), h.f3.keep ag mono (keep 3 (by decide)), h.f4.keep ag mono (keep 4 (by decide)), h.f5.keep ag mono (keep 5 (by decide)), h.f6.keep ag mono (keep 6 (by decide)), h.f7.keep ag mono (keep 7 (by decide)), h.f8.keep ag mono (keep 8 (by decide)), ?_, h.f10.keep ag mono (keep 10 (by decide)), h.zkeep rfl keep⟩, fr.kb⟩
    exact ⟨v, hv, (rLst rDat).agree q4 (fun _ _ => rfl) (fun b hb => .inr hb)⟩)
  have no := Lib.hid (show (M.vec M.cDat).rd bs = none → M.sect 11 d bs = none from fun e => by show ((M.vec M.cDat).rd bs).bind _ = _; rw [e]; rfl)
  clear hp h hS hSP hSD hF
  go_enter Tryz.func134, Tryz.ntmps134
  go_wp2_with fail
  refine cN.out.mono ?_
  rintro e1 w1 (⟨x, r, cs, q1, rfl, q3, q4, q5, q6⟩ | ⟨q1, rfl, kb⟩)
  · have fin := Lib.hid (yes.out x r cs w1 q1 q3 q4 q5 q6)
    clear q3 q4 q5 q6
    go_wp2_with fail
    go_ret
    exact fin.out
  · have fin := Lib.hid (no.out q1)
    replace kb := Lib.hid kb
    go_wp2_with fail
    go_ret
    exact .inr ⟨fin.out, rfl, kb.out⟩
set_option maxRecDepth 100000 in
theorem sec_8 : SecOk 8 131 := by
  intro B P D last d cur S bs w hp h hl hne hB hSP hSD hS hF
  obtain ⟨v0, hv0, hv1, _⟩ := h.f7
  have hv1 : v0 = .int .i64 d.m.start := by simpa using hv1
  have cN := Lib.hid (mnum_ok v0 B P D 7 102 cur bs w hp h.row (fun k u hu => by cases k with | zero => cases hu; exact hv0 | succ k => cases hu) hne hB)
  have yes := Lib.hid (show ∀ x r cs w', M.num bs = some (x, r) → PAt B w' P r → rInt.is w' (Since w.heap.size w') x cs → (∀ k u, cs[k]? = some u → w'.cell? ⟨D, 7 + k, none⟩ = some u) → Fr P D 7 1 w w' → SecPost 8 B P D S last d bs w (.returned (.bool true)) w' from fun x r cs w' q1 q3 q4 q5 fr => by
    obtain ⟨cur', r1, r2, r3⟩ := fr.row _ _ h.row
    have keep : ∀ k, k ≠ 7 → cur'[k]? = cur[k]? := fun k hk => r3 k (by omega)
    have ag := Dst.agree hS hSP hSD fr.kb
    have mono : ∀ b, S b → S b ∨ Since w.heap.size w' b := fun b hb => .inl hb
    have hT : ∀ k, (S k ∨ Since w.heap.size w' k) → S k ∨ Since w.heap.size w' k := fun k hk => hk
    obtain ⟨rfl, hx⟩ := q4
    have hv : cur'[7]? = some (.int .i64 x) := (cell_row r1 7).symm.trans (q5 0 _ rfl)
    refine .inl ⟨⟨{ d.m with start := x }, d.bodies⟩, r, cur', (fun k => S k ∨ Since w.heap.size w' k), by show (M.num bs).bind _ = _; rw [q1]; rfl, rfl, q3, hT, ⟨r1, r2.trans h.sz, h.f0.keep ag mono (keep 0 (by decide)), h.f1.keep ag mono (keep 1 (by decide)), h.hkeep hF fr.kb hT (keep 2 (by decide)), h.f3.keep ag mono (keep 3 (by decide)), h.f4.keep ag mono (keep 4 (by decide)), h.f5.keep ag mono (keep 5 (by decide)), h.f6.keep ag mono (keep 6 (by decide)), ?_, h.f8.keep ag mono (keep 8 (by decide)), h.f9.keep ag mono (keep 9 (by decide)), h.f10.keep ag mono (keep 10 (by decide)), fun id' i' h1 h2 => ?_⟩, fr.kb⟩
    · exact ⟨_, hv, rfl, hx⟩
    · rw [keep i' (fun e => by subst e; unfold idx at h1; split at h1 <;> simp_all)]
      exact h.z id' i' h1 (by omega))
  have no := Lib.hid (show M.num bs = none → M.sect 8 d bs = none from fun e => by show (M.num bs).bind _ = _; rw [e]; rfl)
  clear hp h hS hSP hSD hF
  go_enter Tryz.func131, Tryz.ntmps131
  go_wp2_with fail
  refine cN.out.mono ?_
  rintro e1 w1 (⟨x, r, cs, q1, rfl, q3, q4, q5, q6⟩ | ⟨q1, rfl, kb⟩)
  · have fin := Lib.hid (yes.out x r cs w1 q1 q3 q4 q5 q6)
    clear q3 q4 q5 q6
    go_wp2_with fail
    go_ret
    exact fin.out
  · have fin := Lib.hid (no.out q1)
    replace kb := Lib.hid kb
    go_wp2_with fail
    go_ret
    exact .inr ⟨fin.out, rfl, kb.out⟩
theorem Dst.keepAll {w w' : World} {S T : Nat → Prop} {D last : Nat} {d : M.Dm} {cur : Array Value} (h : Dst w S D last d cur) (ag : Agree S w w') (mono : ∀ b, S b → T b) (hr : w'.heap[D]? = w.heap[D]?) (h2 : HAt w' T D cur d.m.funcs) : Dst w' T D last d cur :=
  ⟨hr.trans h.row, h.sz, h.f0.keep ag mono rfl, h.f1.keep ag mono rfl, h2, h.f3.keep ag mono rfl, h.f4.keep ag mono rfl, h.f5.keep ag mono rfl, h.f6.keep ag mono rfl, h.f7.keep ag mono rfl, h.f8.keep ag mono rfl, h.f9.keep ag mono rfl, h.f10.keep ag mono rfl, h.z⟩
set_option maxRecDepth 100000 in
theorem sec_0 : SecOk 0 123 := by
  intro B P D last d cur S bs w hp h hl hne hB hSP hSD hS hF
  have hv := Lib.hid (show M.sect 0 d bs = (M.cName.rd bs).bind fun _ => some (d, []) from rfl)
  have hPl := hp.lt
  have hPlo := hp.lo
  have hDl := lt_row h.row
  have ha := Lib.hid (hp.alloc (.cells #[.string ByteArray.empty] 9))
  have fin := Lib.hid (show ∀ w1 r1, Kb (· = P) w w1 → PAt B w1 P r1 → SecPost 0 B P D S last d bs w (.returned (.bool true)) (w1.setCell ⟨P, 0, none⟩ (.slice none 0 0)) ∨ M.sect 0 d bs = none from fun w1 r1 kb p1 => by
    cases hq : M.sect 0 d bs with
    | none => exact .inr rfl
    | some q =>
      rw [hv.out] at hq
      obtain ⟨x, _, hx⟩ := Option.bind_eq_some_iff.1 hq
      obtain rfl : (d, []) = q := by simpa using hx
      have p2 := p1.move (A := none) (c := 0) (r := []) (by simp) ⟨by simp, by unfold maxLen; omega⟩ (fun i hi => by simp at hi)
      have kb2 : Kb (fun k => k = P ∨ k = D) w (w1.setCell ⟨P, 0, none⟩ (.slice none 0 0)) := (kb_g kb).trans (Kb.setCell (T := fun k => k = P ∨ k = D) (Kb.refl _ _) (p := ⟨P, 0, none⟩) (.inl rfl) _)
      refine .inl (.inl ⟨d, [], cur, S, by rw [hv.out]; exact hq, rfl, p2, fun k hk => .inl hk, ?_, kb2⟩)
      rw [Nat.max_eq_left (Nat.zero_le _)]
      exact h.keepAll (Dst.agree hS hSP hSD kb2) (fun b hb => hb) (by rw [Below.heap_setCell _ _ _ _ (by show D ≠ P; exact hne)]; exact kb.block D hDl hne) (h.hkeep hF kb2 (fun k hk => .inl hk) rfl))
  clear hp h hS hSP hSD hF
  go_enter Tryz.func123, Tryz.ntmps123
  go_wp2_with fail
  refine (mname_ok (.string ByteArray.empty) B P w.heap.size 0 9 #[.string ByteArray.empty] bs _ ha.out (heap_alloc_new w _) (one_row _) (by omega) (by omega)).mono ?_
  rintro e1 w1 (⟨x, r, cs, q1, rfl, p1, q4, q5, fr⟩ | ⟨q1, rfl, kb⟩)
  · rw [q1] at hv
    have kb := kb_new fr.kb
    have F := Lib.hid (fin.out w1 r kb p1)
    obtain ⟨A, c, hP, _⟩ := p1.ex
    have c0 := cell_row hP 0
    simp only [List.size_toArray, List.length_cons, List.length_nil, Nat.lt_irrefl, List.getElem?_toArray, List.getElem?_cons_zero] at c0
    have f0 := frozen_row hP 0
    clear p1 q4 q5 fr kb hP
    go_wp2_with fail
    go_ret
    rcases F.out with F | F
    · exact F
    · rw [hv.out] at F; cases F
  · rw [q1] at hv
    replace kb := Lib.hid (kb_new kb)
    go_wp2_with fail
    go_ret
    exact .inr ⟨hv.out, rfl, kb_g kb.out⟩
end Go.Proofs.YtilaheifccjjeaaGreat
namespace Go.Proofs.YtilaheifccjjeaaGreat
open Go.RowKit
def secTab : Array Value := #[.func (.func 123) #[] #[], .func (.func 124) #[] #[], .func (.func 125) #[] #[], .func (.func 126) #[] #[], .func (.func 127) #[] #[], .func (.func 128) #[] #[], .func (.func 129) #[] #[], .func (.func 130) #[] #[], .func (.func 131) #[] #[], .func (.func 132) #[] #[], .func (.func 133) #[] #[], .func (.func 134) #[] #[]]
theorem Dst.same {w W : World} {S : Nat → Prop} {D last : Nat} {d : M.Dm} {cur : Array Value} (s : Same w W) (h : Dst w S D last d cur) : Dst W S D last d cur := h.keepAll (fun k _ => by rw [s.heap]) (fun _ hb => hb) (by rw [s.heap]) (h.f2.keep (fun _ _ _ _ _ => by rw [s.heap]) (fun _ _ ht => ht) rfl)
theorem SecOk.at {id f : Nat} (h : SecOk id f) {B P D last : Nat} {d : M.Dm} {cur : Array Value} {S : Nat → Prop} {bs : List Nat} {w W : World} (s : Same w W) (h1 : PAt B w P bs) (h2 : Dst w S D last d cur) (h3 : id = 0 ∨ last < id) (h4 : D ≠ P) (h5 : B ≤ D) (h6 : ¬ S P) (h7 : ¬ S D) (h8 : ∀ k, S k → k < w.heap.size) (h9 : ∀ v, cur[2]? = some v → v.ownBlock ≠ some P) :
    Calls Tryz.prog f #[.pointer (some ⟨D, 0, none⟩), .pointer (some ⟨P, 0, none⟩)] W (SecPost id B P D S last d bs w) :=
  (h B P D last d cur S bs W (s.pat h1) (h2.same s) h3 h4 h5 h6 h7 (by rw [s.heap]; exact h8) h9).mono fun e w' hp => by
    rcases hp with ⟨d', r, cur', T, q1, q2, q3, q4, q4', q5⟩ | ⟨q1, q2, q3⟩
    · exact .inl ⟨d', r, cur', T, q1, q2, q3, by rw [← s.heap]; exact q4, q4', s.kb q5⟩
    · exact .inr ⟨q1, q2, s.kb q3⟩
set_option maxRecDepth 100000 in
set_option maxHeartbeats 8000000 in
theorem sec1_any (id B P D last rb ib db : Nat) (d : M.Dm) (cur : Array Value) (S : Nat → Prop) (bs : List Nat) (w : World) (hid : id < 12) (hp : PAt B w P bs) (hD : Dst w S D last d cur) (hl : id = 0 ∨ last < id) (hne : D ≠ P) (hB : B ≤ D) (h6 : ¬ S P) (h7 : ¬ S D) (h8 : ∀ k, S k → k < w.heap.size) (h9 : ∀ v, cur[2]? = some v → v.ownBlock ≠ some P)
    (ht : w.heap[rb]? = some (.cells secTab 148 (0, 0))) (hi : w.cell? ⟨ib, 0, none⟩ = some (.int .i64 (id : Nat))) (hd : w.cell? ⟨db, 0, none⟩ = some (.pointer (some ⟨D, 0, none⟩))) :
    Calls Tryz.prog 100 #[.pointer (some ⟨P, 0, none⟩), .pointer (some ⟨rb, 0, none⟩), .pointer (some ⟨ib, 0, none⟩), .pointer (some ⟨db, 0, none⟩)] w (SecPost id B P D S last d bs w) := by
  have hc : id = 0 ∨ id = 1 ∨ id = 2 ∨ id = 3 ∨ id = 4 ∨ id = 5 ∨ id = 6 ∨ id = 7 ∨ id = 8 ∨ id = 9 ∨ id = 10 ∨ id = 11 := by omega
  clear hid
  rcases hc with rfl | rfl | rfl | rfl | rfl | rfl | rfl | rfl | rfl | rfl | rfl | rfl
  · have tc : w.cell? ⟨rb, 0, none⟩ = some (.func (.func 123) #[] #[]) := (cell_row ht 0).trans rfl
    have cN := Lib.hid (fun (W : World) (s : Same w W) => sec_0.at s hp hD hl hne hB h6 h7 h8 h9)
    clear hp hD h6 h7 h8 h9 ht hl
    simp only [Int.natCast_zero, Int.cast_ofNat_Int] at hi
    go_enter Tryz.func100, Tryz.ntmps100
    go_wp2_with fail
    go_still_tail 5, (by kernel_rfl)
    change wpList _ _ _ _ _ w.drew
    go_wp2_with fail
    refine Calls.mono (cN.out _ (same_drew _)) ?_
    intro e1 w1 hq
    rcases hq with ⟨d', r, cur', T, q1, rfl, q3⟩ | ⟨q1, rfl, q3⟩
    all_goals
      replace q1 := Lib.hid q1
      replace q3 := Lib.hid q3
      go_wp2_with fail
      go_ret
      first | exact .inl ⟨d', r, cur', T, q1.out, rfl, q3.out⟩ | exact .inr ⟨q1.out, rfl, q3.out⟩
  · have tc : w.cell? ⟨rb, 1, none⟩ = some (.func (.func 124) #[] #[]) := (cell_row ht 1).trans rfl
    have cN := Lib.hid (fun (W : World) (s : Same w W) => sec_1.at s hp hD hl hne hB h6 h7 h8 h9)
    clear hp hD h6 h7 h8 h9 ht hl
    simp only [Int.natCast_zero, Int.cast_ofNat_Int] at hi
    go_enter Tryz.func100, Tryz.ntmps100
    go_wp2_with fail
    go_still_tail 5, (by kernel_rfl)
    change wpList _ _ _ _ _ w.drew
    go_wp2_with fail
    refine Calls.mono (cN.out _ (same_drew _)) ?_
    intro e1 w1 hq
    rcases hq with ⟨d', r, cur', T, q1, rfl, q3⟩ | ⟨q1, rfl, q3⟩
    all_goals
      replace q1 := Lib.hid q1
      replace q3 := Lib.hid q3
      go_wp2_with fail
      go_ret
      first | exact .inl ⟨d', r, cur', T, q1.out, rfl, q3.out⟩ | exact .inr ⟨q1.out, rfl, q3.out⟩
  · have tc : w.cell? ⟨rb, 2, none⟩ = some (.func (.func 125) #[] #[]) := (cell_row ht 2).trans rfl
    have cN := Lib.hid (fun (W : World) (s : Same w W) => sec_2.at s hp hD hl hne hB h6 h7 h8 h9)
    clear hp hD h6 h7 h8 h9 ht hl
    simp only [Int.natCast_zero, Int.cast_ofNat_Int] at hi
    go_enter Tryz.func100, Tryz.ntmps100
    go_wp2_with fail
    go_still_tail 5, (by kernel_rfl)
    change wpList _ _ _ _ _ w.drew
    go_wp2_with fail
    refine Calls.mono (cN.out _ (same_drew _)) ?_
    intro e1 w1 hq
    rcases hq with ⟨d', r, cur', T, q1, rfl, q3⟩ | ⟨q1, rfl, q3⟩
    all_goals
      replace q1 := Lib.hid q1
      replace q3 := Lib.hid q3
      go_wp2_with fail
      go_ret
      first | exact .inl ⟨d', r, cur', T, q1.out, rfl, q3.out⟩ | exact .inr ⟨q1.out, rfl, q3.out⟩
  · have tc : w.cell? ⟨rb, 3, none⟩ = some (.func (.func 126) #[] #[]) := (cell_row ht 3).trans rfl
    have cN := Lib.hid (fun (W : World) (s : Same w W) => sec_3.at s hp hD hl hne hB h6 h7 h8 h9)
    clear hp hD h6 h7 h8 h9 ht hl
    simp only [Int.natCast_zero, Int.cast_ofNat_Int] at hi
    go_enter Tryz.func100, Tryz.ntmps100
    go_wp2_with fail
    go_still_tail 5, (by kernel_rfl)
    change wpList _ _ _ _ _ w.drew
    go_wp2_with fail
    refine Calls.mono (cN.out _ (same_drew _)) ?_
    intro e1 w1 hq
    rcases hq with ⟨d', r, cur', T, q1, rfl, q3⟩ | ⟨q1, rfl, q3⟩
    all_goals
      replace q1 := Lib.hid q1
      replace q3 := Lib.hid q3
      go_wp2_with fail
      go_ret
      first | exact .inl ⟨d', r, cur', T, q1.out, rfl, q3.out⟩ | exact .inr ⟨q1.out, rfl, q3.out⟩
  · have tc : w.cell? ⟨rb, 4, none⟩ = some (.func (.func 127) #[] #[]) := (cell_row ht 4).trans rfl
    have cN := Lib.hid (fun (W : World) (s : Same w W) => sec_4.at s hp hD hl hne hB h6 h7 h8 h9)
    clear hp hD h6 h7 h8 h9 ht hl
    simp only [Int.natCast_zero, Int.cast_ofNat_Int] at hi
    go_enter Tryz.func100, Tryz.ntmps100
    go_wp2_with fail
    go_still_tail 5, (by kernel_rfl)
    change wpList _ _ _ _ _ w.drew
    go_wp2_with fail
    refine Calls.mono (cN.out _ (same_drew _)) ?_
    intro e1 w1 hq
    rcases hq with ⟨d', r, cur', T, q1, rfl, q3⟩ | ⟨q1, rfl, q3⟩
    all_goals
      replace q1 := Lib.hid q1
      replace q3 := Lib.hid q3
      go_wp2_with fail
      go_ret
      first | exact .inl ⟨d', r, cur', T, q1.out, rfl, q3.out⟩ | exact .inr ⟨q1.out, rfl, q3.out⟩
  · have tc : w.cell? ⟨rb, 5, none⟩ = some (.func (.func 128) #[] #[]) := (cell_row ht 5).trans rfl
    have cN := Lib.hid (fun (W : World) (s : Same w W) => sec_5.at s hp hD hl hne hB h6 h7 h8 h9)
    clear hp hD h6 h7 h8 h9 ht hl
    simp only [Int.natCast_zero, Int.cast_ofNat_Int] at hi
    go_enter Tryz.func100, Tryz.ntmps100
    go_wp2_with fail
    go_still_tail 5, (by kernel_rfl)
    change wpList _ _ _ _ _ w.drew
    go_wp2_with fail
    refine Calls.mono (cN.out _ (same_drew _)) ?_
    intro e1 w1 hq
    rcases hq with ⟨d', r, cur', T, q1, rfl, q3⟩ | ⟨q1, rfl, q3⟩
    all_goals
      replace q1 := Lib.hid q1
      replace q3 := Lib.hid q3
      go_wp2_with fail
      go_ret
      first | exact .inl ⟨d', r, cur', T, q1.out, rfl, q3.out⟩ | exact .inr ⟨q1.out, rfl, q3.out⟩
  · have tc : w.cell? ⟨rb, 6, none⟩ = some (.func (.func 129) #[] #[]) := (cell_row ht 6).trans rfl
    have cN := Lib.hid (fun (W : World) (s : Same w W) => sec_6.at s hp hD hl hne hB h6 h7 h8 h9)
    clear hp hD h6 h7 h8 h9 ht hl
    simp only [Int.natCast_zero, Int.cast_ofNat_Int] at hi
    go_enter Tryz.func100, Tryz.ntmps100
    go_wp2_with fail
    go_still_tail 5, (by kernel_rfl)
    change wpList _ _ _ _ _ w.drew
    go_wp2_with fail
    refine Calls.mono (cN.out _ (same_drew _)) ?_
    intro e1 w1 hq
    rcases hq with ⟨d', r, cur', T, q1, rfl, q3⟩ | ⟨q1, rfl, q3⟩
    all_goals
      replace q1 := Lib.hid q1
      replace q3 := Lib.hid q3
      go_wp2_with fail
      go_ret
      first | exact .inl ⟨d', r, cur', T, q1.out, rfl, q3.out⟩ | exact .inr ⟨q1.out, rfl, q3.out⟩
  · have tc : w.cell? ⟨rb, 7, none⟩ = some (.func (.func 130) #[] #[]) := (cell_row ht 7).trans rfl
    have cN := Lib.hid (fun (W : World) (s : Same w W) => sec_7.at s hp hD hl hne hB h6 h7 h8 h9)
    clear hp hD h6 h7 h8 h9 ht hl
    simp only [Int.natCast_zero, Int.cast_ofNat_Int] at hi
    go_enter Tryz.func100, Tryz.ntmps100
    go_wp2_with fail
    go_still_tail 5, (by kernel_rfl)
    change wpList _ _ _ _ _ w.drew
    go_wp2_with fail
    refine Calls.mono (cN.out _ (same_drew _)) ?_
    intro e1 w1 hq
    rcases hq with ⟨d', r, cur', T, q1, rfl, q3⟩ | ⟨q1, rfl, q3⟩
    all_goals
      replace q1 := Lib.hid q1
      replace q3 := Lib.hid q3
      go_wp2_with fail
      go_ret
      first | exact .inl ⟨d', r, cur', T, q1.out, rfl, q3.out⟩ | exact .inr ⟨q1.out, rfl, q3.out⟩
  · have tc : w.cell? ⟨rb, 8, none⟩ = some (.func (.func 131) #[] #[]) := (cell_row ht 8).trans rfl
    have cN := Lib.hid (fun (W : World) (s : Same w W) => sec_8.at s hp hD hl hne hB h6 h7 h8 h9)
    clear hp hD h6 h7 h8 h9 ht hl
    simp only [Int.natCast_zero, Int.cast_ofNat_Int] at hi
    go_enter Tryz.func100, Tryz.ntmps100
    go_wp2_with fail
    go_still_tail 5, (by kernel_rfl)
    change wpList _ _ _ _ _ w.drew
    go_wp2_with fail
    refine Calls.mono (cN.out _ (same_drew _)) ?_
    intro e1 w1 hq
    rcases hq with ⟨d', r, cur', T, q1, rfl, q3⟩ | ⟨q1, rfl, q3⟩
    all_goals
      replace q1 := Lib.hid q1
      replace q3 := Lib.hid q3
      go_wp2_with fail
      go_ret
      first | exact .inl ⟨d', r, cur', T, q1.out, rfl, q3.out⟩ | exact .inr ⟨q1.out, rfl, q3.out⟩
  · have tc : w.cell? ⟨rb, 9, none⟩ = some (.func (.func 132) #[] #[]) := (cell_row ht 9).trans rfl
    have cN := Lib.hid (fun (W : World) (s : Same w W) => sec_9.at s hp hD hl hne hB h6 h7 h8 h9)
    clear hp hD h6 h7 h8 h9 ht hl
    simp only [Int.natCast_zero, Int.cast_ofNat_Int] at hi
    go_enter Tryz.func100, Tryz.ntmps100
    go_wp2_with fail
    go_still_tail 5, (by kernel_rfl)
    change wpList _ _ _ _ _ w.drew
    go_wp2_with fail
    refine Calls.mono (cN.out _ (same_drew _)) ?_
    intro e1 w1 hq
    rcases hq with ⟨d', r, cur', T, q1, rfl, q3⟩ | ⟨q1, rfl, q3⟩
    all_goals
      replace q1 := Lib.hid q1
      replace q3 := Lib.hid q3
      go_wp2_with fail
      go_ret
      first | exact .inl ⟨d', r, cur', T, q1.out, rfl, q3.out⟩ | exact .inr ⟨q1.out, rfl, q3.out⟩
  · have tc : w.cell? ⟨rb, 10, none⟩ = some (.func (.func 133) #[] #[]) := (cell_row ht 10).trans rfl
    have cN := Lib.hid (fun (W : World) (s : Same w W) => sec_10.at s hp hD hl hne hB h6 h7 h8 h9)
    clear hp hD h6 h7 h8 h9 ht hl
    simp only [Int.natCast_zero, Int.cast_ofNat_Int] at hi
    go_enter Tryz.func100, Tryz.ntmps100
    go_wp2_with fail
    go_still_tail 5, (by kernel_rfl)
    change wpList _ _ _ _ _ w.drew
    go_wp2_with fail
    refine Calls.mono (cN.out _ (same_drew _)) ?_
    intro e1 w1 hq
    rcases hq with ⟨d', r, cur', T, q1, rfl, q3⟩ | ⟨q1, rfl, q3⟩
    all_goals
      replace q1 := Lib.hid q1
      replace q3 := Lib.hid q3
      go_wp2_with fail
      go_ret
      first | exact .inl ⟨d', r, cur', T, q1.out, rfl, q3.out⟩ | exact .inr ⟨q1.out, rfl, q3.out⟩
  · have tc : w.cell? ⟨rb, 11, none⟩ = some (.func (.func 134) #[] #[]) := (cell_row ht 11).trans rfl
    have cN := Lib.hid (fun (W : World) (s : Same w W) => sec_11.at s hp hD hl hne hB h6 h7 h8 h9)
    clear hp hD h6 h7 h8 h9 ht hl
    simp only [Int.natCast_zero, Int.cast_ofNat_Int] at hi
    go_enter Tryz.func100, Tryz.ntmps100
    go_wp2_with fail
    go_still_tail 5, (by kernel_rfl)
    change wpList _ _ _ _ _ w.drew
    go_wp2_with fail
    refine Calls.mono (cN.out _ (same_drew _)) ?_
    intro e1 w1 hq
    rcases hq with ⟨d', r, cur', T, q1, rfl, q3⟩ | ⟨q1, rfl, q3⟩
    all_goals
      replace q1 := Lib.hid q1
      replace q3 := Lib.hid q3
      go_wp2_with fail
      go_ret
      first | exact .inl ⟨d', r, cur', T, q1.out, rfl, q3.out⟩ | exact .inr ⟨q1.out, rfl, q3.out⟩
end Go.Proofs.YtilaheifccjjeaaGreat
namespace Go.Proofs.YtilaheifccjjeaaGreat
open Go.RowKit
/-- What reading a section of so many bytes leaves. -/
def SzPost (id B P D : Nat) (S : Nat → Prop) (last : Nat) (d : M.Dm) (bs : List Nat) (w : World) (e : Ending) (w' : World) : Prop :=
  (∃ d' r cur' T, M.sectS id d bs = some (d', r) ∧ e = .returned (.bool true) ∧ PAt B w' P r ∧ (∀ k, T k → S k ∨ Since w.heap.size w' k) ∧ Dst w' T D (max last id) d' cur' ∧ Kb (fun k => k = P ∨ k = D) w w') ∨
  (M.sectS id d bs = none ∧ e = .returned (.bool false) ∧ Kb (fun k => k = P ∨ k = D) w w')
set_option maxRecDepth 100000 in
set_option maxHeartbeats 4000000 in
theorem sized_sec (id B P D last rb ib db : Nat) (d : M.Dm) (cur : Array Value) (S : Nat → Prop) (bs : List Nat) (w : World) (hid : id < 12) (hp : PAt B w P bs) (hD : Dst w S D last d cur) (hl : id = 0 ∨ last < id) (hne : D ≠ P) (hB : B ≤ D) (h6 : ¬ S P) (h7 : ¬ S D) (h8 : ∀ k, S k → k < w.heap.size) (h9 : ∀ v, cur[2]? = some v → v.ownBlock ≠ some P)
    (ht : w.heap[rb]? = some (.cells secTab 148 (0, 0))) (hi : w.cell? ⟨ib, 0, none⟩ = some (.int .i64 (id : Nat))) (hd : w.cell? ⟨db, 0, none⟩ = some (.pointer (some ⟨D, 0, none⟩))) (hrb : rb ≠ P) (hib : ib ≠ P) (hdb : db ≠ P) :
    Calls Tryz.prog 99 #[.pointer (some ⟨P, 0, none⟩), .func (.func 100) #[] #[.pointer (some ⟨rb, 0, none⟩), .pointer (some ⟨ib, 0, none⟩), .pointer (some ⟨db, 0, none⟩)]] w (SzPost id B P D S last d bs w) := by
  have hv := Lib.hid (show M.sectS id d bs = (M.cPiece.rd bs).bind fun p => (M.sect id d p.1).bind fun q => match q.2 with | [] => some (q.1, p.2) | _ => none from rfl)
  have hPl := hp.lt
  have hPlo := hp.lo
  have hDl := lt_row hD.row
  have hrl := lt_row ht
  have hil := World.block_lt_of_cell? w ⟨ib, 0, none⟩ hi
  have hdl := World.block_lt_of_cell? w ⟨db, 0, none⟩ hd
  have ha := Lib.hid (hp.alloc (.cells #[.slice none 0 0] 105))
  replace hD := Lib.hid hD
  replace h6 := Lib.hid h6
  replace h7 := Lib.hid h7
  replace h8 := Lib.hid h8
  replace ht := Lib.hid ht
  replace hi := Lib.hid hi
  replace hd := Lib.hid hd
  clear hp
  go_enter Tryz.func99, Tryz.ntmps99
  go_wp2_with fail
  refine (mpiece_any B P w.heap.size 0 105 #[.slice none 0 0] (.slice none 0 0) bs _ ha.out (heap_alloc_new w _) rfl (by omega) (by omega)).mono ?_
  rintro e1 w1 (⟨x, r1, A, c, hrd, rfl, p1, c1, hc, hbx1, hxl, fr⟩ | ⟨hrd, rfl, kb⟩)
  · rw [hrd] at hv
    simp only [Option.bind_some] at hv
    have kb := kb_new fr.kb
    have hs1 : w.heap.size < w1.heap.size := by have := fr.kb.size; simp at this; omega
    have pin := inner_at (by omega) fr c1 hc hbx1 hxl
    have ag : Agree S w w1 := fun k hk => kb.block k (h8.out k hk) (fun e => h6.out (e ▸ hk))
    have hD1 : Dst w1 S D last d cur := hD.out.keepAll ag (fun _ h => h) (kb.block D hDl hne) (hD.out.hkeep h9 (kb_g kb) (fun k hk => .inl hk) rfl)
    have h9' : ∀ v, cur[2]? = some v → v.ownBlock ≠ some w.heap.size := fun v hv hg => by
      obtain ⟨v', ty, cc, q1, q2, _⟩ := hD.out.f2
      rw [hv] at q1
      cases q1
      have := (q2.lt _ hg).2
      omega
    have cN := Lib.hid (sec1_any id B w.heap.size D last rb ib db d cur S x w1 hid pin hD1 hl (by omega) hB (fun h => by have := h8.out _ h; omega) h7.out (fun k hk => by have := h8.out k hk; omega) h9' (by rw [kb.block rb hrl hrb]; exact ht.out) ((World.cell?_of_block (w := w) (kb.block ib hil hib)).trans hi.out) ((World.cell?_of_block (w := w) (kb.block db hdl hdb)).trans hd.out))
    replace kb := Lib.hid kb
    replace p1 := Lib.hid p1
    clear fr hc hbx1 hxl pin ag hD1 h9'
    go_wp2_with fail
    refine cN.out.mono ?_
    rintro e2 w2 (⟨d', r2, cur', T, q1, rfl, p2, hT, dst, kb2⟩ | ⟨q1, rfl, kb2⟩)
    · rw [q1] at hv
      simp only [Option.bind_some] at hv
      have hs2 := kb2.size
      have k2 : Kb (fun k => k = P ∨ k = D) w w2 := ⟨kb2.os.trans kb.out.os, kb2.tape.trans kb.out.tape, kb2.output.trans kb.out.output, by omega, fun k hk hn => by rw [kb2.block k (by omega) (by omega)]; exact kb.out.block k hk (by omega)⟩
      have p3 : PAt B w2 P r1 := p1.out.agree fun k hk => kb2.block k (by rcases hk with hk | rfl <;> omega) (by rcases hk with hk | rfl <;> omega)
      obtain ⟨A2, c2, hi2, _⟩ := p2.ex
      have ci : w2.cell? ⟨w.heap.size, 0, none⟩ = some (.slice A2 r2.length c2) := cell_row hi2 0
      have fin := Lib.hid (show M.sectS id d bs = some (d', r1) → SzPost id B P D S last d bs w (.returned (.bool true)) w2 from fun e => .inl ⟨d', r1, cur', T, e, rfl, p3, fun b hb => by rcases hT b hb with hb | hb; exact .inl hb; exact .inr ⟨by have := hb.1; omega, hb.2⟩, dst, k2⟩)
      replace k2 := Lib.hid k2
      clear p2 dst kb2 p3 hi2 c1
      cases r2 with
      | nil =>
        simp only [List.length_nil] at ci
        go_wp2_with fail
        go_ret
        exact fin.out hv.out
      | cons b0 rr =>
        have hne0 : (((b0 :: rr).length : Int) == 0) = false := by rw [beq_eq_false_iff_ne]; simp; omega
        obtain ⟨m, hm⟩ : ∃ m, m = (b0 :: rr).length := ⟨_, rfl⟩
        rw [← hm] at ci hne0
        replace hm := Lib.hid hm
        go_wp2_with fail
        go_ret
        exact .inr ⟨hv.out, rfl, k2.out⟩
    · rw [q1] at hv
      have k2 := Lib.hid (show Kb (fun k => k = P ∨ k = D) w w2 from ⟨kb2.os.trans kb.out.os, kb2.tape.trans kb.out.tape, kb2.output.trans kb.out.output, by have := kb2.size; omega, fun k hk hn => by rw [kb2.block k (by omega) (by omega)]; exact kb.out.block k hk (by omega)⟩)
      clear kb2
      go_wp2_with fail
      go_ret
      exact .inr ⟨hv.out, rfl, k2.out⟩
  · rw [hrd] at hv
    replace kb := Lib.hid (kb_new kb)
    go_wp2_with fail
    go_ret
    exact .inr ⟨hv.out, rfl, kb_g kb.out⟩
theorem HAt.neP {w : World} {S : Nat → Prop} {B P D : Nat} {bs : List Nat} {cur : Array Value} {x : List M.Fn} (h : HAt w S D cur x) (hp : PAt B w P bs) : ∀ v, cur[2]? = some v → v.ownBlock ≠ some P := fun v hv hg => by
  obtain ⟨v', ty, cc, q1, q2, _⟩ := h
  rw [hv] at q1
  cases q1
  obtain ⟨A, c, hP, _⟩ := hp.ex
  rcases q2.2 with ⟨rfl, _⟩ | ⟨g, cap, cu, rfl, _, hgg, _, _, hsz, _⟩
  · cases hg
  · have e : g = P := by simpa [Value.ownBlock] using hg
    subst e
    rw [hP] at hgg
    injection hgg with hgg
    injection hgg with e1
    rw [← e1] at hsz
    simp at hsz
    omega
/-- What the loop over the sections keeps up. -/
def SecRel (B P D rb : Nat) (w : World) (total : Option M.Dm) (s6 : Value) (w' : World) : Prop :=
  ∃ (last : Nat) (d : M.Dm) (q : List Nat) (cur : Array Value) (T : Nat → Prop), last < 12 ∧ s6 = .int .i64 (last : Nat) ∧ PAt B w' P q ∧ (∀ k, T k → Since w.heap.size w' k) ∧ Dst w' T D last d cur ∧ Kb (fun k => k = P ∨ k = D) w w' ∧ w'.heap[rb]? = some (.cells secTab 148 (0, 0)) ∧ w'.cell? ⟨w.heap.size, 0, none⟩ = some (.pointer (some ⟨D, 0, none⟩)) ∧ total = M.sects q.length last d q
def SsPost (B P D : Nat) (bs : List Nat) (w : World) (e : Ending) (w' : World) : Prop :=
  (∃ d' last cur T, M.sects bs.length 0 M.dm0 bs = some d' ∧ e = .returned (.bool true) ∧ (∀ k, T k → Since w.heap.size w' k) ∧ Dst w' T D last d' cur ∧ Kb (fun k => k = P ∨ k = D) w w') ∨
  (M.sects bs.length 0 M.dm0 bs = none ∧ e = .returned (.bool false) ∧ Kb (fun k => k = P ∨ k = D) w w')
def lenP (w : World) (P : Nat) : Nat := match w.cell? ⟨P, 0, none⟩ with | some (.slice _ l _) => l | _ => 0
def secZ : Array Value := Array.replicate 12 .nilFunc
theorem zero_sec (w : World) : (zeroValue 148).run Tryz.prog w = .ok (.agg secZ) w := by kernel_rfl
theorem sec_info : (Tryz.prog.info? 148).map (·.size) = some secTab.size := by kernel_rfl
theorem sec_under : Tryz.prog.underlying 148 = some (.array 12 147) := by kernel_rfl
theorem sec_size : secZ.size = secTab.size := by kernel_rfl
theorem sec_one : secTab.all (·.oneCell') = true := by kernel_rfl
theorem wpList_buildAs {P : Program} {ops : Array Oper} {rest : List Oper} {o : Oper} {a : Act} {w : World} {Q : Exit → Act → World → Prop} (hg : o.guard = none) (t : TypeId) (parts : Array (Nat × Operand)) (ho : o.op = .build t parts) (cells : Array Value)
    (hc : P.built t (parts.map fun (i, x) => (i, a.eval x)).toList = some cells)
    (h : wpList P ops Q rest (a.put o.dst (.agg cells)) w) : wpList P ops Q (o :: rest) a w :=
  wpList_build hg t parts ho (by rw [hc]; rfl) (by rw [hc]; exact h)
theorem wpList_storeNew {P : Program} {ops : Array Oper} {rest : List Oper} {o : Oper} {a : Act} {w : World} {Q : Exit → Act → World → Prop} (hgd : o.guard = none) (ty : TypeId) (x y : Operand) (ho : o.op = .store ty x y)
    (c c' : Array Value) (hx : a.eval x = .pointer (some ⟨w.heap.size, 0, none⟩)) (hy : a.eval y = .agg c') (hi : (P.info? ty).map (·.size) = some c'.size)
    (hold : c.size = c'.size) (h1 : c'.all (·.oneCell') = true)
    (h : wpList P ops Q rest (a.put o.dst undef) (w.alloc (.cells c' ty))) : wpList P ops Q (o :: rest) a (w.alloc (.cells c ty)) :=
  wpList_store_row hgd ty x y ho w.heap.size c' hx hy ty c (heap_alloc_last w _) hi hold h1 (by rw [World.setRow_alloc_new]; exact h)
set_option maxRecDepth 100000 in
theorem sectionReaders_any (w : World) : Calls Tryz.prog 98 #[] w fun e w' => e = .returned (.agg secTab) ∧ Below w.heap.size w w' := by
  have hz := zero_sec
  go_enter Tryz.func98, Tryz.ntmps98
  go_wp2_with (first | (refine wpList_buildAs rfl 148 _ rfl secTab (by kernel_rfl) ?_) | (refine wpList_storeNew rfl 148 _ _ rfl secZ secTab rfl rfl sec_info sec_size sec_one ?_))
  refine bodyPost_ret (results_cell_row rfl _ _ w.heap.size _ secTab _ _ rfl (heap_alloc_last w _) sec_under rfl sec_info) rfl ?_
  exact ⟨rfl, (Below.refl _ _).alloc (Nat.le_refl _) _⟩
theorem lenP_eq {B : Nat} {w : World} {P : Nat} {q : List Nat} (h : PAt B w P q) : lenP w P = q.length := by
  obtain ⟨A, c, h1, _⟩ := h.ex
  unfold lenP
  rw [cell_row h1 0]
  rfl
set_option maxRecDepth 100000 in
set_option maxHeartbeats 8000000 in
theorem sections_any (B P D : Nat) (cur : Array Value) (bs : List Nat) (w : World) (hp : PAt B w P bs) (hD : Dst w (fun _ => False) D 0 M.dm0 cur) (h2 : cur[2]? = some (.slice none 0 0)) (hne : D ≠ P) (hB : B ≤ D) :
    Calls Tryz.prog 72 #[.pointer (some ⟨D, 0, none⟩), .pointer (some ⟨P, 0, none⟩)] w (SsPost B P D bs w) := by
  have hPl := hp.lt
  have hPlo := hp.lo
  have hDl := lt_row hD.row
  replace hp := Lib.hid hp
  replace hD := Lib.hid hD
  replace h2 := Lib.hid h2
  go_enter Tryz.func72, Tryz.ntmps72
  have hz := zero_sec
  go_wp2_with fail
  refine (sectionReaders_any _).mono ?_
  rintro e0 w0 ⟨rfl, b0⟩
  have hs0 : w.heap.size < w0.heap.size := by have := b0.size; simp at this; omega
  have b1 : Below w.heap.size w w0 := ((Below.refl _ _).alloc (Nat.le_refl _) _).trans (b0.mono (by simp))
  have hcb : w0.cell? ⟨w.heap.size, 0, none⟩ = some (.pointer (some ⟨D, 0, none⟩)) := by rw [b0.cell (p := ⟨w.heap.size, 0, none⟩) (by simp)]; simp
  obtain ⟨rb, hrb⟩ : ∃ rb, rb = w0.heap.size := ⟨_, rfl⟩
  have rel0 := Lib.hid (show SecRel B P D rb w (M.sects bs.length 0 M.dm0 bs) (.int .i64 ((0 : Nat) : Int)) (w0.alloc (.cells secTab 148)) from by
    have b2 : Below w.heap.size w (w0.alloc (.cells secTab 148)) := b1.alloc (by omega) _
    refine ⟨0, M.dm0, bs, cur, fun _ => False, by omega, rfl, hp.out.later b2, fun k hk => hk.elim, hD.out.keepAll (fun k hk => hk.elim) (fun k hk => hk) (b2.block D hDl) (hD.out.hkeep (P := P) (fun v hv hg => by rw [h2.out] at hv; cases hv; cases hg) (.of_below b2) (fun k hk => hk.elim) rfl), .of_below b2, ?_, ?_, rfl⟩
    · rw [hrb]; exact heap_alloc_new w0 _
    · rw [World.cell?_of_block (w := w0) (Below.heap_alloc _ _ _ hs0)]; exact hcb)
  clear b0 b1 hcb
  go_wp2_with (refine wpList_storeNew rfl 148 _ _ rfl secZ secTab rfl rfl sec_info sec_size sec_one ?_)
  rw [← hrb]
  replace hrb := Lib.hid hrb
  go_loopw [6] (fun s6 w' => SecRel B P D rb w (M.sects bs.length 0 M.dm0 bs) s6 w') (fun _ w' => lenP w' P)
  case atStart => exact rel0.out
  case round =>
    obtain ⟨last, d, q, cur2, T, hlast, rfl, p2, hT, dst, kb, htab, hbox, htot⟩ := hrel
    replace hT := Lib.hid hT
    have h9 := Lib.hid (dst.f2.neP p2)
    have hlenP := Lib.hid (lenP_eq p2)
    obtain ⟨A, c, hP, hc1, hc2, hb3⟩ := p2.ex
    have c0 : wr.cell? ⟨P, 0, none⟩ = some (.slice A q.length c) := cell_row hP 0
    have hws := kb.size
    clear rel0
    cases q with
    | nil =>
      have fin := Lib.hid (show SsPost B P D bs w (.returned (.bool true)) wr from .inl ⟨d, last, cur2, T, by rw [htot]; rfl, rfl, hT.out, dst, kb⟩)
      simp only [List.length_nil] at c0
      clear p2 dst kb htab hbox htot hP hb3
      go_wp2_with fail
      go_ret
      exact fin.out
    | cons b r =>
      obtain ⟨m, hm⟩ : ∃ m, m = (b :: r).length := ⟨_, rfl⟩
      have hm1 : 1 ≤ m := by rw [hm]; simp
      rw [← hm] at c0
      have t0 : decide ((0 : Int) < (m : Int)) = true := by simp; omega
      have pa := Lib.hid (p2.alloc (.cells #[.int .i64 0] 3))
      have hrl := lt_row htab
      have hbxl := World.block_lt_of_cell? wr ⟨w.heap.size, 0, none⟩ hbox
      have hb256 : b < 256 := by
        obtain ⟨_, _, _, h4, _⟩ := hb3 0 (by simp)
        exact h4
      replace hm := Lib.hid hm
      replace dst := Lib.hid dst
      replace kb := Lib.hid kb
      replace htab := Lib.hid htab
      replace hbox := Lib.hid hbox
      replace htot := Lib.hid htot
      clear p2 hP hb3 hc1 hc2
      go_wp2_with fail
      refine ((mbyte_ok (.int .i64 0)).yes (x := (b : Int)) (r := r) rfl pa.out (heap_alloc_new wr _) (one_row _) (by omega) (by omega) ⟨rfl, rfl, rfl, rfl⟩).mono ?_
      rintro e1 w1 ⟨rfl, p3, ⟨cs, ⟨rfl, _⟩, hcs⟩, fr3⟩
      have ci : w1.cell? ⟨wr.heap.size, 0, none⟩ = some (.int .i64 (b : Nat)) := hcs 0 _ rfl
      have kb3 := kb_new fr3.kb
      have hs3 : wr.heap.size < w1.heap.size := by have := fr3.kb.size; simp at this; omega
      have hsm := p3.small
      have tot2 := Lib.hid (show M.sects bs.length 0 M.dm0 bs = if 12 ≤ b ∨ (b ≠ 0 ∧ b ≤ last) then none else (M.sectS b d r).bind fun q => M.sects r.length (max last b) q.1 q.2 from htot.out)
      have kb4 := Lib.hid (kb.out.trans (kb_g (g := D) kb3))
      by_cases hbad : 12 ≤ b ∨ (b ≠ 0 ∧ b ≤ last)
      · rw [if_pos hbad] at tot2
        clear p3 fr3 hcs kb3
        by_cases h12 : 12 ≤ b
        · have t1 : decide ((12 : Int) ≤ (b : Int)) = true := by simp; omega
          go_wp2_with fail
          go_ret
          exact .inr ⟨tot2.out, rfl, kb4.out⟩
        · have t1 : decide ((12 : Int) ≤ (b : Int)) = false := by simp; omega
          have t2 : ((b : Int) != 0) = true := by simp; omega
          have t3 : decide ((b : Int) ≤ (last : Int)) = true := by simp; omega
          have t3' : decide (b ≤ last) = true := by simp; omega
          have t3'' : b ≤ last := by omega
          replace hbad := Lib.hid hbad
          go_wp2_with fail
          go_ret
          exact .inr ⟨tot2.out, rfl, kb4.out⟩
      · rw [if_neg hbad] at tot2
        have hid : b < 12 := by omega
        have hlid : b = 0 ∨ last < b := by omega
        have t1 : decide ((12 : Int) ≤ (b : Int)) = false := by simp; omega
        have hmx : max (last : Int) (b : Int) = ((max last b : Nat) : Int) := by omega
        have hDr : D < wr.heap.size := lt_row dst.out.row
        have ag : Agree T wr w1 := fun k hk => kb3.block k (hT.out k hk).2 (by have := (hT.out k hk).1; omega)
        have h9 := h9.out
        have dst1 : Dst w1 T D last d cur2 := dst.out.keepAll ag (fun _ h => h) (kb3.block D hDr hne) (dst.out.hkeep h9 (kb_g kb3) (fun k hk => .inl hk) rfl)
        have cS := Lib.hid (fun (W : World) (s : Same w1 W) => sized_sec b B P D last rb wr.heap.size w.heap.size d cur2 T r W hid (s.pat p3) (dst1.same s) hlid hne hB (fun h => by have := (hT.out _ h).1; omega) (fun h => by have := (hT.out _ h).1; omega) (fun k hk => by rw [s.heap]; have := (hT.out k hk).2; omega) h9 (by rw [s.heap, kb3.block rb hrl (by have := hrb.out; omega)]; exact htab.out) ((s.pcell _).trans ci) ((s.pcell _).trans ((World.cell?_of_block (w := wr) (kb3.block w.heap.size hbxl (by omega))).trans hbox.out)) (by have := hrb.out; omega) (by omega) (by omega))
        have stp := Lib.hid (show ∀ d' r' cur' T2 w2, M.sectS b d r = some (d', r') → PAt B w2 P r' → (∀ k, T2 k → T k ∨ Since w1.heap.size w2 k) → Dst w2 T2 D (max last b) d' cur' → Kb (fun k => k = P ∨ k = D) w1 w2 → SecRel B P D rb w (M.sects bs.length 0 M.dm0 bs) (.int .i64 ((max last b : Nat) : Int)) w2 ∧ lenP w2 P < lenP wr P from fun d' r' cur' T2 w2 q1 q3 hT2 q4 q5 => by
          have hs5 := q5.size
          have hsh := M.sectS_short q1
          refine ⟨⟨max last b, d', r', cur', T2, by omega, rfl, q3, fun k hk => by rcases hT2 k hk with hk | hk; exact ⟨(hT.out k hk).1, by have := (hT.out k hk).2; omega⟩; exact ⟨by have := hk.1; omega, hk.2⟩, q4, kb4.out.trans q5, ?_, ?_, ?_⟩, ?_⟩
          · rw [q5.block rb (by omega) (by have := hrb.out; omega), kb3.block rb hrl (by have := hrb.out; omega)]; exact htab.out
          · rw [World.cell?_of_block (w := w1) (q5.block w.heap.size (by omega) (by omega)), World.cell?_of_block (w := wr) (kb3.block w.heap.size hbxl (by omega))]; exact hbox.out
          · rw [tot2.out, q1]
            exact M.sects_fuel _ _ _ _ _ (by simpa using hsh) (Nat.le_refl _)
          · rw [lenP_eq q3, hlenP.out]
            simp
            omega)
        replace hbad := Lib.hid hbad
        clear ag dst1 fr3 hcs kb3 p3 hmx h9
        by_cases hb0 : b = 0
        · subst hb0
          have hmxl : max last 0 = last := Nat.max_eq_left (Nat.zero_le _)
          replace hmxl := Lib.hid hmxl
          have t9 : decide ((0 : Int) < (last : Int) ∨ (0 : Int) = (last : Int)) = true := by simp; omega
          go_wp2_with fail
          all_goals (
            refine Calls.mono (cS.out _ ⟨rfl, rfl, rfl, rfl⟩) ?_
            rintro e2 w2 (⟨d', r', cur', T2, q1, rfl, q3, hT2, q4, q5⟩ | ⟨q1, rfl, q5⟩)
            · have fin := stp.out d' r' cur' T2 w2 q1 q3 hT2 q4 q5
              rw [hmxl.out] at fin
              replace fin := Lib.hid fin
              clear q3 q4 q5 hT2
              go_wp2_with fail
              exact fin.out
            · have fin := Lib.hid (show SsPost B P D bs w (.returned (.bool false)) w2 from .inr ⟨by rw [tot2.out, q1]; rfl, rfl, kb4.out.trans q5⟩)
              clear q5
              go_wp2_with fail
              go_ret
              exact fin.out)
        · have hlb : last < b := by omega
          have hmxl : max last b = b := Nat.max_eq_right (Nat.le_of_lt hlb)
          replace hmxl := Lib.hid hmxl
          have t2 : ((b : Int) != 0) = true := by simp; omega
          have t3 : decide ((b : Int) ≤ (last : Int)) = false := by simp; omega
          have t3' : decide (b ≤ last) = false := by simp; omega
          go_wp2_with fail
          all_goals (
            refine Calls.mono (cS.out _ ⟨rfl, rfl, rfl, rfl⟩) ?_
            rintro e2 w2 (⟨d', r', cur', T2, q1, rfl, q3, hT2, q4, q5⟩ | ⟨q1, rfl, q5⟩)
            · have fin := stp.out d' r' cur' T2 w2 q1 q3 hT2 q4 q5
              rw [hmxl.out] at fin
              replace fin := Lib.hid fin
              clear q3 q4 q5 hT2
              go_wp2_with fail
              exact fin.out
            · have fin := Lib.hid (show SsPost B P D bs w (.returned (.bool false)) w2 from .inr ⟨by rw [tot2.out, q1]; rfl, rfl, kb4.out.trans q5⟩)
              clear q5
              go_wp2_with fail
              go_ret
              exact fin.out)
end Go.Proofs.YtilaheifccjjeaaGreat
namespace Go.Proofs.YtilaheifccjjeaaGreat
open Go.RowKit
theorem RowOf.split {α : Type} {R : Rep α} {w : World} {S : Nat → Prop} : ∀ {xs ys : List α} {cs : List Value}, RowOf R w S (xs ++ ys) cs → ∃ c d, cs = c ++ d ∧ RowOf R w S xs c ∧ RowOf R w S ys d
  | [], ys, cs, h => ⟨[], cs, rfl, rfl, h⟩
  | x :: t, ys, cs, ⟨c, d, h1, h2, h3⟩ => by
    obtain ⟨c1, d1, q1, q2, q3⟩ := h3.split
    exact ⟨c ++ c1, d1, by rw [h1, q1, List.append_assoc], ⟨c, c1, rfl, h2, q2⟩, q3⟩
theorem RowOf.app {α : Type} {R : Rep α} {w : World} {S : Nat → Prop} {ys : List α} {ds : List Value} (hy : RowOf R w S ys ds) : ∀ {xs : List α} {cs : List Value}, RowOf R w S xs cs → RowOf R w S (xs ++ ys) (cs ++ ds)
  | [], _, h => by
    have h : _ = [] := h
    subst h
    exact hy
  | _ :: _, _, ⟨c1, d1, h1, h2, h3⟩ => ⟨c1, d1 ++ ds, by rw [h1, List.append_assoc], h2, RowOf.app hy h3⟩
theorem RowOf.len {α : Type} {R : Rep α} {w : World} {S : Nat → Prop} : ∀ {xs : List α} {cs : List Value}, RowOf R w S xs cs → cs.length = xs.length * R.sz
  | [], _, h => by
    have h : _ = [] := h
    subst h
    simp
  | x :: t, _, ⟨c1, d1, h1, h2, h3⟩ => by rw [h1, List.length_append, R.len h2, h3.len, List.length_cons, Nat.succ_mul]; omega
/-- Two cells of a row of one's own have been written. -/
theorem own_two {w : World} {ty n k g cap : Nat} {pre post : List Value} {a l b l' b' : Value} (h : w.ownsRow 0 ty 3 (.slice (some ⟨g, 0, none⟩) n cap) n (pre ++ [a, l, b] ++ post)) (hp : pre.length = k * 3) :
    ((w.setCell ⟨g, k * 3 + 1, none⟩ l').setCell ⟨g, k * 3 + 2, none⟩ b').ownsRow 0 ty 3 (.slice (some ⟨g, 0, none⟩) n cap) n (pre ++ [a, l', b'] ++ post) := by
  rcases h.2 with ⟨e, _⟩ | ⟨g', cap', cur, e, hb, hgg, h1, h2, h3, h4⟩
  · cases e
  · cases e
    have hlen : (pre ++ [a, l', b'] ++ post).length = n * 3 := by have := h.1; simp at this ⊢; omega
    refine ⟨hlen, .inr ⟨g, cap, _, rfl, hb, row_set (row_set hgg l') b', h1, h2, by simpa using h3, ?_⟩⟩
    apply List.ext_getElem?
    intro i
    have h5 : (cur.toList.take (n * 3))[i]? = (pre ++ [a, l, b] ++ post)[i]? := by rw [h4]
    rw [List.getElem?_take] at h5 ⊢
    by_cases hi : i < n * 3
    · rw [if_pos hi] at h5 ⊢
      have hcs : i < cur.size := by rw [h3]; have := Nat.mul_le_mul_right 3 h1; omega
      rw [Array.getElem?_toList] at h5 ⊢
      rw [Array.getElem?_setIfInBounds, Array.getElem?_setIfInBounds]
      by_cases i1 : k * 3 + 2 = i
      · rw [if_pos i1, if_pos (by simp; omega)]
        rw [List.append_assoc, List.getElem?_append_right (by omega), List.getElem?_append_left (by simp; omega)]
        have : i - pre.length = 2 := by omega
        rw [this]; rfl
      · rw [if_neg i1]
        by_cases i2 : k * 3 + 1 = i
        · rw [if_pos i2, if_pos (by omega)]
          rw [List.append_assoc, List.getElem?_append_right (by omega), List.getElem?_append_left (by simp; omega)]
          have : i - pre.length = 1 := by omega
          rw [this]; rfl
        · rw [if_neg i2, h5]
          simp only [List.append_assoc]
          by_cases i3 : i < pre.length
          · rw [List.getElem?_append_left i3, List.getElem?_append_left i3]
          · have e1 := List.getElem?_append_right (l₁ := pre) (l₂ := [a, l, b] ++ post) (i := i) (by omega)
            have e2 := List.getElem?_append_right (l₁ := pre) (l₂ := [a, l', b'] ++ post) (i := i) (by omega)
            rw [e1, e2]
            by_cases i4 : i - pre.length < 3
            · have : i - pre.length = 0 := by omega
              rw [this]; rfl
            · have e3 := List.getElem?_append_right (l₁ := [a, l, b]) (l₂ := post) (i := i - pre.length) (by simp; omega)
              have e4 := List.getElem?_append_right (l₁ := [a, l', b']) (l₂ := post) (i := i - pre.length) (by simp; omega)
              rw [e3, e4]
              rfl
    · rw [if_neg hi, List.getElem?_eq_none (by rw [hlen]; omega)]
/-- Functions, the first k of them with their bodies. -/
def mixK (fs bs : List M.Fn) (k : Nat) : List M.Fn := (M.joinM fs bs).take k ++ fs.drop k
theorem joinM_len : ∀ (fs bs : List M.Fn), bs.length = fs.length → (M.joinM fs bs).length = fs.length
  | [], [], _ => rfl
  | f :: fs, b :: bs, h => by simp [M.joinM, joinM_len fs bs (by simpa using h)]
  | [], _ :: _, h => by simp at h
  | _ :: _, [], h => by simp at h
theorem joinM_nth : ∀ (fs bs : List M.Fn) (k : Nat) (f b : M.Fn), fs[k]? = some f → bs[k]? = some b → (M.joinM fs bs)[k]? = some ⟨f.ty, b.lo, b.bo⟩
  | f :: fs, b :: bs, 0, f', b', h1, h2 => by
    obtain rfl : f = f' := by simpa using h1
    obtain rfl : b = b' := by simpa using h2
    rfl
  | f :: fs, b :: bs, k + 1, f', b', h1, h2 => joinM_nth fs bs k f' b' (by simpa using h1) (by simpa using h2)
  | [], _, _, _, _, h1, _ => by simp at h1
  | _ :: _, [], _, _, _, _, h2 => by simp at h2
theorem mixK_step {fs bs : List M.Fn} {k : Nat} {f b : M.Fn} (hl : bs.length = fs.length) (h1 : fs[k]? = some f) (h2 : bs[k]? = some b) :
    mixK fs bs k = (M.joinM fs bs).take k ++ [f] ++ fs.drop (k + 1) ∧ mixK fs bs (k + 1) = (M.joinM fs bs).take k ++ [⟨f.ty, b.lo, b.bo⟩] ++ fs.drop (k + 1) := by
  have hk : k < fs.length := (List.getElem?_eq_some_iff.1 h1).1
  have hj := joinM_nth fs bs k f b h1 h2
  constructor
  · unfold mixK
    rw [List.drop_eq_getElem_cons hk]
    have : fs[k] = f := by rw [List.getElem?_eq_getElem hk] at h1; simpa using h1
    rw [this]; simp
  · unfold mixK
    have hk2 : k < (M.joinM fs bs).length := (List.getElem?_eq_some_iff.1 hj).1
    have : (M.joinM fs bs)[k] = ⟨f.ty, b.lo, b.bo⟩ := by rw [List.getElem?_eq_getElem hk2] at hj; simpa using hj
    rw [← this, List.take_append_getElem hk2]
/-- What the loop of join keeps up. -/
def JRel (T : Nat → Prop) (fs bs : List M.Fn) (gF cap ty : Nat) (w : World) (i : Value) (w' : World) : Prop :=
  ∃ (k : Nat) (cc : List Value), k ≤ fs.length ∧ i = .int .i64 (k : Nat) ∧ w'.ownsRow 0 ty 3 (.slice (some ⟨gF, 0, none⟩) fs.length cap) fs.length cc ∧ RowOf rFn w' T (mixK fs bs k) cc ∧ Kb (· = gF) w w'
def JPost (T : Nat → Prop) (D last : Nat) (d : M.Dm) (cur : Array Value) (w : World) (e : Ending) (w' : World) : Prop :=
  (d.bodies.length = d.m.funcs.length ∧ e = .returned (.bool true) ∧ w'.heap[D]? = w.heap[D]? ∧ (∀ k, T k → w'.heap[k]? = w.heap[k]?) ∧ (∃ v, cur[2]? = some v ∧ Lst rFn w' (fun k => T k ∨ v.ownBlock = some k) v (M.joinM d.m.funcs d.bodies) ∧ ∀ g, v.ownBlock = some g → g < w'.heap.size) ∧ Below (D + 1) w w') ∨
  (¬ d.bodies.length = d.m.funcs.length ∧ e = .returned (.bool false) ∧ Below w.heap.size w w')
theorem lst_cur {w : World} {S : Nat → Prop} {cur : Array Value} {x : List M.Fn} (h : FAt w S cur 10 (rLst rFn) x) : ∃ v, cur[10]? = some v ∧ Lst rFn w S v x := by
  obtain ⟨v, h1, h2⟩ := h
  exact ⟨v, h1, rLst.lst h2⟩
set_option maxRecDepth 100000 in
set_option maxHeartbeats 8000000 in
theorem join_any (D last : Nat) (d : M.Dm) (cur : Array Value) (T : Nat → Prop) (w : World) (hD : Dst w T D last d cur) (hTD : ¬ T D) (hT : ∀ k, T k → k < w.heap.size) :
    Calls Tryz.prog 73 #[.pointer (some ⟨D, 0, none⟩)] w (JPost T D last d cur w) := by
  obtain ⟨v, ty, cc, hc2, own, hl2, hro, hsep⟩ := hD.f2
  obtain ⟨vb, hc10, lb⟩ := lst_cur hD.f10
  have hDl := lt_row hD.row
  have c2 : w.cell? ⟨D, 2, none⟩ = some v := (cell_row hD.row 2).trans hc2
  have c10 : w.cell? ⟨D, 10, none⟩ = some vb := (cell_row hD.row 10).trans hc10
  obtain ⟨Ab, cb, rfl, hb1, hb2, hb3⟩ := lb.form
  replace lb := Lib.hid lb
  replace hro := Lib.hid hro
  replace hD := Lib.hid hD
  obtain ⟨fs, hfs⟩ : ∃ fs, fs = d.m.funcs := ⟨_, rfl⟩
  obtain ⟨bs, hbs⟩ : ∃ bs, bs = d.bodies := ⟨_, rfl⟩
  unfold maxLen at hb3
  rw [← hfs] at own hl2 hro
  rw [← hbs] at lb c10 hb1 hb2
  replace hb3 := Lib.hid hb3
  replace hb1 := Lib.hid hb1
  obtain ⟨Av, cv, hvs⟩ : ∃ A c, v = .slice A fs.length c := by
    rcases own.2 with ⟨rfl, h0⟩ | ⟨g', cap, cu, rfl, _⟩
    · exact ⟨none, 0, by rw [h0]⟩
    · exact ⟨_, _, rfl⟩
  replace hfs := Lib.hid hfs
  replace hbs := Lib.hid hbs
  by_cases heq : bs.length = fs.length
  · have t1 : ((fs.length : Int) != (fs.length : Int)) = false := by simp
    rw [heq] at c10
    rcases own.2 with ⟨rfl, h0⟩ | ⟨gF, cap, cu, rfl, _, hgF, hcap, hcapm, _⟩
    · have hf0 : fs = [] := List.eq_nil_of_length_eq_zero h0
      have fin := Lib.hid (show ∀ W, Same w W → JPost T D last d cur w (.returned (.bool true)) W from fun W s => .inl ⟨by rw [← hfs.out, ← hbs.out]; exact heq, rfl, by rw [s.heap], fun k _ => by rw [s.heap], ⟨_, hc2, by rw [← hfs.out, hf0]; exact Lst.nil _ _ _, fun g hg => by cases hg⟩, ⟨s.os, s.tape, s.output, by rw [s.heap]; exact Nat.le_refl _, fun k _ => by rw [s.heap]⟩⟩)
      rw [h0] at c10
      replace own := Lib.hid own
      replace hsep := Lib.hid hsep
      replace heq := Lib.hid heq
      replace h0 := Lib.hid h0
      clear hvs t1
      go_enter Tryz.func73, Tryz.ntmps73
      go_wp2_with fail
      go_quiet (fail)
      go_wp2_with fail
      go_loopw [22] (fun i w' => i = .int .i64 0 ∧ w' = w.drewN nq) (fun _ _ => 0)
      case atStart => exact ⟨rfl, rfl⟩
      case round =>
        obtain ⟨rfl, rfl⟩ := hrel
        go_wp2_with fail
        go_ret
        exact fin.out _ ⟨rfl, rfl, rfl, rfl⟩
    · clear hvs
      obtain ⟨hTF, hFD'⟩ := hsep gF rfl
      have hFD : gF ≠ D := by omega
      have hFl := (own.lt gF rfl).2
      have rel0 := Lib.hid (show ∀ W, Same w W → JRel T fs bs gF cap ty w (.int .i64 ((0 : Nat) : Int)) W from fun W s => ⟨0, cc, by omega, rfl, ownsRow_agree own (fun _ _ => by rw [s.heap]), by
        have := hro.out
        unfold mixK
        simp only [List.take_zero, List.nil_append, List.drop_zero]
        exact this.agree (fun k hk => hk.elim) (fun k hk => hk.elim), ⟨s.os, s.tape, s.output, by rw [s.heap]; exact Nat.le_refl _, fun k _ _ => by rw [s.heap]⟩⟩)
      replace own := Lib.hid own
      replace hsep := Lib.hid hsep
      replace hgF := Lib.hid hgF
      replace hcapm := Lib.hid hcapm
      have heqH := Lib.hid heq
      go_enter Tryz.func73, Tryz.ntmps73
      go_wp2_with fail
      go_quiet (fail)
      go_wp2_with fail
      have rel1 := Lib.hid (rel0.out (w.drewN nq) ⟨rfl, rfl, rfl, rfl⟩)
      clear rel0
      generalize w.drewN nq = W at rel1 ⊢
      go_loopw [22] (fun i w' => JRel T fs bs gF cap ty w i w') (fun i _ => fs.length - (intOf i).toNat)
      case atStart => exact rel1.out
      case round =>
        obtain ⟨k, cc2, hk, rfl, own2, hro2, kb⟩ := hrel
        clear rel1
        have hws := kb.size
        have d2 : wr.cell? ⟨D, 2, none⟩ = some (.slice (some ⟨gF, 0, none⟩) fs.length cap) := (World.cell?_of_block (w := w) (kb.block D hDl (by omega))).trans c2
        by_cases hlt : k < fs.length
        · obtain ⟨f, hf⟩ : ∃ f, fs[k]? = some f := ⟨fs[k], List.getElem?_eq_getElem hlt⟩
          obtain ⟨b, hb⟩ : ∃ b, bs[k]? = some b := ⟨bs[k]'(by omega), List.getElem?_eq_getElem (by omega)⟩
          obtain ⟨gb, ob, cs, rfl, hTb, his, hcs⟩ := lb.out.nth hb
          obtain ⟨ca, cb', rfl, ⟨cd, ce, rfl, ⟨rfl, hr0⟩, ⟨vL, rfl, hL⟩⟩, ⟨vB, rfl, hB⟩⟩ := his
          have hbne : gb ≠ gF := fun e => hTF (e ▸ hTb)
          have same : wr.heap[gb]? = w.heap[gb]? := kb.block gb (hT gb hTb) hbne
          have k0 : wr.cell? ⟨gb, ob + k * 3, none⟩ = some (.int .i64 b.ty) := (World.cell?_of_block (w := w) same).trans (hcs 0 _ rfl)
          have k1 : wr.cell? ⟨gb, ob + k * 3 + 1, none⟩ = some vL := (World.cell?_of_block (w := w) same).trans (hcs 1 _ rfl)
          have k2 : wr.cell? ⟨gb, ob + k * 3 + 2, none⟩ = some vB := (World.cell?_of_block (w := w) same).trans (hcs 2 _ rfl)
          obtain ⟨AL, cL, rfl, _⟩ := hL.form
          obtain ⟨AB, cB, rfl, _⟩ := hB.form
          obtain ⟨e1, e2⟩ := mixK_step heqH.out hf hb
          rw [e1] at hro2
          obtain ⟨pf, post, rfl, hrA, hrC⟩ := hro2.split
          obtain ⟨pre, cf, rfl, hrP, hrF⟩ := hrA.split
          obtain ⟨c1, d1, rfl, hif, hd1⟩ := hrF
          have hd1 : d1 = [] := hd1
          subst hd1
          obtain ⟨ca2, cb2, rfl, ⟨cd2, ce2, rfl, ⟨rfl, hf0⟩, ⟨lv, rfl, _⟩⟩, ⟨bv, rfl, _⟩⟩ := hif
          have hpl : pre.length = k * 3 := by
            have := hrP.len
            rw [this, List.length_take, joinM_len fs bs heqH.out, Nat.min_eq_left (by omega)]
            rfl
          simp only [List.append_nil, List.cons_append, List.nil_append, List.append_assoc] at own2
          have hcell := fun i u hu => own2.cells (g := gF) rfl i u hu
          have z1 : wr.cell? ⟨gF, k * 3 + 1, none⟩ = some lv := by
            have := hcell (k * 3 + 1) lv (by rw [List.getElem?_append_right (by omega), hpl, Nat.add_sub_cancel_left]; rfl)
            rwa [add_none, Nat.zero_add] at this
          have z2 : wr.cell? ⟨gF, k * 3 + 2, none⟩ = some bv := by
            have := hcell (k * 3 + 2) bv (by rw [List.getElem?_append_right (by omega), hpl, Nat.add_sub_cancel_left]; rfl)
            rwa [add_none, Nat.zero_add] at this
          obtain ⟨cu2, hgu⟩ : ∃ cu2, wr.heap[gF]? = some (.cells cu2 ty (0, 0)) := by
            rcases own2.2 with ⟨e, _⟩ | ⟨g', cap', cu', e, _, hg', _⟩
            · cases e
            · cases e; exact ⟨cu', hg'⟩
          have y1 := frozen_row hgu (k * 3 + 1)
          have y2 := frozen_row hgu (k * 3 + 2)
          have hFr : gF < wr.heap.size := lt_row hgu
          have fin := Lib.hid (show JRel T fs bs gF cap ty w (.int .i64 ((k : Int) + 1)) (((wr.setCell ⟨gF, k * 3 + 1, none⟩ (.slice AL b.lo.length cL)).setCell ⟨gF, k * 3 + 2, none⟩ (.slice AB b.bo.len cB)).alloc (.cells #[.int .i64 b.ty, .slice AL b.lo.length cL, .slice AB b.bo.len cB] 64)).drew from by
            have oth : ∀ m, m ≠ gF → m < wr.heap.size → (((wr.setCell ⟨gF, k * 3 + 1, none⟩ (.slice AL b.lo.length cL)).setCell ⟨gF, k * 3 + 2, none⟩ (.slice AB b.bo.len cB)).alloc (.cells #[.int .i64 b.ty, .slice AL b.lo.length cL, .slice AB b.bo.len cB] 64)).drew.heap[m]? = wr.heap[m]? := fun m h1 h2 => by
              show (((wr.setCell _ _).setCell _ _).alloc _).heap[m]? = _
              rw [Below.heap_alloc _ _ _ (by simpa using h2), Below.heap_setCell _ _ _ _ (by show m ≠ gF; exact h1), Below.heap_setCell _ _ _ _ (by show m ≠ gF; exact h1)]
            have agT : Agree T wr (((wr.setCell ⟨gF, k * 3 + 1, none⟩ (.slice AL b.lo.length cL)).setCell ⟨gF, k * 3 + 2, none⟩ (.slice AB b.bo.len cB)).alloc (.cells #[.int .i64 b.ty, .slice AL b.lo.length cL, .slice AB b.bo.len cB] 64)).drew := fun m hm => oth m (fun e => hTF (e ▸ hm)) (by have := hT m hm; omega)
            have agW : Agree T w (((wr.setCell ⟨gF, k * 3 + 1, none⟩ (.slice AL b.lo.length cL)).setCell ⟨gF, k * 3 + 2, none⟩ (.slice AB b.bo.len cB)).alloc (.cells #[.int .i64 b.ty, .slice AL b.lo.length cL, .slice AB b.bo.len cB] 64)).drew := fun m hm => (agT m hm).trans (kb.block m (hT m hm) (fun e => hTF (e ▸ hm)))
            refine ⟨k + 1, pre ++ [.int .i64 f.ty, .slice AL b.lo.length cL, .slice AB b.bo.len cB] ++ post, by omega, by rw [Int.natCast_add]; rfl, ?_, ?_, ?_⟩
            · have o2 := own_two (k := k) (pre := pre) (post := post) (a := .int .i64 f.ty) (l := lv) (b := bv) (l' := .slice AL b.lo.length cL) (b' := .slice AB b.bo.len cB) (by rw [List.append_assoc]; exact own2) hpl
              exact ownsRow_agree (o2.alloc (.cells #[.int .i64 b.ty, .slice AL b.lo.length cL, .slice AB b.bo.len cB] 64)) (fun _ _ => rfl)
            · rw [e2]
              refine RowOf.app (hrC.agree agT (fun _ h => h)) (RowOf.app ?_ (hrP.agree agT (fun _ h => h)))
              exact ⟨[.int .i64 f.ty, .slice AL b.lo.length cL, .slice AB b.bo.len cB], [], rfl, ⟨[.int .i64 f.ty, .slice AL b.lo.length cL], [.slice AB b.bo.len cB], rfl, ⟨[.int .i64 f.ty], [.slice AL b.lo.length cL], rfl, ⟨rfl, hf0⟩, ⟨_, rfl, hL.agree agW (fun _ h => h)⟩⟩, ⟨_, rfl, hB.agree agW (fun _ h => h)⟩⟩, rfl⟩
            · exact ⟨kb.os, kb.tape, kb.output, by show w.heap.size ≤ (((wr.setCell _ _).setCell _ _).alloc _).heap.size; simp; omega, fun m hm hn => (oth m hn (by omega)).trans (kb.block m hm hn)⟩)
          clear hro2 hrA hrC hrP own2 hcell e1 e2 hgu hL hB hcs same lb
          have tlt : decide ((k : Int) < (fs.length : Int)) = true := by simp; omega
          have t5 : (0 : Int) ≤ (k : Int) := by omega
          have t6 : (k : Int) < (fs.length : Int) := by omega
          have t7 : (k : Int) < (bs.length : Int) := by omega
          have hDF : ¬ D = gF := fun e => hFD e.symm
          have hXF : ¬ wr.heap.size = gF := by omega
          have hFX : ¬ gF = wr.heap.size := by omega
          have hDX : ¬ D = wr.heap.size := by omega
          have hDr : D < wr.heap.size := by omega
          go_wp2_with fail
          go_region
          go_wp2_with fail
          exact ⟨fin.out, by simp [intOf]; omega⟩
        · have hkn : k = fs.length := by omega
          have tlt : decide ((k : Int) < (fs.length : Int)) = false := by simp; omega
          have fin := Lib.hid (show JPost T D last d cur w (.returned (.bool true)) wr from by
            refine .inl ⟨by rw [← hfs.out, ← hbs.out]; exact heqH.out, rfl, kb.block D hDl (by omega), fun k hk => kb.block k (hT k hk) (fun e => hTF (e ▸ hk)), ⟨_, hc2, ?_, fun g hg => (own2.lt g hg).2⟩, ⟨kb.os, kb.tape, kb.output, kb.size, fun k hk => kb.block k (by omega) (by omega)⟩⟩
            have hm : mixK fs bs k = M.joinM fs bs := by
              unfold mixK
              rw [hkn, List.drop_length, List.append_nil]
              exact List.take_of_length_le (by rw [joinM_len fs bs heqH.out]; exact Nat.le_refl _)
            rw [hm] at hro2
            rw [← hfs.out, ← hbs.out]
            have hjl := joinM_len fs bs heqH.out
            refine Lst.of_row (b := 0) (t := ty) (cs := cc2) (by rw [hjl]; exact own2) (fun g hg => .inr hg) (by omega) (hro2.agree (fun _ _ => rfl) (fun _ h => .inl h)))
          replace hkn := Lib.hid hkn
          clear own2 hro2 kb
          go_wp2_with fail
          go_ret
          exact fin.out
  · have t1 : ((bs.length : Int) != (fs.length : Int)) = true := by simp; omega
    subst hvs
    replace own := Lib.hid own
    replace hsep := Lib.hid hsep
    replace heq := Lib.hid heq
    go_enter Tryz.func73, Tryz.ntmps73
    go_wp2_with fail
    go_quiet (fail)
    go_wp2_with fail
    go_ret
    exact .inr ⟨by rw [← hfs.out, ← hbs.out]; exact heq.out, rfl, below_drewN (Below.refl _ _) _⟩
end Go.Proofs.YtilaheifccjjeaaGreat
