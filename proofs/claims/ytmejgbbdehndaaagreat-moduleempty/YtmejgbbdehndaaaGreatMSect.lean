/-
  A module of which some sections have been read, as it lies in memory, and what reading one section makes of it; no condition beyond what is said.
-/
import Derived.Test.YtmejgbbdehndaaaGreatMReadK
import Derived.Test.YtmejgbbdehndaaaGreatMList2
import Derived.Test.YtmejgbbdehndaaaGreatMList3
import Derived.Test.YtmejgbbdehndaaaGreatMList4
import Derived.Test.YtmejgbbdehndaaaGreatMList5
namespace Go.Proofs.YtmejgbbdehndaaaGreat
open Go.RowKit
/-- The cell k holds this. -/
def FAt {α : Type} (w : World) (S : Nat → Prop) (cur : Array Value) (k : Nat) (R : Rep α) (x : α) : Prop := ∃ v, cur[k]? = some v ∧ R.is w S x [v]
theorem FAt.keep {α : Type} {w w' : World} {S T : Nat → Prop} {cur cur' : Array Value} {k : Nat} {R : Rep α} {x : α} (h : FAt w S cur k R x) (ha : Agree S w w') (hT : ∀ b, S b → T b) (hc : cur'[k]? = cur[k]?) : FAt w' T cur' k R x := by
  obtain ⟨v, h1, h2⟩ := h
  exact ⟨v, hc.trans h1, R.agree h2 ha hT⟩
/-- The cell 2 holds functions' heads, in a row of their own, apart from S and D. -/
def HAt (w : World) (S : Nat → Prop) (D : Nat) (cur : Array Value) (x : List M.Fn) : Prop :=
  ∃ v ty cc, cur[2]? = some v ∧ w.ownsRow 0 ty 3 v x.length cc ∧ x.length ≤ 100000 ∧ RowOf rFn w (fun _ => False) x cc ∧ ∀ g, v.ownBlock = some g → ¬ S g ∧ D < g
theorem HAt.keep {w w' : World} {S T : Nat → Prop} {D : Nat} {cur cur' : Array Value} {x : List M.Fn} (h : HAt w S D cur x) (hb : ∀ v g, cur[2]? = some v → v.ownBlock = some g → g < w.heap.size → w'.heap[g]? = w.heap[g]?) (hT : ∀ g, g < w.heap.size → T g → S g) (hc : cur'[2]? = cur[2]?) : HAt w' T D cur' x := by
  obtain ⟨v, ty, cc, h1, h2, h3, h4, h5⟩ := h
  exact ⟨v, ty, cc, hc.trans h1, ownsRow_agree h2 fun g hg => hb v g h1 hg (h2.lt g hg).2, h3, h4.agree (fun k hk => hk.elim) (fun k hk => hk.elim), fun g hg => ⟨fun ht => (h5 g hg).1 (hT g (h2.lt g hg).2 ht), (h5 g hg).2⟩⟩
/-- Which cell a section is read into. -/
def idx : Nat → Option Nat
  | 1 => some 0 | 2 => some 1 | 3 => some 2 | 4 => some 3 | 5 => some 4 | 6 => some 5 | 7 => some 6 | 9 => some 8 | 10 => some 10 | 11 => some 9
  | _ => none
theorem idx_inj {a b i : Nat} (h1 : idx a = some i) (h2 : idx b = some i) : a = b := by
  unfold idx at h1 h2
  split at h1 <;> split at h2 <;> simp_all <;> omega
structure Dst (w : World) (S : Nat → Prop) (D last : Nat) (d : M.Dm) (cur : Array Value) : Prop where
  row : w.heap[D]? = some (.cells cur 102 (0, 0))
  sz : cur.size = 11
  f0 : FAt w S cur 0 (rLst rFT) d.m.types
  f1 : FAt w S cur 1 (rLst rImp) d.m.imports
  f2 : HAt w S D cur d.m.funcs
  f3 : FAt w S cur 3 (rLst rLim) d.m.tables
  f4 : FAt w S cur 4 (rLst rLim) d.m.memories
  f5 : FAt w S cur 5 (rLst rGlo) d.m.globals
  f6 : FAt w S cur 6 (rLst rExp) d.m.exports
  f7 : FAt w S cur 7 rInt d.m.start
  f8 : FAt w S cur 8 (rLst rElm) d.m.elems
  f9 : FAt w S cur 9 (rLst rDat) d.m.datas
  f10 : FAt w S cur 10 (rLst rFn) d.bodies
  z : ∀ id i, idx id = some i → last < id → cur[i]? = some (.slice none 0 0)
def SecPost (id B P D : Nat) (S : Nat → Prop) (last : Nat) (d : M.Dm) (bs : List Nat) (w : World) (e : Ending) (w' : World) : Prop :=
  (∃ d' r cur' T, M.sect id d bs = some (d', r) ∧ e = .returned (.bool true) ∧ PAt B w' P r ∧ (∀ k, T k → S k ∨ Since w.heap.size w' k) ∧ Dst w' T D (max last id) d' cur' ∧ Kb (fun k => k = P ∨ k = D) w w') ∨
  (M.sect id d bs = none ∧ e = .returned (.bool false) ∧ Kb (fun k => k = P ∨ k = D) w w')
def SecOk (id f : Nat) : Prop := ∀ (B P D last : Nat) (d : M.Dm) (cur : Array Value) (S : Nat → Prop) (bs : List Nat) (w : World), PAt B w P bs → Dst w S D last d cur → (id = 0 ∨ last < id) → D ≠ P → B ≤ D → ¬ S P → ¬ S D → (∀ k, S k → k < w.heap.size) → (∀ v, cur[2]? = some v → v.ownBlock ≠ some P) →
  Calls Tryz.prog f #[.pointer (some ⟨D, 0, none⟩), .pointer (some ⟨P, 0, none⟩)] w (SecPost id B P D S last d bs w)
theorem Dst.agree {w w' : World} {S : Nat → Prop} {P D : Nat} (hS : ∀ k, S k → k < w.heap.size) (h1 : ¬ S P) (h2 : ¬ S D) (kb : Kb (fun k => k = P ∨ k = D) w w') : Agree S w w' := fun k hk => kb.block k (hS k hk) (fun e => by rcases e with rfl | rfl; exact h1 hk; exact h2 hk)
theorem Dst.zkeep {w : World} {S : Nat → Prop} {D last id i : Nat} {d : M.Dm} {cur cur' : Array Value} (h : Dst w S D last d cur) (hi : idx id = some i) (hc : ∀ k, k ≠ i → cur'[k]? = cur[k]?) : ∀ id' i', idx id' = some i' → max last id < id' → cur'[i']? = some (.slice none 0 0) := fun id' i' h1 h2 => by
  rw [hc i' (fun e => by subst e; have := idx_inj h1 hi; omega)]
  exact h.z id' i' h1 (by omega)
theorem Dst.hkeep {w w' : World} {S T : Nat → Prop} {P D last : Nat} {d : M.Dm} {cur cur' : Array Value} (h : Dst w S D last d cur) (hF : ∀ v, cur[2]? = some v → v.ownBlock ≠ some P) (kb : Kb (fun k => k = P ∨ k = D) w w') (hT : ∀ k, T k → S k ∨ Since w.heap.size w' k) (hc : cur'[2]? = cur[2]?) : HAt w' T D cur' d.m.funcs := by
  have h2 := h.f2
  refine h2.keep (fun v g h1 hg hl => kb.block g hl (fun e => ?_)) (fun g hg ht => (hT g ht).resolve_right fun e => by have := e.1; omega) hc
  rcases e with rfl | rfl
  · exact hF v h1 hg
  · obtain ⟨v', ty, cc, q1, q2, q3, q4, q5⟩ := h2
    rw [h1] at q1
    cases q1
    exact Nat.lt_irrefl _ (q5 _ hg).2
theorem times_heads : ∀ (n : Nat) (bs : List Nat) (x : List M.Fn) (r : List Nat), M.rTimes M.cHead n bs = some (x, r) → ∀ y ∈ x, y.lo = [] ∧ y.bo = .nil
  | 0, bs, x, r, h => by cases h; intro y hy; cases hy
  | n + 1, bs, x, r, h => by
    obtain ⟨⟨x1, r1⟩, h1, h2⟩ := Option.bind_eq_some_iff.1 h
    obtain ⟨⟨x2, r2⟩, h3, h4⟩ := Option.bind_eq_some_iff.1 h2
    cases h4
    intro y hy
    rcases List.mem_cons.1 hy with rfl | hy
    · rw [head_rd] at h1
      obtain ⟨p, _, hp⟩ := Option.bind_eq_some_iff.1 h1
      cases hp
      exact ⟨rfl, rfl⟩
    · exact times_heads n r1 x2 r2 h3 y hy
theorem ns_nil {w w' : World} {S T : Nat → Prop} {v : Value} (h : NS w S v []) : NS w' T v [] := by
  obtain ⟨A, c, e, h1, _⟩ := h
  exact ⟨A, c, e, h1, fun i hi => by simp at hi⟩
theorem ls_nil {w w' : World} {S T : Nat → Prop} {v : Value} (h : LS w S v .nil) : LS w' T v .nil := by
  obtain ⟨A, c, e, h1, _⟩ := h
  exact ⟨A, c, e, h1, .inl rfl⟩
theorem heads_row {w : World} {S : Nat → Prop} : ∀ {xs : List M.Fn} {cs : List Value}, (∀ x ∈ xs, x.lo = [] ∧ x.bo = .nil) → RowOf rFn w S xs cs → RowOf rFn w (fun _ => False) xs cs
  | [], _, _, h => h
  | x :: t, cs, hx, ⟨c, d, h1, h2, h3⟩ => by
    obtain ⟨e1, e2⟩ := hx x (List.mem_cons_self ..)
    refine ⟨c, d, h1, ?_, heads_row (fun y hy => hx y (List.mem_cons_of_mem _ hy)) h3⟩
    obtain ⟨ca, cb, q1, ⟨cc, cd, q2, q3, ⟨v, q4, q5⟩⟩, ⟨u, q6, q7⟩⟩ := h2
    have q5 : NS w S v x.lo := q5
    have q7 : LS w S u x.bo := q7
    rw [e1] at q5
    rw [e2] at q7
    exact ⟨ca, cb, q1, ⟨cc, cd, q2, q3, ⟨v, q4, by show NS w _ v x.lo; rw [e1]; exact ns_nil q5⟩⟩, ⟨u, q6, by show LS w _ u x.bo; rw [e2]; exact ls_nil q7⟩⟩
theorem heads_at {w w' : World} {S : Nat → Prop} {D : Nat} {cur' : Array Value} {x : List M.Fn} {r bs : List Nat} {v : Value} (hrd : (M.vec M.cHead).rd bs = some (x, r)) (q4 : (rLst rFn).is w' (Since w.heap.size w') x [v]) (hv : cur'[2]? = some v) (hS : ∀ k, S k → k < w.heap.size) (hD : D < w.heap.size) : HAt w' S D cur' x := by
  obtain ⟨v', ty, cc, e, h1, h2, h3, h4⟩ := q4
  obtain rfl : v = v' := by simpa using e
  have hx : ∀ y ∈ x, y.lo = [] ∧ y.bo = .nil := by
    rw [vec_rd] at hrd
    obtain ⟨⟨n, r0⟩, _, h6⟩ := Option.bind_eq_some_iff.1 hrd
    simp only at h6
    split at h6
    · exact times_heads _ _ _ _ h6
    · cases h6
  exact ⟨v, ty, cc, hv, h1, h3, heads_row hx h4, fun g hg => ⟨fun hs => by have := hS g hs; have := (h2 g hg).1; omega, by have := (h2 g hg).1; omega⟩⟩
set_option maxRecDepth 100000 in
set_option maxHeartbeats 4000000 in
theorem sec_1 : SecOk 1 125 := by
  intro B P D last d cur S bs w hp h hl hne hB hSP hSD hS hF
  have hDl := lt_row h.row
  have cN := Lib.hid (list_ft B P D 0 102 cur bs w hp h.row (h.z 1 0 rfl (by omega)) hne hB)
  have yes := Lib.hid (show ∀ x r cs w', (M.vec M.cFT).rd bs = some (x, r) → PAt B w' P r → (rLst rFT).is w' (Since w.heap.size w') x cs → (∀ k u, cs[k]? = some u → w'.cell? ⟨D, 0 + k, none⟩ = some u) → Fr P D 0 1 w w' → SecPost 1 B P D S last d bs w (.returned (.bool true)) w' from fun x r cs w' q1 q3 q4 q5 fr => by
    obtain ⟨cur', r1, r2, r3⟩ := fr.row _ _ h.row
    have keep : ∀ k, k ≠ 0 → cur'[k]? = cur[k]? := fun k hk => r3 k (by omega)
    have ag := Dst.agree hS hSP hSD fr.kb
    have mono : ∀ b, S b → S b ∨ Since w.heap.size w' b := fun b hb => .inl hb
    have hT : ∀ k, (S k ∨ Since w.heap.size w' k) → S k ∨ Since w.heap.size w' k := fun k hk => hk
    have hlen := (rLst rFT).len q4
    obtain ⟨v, rfl⟩ : ∃ v, cs = [v] := by
      match cs, hlen with
      | [v], _ => exact ⟨v, rfl⟩
    have hv : cur'[0]? = some v := (cell_row r1 0).symm.trans (q5 0 v rfl)
    refine .inl ⟨⟨{ d.m with types := x }, d.bodies⟩, r, cur', (fun k => S k ∨ Since w.heap.size w' k), by show ((M.vec M.cFT).rd bs).bind _ = _; rw [q1]; rfl, rfl, q3, hT, ⟨r1, r2.trans h.sz, ?_, h.f1.keep ag mono (keep 1 (by decide)), h.hkeep hF fr.kb hT (keep 2 (by decide)), h.f3.keep ag mono (keep 3 (by decide)), h.f4.keep ag mono (keep 4 (by decide)), h.f5.keep ag mono (keep 5 (by decide)), h.f6.keep ag mono (keep 6 (by decide)), h.f7.keep ag mono (keep 7 (by decide)), h.f8.keep ag mono (keep 8 (by decide)), h.f9.keep ag mono (keep 9 (by decide)), h.f10.keep ag mono (keep 10 (by decide)), h.zkeep rfl keep⟩, fr.kb⟩
    exact ⟨v, hv, (rLst rFT).agree q4 (fun _ _ => rfl) (fun b hb => .inr hb)⟩)
  have no := Lib.hid (show (M.vec M.cFT).rd bs = none → M.sect 1 d bs = none from fun e => by show ((M.vec M.cFT).rd bs).bind _ = _; rw [e]; rfl)
  clear hp h hS hSP hSD hF
  go_enter Tryz.func125, Tryz.ntmps125
  go_wp2_with fail
  refine cN.out.mono ?_
  rintro e1 w1 (⟨x, r, cs, q1, rfl, q3, q4, q5, q6⟩ | ⟨q1, rfl, kb⟩)
  · have fin := Lib.hid (yes.out x r cs w1 q1 q3 q4 q5 q6)
    clear q3 q4 q5 q6
    go_wp2_with fail
    go_ret
    exact fin.out
  · have fin := Lib.hid (no.out q1)
    replace kb := Lib.hid kb
    go_wp2_with fail
    go_ret
    exact .inr ⟨fin.out, rfl, kb.out⟩
set_option maxRecDepth 100000 in
set_option maxHeartbeats 4000000 in
theorem sec_2 : SecOk 2 126 := by
  intro B P D last d cur S bs w hp h hl hne hB hSP hSD hS hF
  have hDl := lt_row h.row
  have cN := Lib.hid (list_imp B P D 1 102 cur bs w hp h.row (h.z 2 1 rfl (by omega)) hne hB)
  have yes := Lib.hid (show ∀ x r cs w', (M.vec M.cImp).rd bs = some (x, r) → PAt B w' P r → (rLst rImp).is w' (Since w.heap.size w') x cs → (∀ k u, cs[k]? = some u → w'.cell? ⟨D, 1 + k, none⟩ = some u) → Fr P D 1 1 w w' → SecPost 2 B P D S last d bs w (.returned (.bool true)) w' from fun x r cs w' q1 q3 q4 q5 fr => by
    obtain ⟨cur', r1, r2, r3⟩ := fr.row _ _ h.row
    have keep : ∀ k, k ≠ 1 → cur'[k]? = cur[k]? := fun k hk => r3 k (by omega)
    have ag := Dst.agree hS hSP hSD fr.kb
    have mono : ∀ b, S b → S b ∨ Since w.heap.size w' b := fun b hb => .inl hb
    have hT : ∀ k, (S k ∨ Since w.heap.size w' k) → S k ∨ Since w.heap.size w' k := fun k hk => hk
    have hlen := (rLst rImp).len q4
    obtain ⟨v, rfl⟩ : ∃ v, cs = [v] := by
      match cs, hlen with
      | [v], _ => exact ⟨v, rfl⟩
    have hv : cur'[1]? = some v := (cell_row r1 1).symm.trans (q5 0 v rfl)
    refine .inl ⟨⟨{ d.m with imports := x }, d.bodies⟩, r, cur', (fun k => S k ∨ Since w.heap.size w' k), by show ((M.vec M.cImp).rd bs).bind _ = _; rw [q1]; rfl, rfl, q3, hT, ⟨r1, r2.trans h.sz, h.f0.keep ag mono (keep 0 (by decide)), ?_, h.hkeep hF fr.kb hT (keep 2 (by decide)), h.f3.keep ag mono (keep 3 (by decide)), h.f4.keep ag mono (keep 4 (by decide)), h.f5.keep ag mono (keep 5 (by decide)), h.f6.keep ag mono (keep 6 (by decide)), h.f7.keep ag mono (keep 7 (by decide)), h.f8.keep ag mono (keep 8 (by decide)), h.f9.keep ag mono (keep 9 (by decide)), h.f10.keep ag mono (keep 10 (by decide)), h.zkeep rfl keep⟩, fr.kb⟩
    exact ⟨v, hv, (rLst rImp).agree q4 (fun _ _ => rfl) (fun b hb => .inr hb)⟩)
  have no := Lib.hid (show (M.vec M.cImp).rd bs = none → M.sect 2 d bs = none from fun e => by show ((M.vec M.cImp).rd bs).bind _ = _; rw [e]; rfl)
  clear hp h hS hSP hSD hF
  go_enter Tryz.func126, Tryz.ntmps126
  go_wp2_with fail
  refine cN.out.mono ?_
  rintro e1 w1 (⟨x, r, cs, q1, rfl, q3, q4, q5, q6⟩ | ⟨q1, rfl, kb⟩)
  · have fin := Lib.hid (yes.out x r cs w1 q1 q3 q4 q5 q6)
    clear q3 q4 q5 q6
    go_wp2_with fail
    go_ret
    exact fin.out
  · have fin := Lib.hid (no.out q1)
    replace kb := Lib.hid kb
    go_wp2_with fail
    go_ret
    exact .inr ⟨fin.out, rfl, kb.out⟩
set_option maxRecDepth 100000 in
set_option maxHeartbeats 4000000 in
theorem sec_3 : SecOk 3 127 := by
  intro B P D last d cur S bs w hp h hl hne hB hSP hSD hS hF
  have hDl := lt_row h.row
  have cN := Lib.hid (list_head B P D 2 102 cur bs w hp h.row (h.z 3 2 rfl (by omega)) hne hB)
  have yes := Lib.hid (show ∀ x r cs w', (M.vec M.cHead).rd bs = some (x, r) → PAt B w' P r → (rLst rFn).is w' (Since w.heap.size w') x cs → (∀ k u, cs[k]? = some u → w'.cell? ⟨D, 2 + k, none⟩ = some u) → Fr P D 2 1 w w' → SecPost 3 B P D S last d bs w (.returned (.bool true)) w' from fun x r cs w' q1 q3 q4 q5 fr => by
    obtain ⟨cur', r1, r2, r3⟩ := fr.row _ _ h.row
    have keep : ∀ k, k ≠ 2 → cur'[k]? = cur[k]? := fun k hk => r3 k (by omega)
    have ag := Dst.agree hS hSP hSD fr.kb
    have mono : ∀ b, S b → S b := fun b hb => hb
    have hT : ∀ k, S k → S k ∨ Since w.heap.size w' k := fun k hk => .inl hk
    have hlen := (rLst rFn).len q4
    obtain ⟨v, rfl⟩ : ∃ v, cs = [v] := by
      match cs, hlen with
      | [v], _ => exact ⟨v, rfl⟩
    have hv : cur'[2]? = some v := (cell_row r1 2).symm.trans (q5 0 v rfl)
    refine .inl ⟨⟨{ d.m with funcs := x }, d.bodies⟩, r, cur', S, by show ((M.vec M.cHead).rd bs).bind _ = _; rw [q1]; rfl, rfl, q3, hT, ⟨r1, r2.trans h.sz, h.f0.keep ag mono (keep 0 (by decide)), h.f1.keep ag mono (keep 1 (by decide)), ?_, h.f3.keep ag mono (keep 3 (by decide)), h.f4.keep ag mono (keep 4 (by decide)), h.f5.keep ag mono (keep 5 (by decide)), h.f6.keep ag mono (keep 6 (by decide)), h.f7.keep ag mono (keep 7 (by decide)), h.f8.keep ag mono (keep 8 (by decide)), h.f9.keep ag mono (keep 9 (by decide)), h.f10.keep ag mono (keep 10 (by decide)), h.zkeep rfl keep⟩, fr.kb⟩
    exact heads_at q1 q4 hv hS hDl)
  have no := Lib.hid (show (M.vec M.cHead).rd bs = none → M.sect 3 d bs = none from fun e => by show ((M.vec M.cHead).rd bs).bind _ = _; rw [e]; rfl)
  clear hp h hS hSP hSD hF
  go_enter Tryz.func127, Tryz.ntmps127
  go_wp2_with fail
  refine cN.out.mono ?_
  rintro e1 w1 (⟨x, r, cs, q1, rfl, q3, q4, q5, q6⟩ | ⟨q1, rfl, kb⟩)
  · have fin := Lib.hid (yes.out x r cs w1 q1 q3 q4 q5 q6)
    clear q3 q4 q5 q6
    go_wp2_with fail
    go_ret
    exact fin.out
  · have fin := Lib.hid (no.out q1)
    replace kb := Lib.hid kb
    go_wp2_with fail
    go_ret
    exact .inr ⟨fin.out, rfl, kb.out⟩
set_option maxRecDepth 100000 in
set_option maxHeartbeats 4000000 in
theorem sec_4 : SecOk 4 128 := by
  intro B P D last d cur S bs w hp h hl hne hB hSP hSD hS hF
  have hDl := lt_row h.row
  have cN := Lib.hid (list_tab B P D 3 102 cur bs w hp h.row (h.z 4 3 rfl (by omega)) hne hB)
  have yes := Lib.hid (show ∀ x r cs w', (M.vec M.cTab).rd bs = some (x, r) → PAt B w' P r → (rLst rLim).is w' (Since w.heap.size w') x cs → (∀ k u, cs[k]? = some u → w'.cell? ⟨D, 3 + k, none⟩ = some u) → Fr P D 3 1 w w' → SecPost 4 B P D S last d bs w (.returned (.bool true)) w' from fun x r cs w' q1 q3 q4 q5 fr => by
    obtain ⟨cur', r1, r2, r3⟩ := fr.row _ _ h.row
    have keep : ∀ k, k ≠ 3 → cur'[k]? = cur[k]? := fun k hk => r3 k (by omega)
    have ag := Dst.agree hS hSP hSD fr.kb
    have mono : ∀ b, S b → S b ∨ Since w.heap.size w' b := fun b hb => .inl hb
    have hT : ∀ k, (S k ∨ Since w.heap.size w' k) → S k ∨ Since w.heap.size w' k := fun k hk => hk
    have hlen := (rLst rLim).len q4
    obtain ⟨v, rfl⟩ : ∃ v, cs = [v] := by
      match cs, hlen with
      | [v], _ => exact ⟨v, rfl⟩
    have hv : cur'[3]? = some v := (cell_row r1 3).symm.trans (q5 0 v rfl)
    refine .inl ⟨⟨{ d.m with tables := x }, d.bodies⟩, r, cur', (fun k => S k ∨ Since w.heap.size w' k), by show ((M.vec M.cTab).rd bs).bind _ = _; rw [q1]; rfl, rfl, q3, hT, ⟨r1, r2.trans h.sz, h.f0.keep ag mono (keep 0 (by decide)), h.f1.keep ag mono (keep 1 (by decide)), h.hkeep hF fr.kb hT (keep 2 (by decide)), ?_, h.f4.keep ag mono (keep 4 (by decide)), h.f5.keep ag mono (keep 5 (by decide)), h.f6.keep ag mono (keep 6 (by decide)), h.f7.keep ag mono (keep 7 (by decide)), h.f8.keep ag mono (keep 8 (by decide)), h.f9.keep ag mono (keep 9 (by decide)), h.f10.keep ag mono (keep 10 (by decide)), h.zkeep rfl keep⟩, fr.kb⟩
    exact ⟨v, hv, (rLst rLim).agree q4 (fun _ _ => rfl) (fun b hb => .inr hb)⟩)
  have no := Lib.hid (show (M.vec M.cTab).rd bs = none → M.sect 4 d bs = none from fun e => by show ((M.vec M.cTab).rd bs).bind _ = _; rw [e]; rfl)
  clear hp h hS hSP hSD hF
  go_enter Tryz.func128, Tryz.ntmps128
  go_wp2_with fail
  refine cN.out.mono ?_
  rintro e1 w1 (⟨x, r, cs, q1, rfl, q3, q4, q5, q6⟩ | ⟨q1, rfl, kb⟩)
  · have fin := Lib.hid (yes.out x r cs w1 q1 q3 q4 q5 q6)
    clear q3 q4 q5 q6
    go_wp2_with fail
    go_ret
    exact fin.out
  · have fin := Lib.hid (no.out q1)
    replace kb := Lib.hid kb
    go_wp2_with fail
    go_ret
    exact .inr ⟨fin.out, rfl, kb.out⟩
set_option maxRecDepth 100000 in
set_option maxHeartbeats 4000000 in
theorem sec_5 : SecOk 5 129 := by
  intro B P D last d cur S bs w hp h hl hne hB hSP hSD hS hF
  have hDl := lt_row h.row
  have cN := Lib.hid (list_lim B P D 4 102 cur bs w hp h.row (h.z 5 4 rfl (by omega)) hne hB)
  have yes := Lib.hid (show ∀ x r cs w', (M.vec M.cLim).rd bs = some (x, r) → PAt B w' P r → (rLst rLim).is w' (Since w.heap.size w') x cs → (∀ k u, cs[k]? = some u → w'.cell? ⟨D, 4 + k, none⟩ = some u) → Fr P D 4 1 w w' → SecPost 5 B P D S last d bs w (.returned (.bool true)) w' from fun x r cs w' q1 q3 q4 q5 fr => by
    obtain ⟨cur', r1, r2, r3⟩ := fr.row _ _ h.row
    have keep : ∀ k, k ≠ 4 → cur'[k]? = cur[k]? := fun k hk => r3 k (by omega)
    have ag := Dst.agree hS hSP hSD fr.kb
    have mono : ∀ b, S b → S b ∨ Since w.heap.size w' b := fun b hb => .inl hb
    have hT : ∀ k, (S k ∨ Since w.heap.size w' k) → S k ∨ Since w.heap.size w' k := fun k hk => hk
    have hlen := (rLst rLim).len q4
    obtain ⟨v, rfl⟩ : ∃ v, cs = [v] := by
      match cs, hlen with
      | [v], _ => exact ⟨v, rfl⟩
    have hv : cur'[4]? = some v := (cell_row r1 4).symm.trans (q5 0 v rfl)
    refine .inl ⟨⟨{ d.m with memories := x }, d.bodies⟩, r, cur', (fun k => S k ∨ Since w.heap.size w' k), by show ((M.vec M.cLim).rd bs).bind _ = _; rw [q1]; rfl, rfl, q3, hT, ⟨r1, r2.trans h.sz, h.f0.keep ag mono (keep 0 (by decide)), h.f1.keep ag mono (keep 1 (by decide)), h.hkeep hF fr.kb hT (keep 2 (by decide)), h.f3.keep ag mono (keep 3 (by decide)), ?_, h.f5.keep ag mono (keep 5 (by decide)), h.f6.keep ag mono (keep 6 (by decide)), h.f7.keep ag mono (keep 7 (by decide)), h.f8.keep ag mono (keep 8 (by decide)), h.f9.keep ag mono (keep 9 (by decide)), h.f10.keep ag mono (keep 10 (by decide)), h.zkeep rfl keep⟩, fr.kb⟩
    exact ⟨v, hv, (rLst rLim).agree q4 (fun _ _ => rfl) (fun b hb => .inr hb)⟩)
  have no := Lib.hid (show (M.vec M.cLim).rd bs = none → M.sect 5 d bs = none from fun e => by show ((M.vec M.cLim).rd bs).bind _ = _; rw [e]; rfl)
  clear hp h hS hSP hSD hF
  go_enter Tryz.func129, Tryz.ntmps129
  go_wp2_with fail
  refine cN.out.mono ?_
  rintro e1 w1 (⟨x, r, cs, q1, rfl, q3, q4, q5, q6⟩ | ⟨q1, rfl, kb⟩)
  · have fin := Lib.hid (yes.out x r cs w1 q1 q3 q4 q5 q6)
    clear q3 q4 q5 q6
    go_wp2_with fail
    go_ret
    exact fin.out
  · have fin := Lib.hid (no.out q1)
    replace kb := Lib.hid kb
    go_wp2_with fail
    go_ret
    exact .inr ⟨fin.out, rfl, kb.out⟩
set_option maxRecDepth 100000 in
set_option maxHeartbeats 4000000 in
theorem sec_6 : SecOk 6 130 := by
  intro B P D last d cur S bs w hp h hl hne hB hSP hSD hS hF
  have hDl := lt_row h.row
  have cN := Lib.hid (list_glo B P D 5 102 cur bs w hp h.row (h.z 6 5 rfl (by omega)) hne hB)
  have yes := Lib.hid (show ∀ x r cs w', (M.vec M.cGlo).rd bs = some (x, r) → PAt B w' P r → (rLst rGlo).is w' (Since w.heap.size w') x cs → (∀ k u, cs[k]? = some u → w'.cell? ⟨D, 5 + k, none⟩ = some u) → Fr P D 5 1 w w' → SecPost 6 B P D S last d bs w (.returned (.bool true)) w' from fun x r cs w' q1 q3 q4 q5 fr => by
    obtain ⟨cur', r1, r2, r3⟩ := fr.row _ _ h.row
    have keep : ∀ k, k ≠ 5 → cur'[k]? = cur[k]? := fun k hk => r3 k (by omega)
    have ag := Dst.agree hS hSP hSD fr.kb
    have mono : ∀ b, S b → S b ∨ Since w.heap.size w' b := fun b hb => .inl hb
    have hT : ∀ k, (S k ∨ Since w.heap.size w' k) → S k ∨ Since w.heap.size w' k := fun k hk => hk
    have hlen := (rLst rGlo).len q4
    obtain ⟨v, rfl⟩ : ∃ v, cs = [v] := by
      match cs, hlen with
      | [v], _ => exact ⟨v, rfl⟩
    have hv : cur'[5]? = some v := (cell_row r1 5).symm.trans (q5 0 v rfl)
    refine .inl ⟨⟨{ d.m with globals := x }, d.bodies⟩, r, cur', (fun k => S k ∨ Since w.heap.size w' k), by show ((M.vec M.cGlo).rd bs).bind _ = _; rw [q1]; rfl, rfl, q3, hT, ⟨r1, r2.trans h.sz, h.f0.keep ag mono (keep 0 (by decide)), h.f1.keep ag mono (keep 1 (by decide)), h.hkeep hF fr.kb hT (keep 2 (by decide)), h.f3.keep ag mono (keep 3 (by decide)), h.f4.keep ag mono (keep 4 (by decide)), ?_, h.f6.keep ag mono (keep 6 (by decide)), h.f7.keep ag mono (keep 7 (by decide)), h.f8.keep ag mono (keep 8 (by decide)), h.f9.keep ag mono (keep 9 (by decide)), h.f10.keep ag mono (keep 10 (by decide)), h.zkeep rfl keep⟩, fr.kb⟩
    exact ⟨v, hv, (rLst rGlo).agree q4 (fun _ _ => rfl) (fun b hb => .inr hb)⟩)
  have no := Lib.hid (show (M.vec M.cGlo).rd bs = none → M.sect 6 d bs = none from fun e => by show ((M.vec M.cGlo).rd bs).bind _ = _; rw [e]; rfl)
  clear hp h hS hSP hSD hF
  go_enter Tryz.func130, Tryz.ntmps130
  go_wp2_with fail
  refine cN.out.mono ?_
  rintro e1 w1 (⟨x, r, cs, q1, rfl, q3, q4, q5, q6⟩ | ⟨q1, rfl, kb⟩)
  · have fin := Lib.hid (yes.out x r cs w1 q1 q3 q4 q5 q6)
    clear q3 q4 q5 q6
    go_wp2_with fail
    go_ret
    exact fin.out
  · have fin := Lib.hid (no.out q1)
    replace kb := Lib.hid kb
    go_wp2_with fail
    go_ret
    exact .inr ⟨fin.out, rfl, kb.out⟩
set_option maxRecDepth 100000 in
set_option maxHeartbeats 4000000 in
theorem sec_7 : SecOk 7 131 := by
  intro B P D last d cur S bs w hp h hl hne hB hSP hSD hS hF
  have hDl := lt_row h.row
  have cN := Lib.hid (list_exp B P D 6 102 cur bs w hp h.row (h.z 7 6 rfl (by omega)) hne hB)
  have yes := Lib.hid (show ∀ x r cs w', (M.vec M.cExp).rd bs = some (x, r) → PAt B w' P r → (rLst rExp).is w' (Since w.heap.size w') x cs → (∀ k u, cs[k]? = some u → w'.cell? ⟨D, 6 + k, none⟩ = some u) → Fr P D 6 1 w w' → SecPost 7 B P D S last d bs w (.returned (.bool true)) w' from fun x r cs w' q1 q3 q4 q5 fr => by
    obtain ⟨cur', r1, r2, r3⟩ := fr.row _ _ h.row
    have keep : ∀ k, k ≠ 6 → cur'[k]? = cur[k]? := fun k hk => r3 k (by omega)
    have ag := Dst.agree hS hSP hSD fr.kb
    have mono : ∀ b, S b → S b ∨ Since w.heap.size w' b := fun b hb => .inl hb
    have hT : ∀ k, (S k ∨ Since w.heap.size w' k) → S k ∨ Since w.heap.size w' k := fun k hk => hk
    have hlen := (rLst rExp).len q4
    obtain ⟨v, rfl⟩ : ∃ v, cs = [v] := by
      match cs, hlen with
      | [v], _ => exact ⟨v, rfl⟩
    have hv : cur'[6]? = some v := (cell_row r1 6).symm.trans (q5 0 v rfl)
    refine .inl ⟨⟨{ d.m with exports := x }, d.bodies⟩, r, cur', (fun k => S k ∨ Since w.heap.size w' k), by show ((M.vec M.cExp).rd bs).bind _ = _; rw [q1]; rfl, rfl, q3, hT, ⟨r1, r2.trans h.sz, h.f0.keep ag mono (keep 0 (by decide)), h.f1.keep ag mono (keep 1 (by decide)), h.hkeep hF fr.kb hT (keep 2 (by decide)), h.f3.keep ag mono (keep 3 (by decide)), h.f4.keep ag mono (keep 4 (by decide)), h.f5.keep ag mono (keep 5 (by decide)), ?_, h.f7.keep ag mono (keep 7 (by decide)), h.f8.keep ag mono (keep 8 (by decide)), h.f9.keep ag mono (keep 9 (by decide)), h.f10.keep ag mono (keep 10 (by decide)), h.zkeep rfl keep⟩, fr.kb⟩
    exact ⟨v, hv, (rLst rExp).agree q4 (fun _ _ => rfl) (fun b hb => .inr hb)⟩)
  have no := Lib.hid (show (M.vec M.cExp).rd bs = none → M.sect 7 d bs = none from fun e => by show ((M.vec M.cExp).rd bs).bind _ = _; rw [e]; rfl)
  clear hp h hS hSP hSD hF
  go_enter Tryz.func131, Tryz.ntmps131
  go_wp2_with fail
  refine cN.out.mono ?_
  rintro e1 w1 (⟨x, r, cs, q1, rfl, q3, q4, q5, q6⟩ | ⟨q1, rfl, kb⟩)
  · have fin := Lib.hid (yes.out x r cs w1 q1 q3 q4 q5 q6)
    clear q3 q4 q5 q6
    go_wp2_with fail
    go_ret
    exact fin.out
  · have fin := Lib.hid (no.out q1)
    replace kb := Lib.hid kb
    go_wp2_with fail
    go_ret
    exact .inr ⟨fin.out, rfl, kb.out⟩
set_option maxRecDepth 100000 in
set_option maxHeartbeats 4000000 in
theorem sec_9 : SecOk 9 133 := by
  intro B P D last d cur S bs w hp h hl hne hB hSP hSD hS hF
  have hDl := lt_row h.row
  have cN := Lib.hid (list_elm B P D 8 102 cur bs w hp h.row (h.z 9 8 rfl (by omega)) hne hB)
  have yes := Lib.hid (show ∀ x r cs w', (M.vec M.cElm).rd bs = some (x, r) → PAt B w' P r → (rLst rElm).is w' (Since w.heap.size w') x cs → (∀ k u, cs[k]? = some u → w'.cell? ⟨D, 8 + k, none⟩ = some u) → Fr P D 8 1 w w' → SecPost 9 B P D S last d bs w (.returned (.bool true)) w' from fun x r cs w' q1 q3 q4 q5 fr => by
    obtain ⟨cur', r1, r2, r3⟩ := fr.row _ _ h.row
    have keep : ∀ k, k ≠ 8 → cur'[k]? = cur[k]? := fun k hk => r3 k (by omega)
    have ag := Dst.agree hS hSP hSD fr.kb
    have mono : ∀ b, S b → S b ∨ Since w.heap.size w' b := fun b hb => .inl hb
    have hT : ∀ k, (S k ∨ Since w.heap.size w' k) → S k ∨ Since w.heap.size w' k := fun k hk => hk
    have hlen := (rLst rElm).len q4
    obtain ⟨v, rfl⟩ : ∃ v, cs = [v] := by
      match cs, hlen with
      | [v], _ => exact ⟨v, rfl⟩
    have hv : cur'[8]? = some v := (cell_row r1 8).symm.trans (q5 0 v rfl)
    refine .inl ⟨⟨{ d.m with elems := x }, d.bodies⟩, r, cur', (fun k => S k ∨ Since w.heap.size w' k), by show ((M.vec M.cElm).rd bs).bind _ = _; rw [q1]; rfl, rfl, q3, hT, ⟨r1, r2.trans h.sz, h.f0.keep ag mono (keep 0 (by decide)), h.f1.keep ag mono (keep 1 (by decide)), h.hkeep hF fr.kb hT (keep 2 (by decide)), h.f3.keep ag mono (keep 3 (by decide)), h.f4.keep ag mono (keep 4 (by decide)), h.f5.keep ag mono (keep 5 (by decide)), h.f6.keep ag mono (keep 6 (by decide)), h.f7.keep ag mono (keep 7 (by decide)), ?_, h.f9.keep ag mono (keep 9 (by decide)), h.f10.keep ag mono (keep 10 (by decide)), h.zkeep rfl keep⟩, fr.kb⟩
    exact ⟨v, hv, (rLst rElm).agree q4 (fun _ _ => rfl) (fun b hb => .inr hb)⟩)
  have no := Lib.hid (show (M.vec M.cElm).rd bs = none → M.sect 9 d bs = none from fun e => by show ((M.vec M.cElm).rd bs).bind _ = _; rw [e]; rfl)
  clear hp h hS hSP hSD hF
  go_enter Tryz.func133, Tryz.ntmps133
  go_wp2_with fail
  refine cN.out.mono ?_
  rintro e1 w1 (⟨x, r, cs, q1, rfl, q3, q4, q5, q6⟩ | ⟨q1, rfl, kb⟩)
  · have fin := Lib.hid (yes.out x r cs w1 q1 q3 q4 q5 q6)
    clear q3 q4 q5 q6
    go_wp2_with fail
    go_ret
    exact fin.out
  · have fin := Lib.hid (no.out q1)
    replace kb := Lib.hid kb
    go_wp2_with fail
    go_ret
    exact .inr ⟨fin.out, rfl, kb.out⟩
set_option maxRecDepth 100000 in
set_option maxHeartbeats 4000000 in
theorem sec_10 : SecOk 10 134 := by
  intro B P D last d cur S bs w hp h hl hne hB hSP hSD hS hF
  have hDl := lt_row h.row
  have cN := Lib.hid (list_body B P D 10 102 cur bs w hp h.row (h.z 10 10 rfl (by omega)) hne hB)
  have yes := Lib.hid (show ∀ x r cs w', (M.vec M.cFnB).rd bs = some (x, r) → PAt B w' P r → (rLst rFn).is w' (Since w.heap.size w') x cs → (∀ k u, cs[k]? = some u → w'.cell? ⟨D, 10 + k, none⟩ = some u) → Fr P D 10 1 w w' → SecPost 10 B P D S last d bs w (.returned (.bool true)) w' from fun x r cs w' q1 q3 q4 q5 fr => by
    obtain ⟨cur', r1, r2, r3⟩ := fr.row _ _ h.row
    have keep : ∀ k, k ≠ 10 → cur'[k]? = cur[k]? := fun k hk => r3 k (by omega)
    have ag := Dst.agree hS hSP hSD fr.kb
    have mono : ∀ b, S b → S b ∨ Since w.heap.size w' b := fun b hb => .inl hb
    have hT : ∀ k, (S k ∨ Since w.heap.size w' k) → S k ∨ Since w.heap.size w' k := fun k hk => hk
    have hlen := (rLst rFn).len q4
    obtain ⟨v, rfl⟩ : ∃ v, cs = [v] := by
      match cs, hlen with
      | [v], _ => exact ⟨v, rfl⟩
    have hv : cur'[10]? = some v := (cell_row r1 10).symm.trans (q5 0 v rfl)
    refine .inl ⟨⟨d.m, x⟩, r, cur', (fun k => S k ∨ Since w.heap.size w' k), by show ((M.vec M.cFnB).rd bs).bind _ = _; rw [q1]; rfl, rfl, q3, hT, ⟨r1, r2.trans h.sz, h.f0.keep ag mono (keep 0 (by decide)), h.f1.keep ag mono (keep 1 (by decide)), h.hkeep hF fr.kb hT (keep 2 (by decide)), h.f3.keep ag mono (keep 3 (by decide)), h.f4.keep ag mono (keep 4 (by decide)), h.f5.keep ag mono (keep 5 (by decide)), h.f6.keep ag mono (keep 6 (by decide)), h.f7.keep ag mono (keep 7 (by decide)), h.f8.keep ag mono (keep 8 (by decide)), h.f9.keep ag mono (keep 9 (by decide)), ?_, h.zkeep rfl keep⟩, fr.kb⟩
    exact ⟨v, hv, (rLst rFn).agree q4 (fun _ _ => rfl) (fun b hb => .inr hb)⟩)
  have no := Lib.hid (show (M.vec M.cFnB).rd bs = none → M.sect 10 d bs = none from fun e => by show ((M.vec M.cFnB).rd bs).bind _ = _; rw [e]; rfl)
  clear hp h hS hSP hSD hF
  go_enter Tryz.func134, Tryz.ntmps134
  go_wp2_with fail
  refine cN.out.mono ?_
  rintro e1 w1 (⟨x, r, cs, q1, rfl, q3, q4, q5, q6⟩ | ⟨q1, rfl, kb⟩)
  · have fin := Lib.hid (yes.out x r cs w1 q1 q3 q4 q5 q6)
    clear q3 q4 q5 q6
    go_wp2_with fail
    go_ret
    exact fin.out
  · have fin := Lib.hid (no.out q1)
    replace kb := Lib.hid kb
    go_wp2_with fail
    go_ret
    exact .inr ⟨fin.out, rfl, kb.out⟩
set_option maxRecDepth 100000 in
set_option maxHeartbeats 4000000 in
theorem sec_11 : SecOk 11 135 := by
  intro B P D last d cur S bs w hp h hl hne hB hSP hSD hS hF
  have hDl := lt_row h.row
  have cN := Lib.hid (list_dat B P D 9 102 cur bs w hp h.row (h.z 11 9 rfl (by omega)) hne hB)
  have yes := Lib.hid (show ∀ x r cs w', (M.vec M.cDat).rd bs = some (x, r) → PAt B w' P r → (rLst rDat).is w' (Since w.heap.size w') x cs → (∀ k u, cs[k]? = some u → w'.cell? ⟨D, 9 + k, none⟩ = some u) → Fr P D 9 1 w w' → SecPost 11 B P D S last d bs w (.returned (.bool true)) w' from fun x r cs w' q1 q3 q4 q5 fr => by
    obtain ⟨cur', r1, r2, r3⟩ := fr.row _ _ h.row
    have keep : ∀ k, k ≠ 9 → cur'[k]? = cur[k]? := fun k hk => r3 k (by omega)
    have ag := Dst.agree hS hSP hSD fr.kb
    have mono : ∀ b, S b → S b ∨ Since w.heap.size w' b := fun b hb => .inl hb
    have hT : ∀ k, (S k ∨ Since w.heap.size w' k) → S k ∨ Since w.heap.size w' k := fun k hk => hk
    have hlen := (rLst rDat).len q4
    obtain ⟨v, rfl⟩ : ∃ v, cs = [v] := by
      match cs, hlen with
      | [v], _ => exact ⟨v, rfl⟩
    have hv : cur'[9]? = some v := (cell_row r1 9).symm.trans (q5 0 v rfl)
    refine .inl ⟨⟨{ d.m with datas := x }, d.bodies⟩, r, cur', (fun k => S k ∨ Since w.heap.size w' k), by show ((M.vec M.cDat).rd bs).bind _ = _; rw [q1]; rfl, rfl, q3, hT, ⟨r1, r2.trans h.sz, h.f0.keep ag mono (keep 0 (by decide)), h.f1.keep ag mono (keep 1 (by decide)), h.hkeep hF fr.kb hT (keep 2 (by decide)), h.f3.keep ag mono (keep 3 (by decide)), h.f4.keep ag mono (keep 4 (by decide)), h.f5.keep ag mono (keep 5 (by decide)), h.f6.keep ag mono (keep 6 (by decide)), h.f7.keep ag mono (keep 7 (by decide)), h.f8.keep ag mono (keep 8 (by decide)), ?_, h.f10.keep ag mono (keep 10 (by decide)), h.zkeep rfl keep⟩, fr.kb⟩
    exact ⟨v, hv, (rLst rDat).agree q4 (fun _ _ => rfl) (fun b hb => .inr hb)⟩)
  have no := Lib.hid (show (M.vec M.cDat).rd bs = none → M.sect 11 d bs = none from fun e => by show ((M.vec M.cDat).rd bs).bind _ = _; rw [e]; rfl)
  clear hp h hS hSP hSD hF
  go_enter Tryz.func135, Tryz.ntmps135
  go_wp2_with fail
  refine cN.out.mono ?_
  rintro e1 w1 (⟨x, r, cs, q1, rfl, q3, q4, q5, q6⟩ | ⟨q1, rfl, kb⟩)
  · have fin := Lib.hid (yes.out x r cs w1 q1 q3 q4 q5 q6)
    clear q3 q4 q5 q6
    go_wp2_with fail
    go_ret
    exact fin.out
  · have fin := Lib.hid (no.out q1)
    replace kb := Lib.hid kb
    go_wp2_with fail
    go_ret
    exact .inr ⟨fin.out, rfl, kb.out⟩
set_option maxRecDepth 100000 in
theorem sec_8 : SecOk 8 132 := by
  intro B P D last d cur S bs w hp h hl hne hB hSP hSD hS hF
  obtain ⟨v0, hv0, hv1, _⟩ := h.f7
  have hv1 : v0 = .int .i64 d.m.start := by simpa using hv1
  have cN := Lib.hid (mnum_ok v0 B P D 7 102 cur bs w hp h.row (fun k u hu => by cases k with | zero => cases hu; exact hv0 | succ k => cases hu) hne hB)
  have yes := Lib.hid (show ∀ x r cs w', M.num bs = some (x, r) → PAt B w' P r → rInt.is w' (Since w.heap.size w') x cs → (∀ k u, cs[k]? = some u → w'.cell? ⟨D, 7 + k, none⟩ = some u) → Fr P D 7 1 w w' → SecPost 8 B P D S last d bs w (.returned (.bool true)) w' from fun x r cs w' q1 q3 q4 q5 fr => by
    obtain ⟨cur', r1, r2, r3⟩ := fr.row _ _ h.row
    have keep : ∀ k, k ≠ 7 → cur'[k]? = cur[k]? := fun k hk => r3 k (by omega)
    have ag := Dst.agree hS hSP hSD fr.kb
    have mono : ∀ b, S b → S b ∨ Since w.heap.size w' b := fun b hb => .inl hb
    have hT : ∀ k, (S k ∨ Since w.heap.size w' k) → S k ∨ Since w.heap.size w' k := fun k hk => hk
    obtain ⟨rfl, hx⟩ := q4
    have hv : cur'[7]? = some (.int .i64 x) := (cell_row r1 7).symm.trans (q5 0 _ rfl)
    refine .inl ⟨⟨{ d.m with start := x }, d.bodies⟩, r, cur', (fun k => S k ∨ Since w.heap.size w' k), by show (M.num bs).bind _ = _; rw [q1]; rfl, rfl, q3, hT, ⟨r1, r2.trans h.sz, h.f0.keep ag mono (keep 0 (by decide)), h.f1.keep ag mono (keep 1 (by decide)), h.hkeep hF fr.kb hT (keep 2 (by decide)), h.f3.keep ag mono (keep 3 (by decide)), h.f4.keep ag mono (keep 4 (by decide)), h.f5.keep ag mono (keep 5 (by decide)), h.f6.keep ag mono (keep 6 (by decide)), ?_, h.f8.keep ag mono (keep 8 (by decide)), h.f9.keep ag mono (keep 9 (by decide)), h.f10.keep ag mono (keep 10 (by decide)), fun id' i' h1 h2 => ?_⟩, fr.kb⟩
    · exact ⟨_, hv, rfl, hx⟩
    · rw [keep i' (fun e => by subst e; unfold idx at h1; split at h1 <;> simp_all)]
      exact h.z id' i' h1 (by omega))
  have no := Lib.hid (show M.num bs = none → M.sect 8 d bs = none from fun e => by show (M.num bs).bind _ = _; rw [e]; rfl)
  clear hp h hS hSP hSD hF
  go_enter Tryz.func132, Tryz.ntmps132
  go_wp2_with fail
  refine cN.out.mono ?_
  rintro e1 w1 (⟨x, r, cs, q1, rfl, q3, q4, q5, q6⟩ | ⟨q1, rfl, kb⟩)
  · have fin := Lib.hid (yes.out x r cs w1 q1 q3 q4 q5 q6)
    clear q3 q4 q5 q6
    go_wp2_with fail
    go_ret
    exact fin.out
  · have fin := Lib.hid (no.out q1)
    replace kb := Lib.hid kb
    go_wp2_with fail
    go_ret
    exact .inr ⟨fin.out, rfl, kb.out⟩
theorem Dst.keepAll {w w' : World} {S T : Nat → Prop} {D last : Nat} {d : M.Dm} {cur : Array Value} (h : Dst w S D last d cur) (ag : Agree S w w') (mono : ∀ b, S b → T b) (hr : w'.heap[D]? = w.heap[D]?) (h2 : HAt w' T D cur d.m.funcs) : Dst w' T D last d cur :=
  ⟨hr.trans h.row, h.sz, h.f0.keep ag mono rfl, h.f1.keep ag mono rfl, h2, h.f3.keep ag mono rfl, h.f4.keep ag mono rfl, h.f5.keep ag mono rfl, h.f6.keep ag mono rfl, h.f7.keep ag mono rfl, h.f8.keep ag mono rfl, h.f9.keep ag mono rfl, h.f10.keep ag mono rfl, h.z⟩
set_option maxRecDepth 100000 in
theorem sec_0 : SecOk 0 124 := by
  intro B P D last d cur S bs w hp h hl hne hB hSP hSD hS hF
  have hv := Lib.hid (show M.sect 0 d bs = (M.cName.rd bs).bind fun _ => some (d, []) from rfl)
  have hPl := hp.lt
  have hPlo := hp.lo
  have hDl := lt_row h.row
  have ha := Lib.hid (hp.alloc (.cells #[.string ByteArray.empty] 9))
  have fin := Lib.hid (show ∀ w1 r1, Kb (· = P) w w1 → PAt B w1 P r1 → SecPost 0 B P D S last d bs w (.returned (.bool true)) (w1.setCell ⟨P, 0, none⟩ (.slice none 0 0)) ∨ M.sect 0 d bs = none from fun w1 r1 kb p1 => by
    cases hq : M.sect 0 d bs with
    | none => exact .inr rfl
    | some q =>
      rw [hv.out] at hq
      obtain ⟨x, _, hx⟩ := Option.bind_eq_some_iff.1 hq
      obtain rfl : (d, []) = q := by simpa using hx
      have p2 := p1.move (A := none) (c := 0) (r := []) (by simp) ⟨by simp, by unfold maxLen; omega⟩ (fun i hi => by simp at hi)
      have kb2 : Kb (fun k => k = P ∨ k = D) w (w1.setCell ⟨P, 0, none⟩ (.slice none 0 0)) := (kb_g kb).trans (Kb.setCell (T := fun k => k = P ∨ k = D) (Kb.refl _ _) (p := ⟨P, 0, none⟩) (.inl rfl) _)
      refine .inl (.inl ⟨d, [], cur, S, by rw [hv.out]; exact hq, rfl, p2, fun k hk => .inl hk, ?_, kb2⟩)
      rw [Nat.max_eq_left (Nat.zero_le _)]
      exact h.keepAll (Dst.agree hS hSP hSD kb2) (fun b hb => hb) (by rw [Below.heap_setCell _ _ _ _ (by show D ≠ P; exact hne)]; exact kb.block D hDl hne) (h.hkeep hF kb2 (fun k hk => .inl hk) rfl))
  clear hp h hS hSP hSD hF
  go_enter Tryz.func124, Tryz.ntmps124
  go_wp2_with fail
  refine (mname_ok (.string ByteArray.empty) B P w.heap.size 0 9 #[.string ByteArray.empty] bs _ ha.out (heap_alloc_new w _) (one_row _) (by omega) (by omega)).mono ?_
  rintro e1 w1 (⟨x, r, cs, q1, rfl, p1, q4, q5, fr⟩ | ⟨q1, rfl, kb⟩)
  · rw [q1] at hv
    have kb := kb_new fr.kb
    have F := Lib.hid (fin.out w1 r kb p1)
    obtain ⟨A, c, hP, _⟩ := p1.ex
    have c0 := cell_row hP 0
    simp only [List.size_toArray, List.length_cons, List.length_nil, Nat.lt_irrefl, List.getElem?_toArray, List.getElem?_cons_zero] at c0
    have f0 := frozen_row hP 0
    clear p1 q4 q5 fr kb hP
    go_wp2_with fail
    go_ret
    rcases F.out with F | F
    · exact F
    · rw [hv.out] at F; cases F
  · rw [q1] at hv
    replace kb := Lib.hid (kb_new kb)
    go_wp2_with fail
    go_ret
    exact .inr ⟨hv.out, rfl, kb_g kb.out⟩
end Go.Proofs.YtmejgbbdehndaaaGreat
