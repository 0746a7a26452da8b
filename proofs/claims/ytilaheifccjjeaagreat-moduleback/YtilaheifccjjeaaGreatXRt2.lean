/-
  Plain facts: a module that is read from bytes may be written, by no more bytes, and weighs no more than they. No condition.
-/
import Derived.Test.YtilaheifccjjeaaGreatXGK
import Derived.Test.YtilaheifccjjeaaGreatXGA
import Derived.Test.YtilaheifccjjeaaGreatXGB
import Derived.Test.YtilaheifccjjeaaGreatXGC
import Derived.Test.YtilaheifccjjeaaGreatXGD
import Derived.Test.YtilaheifccjjeaaGreatXGE
import Derived.Test.YtilaheifccjjeaaGreatXGF
import Derived.Test.YtilaheifccjjeaaGreatXGG
import Derived.Test.YtilaheifccjjeaaGreatXGH
import Derived.Test.YtilaheifccjjeaaGreatXGI
import Derived.Test.YtilaheifccjjeaaGreatXGJ
namespace Go.Proofs.YtilaheifccjjeaaGreat
namespace M
def okD (d : Dm) (id : Nat) : Prop := match id with
  | 1 => (vec cFT).ok d.m.types
  | 2 => (vec cImp).ok d.m.imports
  | 3 => (vec cNum).ok (d.m.funcs.map (·.ty))
  | 4 => (vec cTab).ok d.m.tables
  | 5 => (vec cLim).ok d.m.memories
  | 6 => (vec cGlo).ok d.m.globals
  | 7 => (vec cExp).ok d.m.exports
  | 8 => d.m.start = -1 ∨ inR d.m.start
  | 9 => (vec cElm).ok d.m.elems
  | 10 => (vec cBody).ok (d.bodies.map fun f => (f.lo, f.bo))
  | _ => (vec cDat).ok d.m.datas
def ysD (d : Dm) (id : Nat) : List Nat := match id with
  | 1 => wSome cFT d.m.types
  | 2 => wSome cImp d.m.imports
  | 3 => wSome cNum (d.m.funcs.map (·.ty))
  | 4 => wSome cTab d.m.tables
  | 5 => wSome cLim d.m.memories
  | 6 => wSome cGlo d.m.globals
  | 7 => wSome cExp d.m.exports
  | 8 => wStart d.m.start
  | 9 => wSome cElm d.m.elems
  | 10 => wSome cBody (d.bodies.map fun f => (f.lo, f.bo))
  | _ => wSome cDat d.m.datas
theorem wSome_le {α : Type} (c : Codec α) (xs : List α) : (wSome c xs).length ≤ ((vec c).wr xs).length := by
  cases xs with
  | nil => simp [wSome]
  | cons x t => exact Nat.le_refl _
/-- What one section changes. -/
structure Upd (b : Nat) (d d' : Dm) (p : List Nat) : Prop where
  same : ∀ id, 1 ≤ id → id ≤ 11 → id ≠ b → ysD d' id = ysD d id ∧ okD d' id = okD d id
  ok : okD d' b
  len : (ysD d' b).length ≤ p.length
theorem vec_read {α : Type} {c : Codec α} {p r : List Nat} {x : List α} (hl : p.length ≤ 2147483648) (h : (vec c).rd p = some (x, r)) : (vec c).ok x ∧ (wSome c x).length ≤ p.length := by
  obtain ⟨h1, h2⟩ := (vec c).sound _ _ _ hl h
  have := wSome_le c x
  exact ⟨h1, by omega⟩
set_option maxRecDepth 10000 in
theorem sect_upd {b : Nat} {d d' : Dm} {p : List Nat} (h1 : 1 ≤ b) (h2 : b ≤ 11) (hl : p.length ≤ 2147483648) (h : sect b d p = some (d', [])) : Upd b d d' p := by
  have ids : ∀ id, 1 ≤ id → id ≤ 11 → id = 1 ∨ id = 2 ∨ id = 3 ∨ id = 4 ∨ id = 5 ∨ id = 6 ∨ id = 7 ∨ id = 8 ∨ id = 9 ∨ id = 10 ∨ id = 11 := fun id _ _ => by omega
  rcases ids b h1 h2 with rfl | rfl | rfl | rfl | rfl | rfl | rfl | rfl | rfl | rfl | rfl
  case inr.inr.inl =>
    obtain ⟨⟨x, r⟩, h3, h4⟩ := Option.bind_eq_some_iff.1 h
    obtain ⟨rfl, rfl⟩ : _ = d' ∧ r = [] := by simpa using h4
    obtain ⟨q1, q2⟩ := (vec cHead).sound _ _ _ hl h3
    have e := vec_map cNum cHead (fun f : Fn => f.ty) id (fun _ => rfl) x
    rw [List.map_id] at e
    refine ⟨fun id i1 i2 i3 => ?_, ⟨by have := q1.1; simpa using this, fun t ht => ?_⟩, ?_⟩
    · rcases ids id i1 i2 with rfl | rfl | rfl | rfl | rfl | rfl | rfl | rfl | rfl | rfl | rfl
      all_goals first | exact absurd rfl i3 | exact ⟨rfl, rfl⟩
    · obtain ⟨f, hf, rfl⟩ := List.mem_map.1 ht
      exact (q1.2 f hf).1
    · show (wSome cNum (x.map (·.ty))).length ≤ _
      have := wSome_le cNum (x.map (·.ty))
      rw [e] at q2
      omega
  case inr.inr.inr.inr.inr.inr.inr.inl =>
    obtain ⟨⟨x, r⟩, h3, h4⟩ := Option.bind_eq_some_iff.1 h
    obtain ⟨rfl, rfl⟩ : _ = d' ∧ r = [] := by simpa using h4
    obtain ⟨q1, q2, _⟩ := num_short h3
    refine ⟨fun id i1 i2 i3 => ?_, .inr q1, ?_⟩
    · rcases ids id i1 i2 with rfl | rfl | rfl | rfl | rfl | rfl | rfl | rfl | rfl | rfl | rfl
      all_goals first | exact absurd rfl i3 | exact ⟨rfl, rfl⟩
    · show (wStart x).length ≤ _
      unfold wStart
      split
      · simp
      · omega
  case inr.inr.inr.inr.inr.inr.inr.inr.inr.inl =>
    obtain ⟨⟨x, r⟩, h3, h4⟩ := Option.bind_eq_some_iff.1 h
    obtain ⟨rfl, rfl⟩ : _ = d' ∧ r = [] := by simpa using h4
    obtain ⟨q1, q2⟩ := (vec cFnB).sound _ _ _ hl h3
    have e := vec_map cBody cFnB (fun f : Fn => (f.lo, f.bo)) id (fun _ => rfl) x
    rw [List.map_id] at e
    refine ⟨fun id i1 i2 i3 => ?_, ⟨by have := q1.1; simpa using this, fun t ht => ?_⟩, ?_⟩
    · rcases ids id i1 i2 with rfl | rfl | rfl | rfl | rfl | rfl | rfl | rfl | rfl | rfl | rfl
      all_goals first | exact absurd rfl i3 | exact ⟨rfl, rfl⟩
    · obtain ⟨f, hf, rfl⟩ := List.mem_map.1 ht
      exact (q1.2 f hf).1
    · show (wSome cBody (x.map fun f => (f.lo, f.bo))).length ≤ _
      have := wSome_le cBody (x.map fun f => (f.lo, f.bo))
      rw [e] at q2
      omega
  all_goals
    obtain ⟨⟨x, r⟩, h3, h4⟩ := Option.bind_eq_some_iff.1 h
    obtain ⟨rfl, rfl⟩ : _ = d' ∧ r = [] := by simpa using h4
    obtain ⟨q1, q2⟩ := vec_read hl h3
    refine ⟨fun id i1 i2 i3 => ?_, q1, q2⟩
    rcases ids id i1 i2 with rfl | rfl | rfl | rfl | rfl | rfl | rfl | rfl | rfl | rfl | rfl
    all_goals first | exact absurd rfl i3 | exact ⟨rfl, rfl⟩
theorem topYs_upd {f g : Nat → List Nat} {b : Nat} (hb : f b = []) : ∀ (n id : Nat), (∀ i, id ≤ i → i < id + n → i ≠ b → g i = f i) → (topYs g n id).length ≤ (topYs f n id).length + (sb b (g b)).length
  | 0, id, _ => by simp [topYs]
  | n + 1, id, h => by
    unfold topYs
    rw [List.length_append, List.length_append]
    by_cases e : id = b
    · subst e
      have h2 : ∀ n i, id < i → (∀ j, i ≤ j → j < i + n → j ≠ id → g j = f j) → topYs g n i = topYs f n i := fun n => by
        induction n with
        | zero => intro i _ _; rfl
        | succ n ih =>
          intro i hi hj
          unfold topYs
          rw [hj i (Nat.le_refl _) (by omega) (by omega), ih (i + 1) (by omega) (fun j q1 q2 q3 => hj j (by omega) (by omega) q3)]
      rw [h2 n (id + 1) (by omega) (fun j q1 q2 q3 => h j (by omega) (by omega) q3)]
      omega
    · have ih := topYs_upd hb n (id + 1) (fun i q1 q2 q3 => h i (by omega) (by omega) q3)
      rw [h id (Nat.le_refl _) (by omega) e]
      omega
structure Inv (last : Nat) (d : Dm) : Prop where
  non : ∀ id, 1 ≤ id → last < id → id ≤ 11 → ysD d id = []
  ok : ∀ id, 1 ≤ id → id ≤ 11 → okD d id ∧ (ysD d id).length ≤ 65536
theorem sects_sound : ∀ (n last : Nat) (d : Dm) (bs : List Nat) (D : Dm), bs.length ≤ 65536 → sects n last d bs = some D → Inv last d → Inv 11 D ∧ (topYs (ysD D) 11 1).length ≤ (topYs (ysD d) 11 1).length + bs.length
  | n, last, d, [], D, _, h, hi => by
    have : D = d := by cases n <;> simpa [sects] using h.symm
    subst this
    exact ⟨⟨fun id h1 h2 h3 => by omega, hi.ok⟩, by omega⟩
  | 0, _, _, _ :: _, _, _, h, _ => by cases h
  | n + 1, last, d, b :: r, D, hl, h, hi => by
    simp only [sects] at h
    split at h
    · cases h
    · rename_i hb
      obtain ⟨⟨d', r'⟩, h1, h2⟩ := Option.bind_eq_some_iff.1 h
      have h2 : sects n (max last b) d' r' = some D := h2
      unfold sectS at h1
      obtain ⟨⟨p, r1⟩, h3, h4⟩ := Option.bind_eq_some_iff.1 h1
      obtain ⟨⟨d2, r2⟩, h5, h6⟩ := Option.bind_eq_some_iff.1 h4
      have h5 : sect b d p = some (d2, r2) := h5
      simp only [List.length_cons] at hl
      obtain ⟨p1, p2⟩ := cPiece.sound _ _ _ (by omega) h3
      have p2 : (U (p.length : Int) ++ p).length + r1.length ≤ r.length := p2
      rw [List.length_append] at p2
      cases r2 with
      | cons => cases h6
      | nil =>
        obtain ⟨rfl, rfl⟩ : d2 = d' ∧ r1 = r' := by simpa using h6
        by_cases hb0 : b = 0
        · subst hb0
          obtain ⟨x, h7, h8⟩ := Option.bind_eq_some_iff.1 (show (cName.rd p).bind (fun _ => some (d, ([] : List Nat))) = some (d2, []) from h5)
          obtain rfl : d = d2 := by simpa using h8
          rw [Nat.max_zero] at h2
          obtain ⟨q1, q2⟩ := sects_sound n last d r1 D (by omega) h2 hi
          exact ⟨q1, by simp only [List.length_cons]; omega⟩
        · have hu := sect_upd (by omega) (by omega) (by omega) h5
          have hi' : Inv (max last b) d2 := ⟨fun id i1 i2 i3 => by rw [(hu.same id i1 i3 (by omega)).1]; exact hi.non id i1 (by omega) i3, fun id i1 i2 => by
            by_cases e : id = b
            · subst e
              exact ⟨hu.ok, by have := hu.len; omega⟩
            · rw [(hu.same id i1 i2 e).1, (hu.same id i1 i2 e).2]
              exact hi.ok id i1 i2⟩
          obtain ⟨q1, q2⟩ := sects_sound n (max last b) d2 r1 D (by omega) h2 hi'
          have q3 := topYs_upd (f := ysD d) (g := ysD d2) (b := b) (hi.non b (by omega) (by omega) (by omega)) 11 1 (fun i i1 i2 i3 => (hu.same i i1 (by omega) i3).1)
          have q4 : (sb b (ysD d2 b)).length ≤ 1 + ((U (p.length : Int)).length + p.length) := by
            unfold sb
            split
            · simp
            · have := hu.len
              have := U_mono hu.len
              simp only [List.length_cons, List.length_append]
              omega
          exact ⟨q1, by simp only [List.length_cons]; omega⟩
theorem inv0 : Inv 0 dm0 := by
  have ids : ∀ id, 1 ≤ id → id ≤ 11 → id = 1 ∨ id = 2 ∨ id = 3 ∨ id = 4 ∨ id = 5 ∨ id = 6 ∨ id = 7 ∨ id = 8 ∨ id = 9 ∨ id = 10 ∨ id = 11 := fun id _ _ => by omega
  have h : ∀ id, 1 ≤ id → id ≤ 11 → ysD dm0 id = [] := fun id h1 h2 => by
    rcases ids id h1 h2 with rfl | rfl | rfl | rfl | rfl | rfl | rfl | rfl | rfl | rfl | rfl <;> rfl
  refine ⟨fun id h1 _ h3 => h id h1 h3, fun id h1 h2 => ⟨?_, by rw [h id h1 h2]; simp⟩⟩
  rcases ids id h1 h2 with rfl | rfl | rfl | rfl | rfl | rfl | rfl | rfl | rfl | rfl | rfl
  case inr.inr.inr.inr.inr.inr.inr.inl => exact .inl rfl
  all_goals exact ⟨by simp [dm0, mod0], fun x hx => by cases hx⟩
theorem joinM_ty : ∀ (fs bs : List Fn), bs.length = fs.length → (joinM fs bs).map (·.ty) = fs.map (·.ty)
  | [], [], _ => rfl
  | f :: fs, b :: bs, h => by simp only [joinM, List.map_cons, joinM_ty fs bs (by simpa using h)]
  | [], _ :: _, h => by simp at h
  | _ :: _, [], h => by simp at h
theorem joinM_bo : ∀ (fs bs : List Fn), bs.length = fs.length → (joinM fs bs).map (fun f => (f.lo, f.bo)) = bs.map (fun f => (f.lo, f.bo))
  | [], [], _ => rfl
  | f :: fs, b :: bs, h => by simp only [joinM, List.map_cons, joinM_bo fs bs (by simpa using h)]
  | [], _ :: _, h => by simp at h
  | _ :: _, [], h => by simp at h
theorem topOk_all {okf : Nat → Prop} {ysf : Nat → List Nat} : ∀ (n id : Nat), (∀ i, id ≤ i → i < id + n → okf i ∧ (ysf i).length ≤ 65536) → topOk okf ysf n id
  | 0, _, _ => trivial
  | n + 1, id, h => ⟨h id (Nat.le_refl _) (by omega), topOk_all n (id + 1) (fun i h1 h2 => h i (by omega) (by omega))⟩
theorem topOk_at {okf : Nat → Prop} {ysf : Nat → List Nat} : ∀ (n id : Nat), topOk okf ysf n id → ∀ i, id ≤ i → i < id + n → okf i ∧ (ysf i).length ≤ 65536
  | 0, _, _, i, h1, h2 => by omega
  | n + 1, id, h, i, h1, h2 => by
    by_cases e : i = id
    · rw [e]; exact h.1
    · exact topOk_at n (id + 1) h.2 i (by omega) (by omega)
theorem topYs_congr {f g : Nat → List Nat} : ∀ (n id : Nat), (∀ i, id ≤ i → i < id + n → g i = f i) → topYs g n id = topYs f n id
  | 0, _, _ => rfl
  | n + 1, id, h => by
    unfold topYs
    rw [h id (Nat.le_refl _) (by omega), topYs_congr n (id + 1) (fun i h1 h2 => h i (by omega) (by omega))]
theorem topYs_part {f : Nat → List Nat} : ∀ (n id i : Nat), id ≤ i → i < id + n → (f i).length ≤ (topYs f n id).length
  | 0, _, _, _, _ => by omega
  | n + 1, id, i, h1, h2 => by
    unfold topYs
    rw [List.length_append]
    by_cases e : i = id
    · subst e
      unfold sb
      by_cases h : f i = []
      · rw [h]; simp
      · rw [if_neg h]; simp only [List.length_cons, List.length_append]; omega
    · have := topYs_part (f := f) n (id + 1) i (by omega) (by omega)
      omega
/-- What is read may be written, by no more bytes. -/
theorem rdModule_sound {bs : List Nat} {m : Mod} (h : rdModule bs = some m) : topOk (okM m) (ysM m) 11 1 ∧ 8 + (topYs (ysM m) 11 1).length ≤ bs.length ∧ bs.length ≤ 65536 := by
  unfold rdModule at h
  split at h
  · cases h
  · rename_i hl
    obtain ⟨r, h1, h2⟩ := Option.bind_eq_some_iff.1 h
    obtain ⟨D, h3, h4⟩ := Option.bind_eq_some_iff.1 h2
    have hb := rdHead_some h1
    have hbl : bs.length = 8 + r.length := by rw [hb, List.length_append]; rfl
    obtain ⟨q1, q2⟩ := sects_sound _ _ _ _ _ (by omega) h3 inv0
    have e0 : (topYs (ysD dm0) 11 1).length = 0 := rfl
    unfold joined at h4
    split at h4
    · rename_i hj
      cases h4
      have ids : ∀ id, 1 ≤ id → id ≤ 11 → id = 1 ∨ id = 2 ∨ id = 3 ∨ id = 4 ∨ id = 5 ∨ id = 6 ∨ id = 7 ∨ id = 8 ∨ id = 9 ∨ id = 10 ∨ id = 11 := fun id _ _ => by omega
      have hy : ∀ id, 1 ≤ id → id < 1 + 11 → ysM { D.m with funcs := joinM D.m.funcs D.bodies } id = ysD D id ∧ okM { D.m with funcs := joinM D.m.funcs D.bodies } id = okD D id := fun id i1 i2 => by
        rcases ids id i1 (by omega) with rfl | rfl | rfl | rfl | rfl | rfl | rfl | rfl | rfl | rfl | rfl
        case inr.inr.inl => exact ⟨congrArg (wSome cNum) (joinM_ty _ _ hj), congrArg (vec cNum).ok (joinM_ty _ _ hj)⟩
        case inr.inr.inr.inr.inr.inr.inr.inr.inr.inl => exact ⟨congrArg (wSome cBody) (joinM_bo _ _ hj), congrArg (vec cBody).ok (joinM_bo _ _ hj)⟩
        all_goals exact ⟨rfl, rfl⟩
      refine ⟨topOk_all 11 1 fun i i1 i2 => ?_, ?_, by omega⟩
      · rw [(hy i i1 i2).1, (hy i i1 i2).2]
        exact q1.ok i i1 (by omega)
      · rw [topYs_congr 11 1 (fun i i1 i2 => (hy i i1 i2).1)]
        omega
    · cases h4
theorem wTimes_mem {α : Type} (c : Codec α) : ∀ {xs : List α} {x : α}, x ∈ xs → (c.wr x).length ≤ (wTimes c xs).length
  | x :: t, y, h => by
    simp only [wTimes, List.length_append]
    rcases List.mem_cons.1 h with rfl | h
    · omega
    · have := wTimes_mem c h
      omega
theorem wSome_mem {α : Type} (c : Codec α) {xs : List α} {x : α} (h : x ∈ xs) : (c.wr x).length ≤ (wSome c xs).length := by
  cases xs with
  | nil => cases h
  | cons y t =>
    show _ ≤ (U _ ++ wTimes c (y :: t)).length
    rw [List.length_append]
    have := wTimes_mem c h
    omega
theorem const_sz {l : L} (h : cConst.ok l) : l.sz ≤ (cConst.wr l).length := by
  have h1 : ok 40 l := h.1.1
  have := sz_le l 40 h1
  show _ ≤ (enc l ++ [11]).length
  rw [List.length_append]
  omega
/-- What a module that may be written weighs. -/
structure Light (m : Mod) (n : Nat) : Prop where
  ft : ∀ x ∈ m.types, x.ps.length ≤ 128 ∧ x.rs.length ≤ 128
  glo : ∀ x ∈ m.globals, x.ini.sz ≤ n
  elm : ∀ x ∈ m.elems, x.off.sz ≤ n ∧ x.fs.length ≤ 128
  dat : ∀ x ∈ m.datas, x.off.sz ≤ n
  fn : ∀ x ∈ m.funcs, x.bo.sz ≤ n
theorem light_of {m : Mod} (h : topOk (okM m) (ysM m) 11 1) : Light m (topYs (ysM m) 11 1).length := by
  have hy := fun i h1 h2 => topYs_part (f := ysM m) 11 1 i h1 h2
  have hk := fun i h1 h2 => (topOk_at 11 1 h i h1 h2).1
  refine ⟨fun x hx => ?_, fun x hx => ?_, fun x hx => ?_, fun x hx => ?_, fun x hx => ?_⟩
  · have h1 : (vec cFT).ok m.types := hk 1 (by omega) (by omega)
    have h2 := h1.2 x hx
    exact ⟨h2.1.2.1.1, h2.1.2.2.1⟩
  · have h1 : (vec cGlo).ok m.globals := hk 6 (by omega) (by omega)
    have h2 : x.ini.sz ≤ (cConst.wr x.ini).length := const_sz (h1.2 x hx).2.2
    have h3 : (wSome cGlo m.globals).length ≤ _ := hy 6 (by omega) (by omega)
    have h4 := wSome_mem cGlo hx
    have h5 : (cGlo.wr x).length = (cVal.wr x.ty ++ (cFlag.wr x.mu ++ cConst.wr x.ini)).length := rfl
    simp only [List.length_append] at h5
    omega
  · have h1 : (vec cElm).ok m.elems := hk 9 (by omega) (by omega)
    have h6 := h1.2 x hx
    have h2 : x.off.sz ≤ (cConst.wr x.off).length := const_sz h6.2.1
    have h3 : (wSome cElm m.elems).length ≤ _ := hy 9 (by omega) (by omega)
    have h4 := wSome_mem cElm hx
    have h5 : (cElm.wr x).length = (cNum.wr x.ta ++ (cConst.wr x.off ++ (cVec cNum 128 (by decide)).wr x.fs)).length := rfl
    simp only [List.length_append] at h5
    exact ⟨by omega, h6.2.2.1⟩
  · have h1 : (vec cDat).ok m.datas := hk 11 (by omega) (by omega)
    have h6 := h1.2 x hx
    have h2 : x.off.sz ≤ (cConst.wr x.off).length := const_sz h6.2.1
    have h3 : (wSome cDat m.datas).length ≤ _ := hy 11 (by omega) (by omega)
    have h4 := wSome_mem cDat hx
    have h5 : (cDat.wr x).length = (cNum.wr x.me ++ (cConst.wr x.off ++ cPiece.wr x.bs)).length := rfl
    simp only [List.length_append] at h5
    omega
  · have h1 : (vec cBody).ok (m.funcs.map fun f => (f.lo, f.bo)) := hk 10 (by omega) (by omega)
    have hx' : (x.lo, x.bo) ∈ m.funcs.map fun f => (f.lo, f.bo) := List.mem_map.2 ⟨x, hx, rfl⟩
    have h6 := h1.2 _ hx'
    have h3 : (wSome cBody (m.funcs.map fun f => (f.lo, f.bo))).length ≤ _ := hy 10 (by omega) (by omega)
    have h4 := wSome_mem cBody hx'
    have h7 : ok 40 x.bo := h6.1.2.1
    have h2 := sz_le x.bo 40 h7
    have h5 : (cBody.wr (x.lo, x.bo)).length = (U ((cLocals.wr x.lo ++ (enc x.bo ++ [11])).length : Nat) ++ (cLocals.wr x.lo ++ (enc x.bo ++ [11]))).length := rfl
    rw [List.length_append] at h5
    simp only [List.length_append] at h5
    omega
end M
end Go.Proofs.YtilaheifccjjeaaGreat
