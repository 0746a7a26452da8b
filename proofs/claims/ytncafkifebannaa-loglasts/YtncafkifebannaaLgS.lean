/-
  Plain facts on crashes: eights of two halves mixed, bytes laid in part, which records are found; no program is named.
-/
import Derived.Test.YtncafkifebannaaLgI
import Derived.Test.YtncafkifebannaaLgQ
namespace Go.Proofs.Ytncafkifebannaa.M
open Go
/-- Each eight bytes are the one's or the other's. -/
def Mix (I A B : List Nat) : Prop := ∀ k, (∀ i, 8 * k ≤ i → i < 8 * k + 8 → I.getD i 0 = A.getD i 0) ∨ (∀ i, 8 * k ≤ i → i < 8 * k + 8 → I.getD i 0 = B.getD i 0)
theorem Mix.byte {I A B : List Nat} (h : Mix I A B) (i : Nat) : I.getD i 0 = A.getD i 0 ∨ I.getD i 0 = B.getD i 0 := by
  rcases h (i / 8) with h1 | h1
  · exact .inl (h1 i (by omega) (by omega))
  · exact .inr (h1 i (by omega) (by omega))
theorem Mix.left (A B : List Nat) : Mix A A B := fun _ => .inl fun _ _ _ => rfl
theorem Mix.right (A B : List Nat) : Mix B A B := fun _ => .inr fun _ _ _ => rfl
theorem Mix.trans {X A E F : List Nat} (h : Mix X A E) (h2 : Mix E A F) : Mix X A F := fun k => by
  rcases h k with h3 | h3
  · exact .inl h3
  · rcases h2 k with h4 | h4
    · exact .inl fun i q1 q2 => (h3 i q1 q2).trans (h4 i q1 q2)
    · exact .inr fun i q1 q2 => (h3 i q1 q2).trans (h4 i q1 q2)
theorem Mix.mk {I A B N : List Nat} (h : Mix I A B) (hl : I.length = N.length) (hA : Mk A N) (hB : Mk B N) : Mk I N := by
  refine ⟨hl, fun k => ?_⟩
  rcases h k with h1 | h1
  · rcases hA.2 k with h2 | h2
    · exact .inl fun i q1 q2 => (h1 i q1 q2).trans (h2 i q1 q2)
    · exact .inr fun i q1 q2 => (h1 i q1 q2).trans (h2 i q1 q2)
  · rcases hB.2 k with h2 | h2
    · exact .inl fun i q1 q2 => (h1 i q1 q2).trans (h2 i q1 q2)
    · exact .inr fun i q1 q2 => (h1 i q1 q2).trans (h2 i q1 q2)
theorem Mix.of_sec {I A B : List Nat} (n : Nat) (hI : I.length = n * 64) (hA : A.length = n * 64) (hB : B.length = n * 64) (h : ∀ s, s < n → sec I s = sec A s ∨ sec I s = sec B s) : Mix I A B := by
  intro k
  have key : ∀ X : List Nat, sec I (k / 8) = sec X (k / 8) → ∀ i, 8 * k ≤ i → i < 8 * k + 8 → I.getD i 0 = X.getD i 0 := fun X he i q1 q2 => by
    have e1 := sec_getD I (k / 8) (i - k / 8 * 64) (by omega)
    have e2 := sec_getD X (k / 8) (i - k / 8 * 64) (by omega)
    rw [show k / 8 * 64 + (i - k / 8 * 64) = i by omega] at e1 e2
    rw [← e1, ← e2, he]
  by_cases hs : k / 8 < n
  · rcases h _ hs with h1 | h1
    · exact .inl (key A h1)
    · exact .inr (key B h1)
  · refine .inl fun i q1 q2 => ?_
    rw [List.getD_eq_getElem?_getD, List.getD_eq_getElem?_getD, List.getElem?_eq_none (by omega), List.getElem?_eq_none (by omega)]
theorem getD_take_or (bs : List Nat) (n i : Nat) : (bs.take n).getD i 0 = if i < n then bs.getD i 0 else 0 := by
  by_cases h : i < n
  · rw [if_pos h, getD_take' _ _ _ h]
  · rw [if_neg h, List.getD_eq_getElem?_getD, List.getElem?_eq_none (by rw [List.length_take]; omega)]; rfl
theorem reg_get (E : List Nat) (n h i : Nat) : (reg E n h).getD i 0 = if i < cnt n * 64 then E.getD ((1 + h * cnt n) * 64 + i) 0 else 0 := by
  unfold reg
  rw [getD_take_or, getD_drop']
theorem Mix.reg {I A B : List Nat} (n h : Nat) (hm : Mix I A B) : Mix (reg I n h) (reg A n h) (reg B n h) := fun k => by
  rcases hm ((1 + h * cnt n) * 8 + k) with h1 | h1
  · refine .inl fun i q1 q2 => ?_
    rw [reg_get, reg_get]
    split
    · exact h1 _ (by omega) (by omega)
    · rfl
  · refine .inr fun i q1 q2 => ?_
    rw [reg_get, reg_get]
    split
    · exact h1 _ (by omega) (by omega)
    · rfl
theorem lay_getD {bs xs : List Nat} {a : Nat} (h : a + xs.length ≤ bs.length) (j : Nat) : (lay bs a xs).getD j 0 = if a ≤ j ∧ j < a + xs.length then xs.getD (j - a) 0 else bs.getD j 0 := by
  rw [List.getD_eq_getElem?_getD, lay_get h]
  split <;> rw [List.getD_eq_getElem?_getD]
/-- Bytes laid in part. -/
theorem Mix.part {A xs : List Nat} (o j : Nat) (h : o + xs.length ≤ A.length) (h8 : j = xs.length ∨ (o + j) % 8 = 0) (hj : j ≤ xs.length) : Mix (lay A o (xs.take j)) A (lay A o xs) := fun k => by
  have hl : (xs.take j).length = j := by rw [List.length_take]; omega
  rcases h8 with h8 | h8
  · subst h8
    rw [List.take_length]
    exact .inr fun _ _ _ => rfl
  · by_cases hk : 8 * k < o + j
    · refine .inr fun i q1 q2 => ?_
      rw [lay_getD (by omega), lay_getD h, hl]
      by_cases h1 : o ≤ i
      · rw [if_pos (by omega), if_pos (by omega), getD_take' _ _ _ (by omega)]
      · rw [if_neg (by omega), if_neg (by omega)]
    · refine .inl fun i q1 q2 => ?_
      rw [lay_getD (by omega), hl, if_neg (by omega)]
theorem reg_lay {E xs : List Nat} {n h o : Nat} (hE : (1 + h * cnt n) * 64 + cnt n * 64 ≤ E.length) (ho : o + xs.length ≤ cnt n * 64) : reg (lay E ((1 + h * cnt n) * 64 + o) xs) n h = lay (reg E n h) o xs := by
  have hrl : (reg E n h).length = cnt n * 64 := by unfold reg; rw [List.length_take, List.length_drop]; omega
  have hrl2 : (reg (lay E ((1 + h * cnt n) * 64 + o) xs) n h).length = cnt n * 64 := by
    unfold reg; rw [List.length_take, List.length_drop, lay_length (by omega)]; omega
  apply List.ext_getElem?
  intro i
  by_cases hi : i < cnt n * 64
  · have e1 := lay_get (bs := reg E n h) (xs := xs) (a := o) (by omega) i
    rw [e1]
    unfold reg
    rw [List.getElem?_take_of_lt hi, List.getElem?_drop, lay_get (by omega), List.getElem?_take_of_lt hi, List.getElem?_drop]
    by_cases h1 : o ≤ i ∧ i < o + xs.length
    · rw [if_pos (by omega), if_pos h1]; congr 1; omega
    · rw [if_neg (by omega), if_neg h1]
  · rw [List.getElem?_eq_none (by omega), List.getElem?_eq_none (by rw [lay_length (by omega)]; omega)]
/-- What is laid in one half leaves the other. -/
theorem reg_other {E xs : List Nat} {n h h' o : Nat} (hh : h < 2) (hh' : h' < 2) (hne : h ≠ h') (hE : E.length = n * 64) (hn : 0 < n) (ho : o + xs.length ≤ cnt n * 64) : reg (lay E ((1 + h * cnt n) * 64 + o) xs) n h' = reg E n h' := by
  have hc : cnt n * 2 + 1 ≤ n := by unfold cnt; omega
  have hb : (1 + h * cnt n) * 64 + o + xs.length ≤ E.length := by
    rcases (show h = 0 ∨ h = 1 by omega) with rfl | rfl <;> omega
  apply List.ext_getElem?
  intro i
  unfold reg
  by_cases hi : i < cnt n * 64
  · rw [List.getElem?_take_of_lt hi, List.getElem?_take_of_lt hi, List.getElem?_drop, List.getElem?_drop, lay_get hb, if_neg]
    rcases (show (h = 0 ∧ h' = 1) ∨ (h = 1 ∧ h' = 0) by omega) with ⟨rfl, rfl⟩ | ⟨rfl, rfl⟩ <;> omega
  · rw [List.getElem?_eq_none (by rw [List.length_take]; omega), List.getElem?_eq_none (by rw [List.length_take]; omega)]
theorem sec0_lay {E xs : List Nat} {n h o : Nat} (hE : (1 + h * cnt n) * 64 + o + xs.length ≤ E.length) : sec (lay E ((1 + h * cnt n) * 64 + o) xs) 0 = sec E 0 := by
  apply List.ext_getElem?
  intro i
  rw [sec_get, sec_get]
  split
  · rw [lay_get (by omega), if_neg (by omega)]
  · rfl
theorem full_half {rs : List (List Nat)} {C : Nat} (h : (ents rs).length ≤ C) : full rs C = half' rs C := by
  unfold full half' lay splice
  simp
/-- Records in order: each of bytes, none too long. -/
def OkR (rs : List (List Nat)) : Prop := ∀ r ∈ rs, (∀ b ∈ r, b < 256) ∧ r.length ≤ 1048576
theorem OkR.take {rs : List (List Nat)} (h : OkR rs) (i : Nat) : OkR (rs.take i) := fun r hr => h r (List.mem_of_mem_take hr)
/-- The first i records' entries stand there whole. -/
def Wh (I : List Nat) (rs : List (List Nat)) (i : Nat) : Prop := I.take (ents (rs.take i)).length = ents (rs.take i)
theorem Wh.byte {I : List Nat} {rs : List (List Nat)} {i : Nat} (h : Wh I rs i) (x : Nat) (hx : x < (ents (rs.take i)).length) : I.getD x 0 = (ents (rs.take i)).getD x 0 := by
  unfold Wh at h
  have e : (I.take (ents (rs.take i)).length).getD x 0 = (ents (rs.take i)).getD x 0 := by rw [h]
  rwa [getD_take' _ _ _ hx] at e
theorem wh_of {I : List Nat} {rs : List (List Nat)} {i : Nat} (hl : (ents (rs.take i)).length ≤ I.length) (h : ∀ x, x < (ents (rs.take i)).length → I.getD x 0 = (ents (rs.take i)).getD x 0) : Wh I rs i := by
  have e : I.take (ents (rs.take i)).length = (ents (rs.take i)).take (ents (rs.take i)).length := by
    apply List.ext_getElem?
    intro x
    by_cases hx : x < (ents (rs.take i)).length
    · rw [List.getElem?_take_of_lt hx, List.getElem?_take_of_lt hx]
      have := h x hx
      rw [List.getD_eq_getElem?_getD, List.getD_eq_getElem?_getD, List.getElem?_eq_getElem (by omega), List.getElem?_eq_getElem hx] at this
      rw [List.getElem?_eq_getElem (by omega), List.getElem?_eq_getElem hx]
      simpa using this
    · rw [List.getElem?_eq_none (by rw [List.length_take]; omega), List.getElem?_eq_none (by rw [List.length_take]; omega)]
  unfold Wh
  rw [e, List.take_length]
theorem half_wh {rs : List (List Nat)} {C : Nat} (i : Nat) : Wh (half' rs C) rs i := by
  have happ : ents rs = ents (rs.take i) ++ ents (rs.drop i) := by rw [← ents_append, List.take_append_drop]
  unfold Wh half'
  rw [happ, List.append_assoc, List.take_left' rfl]
theorem half_take_wh {rs : List (List Nat)} {C j i : Nat} (hij : i ≤ j) : Wh (half' (rs.take j) C) rs i := by
  have := half_wh (rs := rs.take j) (C := C) i
  unfold Wh at this ⊢
  rwa [List.take_take, Nat.min_eq_left hij] at this
theorem ents_mono (rs : List (List Nat)) {i j : Nat} (h : i ≤ j) : (ents (rs.take i)).length ≤ (ents (rs.take j)).length := by
  have := ents_le (rs.take j) i
  rwa [List.take_take, Nat.min_eq_left h] at this
theorem ents_pre (rs : List (List Nat)) {i j : Nat} (h : i ≤ j) (x : Nat) (hx : x < (ents (rs.take i)).length) : (ents (rs.take i)).getD x 0 = (ents (rs.take j)).getD x 0 := by
  have e : rs.take i = (rs.take j).take i := by rw [List.take_take, Nat.min_eq_left h]
  have happ : ents (rs.take j) = ents (rs.take i) ++ ents ((rs.take j).drop i) := by rw [e, ← ents_append, List.take_append_drop]
  rw [happ, List.getD_eq_getElem?_getD, List.getD_eq_getElem?_getD, List.getElem?_append_left hx]
theorem Mix.wh {I A B : List Nat} {rs : List (List Nat)} {i : Nat} (h : Mix I A B) (hl : (ents (rs.take i)).length ≤ I.length) (hA : Wh A rs i) (hB : Wh B rs i) : Wh I rs i :=
  wh_of hl fun x hx => by
    rcases h.byte x with e | e
    · rw [e, hA.byte x hx]
    · rw [e, hB.byte x hx]
/-- What is whole where a half and its first records are mixed is whole in the half. -/
theorem Mix.wh_back {I A : List Nat} {rs : List (List Nat)} {i j C : Nat} (h : Mix I A (half' (rs.take j) C)) (hA : Mk A (half' rs C)) (hl : (ents rs).length ≤ C) (hj : Wh A rs j) (hi : Wh I rs i) (hij : j ≤ i) : Wh A rs i := by
  have hAl : A.length = C := by rw [hA.1, half'_length hl]
  have hei := ents_le rs i
  refine wh_of (by omega) fun x hx => ?_
  have e0 := hi.byte x hx
  rcases h.byte x with e | e
  · rw [← e, e0]
  · by_cases hxj : x < (ents (rs.take j)).length
    · rw [hj.byte x hxj, ents_pre rs hij x hxj]
    · have e1 : (half' (rs.take j) C).getD x 0 = 0 := by
        unfold half'
        rw [List.getD_eq_getElem?_getD, List.getElem?_append_right (by omega), List.getElem?_replicate]
        split <;> rfl
      rw [e1] at e
      rw [e] at e0
      rw [← e0]
      rcases hA.byte x with e2 | e2
      · rw [e2]
        have e3 := (half_wh (rs := rs) (C := C) i).byte x hx
        rw [e3, ← e0]
      · exact e2
/-- What is found in a half's bytes. -/
def found (I : List Nat) : List (List Nat) := recs (I.length + 1) I
theorem ents_len (rs : List (List Nat)) : rs.length * 8 ≤ (ents rs).length := by
  induction rs with
  | nil => simp [ents]
  | cons r t ih =>
    simp only [ents, List.length_append, ent_length, List.length_cons]
    unfold elen
    omega
theorem found_mask {rs : List (List Nat)} {I : List Nat} {C : Nat} (hok : OkR rs) (hl : (ents rs).length ≤ C) (h : Mk I (half' rs C)) : ∃ j, j ≤ rs.length ∧ found I = rs.take j ∧ Wh I rs j ∧ ∀ i, i ≤ rs.length → Wh I rs i → i ≤ j := by
  have := ents_len rs
  have hIl : I.length = C := by rw [h.1, half'_length hl]
  unfold half' at h
  exact recs_mask rs _ I (I.length + 1) hok (fun i => by rw [List.getD_eq_getElem?_getD, List.getElem?_replicate]; split <;> rfl) h (by omega)
theorem found_half {rs : List (List Nat)} {C : Nat} (hok : OkR rs) (hl : (ents rs).length ≤ C) : found (half' rs C) = rs := by
  obtain ⟨j, h1, h2, _, h4⟩ := found_mask hok hl (Mk.refl _)
  have := h4 rs.length (Nat.le_refl _) (half_wh _)
  rw [h2, show j = rs.length by omega, List.take_length]
/-- A disk on which the half h was chosen, with some of the records' entries, the first j whole. -/
structure Good (I : List Nat) (n h : Nat) (N : List (List Nat)) (j : Nat) : Prop where
  len : I.length = n * 64
  n0 : 0 < n
  h2 : h < 2
  hd : sec I 0 = h :: List.replicate 63 0
  ok : OkR N
  fit : (ents N).length ≤ cnt n * 64
  msk : Mk (reg I n h) (half' N (cnt n * 64))
  jl : j ≤ N.length
  wh : Wh (reg I n h) N j
theorem reg_end {n h : Nat} (hn : 0 < n) (h2 : h < 2) : (1 + h * cnt n) * 64 + cnt n * 64 ≤ n * 64 := by
  have hc : cnt n * 2 + 1 ≤ n := by unfold cnt; omega
  rcases (show h = 0 ∨ h = 1 by omega) with rfl | rfl <;> omega
theorem Good.fnd {I N n h j} (g : Good I n h N j) : ∃ j', j ≤ j' ∧ j' ≤ N.length ∧ found (reg I n h) = N.take j' ∧ Good I n h N j' ∧ ∀ i, i ≤ N.length → Wh (reg I n h) N i → i ≤ j' := by
  obtain ⟨j', h1, h2, h3, h4⟩ := found_mask g.ok g.fit g.msk
  exact ⟨j', h4 j g.jl g.wh, h1, h2, ⟨g.len, g.n0, g.h2, g.hd, g.ok, g.fit, g.msk, h1, h3⟩, h4⟩
theorem Good.mix {I S E : List Nat} {N : List (List Nat)} {n h j : Nat} (hI : I.length = n * 64) (hs : ∀ s, s < n → sec I s = sec S s ∨ sec I s = sec E s) (gS : Good S n h N j) (gE : Good E n h N j) : Good I n h N j := by
  have hm := Mix.of_sec n hI gS.len gE.len hs
  have hr := hm.reg n h
  have hl : (reg I n h).length = cnt n * 64 := reg_length hI gS.h2
  have hE := ents_le N j
  have := gS.fit
  refine ⟨hI, gS.n0, gS.h2, ?_, gS.ok, gS.fit, hr.mk (by rw [hl, half'_length gS.fit]) gS.msk gE.msk, gS.jl, hr.wh (by omega) gS.wh gE.wh⟩
  rcases hs 0 gS.n0 with e | e
  · rw [e, gS.hd]
  · rw [e, gE.hd]
/-- A disk that was opened: its half holds these records alone. -/
theorem Good.of_half {E : List Nat} {n h : Nat} {N : List (List Nat)} (hl : E.length = n * 64) (hn : 0 < n) (h2 : h < 2) (hd : sec E 0 = h :: List.replicate 63 0) (ok : OkR N) (fit : (ents N).length ≤ cnt n * 64) (hr : reg E n h = half' N (cnt n * 64)) : Good E n h N N.length :=
  ⟨hl, hn, h2, hd, ok, fit, by rw [hr]; exact Mk.refl _, Nat.le_refl _, by rw [hr]; exact half_wh _⟩
/-- The same disk, seen as one with more records, of which the first are there. -/
theorem Good.more {E : List Nat} {n h : Nat} {N : List (List Nat)} {i : Nat} (j : Nat) (hl : E.length = n * 64) (hn : 0 < n) (h2 : h < 2) (hd : sec E 0 = h :: List.replicate 63 0) (ok : OkR N) (fit : (ents N).length ≤ cnt n * 64) (hi : i ≤ N.length) (hj : j ≤ i) (hr : reg E n h = half' (N.take i) (cnt n * 64)) : Good E n h N j :=
  ⟨hl, hn, h2, hd, ok, fit, by rw [hr]; exact half_front N _ i fit, by omega, by rw [hr]; exact half_take_wh hj⟩
/-- A disk being opened: what was found is found again. -/
theorem Good.again {I A E : List Nat} {N : List (List Nat)} {n h j o : Nat} (gA : Good A n h N j) (hmax : ∀ i, i ≤ N.length → Wh (reg A n h) N i → i ≤ j) (hI : I.length = n * 64) (hs : ∀ s, s < n → sec I s = sec A s ∨ sec I s = sec E s)
    (hE : E = lay A ((1 + h * cnt n) * 64) ((half' (N.take j) (cnt n * 64)).take o)) (ho : o ≤ cnt n * 64 ∧ (o = cnt n * 64 ∨ o % 64 = 0)) : Good I n h N j ∧ found (reg I n h) = N.take j ∧ ∀ i, i ≤ N.length → Wh (reg I n h) N i → i ≤ j := by
  have hft : (ents (N.take j)).length ≤ cnt n * 64 := Nat.le_trans (ents_le N j) gA.fit
  have hhl := half'_length hft
  have hend := reg_end gA.n0 gA.h2
  have hto : ((half' (N.take j) (cnt n * 64)).take o).length = o := by rw [List.length_take]; omega
  have hEl : E.length = n * 64 := by rw [hE, lay_length (by rw [gA.len, hto]; omega), gA.len]
  have hm := Mix.of_sec n hI gA.len hEl hs
  have hrE : reg E n h = lay (reg A n h) 0 ((half' (N.take j) (cnt n * 64)).take o) := by
    have e9 := reg_lay (E := A) (xs := (half' (N.take j) (cnt n * 64)).take o) (n := n) (h := h) (o := 0) (by rw [gA.len]; exact hend) (by rw [hto]; omega)
    rw [Nat.add_zero] at e9
    rw [hE, e9]
  have hrl : (reg A n h).length = cnt n * 64 := reg_length gA.len gA.h2
  have hfull : lay (reg A n h) 0 (half' (N.take j) (cnt n * 64)) = half' (N.take j) (cnt n * 64) := by
    unfold lay splice
    rw [List.take_zero, List.nil_append, List.drop_eq_nil_of_le (by omega), List.append_nil]
  have hpart := Mix.part (A := reg A n h) (xs := half' (N.take j) (cnt n * 64)) 0 o (by omega) (by omega) (by omega)
  rw [hfull, ← hrE] at hpart
  have hmr := (hm.reg n h).trans hpart
  have hIl : (reg I n h).length = cnt n * 64 := reg_length hI gA.h2
  have hEj := ents_le N j
  have gfit := gA.fit
  have hIm : Mk (reg I n h) (half' N (cnt n * 64)) := hmr.mk (by rw [hIl, half'_length gA.fit]) gA.msk (half_front N _ j gA.fit)
  have hIw : Wh (reg I n h) N j := hmr.wh (by omega) gA.wh (half_take_wh (Nat.le_refl _))
  have hmax2 : ∀ i, i ≤ N.length → Wh (reg I n h) N i → i ≤ j := fun i hi hw => by
    by_cases hij : j ≤ i
    · exact hmax i hi (hmr.wh_back gA.msk gA.fit gA.wh hw hij)
    · omega
  have gI : Good I n h N j := by
    refine ⟨hI, gA.n0, gA.h2, ?_, gA.ok, gA.fit, hIm, gA.jl, hIw⟩
    rcases hs 0 gA.n0 with e | e
    · rw [e, gA.hd]
    · rw [e, hE]
      have := sec0_lay (E := A) (xs := (half' (N.take j) (cnt n * 64)).take o) (n := n) (h := h) (o := 0) (by rw [gA.len, hto]; omega)
      rw [Nat.add_zero] at this
      rw [this, gA.hd]
  obtain ⟨j', h1, h2, h3, h4⟩ := found_mask gI.ok gI.fit gI.msk
  have e1 := h4 j gI.jl gI.wh
  have e2 := hmax2 j' h1 h3
  exact ⟨gI, by rw [h2, show j' = j by omega], hmax2⟩
end Go.Proofs.Ytncafkifebannaa.M
