/-
  A region that draws its order, whose operations are, in turn, such as only read (in whatever order) and such as come one by one: it is walked in the order of its text. No condition; nothing of the program is named here.
-/
import Derived.StillTail
import Derived.StillTactics
import Derived.StillTailTactics
import Derived.Tactics
namespace Go.Proofs.Ytghogkanhcihbaa
open Go
section
variable {P : Program} {ops : Array Oper} {md : Region.Mode}
/-- How many of the first n are not listed. -/
def cntU : Nat → Array Bool → Nat
  | 0, _ => 0
  | n + 1, l => cntU n l + (if l.getD n true then 0 else 1)
theorem cnt_far (l : Array Bool) (j : Nat) : ∀ n, n ≤ j → cntU n (l.setIfInBounds j true) = cntU n l
  | 0, _ => rfl
  | n + 1, h => by
    simp only [cntU]
    rw [cnt_far l j n (by omega), getD_set_ne true (by omega)]
theorem set_got {l : Array Bool} {j : Nat} (h : l.getD j true = false) : (l.setIfInBounds j true).getD j true = true := by
  rcases Nat.lt_or_ge j l.size with h' | h'
  · simp [h']
  · simp [Array.getElem?_eq_none h'] at h
theorem cnt_set (l : Array Bool) (j : Nat) (hl : l.getD j true = false) : ∀ n, j < n → cntU n (l.setIfInBounds j true) + 1 = cntU n l
  | 0, h => by omega
  | n + 1, h => by
    simp only [cntU]
    by_cases e : j = n
    · subst e
      rw [cnt_far l j j (Nat.le_refl _), set_got hl, hl]
      simp
    · rw [getD_set_ne true e]
      have := cnt_set l j hl n (by omega)
      omega
theorem cnt_two {l : Array Bool} {i j n : Nat} (hi : i < n) (hj : j < n) (hne : i ≠ j) (h1 : l.getD i true = false) (h2 : l.getD j true = false) : 2 ≤ cntU n l := by
  have a := cnt_set l i h1 n hi
  have b := cnt_set (l.setIfInBounds i true) j (by rw [getD_set_ne true hne]; exact h2) n hj
  omega
/-- In the next steps none but of the first n comes. -/
def closedB (md : Region.Mode) (ops : Array Oper) (n : Nat) : Nat → Array Bool → Bool
  | 0, _ => true
  | f + 1, listed => (Region.ready md ops listed).all fun j => decide (j < n) && closedB md ops n f (listed.setIfInBounds j true)
def wpAnyT (P : Program) (md : Region.Mode) (ops : Array Oper) (w : World) (L : Array Bool → Act → Prop) : Nat → Array Bool → Act → Prop
  | 0, listed, a => L listed a
  | f + 1, listed, a => Region.ready md ops listed ≠ [] ∧ ∀ i ∈ Region.ready md ops listed, stOp P ops w i (wpAnyT P md ops w L f (listed.setIfInBounds i true)) a
theorem wpAny_of_T {w : World} {L : Array Bool → Act → Prop} {Q : Exit → Act → World → Prop} {g : Nat} (hL : ∀ listed a, L listed a → wpAny P md ops Q g listed a w) : ∀ (f : Nat) (listed : Array Bool) (a : Act), wpAnyT P md ops w L f listed a → wpAny P md ops Q (f + g) listed a w
  | 0, listed, a, h => by rw [Nat.zero_add]; exact hL _ _ h
  | f + 1, listed, a, h => by
    rw [show f + 1 + g = (f + g) + 1 by omega]
    exact ⟨fun h0 => absurd h0 h.1, fun i hi => wpOp_of_stOp (fun a' h' => wpAny_of_T hL f _ a' h') (h.2 i hi)⟩
theorem wpAnyT_first {w : World} {L : Array Bool → Act → Prop} {n i : Nat} {oi : Oper} {v : Value} (hi : ops[i]? = some oi) (hsel : ∀ (j : Nat) (o : Oper) cs b, ops[j]? = some o → o.op ≠ .select cs b) (hin : i < n) :
    ∀ (f : Nat) (listed : Array Bool) (a : Act), closedB md ops n (f + 1) listed = true → cntU n listed = f + 1 →
      (∀ j oj, ops[j]? = some oj → j ≠ i → listed.getD j true = false → (∀ e ∈ oj.after, Region.binds md e = true → e.on ≠ i) → oi.apart ops oj = true) →
      i ∈ Region.ready md ops listed → YieldsAt P ops w oi v a →
      wpAnyT P md ops w L f (listed.setIfInBounds i true) (a.put oi.dst v) → wpAnyT P md ops w L (f + 1) listed a := by
  intro f
  induction f with
  | zero =>
    intro listed a hcl hcn _ hr hy H
    refine ⟨fun h => (by rw [h] at hr; cases hr), fun j hj => ?_⟩
    by_cases hji : j = i
    · subst hji; exact hy.stOp hi H
    · simp only [closedB, Bool.and_true, List.all_eq_true, decide_eq_true_eq] at hcl
      have := cnt_two hin (hcl j hj) (Ne.symm hji) (mem_ready.1 hr).1 (mem_ready.1 hj).1
      omega
  | succ f ih =>
    intro listed a hcl hcn hfree hr hy H
    refine ⟨fun h => (by rw [h] at hr; cases hr), fun j hj => ?_⟩
    by_cases hji : j = i
    · subst hji; exact hy.stOp hi H
    · have hcl2 := hcl
      rw [closedB] at hcl2
      simp only [List.all_eq_true, Bool.and_eq_true, decide_eq_true_eq] at hcl2
      obtain ⟨hjn, hclj⟩ := hcl2 j hj
      have h1 := H.2 j (ready_mono hj hji)
      obtain ⟨hjun, oj, hoj, hall⟩ := mem_ready.1 hj
      have hnot : ∀ e ∈ oj.after, Region.binds md e = true → e.on ≠ i := fun e he hb heq => by
        have h1 := hall e he hb
        have h0 := (mem_ready.1 hr).1
        rw [heq] at h1
        rcases Nat.lt_or_ge i listed.size with h' | h'
        · simp [h'] at h0 h1; rw [h0] at h1; cases h1
        · simp [Array.getElem?_eq_none h'] at h1
      have h2 := stOp_put hoj (hfree j oj hoj hji hjun hnot) (fun cs b => hsel i oi cs b hi) (fun cs b => hsel j oj cs b hoj) hy h1
      have hfree' : ∀ k ok, ops[k]? = some ok → k ≠ i → (listed.setIfInBounds j true).getD k true = false →
          (∀ e ∈ ok.after, Region.binds md e = true → e.on ≠ i) → oi.apart ops ok = true := fun k ok hk hki hun hno => by
        refine hfree k ok hk hki ?_ hno
        by_cases hjk : j = k
        · subst hjk; exact hjun
        · rw [getD_set_ne true hjk] at hun; exact hun
      have hcnj := cnt_set listed j hjun n hjn
      refine stOp_mono (fun a' h3 => ih (listed.setIfInBounds j true) a' hclj (by omega) hfree' (ready_mono hr (Ne.symm hji)) h3.1 ?_) h2
      rw [Array.setIfInBounds_comm _ _ hji]
      exact h3.2
def lexSegB (md : Region.Mode) (ops : Array Oper) : Nat → Nat → Array Bool → Bool
  | 0, _, _ => true
  | f + 1, k, listed => (Region.ready md ops listed).contains k && Region.free md ops listed k && lexSegB md ops f (k + 1) (listed.setIfInBounds k true)
def setAll : Array Bool → Nat → Nat → Array Bool
  | listed, 0, _ => listed
  | listed, f + 1, k => setAll (listed.setIfInBounds k true) f (k + 1)
theorem closed_next {n f : Nat} {listed : Array Bool} {k : Nat} (h : closedB md ops n (f + 1) listed = true) (hk : k ∈ Region.ready md ops listed) : k < n ∧ closedB md ops n f (listed.setIfInBounds k true) = true := by
  rw [closedB] at h
  simp only [List.all_eq_true, Bool.and_eq_true, decide_eq_true_eq] at h
  exact h k hk
theorem wpAnyT_lex {w : World} {n : Nat} {Lq : Act → Prop} (hsel : Region.noSelect ops = true) : ∀ (l : List Oper) (k : Nat) (listed : Array Bool) (a : Act), (∀ j, j < l.length → l[j]? = ops[k + j]?) → closedB md ops n l.length listed = true → cntU n listed = l.length →
    lexSegB md ops l.length k listed = true → wpStill P ops w Lq l a → wpAnyT P md ops w (fun listed' a' => listed' = setAll listed l.length k ∧ Lq a') l.length listed a
  | [], k, listed, a, _, _, _, _, h => ⟨rfl, h⟩
  | o :: l, k, listed, a, hl, hcl, hcn, hB, h => by
    have h0 : ops[k]? = some o := by simpa using (hl 0 (by simp)).symm
    simp only [List.length_cons, lexSegB, Bool.and_eq_true] at hB
    obtain ⟨⟨hr, hf⟩, hB'⟩ := hB
    have hr' : k ∈ Region.ready md ops listed := by simpa using hr
    have hst : stOp P ops w k (wpStill P ops w Lq l) a := by unfold stOp; simp only [h0]; exact h
    obtain ⟨v, hy, hK⟩ := yieldsAt_of_stOp h0 hst
    obtain ⟨hkn, hcl'⟩ := closed_next hcl hr'
    have hcn' := cnt_set listed k (mem_ready.1 hr').1 n hkn
    exact wpAnyT_first h0 (Region.noSelect_spec hsel) hkn l.length listed a hcl hcn (Region.free_spec h0 hf) hr' hy
      (wpAnyT_lex hsel l (k + 1) _ _ (fun j hj => by have := hl (j + 1) (by simp; omega); simpa [Nat.add_assoc, Nat.add_comm 1 j] using this) hcl' (by simp only [List.length_cons] at hcn; omega) hB' hK)
theorem wp_then {o : Oper} {a : Act} {w : World} {K1 K : Act → World → Prop} {Q : Exit → Act → World → Prop} (h : o.wp P a w K1 (Exit.then K Q)) : o.wp P a w K1 Q := by
  unfold Oper.wp at *
  generalize (execOp a.eval o).run P w = r at *
  cases r with
  | ok n w' => cases n <;> exact h
  | halt x w' => cases x <;> exact h
def forcedB (md : Region.Mode) (ops : Array Oper) : Nat → Nat → Array Bool → Bool
  | 0, _, _ => true
  | f + 1, k, listed => decide (Region.ready md ops listed = [k]) && forcedB md ops f (k + 1) (listed.setIfInBounds k true)
theorem wpAny_forced {Q : Exit → Act → World → Prop} {g : Nat} : ∀ (l : List Oper) (k : Nat) (listed : Array Bool) (a : Act) (w : World), (∀ j, j < l.length → l[j]? = ops[k + j]?) → forcedB md ops l.length k listed = true →
    wpList P ops (Exit.then (fun a w => wpAny P md ops Q g (setAll listed l.length k) a w) Q) l a w → wpAny P md ops Q (l.length + g) listed a w
  | [], _, _, _, _, _, _, h => by rw [List.length_nil, Nat.zero_add]; exact h
  | o :: l, k, listed, a, w, hl, hB, h => by
    have h0 : ops[k]? = some o := by simpa using (hl 0 (by simp)).symm
    simp only [List.length_cons, forcedB, Bool.and_eq_true, decide_eq_true_eq] at hB
    rw [List.length_cons, show l.length + 1 + g = (l.length + g) + 1 by omega]
    refine ⟨fun h1 => (by rw [hB.1] at h1; cases h1), fun i hi => ?_⟩
    rw [hB.1] at hi
    have hik : i = k := by simpa using hi
    subst hik
    have ih := fun a' w' h' => wpAny_forced (Q := Q) (g := g) l (i + 1) (listed.setIfInBounds i true) a' w' (fun j hj => by have := hl (j + 1) (by simp; omega); simpa [Nat.add_assoc, Nat.add_comm 1 j] using this) hB.2 h'
    unfold wpOp
    simp only [h0]
    rw [wpList] at h
    split
    · rename_i hw
      simp only [hw, if_true] at h
      rcases h with h | ⟨h1, h2⟩
      · exact .inl (Oper.wp_mono ih (wp_then h))
      · exact .inr ⟨h1, h2⟩
    · rename_i hw
      simp only [hw] at h
      exact ih _ _ h
/-- The walk: segments that only read (true), and such as come one by one (false). -/
def mixWp (P : Program) (ops : Array Oper) (Q : Exit → Act → World → Prop) : List (Bool × Nat) → List Oper → Act → World → Prop
  | [], _, a, w => Q .normal a w
  | (true, n) :: s, l, a, w => wpStill P ops w (fun a' => mixWp P ops Q s (l.drop n) a' w) (l.take n) a
  | (false, n) :: s, l, a, w => wpList P ops (Exit.then (fun a' w' => mixWp P ops Q s (l.drop n) a' w') Q) (l.take n) a w
/-- Do the segments fit? -/
def mixB (md : Region.Mode) (ops : Array Oper) : List (Bool × Nat) → Nat → Array Bool → Bool
  | [], k, listed => decide (k = ops.size) && (Region.ready md ops listed).isEmpty
  | (b, n) :: s, k, listed => decide (k + n ≤ ops.size) && (if b then closedB md ops (k + n) n listed && decide (cntU (k + n) listed = n) && lexSegB md ops n k listed else forcedB md ops n k listed) && mixB md ops s (k + n) (setAll listed n k)
theorem wpAny_mix {Q : Exit → Act → World → Prop} (hsel : Region.noSelect ops = true) : ∀ (s : List (Bool × Nat)) (l : List Oper) (k : Nat) (listed : Array Bool) (a : Act) (w : World), (∀ j, l[j]? = ops[k + j]?) → mixB md ops s k listed = true → mixWp P ops Q s l a w → wpAny P md ops Q (ops.size - k) listed a w
  | [], l, k, listed, a, w, hl, hB, h => by
    simp only [mixB, Bool.and_eq_true, decide_eq_true_eq, List.isEmpty_iff] at hB
    rw [hB.1, Nat.sub_self]
    exact ⟨hB.2, h⟩
  | (b, n) :: s, l, k, listed, a, w, hl, hB, h => by
    simp only [mixB, Bool.and_eq_true, decide_eq_true_eq] at hB
    obtain ⟨⟨hkn, hb⟩, hs⟩ := hB
    have hlen : (l.take n).length = n := by
      rw [List.length_take]
      refine Nat.min_eq_left (Nat.le_of_not_lt fun hlt => ?_)
      have h1 := hl l.length
      rw [List.getElem?_eq_none (Nat.le_refl _)] at h1
      have h2 : k + l.length < ops.size := by omega
      rw [Array.getElem?_eq_getElem h2] at h1
      cases h1
    have hd : ∀ j, (l.drop n)[j]? = ops[k + n + j]? := fun j => by rw [List.getElem?_drop, hl, Nat.add_assoc]
    have ht : ∀ j, j < (l.take n).length → (l.take n)[j]? = ops[k + j]? := fun j hj => by
      rw [List.getElem?_take_of_lt (by omega)]; exact hl j
    have ih := fun a' w' h' => wpAny_mix (Q := Q) hsel s (l.drop n) (k + n) (setAll listed n k) a' w' hd hs h'
    rw [show ops.size - k = (l.take n).length + (ops.size - (k + n)) by omega]
    cases b with
    | true =>
      simp only [if_true, Bool.and_eq_true, decide_eq_true_eq] at hb
      refine wpAny_of_T (L := fun listed' a' => listed' = setAll listed (l.take n).length k ∧ mixWp P ops Q s (l.drop n) a' w) ?_ _ _ _ (wpAnyT_lex (n := k + n) hsel (l.take n) k listed a ht (by rw [hlen]; exact hb.1.1) (by rw [hlen]; exact hb.1.2) (by rw [hlen]; exact hb.2) h)
      rintro listed' a' ⟨rfl, h'⟩
      rw [hlen]
      exact ih _ _ h'
    | false =>
      simp only [Bool.false_eq_true, if_false] at hb
      refine wpAny_forced (l.take n) k listed a w ht (by rw [hlen]; exact hb) ?_
      rw [hlen]
      have mono : ∀ (l' : List Oper) (a : Act) (w : World), wpList P ops (Exit.then (fun a' w' => mixWp P ops Q s (l.drop n) a' w') Q) l' a w → wpList P ops (Exit.then (fun a w => wpAny P md ops Q (ops.size - (k + n)) (setAll listed n k) a w) Q) l' a w := by
        intro l'
        induction l' with
        | nil => intro a w h; exact ih _ _ h
        | cons o l' ihl =>
          intro a w h
          rw [wpList] at h ⊢
          split
          · rename_i hw
            simp only [hw, if_true] at h
            rcases h with h | ⟨h1, h2⟩
            · refine .inl ?_
              have h3 := Oper.wp_mono ihl (wp_then h)
              unfold Oper.wp at *
              generalize (execOp a.eval o).run P w = r at *
              cases r with
              | ok n w' => cases n <;> exact h3
              | halt x w' => cases x <;> exact h3
            · exact .inr ⟨h1, h2⟩
          · rename_i hw
            simp only [hw] at h
            exact ihl _ _ h
      exact mono _ _ _ h
theorem wp_region_mix {id : Nat} {Q : Exit → Act → World → Prop} {a : Act} {w : World} {l : List Oper} (s : List (Bool × Nat)) (hm : P.follows .mixedOrders = true) (hB : (Region.noSelect l.toArray && mixB .any l.toArray s 0 (Array.replicate l.toArray.size false)) = true)
    (h : mixWp P l.toArray Q s l a w.drew) : (Code.region id l.toArray true).wp P Q a w := by
  simp only [Bool.and_eq_true] at hB
  refine wp_region_any hm ?_
  have := wpAny_mix (md := .any) hB.1 s l 0 (Array.replicate l.toArray.size false) a w.drew (by simp) hB.2 h
  simpa using this
end
end Go.Proofs.Ytghogkanhcihbaa
