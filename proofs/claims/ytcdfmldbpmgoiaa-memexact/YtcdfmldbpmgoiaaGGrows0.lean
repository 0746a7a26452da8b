/-
  What the laws share: a memory kept over a loop, and grown; no condition.
-/
import Derived.Test.YtcdfmldbpmgoiaaGWakes
namespace Go.Proofs.Ytcdfmldbpmgoiaa
open Go.RowKit
theorem M.form_of {a o n : Int} (hn : n = 1 ∨ n = 2 ∨ n = 4 ∨ n = 8) (ha : 0 ≤ a ∧ a < 4294967296) (ho : 0 ≤ o ∧ o < 4294967296) : M.form a o n = true := by unfold M.form; simpa using ⟨hn, ha, ho⟩
/-- What the loops of a law keep: the memory, and what was there when it was made. -/
structure Kept (w0 : World) (B g : Nat) (v : Value) (n : Nat) (most : Int) (w' : World) (bs : List Nat) : Prop where
  mem : MAt 62 w' B g v bs most
  len : bs.length = n
  bel : Below B w0 w'
theorem Kept.step {w0 w1 w2 : World} {B g : Nat} {v : Value} {n : Nat} {most : Int} {bs cs : List Nat} (h : Kept w0 B g v n most w1 bs) (hB : B ≤ w0.heap.size) (m : MAt 62 w2 B g v cs most) (hl : cs.length = n) (hx : But (fun k => v.ownBlock = some k) w1 w2) : Kept w0 B g v n most w2 cs :=
  ⟨m, hl, h.mem.since h.bel hB hx⟩
theorem Kept.new {w0 w1 w2 : World} {B g : Nat} {v : Value} {n : Nat} {most : Int} {bs : List Nat} (h : Kept w0 B g v n most w1 bs) (hB : B ≤ w0.heap.size) (hb : Below w1.heap.size w1 w2) : Kept w0 B g v n most w2 bs :=
  ⟨h.mem.later hb, h.len, h.bel.trans (hb.mono (Nat.le_trans hB h.bel.size))⟩
theorem Grow_yes (T : Nat) (w : World) (B g : Nat) (v : Value) (bs cs : List Nat) (most n : Int) (s : Nat) (h : MAt T w B g v bs most) (hB : B ≤ w.heap.size) (hm : -1 ≤ most ∧ most ≤ 16) (hl : bs.length ≤ 1048576) (hn : Rg n) (hs : s = bs.length / 65536) (hy : 0 ≤ n ∧ n ≤ most - (s : Int)) (k : Nat) (hk : k = n.toNat * 65536) (hcs : cs = bs ++ List.replicate k 0) :
    Calls Try.prog 20 #[Mp g, .int .i64 n] w fun e w' => e = .returned (.int .i64 (s : Int)) ∧ ∃ v', MAt T w' B g v' cs most ∧ But (Ft g v) w w' ∧ (v'.ownBlock = v.ownBlock ∨ v'.ownBlock = some w.heap.size) := by
  have hgr : M.gr bs most n = true := by unfold M.gr; rw [← hs]; simpa using hy
  refine (Grow_any T w B g v bs most n h hB hm hl hn).mono ?_
  rintro e w' (⟨h1, _⟩ | ⟨_, h2, h3⟩)
  · rw [hgr] at h1; cases h1
  · rw [← hs] at h2
    rw [← hk, ← hcs] at h3
    exact ⟨h2, h3⟩
theorem Grow_no (T : Nat) (w : World) (B g : Nat) (v : Value) (bs : List Nat) (most n : Int) (h : MAt T w B g v bs most) (hB : B ≤ w.heap.size) (hm : -1 ≤ most ∧ most ≤ 16) (hl : bs.length ≤ 1048576) (hn : Rg n) (hy : ¬ (0 ≤ n ∧ n ≤ most - ((bs.length / 65536 : Nat) : Int))) :
    Calls Try.prog 20 #[Mp g, .int .i64 n] w fun e w' => e = .returned (.int .i64 (-1)) ∧ w' = w := by
  have hgr : M.gr bs most n = false := by unfold M.gr; simpa using hy
  refine (Grow_any T w B g v bs most n h hB hm hl hn).mono ?_
  rintro e w' (⟨_, h2⟩ | ⟨h1, _⟩)
  · exact h2
  · rw [hgr] at h1; cases h1
namespace M
theorem le_zero {bs : List Nat} : ∀ (n a : Nat), (∀ j, a ≤ j → j < a + n → bs.getD j 0 = 0) → le bs n a = 0
  | 0, _, _ => rfl
  | n + 1, a, h => by
    show bs.getD a 0 + 256 * le bs n (a + 1) = 0
    rw [h a (by omega) (by omega), le_zero n (a + 1) (fun j h1 h2 => h j (by omega) (by omega))]
theorem app_old (bs xs : List Nat) (j : Nat) (h : j < bs.length) : (bs ++ xs).getD j 0 = bs.getD j 0 := by
  rw [List.getD_eq_getElem?_getD, List.getElem?_append_left h, List.getD_eq_getElem?_getD]
theorem app_new (bs : List Nat) (n j : Nat) (h : bs.length ≤ j) : (bs ++ List.replicate n 0).getD j 0 = 0 := by
  rw [List.getD_eq_getElem?_getD, List.getElem?_append_right h, List.getElem?_replicate]
  split <;> rfl
/-- k pages, each with its number in it. -/
def pages (k : Nat) (bs : List Nat) : Prop := bs.length = k * 65536 ∧ ∀ p, p < k → le bs 4 (p * 65536 + 5) = p + 1
theorem pages_new {k N : Nat} {bs : List Nat} (h : pages k bs) (a n : Nat) (ha : k * 65536 ≤ a) : le (bs ++ List.replicate N 0) n a = 0 :=
  le_zero n a fun j h1 _ => app_new bs N j (by have := h.1; omega)
theorem pages_step {k : Nat} {bs xs cs : List Nat} (h : pages k bs) (hk : k < 4) (hx : xs.length = 65536) (hcs : cs = put 4 (bs ++ xs) (k * 65536 + 5) (k + 1)) : pages (k + 1) cs := by
  have hl : (bs ++ xs).length = (k + 1) * 65536 := by rw [List.length_append, hx, h.1]; omega
  refine ⟨by rw [hcs, put_length, hl], fun p hp => ?_⟩
  rw [hcs]
  by_cases e : p = k
  · rw [e, le_put 4 _ _ _ (by omega)]
    exact Nat.mod_eq_of_lt (by omega)
  · rw [← h.2 p (by omega)]
    refine le_congr 4 _ fun j h1 h2 => ?_
    rw [put_get, if_neg (by omega), app_old bs _ j (by have := h.1; omega)]
end M
theorem pages_ld {k j : Nat} {bs : List Nat} (h : M.pages k bs) (hk : k ≤ 4) (hj : j < k) : (j + 1, (0 : Int)) = M.ld bs ((j : Int) * 65536 + 5) 0 4 := by
  rw [← M.ld_ok (M.form_of (by omega) (by omega) (by omega)) (by have := h.1; omega), ← h.2 j hj]
  congr 2
/-- What a round of the law knows. -/
structure GF (k N : Nat) (bs cs ds : List Nat) : Prop where
  hld : (0, (0 : Int)) = M.ld cs ((k : Int) * 65536) 65528 8
  hst : (ds, (0 : Int)) = M.st cs ((k : Int) * 65536) 5 4 (k + 1)
  hpd : M.pages (k + 1) ds
  hcl : cs.length = (k + 1) * 65536
  hcs : cs = bs ++ List.replicate N 0
  hlen : bs.length = k * 65536
  hgy : k = bs.length / 65536
theorem MAt.sinceF {T : Nat} {w w1 w2 : World} {B g : Nat} {v : Value} {bs : List Nat} {most : Int} (h : MAt T w1 B g v bs most) (hb : Below B w w1) (hB : B ≤ w.heap.size) (hx : But (Ft g v) w1 w2) : Below B w w2 :=
  hb.trans (hx.below h.ft (Nat.le_trans hB hb.size))
end Go.Proofs.Ytcdfmldbpmgoiaa
