/-
  What the page's own functions for text answer: a point's bytes, the first point of bytes, all points of bytes; condition: the bytes lie in memory that was there at the call.
-/
import Derived.Test.YtlppgaaepllbiaaTools
namespace Go.Proofs.Ytlppgaaepllbiaa
open Go.RowKit
theorem low6 (y : Int) (h0 : 0 ≤ y) (h1 : y < 2147483648) : bits .or .u8 128 (bits .and .i32 y 63 % 256) = 128 + y % 64 := by
  have e : bits .and .i32 y 63 = y % 64 := bits_mask .i32 31 (by decide) wraps_i32 6 (by decide) y h0 (by omega)
  rw [e, u8_or128 _ (by omega) (by omega)]
  omega
theorem gives_lit {w : World} {cs : Array Value} {bs : List Nat} {n : Nat} (hn : n = bs.length) (hm : n ≤ maxLen) (hc : cs.toList = vals bs) : Gives bs w (.returned (.slice (some ⟨w.heap.size, 0, none⟩) n n)) (w.alloc (.cells cs 5)) := by
  refine ⟨_, rfl, ?_, (Below.refl _ _).alloc (Nat.le_refl _) _⟩
  have := World.ownsRow_lit (base := w.heap.size) (e := 5) (size := 1) w cs n (Nat.le_refl _) hm (by rw [← Array.length_toList, hc, hn]; simp [vals])
  rw [hc, hn] at this
  rw [hn]
  exact this
set_option maxRecDepth 100000 in
theorem rPut_int (x : Int) (p : Nat) (w : World) (hx : x.toNat = p) (h0 : 0 ≤ x) (h1 : x ≤ 1114111) : Calls Try.prog 18 #[.int .i32 x] w (Gives (M.enc p) w) := by
  replace hx := Lib.hid hx
  by_cases ha : x < 128
  · go_enter Try.func18, Try.ntmps18
    go_wp2
    go_ret
    have e := hx.out
    rw [M.enc1 (by omega)]
    exact gives_lit rfl (by unfold maxLen; simp) (by simp [vals]; omega)
  · by_cases hb : x < 2048
    · go_enter Try.func18, Try.ntmps18
      go_wp2
      go_ret
      have e := hx.out
      rw [low6 x (by omega) (by omega), M.enc2 (by omega) (by omega)]
      exact gives_lit rfl (by unfold maxLen; simp) (by simp [vals]; omega)
    · by_cases hc : x < 65536
      · go_enter Try.func18, Try.ntmps18
        go_wp2
        go_ret
        have e := hx.out
        rw [low6 x (by omega) (by omega), low6 (x / 64) (by omega) (by omega), M.enc3 (by omega) (by omega)]
        exact gives_lit rfl (by unfold maxLen; simp) (by simp [vals]; omega)
      · go_enter Try.func18, Try.ntmps18
        go_wp2
        go_ret
        have e := hx.out
        rw [low6 x (by omega) (by omega), low6 (x / 64) (by omega) (by omega), low6 (x / 4096) (by omega) (by omega), M.enc4 (by omega)]
        exact gives_lit rfl (by unfold maxLen; simp) (by simp [vals]; omega)
theorem rPut_any (p : Nat) (w : World) (hp : M.IsP p) : Calls Try.prog 18 #[.int .i32 p] w (Gives (M.enc p) w) :=
  rPut_int p p w (by omega) (by omega) (by have := hp.1; omega)
/-- What the page's reader of one point answers. -/
def FPost (bs : List Nat) (w : World) (e : Ending) (w' : World) : Prop :=
  ((∃ p r, M.Head bs p r ∧ e = .returned (.tuple #[.int .i32 p, .int .i64 (M.wid p : Nat)])) ∨ ((∀ p r, ¬ M.Head bs p r) ∧ e = .returned (.tuple #[.int .i32 0, .int .i64 0]))) ∧ Below w.heap.size w w'
theorem FPost.no {bs : List Nat} {w w' : World} {e : Ending} (h : ∀ p r, ¬ M.Head bs p r) (he : e = .returned (.tuple #[.int .i32 0, .int .i64 0])) (hb : Below w.heap.size w w') : FPost bs w e w' := ⟨.inr ⟨h, he⟩, hb⟩
/-- The first byte says n to the page, which looks at no more than its highest bits. -/
def KindR (n b : Nat) : Prop := (n = 1 ∧ b < 128) ∨ (n = 2 ∧ 192 ≤ b ∧ b < 224) ∨ (n = 3 ∧ 224 ≤ b ∧ b < 240) ∨ (n = 4 ∧ 240 ≤ b)
theorem first_sound {bs r : List Nat} {n p : Nat} (hk : KindR n (bs.getD 0 0)) (h : M.Head bs p r) :
    n ≤ bs.length ∧ p = M.acc (fun i => bs.getD i 0) n (n - 1) ∧ M.IsP p ∧ M.wid p = n ∧ ∀ i, i < n → bs.getD i 0 = (M.enc p).getD i 0 := by
  have h1 := M.head_kind h
  have e : M.wid p = n := by
    unfold M.Kind at h1
    unfold KindR at hk
    omega
  rw [e] at h1
  obtain ⟨⟨a, _, c, _, d⟩, _⟩ := M.take_of_head h1 h
  refine ⟨a, c, d, e, fun i hi => ?_⟩
  have hl := M.enc_length p
  rw [h.2, List.getD_eq_getElem?_getD, List.getD_eq_getElem?_getD, List.getElem?_append_left (by omega)]
theorem first_complete {bs : List Nat} {n p : Nat} (hn : n ≤ bs.length) (hp : M.IsP p) (hw : M.wid p = n) (h : ∀ i, i < n → bs.getD i 0 = (M.enc p).getD i 0) : M.Head bs p (bs.drop n) := by
  refine ⟨hp, ?_⟩
  have hl := M.enc_length p
  have : bs.take n = M.enc p := by
    apply List.ext_getElem
    · simp; omega
    · intro i h1 h2
      have := h i (by omega)
      rw [List.getD_eq_getElem?_getD, List.getD_eq_getElem?_getD, List.getElem?_eq_getElem (by omega), List.getElem?_eq_getElem h2] at this
      simpa using this
  rw [← this, List.take_append_drop]
theorem acc_step' (f : Nat → Nat) (n k q : Nat) (h1 : 1 ≤ n) (hk1 : 1 ≤ k) (hk : k ≤ 3) (hq : q = M.acc f n (k - 1)) :
    bits .or .i32 (wrap32 ((q : Int) * 64)) ((f k : Int) % 64) = ((M.acc f n k : Nat) : Int) := by
  obtain ⟨j, rfl⟩ : ∃ j, k = j + 1 := ⟨k - 1, by omega⟩
  have e : wrap32 ((q : Int) * 64) = (q : Int) * 64 := by
    have h2 := (M.acc_lt f n j h1 (by omega)).2 (by omega)
    simp at hq
    subst hq
    unfold wrap32; omega
  have h2 := (M.acc_lt f n j h1 (by omega)).2 (by omega)
  simp at hq
  subst hq
  rw [e, i32_or6 _ _ (by omega) (by omega) (by omega) (by omega) (by omega)]
  simp only [M.acc]
  omega
end Go.Proofs.Ytlppgaaepllbiaa
