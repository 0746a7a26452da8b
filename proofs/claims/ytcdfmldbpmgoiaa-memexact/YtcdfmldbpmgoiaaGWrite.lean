/-
  Bytes written into a memory, and memories that may not be; condition: the memory was made by the call.
-/
import Derived.Test.YtcdfmldbpmgoiaaGCopy
import Derived.Test.YtcdfmldbpmgoiaaGUse2
namespace Go.Proofs.Ytcdfmldbpmgoiaa
open Go.RowKit
/-- Bytes laid over others from a place on. -/
def M.lay (bs : List Nat) (a : Nat) (xs : List Nat) : List Nat := splice bs a xs
theorem M.lay_length {bs xs : List Nat} {a : Nat} (h : a + xs.length ≤ bs.length) : (M.lay bs a xs).length = bs.length := length_splice bs a xs h
theorem vals_splice (bs : List Nat) (a : Nat) (xs : List Nat) (rest : List Value) (h : a + xs.length ≤ bs.length) : splice (vals bs ++ rest) a (vals xs) = vals (splice bs a xs) ++ rest := by
  unfold splice
  rw [List.take_append_of_le_length (by rw [vals_length]; omega), List.drop_append_of_le_length (by rw [vals_length, vals_length]; omega), vals_append, vals_append, vals_length]
  simp [vals]
theorem lay_lt {bs xs : List Nat} {a : Nat} (h1 : ∀ b ∈ bs, b < 256) (h2 : ∀ b ∈ xs, b < 256) : ∀ b ∈ M.lay bs a xs, b < 256 := by
  intro b hb
  unfold M.lay splice at hb
  rcases List.mem_append.1 hb with hb | hb
  · exact h1 b (List.mem_of_mem_take hb)
  · rcases List.mem_append.1 hb with hb | hb
    · exact h2 b hb
    · exact h1 b (List.mem_of_mem_drop hb)
theorem lay_nil (bs : List Nat) (a : Nat) : M.lay bs a [] = bs := by simp [M.lay, splice]
/-- What copying into a memory does. -/
theorem write_run {T : Nat} {w : World} {B g c : Nat} {A : Option Addr} {bs xs : List Nat} {most : Int} {a d : Nat} {U : Option Addr} (h : MAt T w B g (.slice A bs.length c) bs most) (hU : BS w w.heap.size (.slice U xs.length d) xs) (hn : a + xs.length ≤ bs.length) (dp : Option Addr) (e : Nat) (hdp : c ≠ a → dp = Option.map (fun x => x.add a) A) :
    ∃ w2, (Builtin.copy_ #[38, 38] 3 #[.slice dp (bs.length - a) e, .slice U xs.length d]).run Try.prog w = .ok (goInt xs.length) w2 ∧ MAt T w2 B g (.slice A bs.length c) (M.lay bs a xs) most ∧ But (fun k => Value.ownBlock (.slice A bs.length c) = some k) w w2 := by
  have hsz : (Try.prog.info? 5).map (·.size) = some 1 := by kernel_rfl
  by_cases h0 : xs = []
  · subst h0
    exact ⟨w, run_copy_none (P := Try.prog) w 38 38 3 5 dp U _ _ _ _ Try.underlying38 hsz (by simp), by rw [lay_nil]; exact h, But.refl _ _⟩
  · have hp : 0 < xs.length := List.length_pos_iff.2 h0
    obtain ⟨r, cur, rfl, r1, r2, r3, r4, r5, r6⟩ := own_at h.row (by omega)
    have hcur : cur.toList = vals bs ++ cur.toList.drop bs.length := by
      rw [r6, Nat.mul_one]; exact (List.take_append_drop _ _).symm
    have hcs : cur.toList.length = c := by rw [Array.length_toList]; omega
    have hlx : a + (vals xs).length ≤ cur.toList.length := by rw [hcs, vals_length]; omega
    have hU' := hU
    obtain ⟨U', d', e1, u1, u2, hB⟩ := hU'
    cases e1
    have hmin : (vals xs).length = Nat.min xs.length (bs.length - a) := by rw [vals_length]; show _ = min _ _; omega
    obtain ⟨w2, q1, q2, q3⟩ := run_copy_ex w r a dp U (bs.length - a) e xs.length d cur.toList (vals xs) (by simpa using r2) hmin (fun _ => by
      refine ⟨by rw [hdp (by omega)]; simp [add_none], ?_⟩
      obtain ⟨ad, hA, _⟩ := hB 0 hp
      refine ⟨ad, hA, fun j u hu => ?_⟩
      have hj : j < xs.length := by
        have := (List.getElem?_eq_some_iff.1 hu).1
        rwa [vals_length] at this
      obtain ⟨ad', hA', _, _, hc⟩ := hB j hj
      rw [hA] at hA'
      injection hA' with hA'
      subst hA'
      rw [hc, ← hu, getD_vals _ _ hj]) hlx (vals_one _)
    have hne : g ≠ r := fun e => by
      have := h.obj
      rw [e, r2] at this
      injection this with this
      injection this with _ this
      exact h.ne this.symm
    rw [hcur, vals_splice bs a xs _ hn] at q2
    refine ⟨w2, by rw [vals_length] at q1; exact q1, ⟨obj_but h.obj q3 hne, h.ge, ⟨by simp [vals], .inr ⟨r, c, _, by rw [M.lay_length hn], r1, q2, by rw [M.lay_length hn]; exact r4, r5, ?_, ?_⟩⟩, lay_lt h.lt hU.lt, h.ne, by rw [M.lay_length hn]; exact h.len⟩, q3.mono fun k _ e => by subst e; rfl⟩
    · have hl := M.lay_length hn
      unfold M.lay at hl
      simp [vals_length, hl]
      omega
    · rw [Nat.mul_one]
      exact List.take_left' (by rw [vals_length]; rfl)
set_option maxRecDepth 100000 in
theorem Write_ok (T : Nat) (w : World) (B g : Nat) (v : Value) (bs xs ys : List Nat) (most : Int) (a : Nat) (ai : Int) (u : Value) (hai : ai = (a : Nat)) (h : MAt T w B g v bs most) (hu : BS w w.heap.size u xs) (hn : a + xs.length ≤ bs.length) (hys : ys = M.lay bs a xs) :
    Calls Try.prog 19 #[Mp g, .int .i64 ai, u] w (SPost T w B g v ys most 0) := by
  subst hai
  obtain ⟨A, c, rfl, h1, h2⟩ := h.form
  have hu' := hu
  obtain ⟨U, d, rfl, u1, u2, hU⟩ := hu'
  clear hU
  have c0 := h.c0
  have hl := h.len
  by_cases hca : c = a
  · obtain ⟨w2, hcp, hm, hb⟩ := write_run h hu hn A 0 (fun hc => absurd hca hc)
    rw [← hys] at hm
    clear hu hys
    replace h := Lib.hid h
    replace hm := Lib.hid hm
    replace hb := Lib.hid hb
    have hla : bs.length - a = 0 := by omega
    obtain ⟨L, hL⟩ : ∃ L, L = bs.length := ⟨_, rfl⟩
    rw [← hL] at h1 hl hn c0 hcp hla hm hb h ⊢
    obtain ⟨q, hq⟩ : ∃ q, q = xs.length := ⟨_, rfl⟩
    rw [← hq] at hn u1 hcp ⊢
    replace hL := Lib.hid hL
    replace hq := Lib.hid hq
    rw [hla] at hcp
    go_enter Try.func19, Try.ntmps19
    go_wp2_with fail
    refine (has_any T w B g _ bs most _ _ true h.out (by omega) (by omega) (by rw [← hL.out]; simp; omega)).mono ?_
    rintro e1 w1 ⟨rfl, rfl⟩
    go_wp2_with fail
    go_ret
    exact ⟨rfl, hm.out, hb.out⟩
  · obtain ⟨w2, hcp, hm, hb⟩ := write_run h hu hn (Option.map (fun x => x.add a) A) (c - a) (fun _ => rfl)
    rw [← hys] at hm
    clear hu hys
    replace h := Lib.hid h
    replace hm := Lib.hid hm
    replace hb := Lib.hid hb
    obtain ⟨L, hL⟩ : ∃ L, L = bs.length := ⟨_, rfl⟩
    rw [← hL] at h1 hl hn c0 hcp hm hb h ⊢
    obtain ⟨q, hq⟩ : ∃ q, q = xs.length := ⟨_, rfl⟩
    rw [← hq] at hn u1 hcp ⊢
    replace hL := Lib.hid hL
    replace hq := Lib.hid hq
    go_enter Try.func19, Try.ntmps19
    go_wp2_with fail
    refine (has_any T w B g _ bs most _ _ true h.out (by omega) (by omega) (by rw [← hL.out]; simp; omega)).mono ?_
    rintro e1 w1 ⟨rfl, rfl⟩
    go_wp2_with fail
    go_ret
    exact ⟨rfl, hm.out, hb.out⟩
theorem Write_no (T : Nat) (w : World) (B g : Nat) (v : Value) (bs xs : List Nat) (most ai : Int) (u : Value) (h : MAt T w B g v bs most) (ha : Rg ai) (hu : BS w w.heap.size u xs) (hno : ¬ (0 ≤ ai ∧ ai + xs.length ≤ bs.length)) :
    Calls Try.prog 19 #[Mp g, .int .i64 ai, u] w (SPost T w B g v bs most 21) := by
  obtain ⟨U, d, rfl, u1, u2, hU⟩ := hu
  clear hU
  unfold maxLen at u2
  replace h := Lib.hid h
  obtain ⟨q, hq⟩ : ∃ q, q = xs.length := ⟨_, rfl⟩
  rw [← hq] at u1 hno ⊢
  clear hq
  replace hno := Lib.hid hno
  go_enter Try.func19, Try.ntmps19
  go_wp2_with fail
  refine (has_any T w B g _ bs most _ _ false h.out ha (by omega) (by have := hno.out; simp; omega)).mono ?_
  rintro e1 w1 ⟨rfl, rfl⟩
  go_wp2_with fail
  go_ret
  exact ⟨rfl, h.out, But.refl _ _⟩
set_option maxRecDepth 100000 in
theorem New_bad (mn mx limit : Int) (w : World) (h1 : ¬ (0 ≤ limit ∧ limit ≤ 16 ∧ 0 ≤ mn ∧ (mx = -1 ∨ mn ≤ mx))) :
    Calls Try.prog 6 #[Lim mn mx, .int .i64 limit] w fun e w' => e = .returned (.tuple #[.pointer none, .int .i64 100]) ∧ Below w.heap.size w w' := by
  have h1' := Lib.hid h1
  go_enter Try.func6, Try.ntmps6
  by_cases a1 : limit < 0
  · go_wp2_with fail
    go_ret2
    exact ⟨rfl, (Below.refl _ _).alloc (Nat.le_refl _) _⟩
  by_cases a2 : 16 < limit
  · go_wp2_with fail
    go_ret2
    exact ⟨rfl, (Below.refl _ _).alloc (Nat.le_refl _) _⟩
  by_cases a3 : mn < 0
  · go_wp2_with fail
    go_ret2
    exact ⟨rfl, (Below.refl _ _).alloc (Nat.le_refl _) _⟩
  have a4 : (mx == -1) = false := by simp; omega
  have a5 : mx < mn := by omega
  go_wp2_with fail
  go_ret2
  exact ⟨rfl, (Below.refl _ _).alloc (Nat.le_refl _) _⟩
set_option maxRecDepth 100000 in
theorem New_nospc (mn mx limit : Int) (w : World) (h1 : 0 ≤ limit ∧ limit ≤ 16 ∧ 0 ≤ mn ∧ (mx = -1 ∨ mn ≤ mx)) (h2 : limit < mn) :
    Calls Try.prog 6 #[Lim mn mx, .int .i64 limit] w fun e w' => e = .returned (.tuple #[.pointer none, .int .i64 51]) ∧ Below w.heap.size w w' := by
  obtain ⟨a1, a2, a3, a4⟩ := h1
  have hd : mx = -1 ∨ (mn ≤ mx ∧ (mx == -1) = false) := by by_cases e : mx = -1; exact .inl e; exact .inr ⟨by omega, by simpa using e⟩
  clear a4
  rcases hd with rfl | ⟨d1, d2⟩
  all_goals
    go_enter Try.func6, Try.ntmps6
    go_wp2_with fail
    go_ret2
    exact ⟨rfl, (Below.refl _ _).alloc (Nat.le_refl _) _⟩
end Go.Proofs.Ytcdfmldbpmgoiaa
