/-
  A memory made, whatever is asked; no condition.
-/
import Derived.Test.YtcdfmldbpmgoiaaGLoad
import Derived.Deep.RegionLaw
namespace Go.Proofs.Ytcdfmldbpmgoiaa
open Go.RowKit
abbrev Lim (mn mx : Int) : Value := .agg #[.int .i64 mn, .int .i64 mx]
theorem step_call2 {ops : Array Oper} {o : Oper} {a : Act} {w : World} {K : Act → World → Prop} {Q : Exit → Act → World → Prop} {E : Prop} (hgd : o.guard = none) (f : FuncId) (x y : Operand) (t s : TypeId)
    (ho : o.op = .call { callee := .value (.func f), args := #[x, y], argTypes := #[t, s] }) (hcall : ∀ (args : Array Value) (w : World), Sem.run Try.prog (callFunc f args) w = Result.ok (Next.enter f args) w) (v u : Value) (hx : a.eval x = v) (hy : a.eval y = u) (h : Calls Try.prog f #[v, u] w fun e w' => ∃ u, e = .returned u ∧ K (a.put o.dst u) w') :
    if Region.wanted o (yielded ops a.tmps) = true then Oper.wp Try.prog o a w K Q else E := by
  have hw : Region.wanted o (yielded ops a.tmps) = true := by simp [Region.wanted, hgd]
  rw [if_pos hw]
  unfold Oper.wp
  have hf : a.eval (.func f) = .func (.func f) #[] #[] := rfl
  simp [execOp, ho, resolve, invoke, hx, hy, hf, Deferred.ofValue, hcall, Oper.upon_enter]
  refine h.mono ?_
  rintro e w' ⟨u, rfl, hK⟩
  exact hK
theorem u8_info : (Try.prog.info? 5).map (fun i => (i.zero, i.size, i.bytes)) = some (some (.int .u8 0), 1, 1) := by kernel_rfl
/-- A row of noughts. -/
def zrow (n : Nat) : Array Value := madeCells #[.int .u8 0] n
theorem zrow_list (n : Nat) : (zrow n).toList = vals (List.replicate n 0) := by
  unfold zrow vals
  rw [toList_madeCells_one]
  simp
theorem zrow_size (n : Nat) : (zrow n).size = n := size_madeCells _ _
theorem make_run (n : Nat) (N : Int) (hN : N = (n : Nat)) (hn : n ≤ 4294967296) (w : World) : (Instr.makeSlice 38 (.int .i64 N) (.int .i64 N)).run Try.prog w = .ok (.slice (some ⟨w.heap.size, 0, none⟩) n n) (w.alloc (.cells (zrow n) 5)) := by
  obtain ⟨i0, hi0, hz0, hz1, hz2⟩ := info_parts u8_info
  subst hN
  rw [run_make w 38 5 i0 (.int .u8 0) Try.underlying38 hi0 hz0 .i64 .i64 n n (by omega) (by omega) (by rw [hz2]; omega) (by omega), hz1, Int.toNat_natCast, Nat.mul_one]
  rfl
theorem zrow_own (w : World) (B n : Nat) (hB : B ≤ w.heap.size) (hn : n ≤ 4294967296) : (w.alloc (.cells (zrow n) 5)).ownsRow B 5 1 (.slice (some ⟨w.heap.size, 0, none⟩) n n) n (vals (List.replicate n 0)) :=
  ⟨by simp [vals], .inr ⟨w.heap.size, n, zrow n, rfl, hB, heap_alloc_new w _, Nat.le_refl _, by unfold maxLen; omega, by rw [zrow_size]; omega, by rw [Nat.mul_one, zrow_list]; exact List.take_of_length_le (by simp [vals])⟩⟩
theorem zrow_own' (w : World) (B n g : Nat) (hg : g = w.heap.size) (hB : B ≤ w.heap.size) (hn : n ≤ 4294967296) : (w.alloc (.cells (zrow n) 5)).drew.ownsRow B 5 1 (.slice (some ⟨g, 0, none⟩) n n) n (vals (List.replicate n 0)) := by
  subst hg
  exact (zrow_own w B n hB hn).drew
theorem zero_lt (n : Nat) : ∀ b ∈ List.replicate n 0, b < 256 := fun b hb => by rw [List.eq_of_mem_replicate hb]; decide
theorem lesser_any (mn mx limit r : Int) (w : World) (hr : r = if mx = -1 then limit else min mx limit) :
    Calls Try.prog 26 #[Lim mn mx, .int .i64 limit] w fun e w' => e = .returned (.int .i64 r) ∧ Below w.heap.size w w' := by
  replace hr := Lib.hid hr
  go_enter Try.func26, Try.ntmps26
  go_wp2_with fail
  all_goals
    go_ret
    refine ⟨ret_int ?_, (Below.refl _ _).alloc (Nat.le_refl _) _⟩
    rw [hr.out]
    simp_all
    try omega
/-- What lesser answers, for the walks that only call it. -/
def LessIs (mn mx limit most : Int) : Prop := ∀ w, Calls Try.prog 26 #[Lim mn mx, .int .i64 limit] w fun e w' => e = .returned (.int .i64 most) ∧ Below w.heap.size w w'
theorem new_fin (w wz : World) (n : Nat) (v : Value) (most : Int) (hn : n ≤ 4294967296) (hb : Below w.heap.size w wz) (hrow : wz.ownsRow w.heap.size 5 1 v n (vals (List.replicate n 0))) (T : Nat) (hT : T ≠ 5) (g : Nat) (hg : g = wz.heap.size) :
    MAt T (wz.alloc (.cells #[v, .int .i64 most] T)) w.heap.size g v (List.replicate n 0) most ∧ Below w.heap.size w (wz.alloc (.cells #[v, .int .i64 most] T)) :=
  ⟨⟨by rw [hg]; exact heap_alloc_new wz _, by rw [hg]; exact hb.size, by rw [List.length_replicate]; exact hrow.alloc _, zero_lt n, hT, by simpa using hn⟩, hb.alloc hb.size _⟩
set_option maxRecDepth 100000 in
set_option maxHeartbeats 4000000 in
theorem New_okC (mn mx limit most : Int) (n : Nat) (w : World) (a1 : 0 ≤ limit) (a2 : limit ≤ 16) (a3 : 0 ≤ mn) (hd : mx = -1 ∨ (mn ≤ mx ∧ (mx == -1) = false)) (h2 : mn ≤ limit) (hm : LessIs mn mx limit most) (hn : n = mn.toNat * 65536) :
    Calls Try.prog 6 #[Lim mn mx, .int .i64 limit] w fun e w' => ∃ g v, e = .returned (.tuple #[Mp g, .int .i64 0]) ∧ MAt 62 w' w.heap.size g v (List.replicate n 0) most ∧ Below w.heap.size w w' := by
  have hmk := make_run n (IntKind.i64.wrap (mn * 65536)) (by rw [IntKind.wrap_i64]; omega) (by omega)
  have hn2 : n ≤ 4294967296 := by omega
  replace hm := Lib.hid hm
  replace hn := Lib.hid hn
  rcases hd with rfl | ⟨d1, d2⟩
  all_goals
    go_enter Try.func6, Try.ntmps6
    go_wp2_with fail
    all_goals (go_region_law (refine step_call2 (by rfl) 26 _ _ _ _ (by rfl) Try.call26 _ _ (by rfl) (by rfl) ?_; refine (hm.out _).mono ?_; rintro e1 w1 ⟨rfl, b1⟩; refine ⟨_, rfl, ?_⟩; have c1 : w1.cell? ⟨w.heap.size, 0, none⟩ = some (.int .i64 mn) := (b1.cell (by simp; try omega)).trans (by simp); replace b1 := Lib.hid b1))
    all_goals go_wp2_with fail
    all_goals go_ret2
    all_goals
      have hb1 : Below w.heap.size w w1 := by
        first
        | exact (((Below.refl w.heap.size w).alloc (Nat.le_refl _) _).drew).trans (b1.out.mono (by simp))
        | exact ((((Below.refl w.heap.size w).alloc (Nat.le_refl _) _).alloc (by simp) _).drew.trans (b1.out.mono (by simp; omega)))
      first
      | exact ⟨_, _, rfl, new_fin w w1 n _ most hn2 hb1 (own_later (zrow_own' _ w.heap.size n _ (by simp) (by simp) hn2) b1.out) 62 (by decide) _ (by simp)⟩
      | exact ⟨_, _, rfl, new_fin w _ n _ most hn2 (hb1.alloc hb1.size _) (zrow_own w1 w.heap.size n hb1.size hn2) 62 (by decide) _ (by simp)⟩
theorem New_ok (mn mx limit most : Int) (w : World) (h1 : 0 ≤ limit ∧ limit ≤ 16 ∧ 0 ≤ mn ∧ (mx = -1 ∨ mn ≤ mx)) (h2 : mn ≤ limit) (hm : most = if mx = -1 then limit else min mx limit) :
    Calls Try.prog 6 #[Lim mn mx, .int .i64 limit] w fun e w' => ∃ g v, e = .returned (.tuple #[Mp g, .int .i64 0]) ∧ MAt 62 w' w.heap.size g v (List.replicate (mn.toNat * 65536) 0) most ∧ Below w.heap.size w w' :=
  New_okC mn mx limit most _ w h1.1 h1.2.1 h1.2.2.1 (by by_cases e : mx = -1; exact .inl e; exact .inr ⟨by omega, by simpa using e⟩) h2 (fun w => lesser_any mn mx limit most w hm) rfl
end Go.Proofs.Ytcdfmldbpmgoiaa
