/-
  What the laws over acts share: a number brought within bounds, bytes beside a number; no condition.
-/
import Derived.Test.YtcdfmldbpmgoiaaGGrows0
import Derived.Test.YtcdfmldbpmgoiaaGOpen2
namespace Go.Proofs.Ytcdfmldbpmgoiaa
open Go.RowKit
theorem within_any (i n : Int) (w : World) (hi : Rg i) (hn : 0 < n ∧ n ≤ 1000000) : Calls Try.prog 11 #[.int .i64 i, .int .i64 n] w fun e w' => (∃ r : Nat, e = .returned (.int .i64 (r : Int)) ∧ (r : Int) < n) ∧ w' = w := by
  go_enter Try.func11, Try.ntmps11
  go_wp2_with fail
  go_ret
  have hX : 0 ≤ IntKind.u64.wrap i := by rw [IntKind.wrap_u64]; omega
  obtain ⟨X, hXX⟩ : ∃ X, X = IntKind.u64.wrap i := ⟨_, rfl⟩
  rw [← hXX] at hX ⊢
  have h1 := Int.emod_nonneg X (show n ≠ 0 by omega)
  have h2 := Int.emod_lt_of_pos X (show 0 < n by omega)
  rw [Int.tmod_eq_emod_of_nonneg hX]
  refine ⟨⟨(X % n).toNat, ret_int ?_, by omega⟩, rfl⟩
  unfold wrap64
  omega
theorem own_byte {w : World} {b n c m : Nat} {A : Option Addr} {xs : List Nat} (h : w.ownsRow b 5 1 (.slice A n c) xs.length (vals xs)) (hm : xs.length = m) : ∀ j, j < m → ∃ r, A = some ⟨r, 0, none⟩ ∧ w.cell? ⟨r, j, none⟩ = some (.int .u8 ((xs.getD j 0 : Nat) : Int)) := by
  intro j hj
  rcases h.2 with ⟨_, h0⟩ | ⟨g, cap, cur, e, _⟩
  · omega
  · cases e
    have := h.cells (g := g) rfl j _ (getD_vals xs j (by omega))
    rw [add_none, Nat.zero_add] at this
    exact ⟨g, rfl, this⟩
theorem step_callw1 {ops : Array Oper} {o : Oper} {a : Act} {w : World} {K : Act → World → Prop} {Q : Exit → Act → World → Prop} {E : Prop} (hw : Region.wanted o (yielded ops a.tmps) = true) (f : FuncId) (x : Operand) (t : TypeId)
    (ho : o.op = .call { callee := .value (.func f), args := #[x], argTypes := #[t] }) (hcall : ∀ (args : Array Value) (w : World), Sem.run Try.prog (callFunc f args) w = Result.ok (Next.enter f args) w) (v : Value) (hx : a.eval x = v) (h : Calls Try.prog f #[v] w fun e w' => ∃ u, e = .returned u ∧ K (a.put o.dst u) w') :
    if Region.wanted o (yielded ops a.tmps) = true then Oper.wp Try.prog o a w K Q else E := by
  rw [if_pos hw]
  unfold Oper.wp
  have hf : a.eval (.func f) = .func (.func f) #[] #[] := rfl
  simp [execOp, ho, resolve, invoke, hx, hf, Deferred.ofValue, hcall, Oper.upon_enter]
  refine h.mono ?_
  rintro e w' ⟨u, rfl, hK⟩
  exact hK
theorem shift8 (w : World) : (Op.shift BinOp.shl IntKind.u64 1 IntKind.i64 (IntKind.i64.wrap 8)).run Try.prog w = .ok (.int .u64 256) w := by kernel_rfl
theorem shift16 (w : World) : (Op.shift BinOp.shl IntKind.u64 1 IntKind.i64 (IntKind.i64.wrap 16)).run Try.prog w = .ok (.int .u64 65536) w := by kernel_rfl
theorem shift32 (w : World) : (Op.shift BinOp.shl IntKind.u64 1 IntKind.i64 (IntKind.i64.wrap 32)).run Try.prog w = .ok (.int .u64 4294967296) w := by kernel_rfl
/-- What a round of MemParts knows: ten bytes ahead of a number's being stored and behind it. -/
structure PF (W : Nat) (bs ds x1 x2 : List Nat) (ka x y : Nat) : Prop where
  hst : (ds, (0 : Int)) = M.st bs (ka : Int) 1 W x
  hld : (y, (0 : Int)) = M.ld ds 0 ((ka : Int) + 1) W
  hx1 : x1 = (bs.drop ka).take 10
  hx2 : x2 = (ds.drop ka).take 10
  l1 : x1.length = 10
  l2 : x2.length = 10
  ld : ds.length = 65536
  lb : bs.length = 65536
  far : (ds, (21 : Int)) = M.st ds (65536 - (W : Int)) 1 W x
  far2 : (ds, (21 : Int)) = M.st ds 4294967295 4294967295 W x
  ins : ∀ j, 1 ≤ j → j ≤ W → x2.getD j 0 = x / 256 ^ (j - 1) % 256
  out : ∀ j, j < 10 → ¬ (1 ≤ j ∧ j ≤ W) → x2.getD j 0 = x1.getD j 0
theorem getD_td (bs : List Nat) (a n j : Nat) (hj : j < n) : ((bs.drop a).take n).getD j 0 = bs.getD (a + j) 0 := getD_take_drop bs a n j hj
theorem PF.mk' (W : Nat) {bs ds x1 x2 : List Nat} {ka x y : Nat} (hW : W = 1 ∨ W = 2 ∨ W = 4 ∨ W = 8) (hl : bs.length = 65536) (hka : ka < 65526) (hx : x < 18446744073709551616) (h1 : x1 = (bs.drop ka).take 10) (hd : ds = M.put W bs (ka + 1) x) (h2 : x2 = (ds.drop ka).take 10) (hy : y = x % 256 ^ W) : PF W bs ds x1 x2 ka x y := by
  have hdl : ds.length = 65536 := by rw [hd, M.put_length]; exact hl
  have f : M.form (ka : Int) 1 (W : Int) = true := M.form_of (by omega) (by omega) (by omega)
  refine ⟨?_, ?_, h1, h2, by rw [h1]; simp; omega, by rw [h2]; simp; omega, hdl, hl, M.st_far (M.form_of (by omega) (by omega) (by omega)) (by omega), M.st_far (M.form_of (by omega) (by omega) (by omega)) (by omega), ?_, ?_⟩
  · rw [← M.st_ok f (by omega), hd, Int.toNat_natCast]
    congr 2
  · rw [← M.ld_ok (M.form_of (by omega) (by omega) (by omega)) (by omega), hy, hd, Int.toNat_natCast, show (0 + ((ka : Int) + 1)).toNat = ka + 1 by omega, M.le_put W bs (ka + 1) x (by omega)]
  · intro j hj1 hj2
    rw [h2, getD_td _ _ _ _ (by omega), hd, M.put_get, if_pos (by omega), show ka + j - (ka + 1) = j - 1 by omega]
  · intro j hj hn
    rw [h1, h2, getD_td _ _ _ _ hj, getD_td _ _ _ _ hj, hd, M.put_get, if_neg (by omega)]
theorem M.and_low (s x : Nat) (hs : s ≤ 63) (hx : x < 18446744073709551616) : bits .and .u64 (x : Int) ((2 ^ s - 1 : Nat) : Int) = ((x % 2 ^ s : Nat) : Int) := by
  rw [u64_and_nat _ _ hx (by have : 2 ^ s ≤ 2 ^ 63 := Nat.pow_le_pow_right (by omega) hs; omega), Nat.and_two_pow_sub_one_eq_mod]
end Go.Proofs.Ytcdfmldbpmgoiaa
