/-
  The page's loads and stores, and answers that are written over; condition: the memory was made by the call.
-/
import Derived.Test.YtcdfmldbpmgoiaaGPage
import Derived.Test.YtcdfmldbpmgoiaaMix
namespace Go.Proofs.Ytcdfmldbpmgoiaa
open Go.RowKit
theorem pLoad_no (T : Nat) (w : World) (B g : Nat) (v : Value) (bs : List Nat) (most a n : Int) (h : MAt T w B g v bs most) (ha : Rg a) (hn : Rg n) (hno : ¬ (0 ≤ a ∧ 0 ≤ n ∧ a + n ≤ bs.length)) :
    Calls Try.prog 12 #[Mp g, .int .i64 a, .int .i64 n] w fun e w' => e = .returned (.tuple #[.int .u64 0, .bool false]) ∧ w' = w := by
  replace h := Lib.hid h
  replace hno := Lib.hid hno
  go_enter Try.func12, Try.ntmps12
  go_wp2_with fail
  refine (pHas_any T w B g _ bs most _ _ false h.out ha hn (by simpa using hno.out)).mono ?_
  rintro e1 w1 ⟨rfl, rfl⟩
  go_wp2_with fail
  go_ret2
  exact ⟨rfl, rfl⟩
theorem pStore_no (T : Nat) (w : World) (B g : Nat) (v : Value) (bs : List Nat) (most a n x : Int) (h : MAt T w B g v bs most) (ha : Rg a) (hn : Rg n) (hno : ¬ (0 ≤ a ∧ 0 ≤ n ∧ a + n ≤ bs.length)) :
    Calls Try.prog 22 #[Mp g, .int .i64 a, .int .i64 n, .int .u64 x] w fun e w' => e = .returned (.bool false) ∧ w' = w := by
  replace h := Lib.hid h
  replace hno := Lib.hid hno
  go_enter Try.func22, Try.ntmps22
  go_wp2_with fail
  refine (pHas_any T w B g _ bs most _ _ false h.out ha hn (by simpa using hno.out)).mono ?_
  rintro e1 w1 ⟨rfl, rfl⟩
  go_wp2_with fail
  go_ret
  exact ⟨rfl, rfl⟩
theorem tupUB {a b : Int} (h : a = b) : Ending.returned (.tuple #[.int .u64 a, .bool true]) = Ending.returned (.tuple #[.int .u64 b, .bool true]) := by rw [h]
theorem le_back (bs : List Nat) (n a q : Nat) (h : q < n) : M.le bs (n - q) (a + q) = bs.getD (a + q) 0 + 256 * M.le bs (n - (q + 1)) (a + (q + 1)) := by
  rw [show n - q = (n - (q + 1)) + 1 by omega]
  rfl
theorem or_back (v b : Nat) (hv : v < 72057594037927936) (hb : b < 256) : bits .or .u64 ((v : Int) * 256) (b : Int) = ((b + 256 * v : Nat) : Int) := by
  have e : ((v : Int) * 256) = ((v * 256 : Nat) : Int) := by omega
  rw [e, u64_or_nat _ _ (by omega) (by omega)]
  have := nat_join 8 (v * 256) b (by omega) (by omega)
  omega
theorem pLoad_ok (T : Nat) (w : World) (B g : Nat) (v : Value) (bs : List Nat) (most : Int) (a n : Nat) (ai ni : Int) (x : Nat) (hai : ai = (a : Nat)) (hni : ni = (n : Nat)) (h : MAt T w B g v bs most) (hn : n ≤ 8) (ha : a + n ≤ bs.length) (hx : x = M.le bs n a) :
    Calls Try.prog 12 #[Mp g, .int .i64 ai, .int .i64 ni] w fun e w' => e = .returned (.tuple #[.int .u64 x, .bool true]) ∧ Below w.heap.size w w' ∧ MAt T w' B g v bs most := by
  subst hai
  subst hni
  obtain ⟨A, c, rfl, h1, h2⟩ := h.form
  have c0 := h.c0
  have hl := h.len
  replace h := Lib.hid h
  replace hx := Lib.hid hx
  go_enter Try.func12, Try.ntmps12
  go_wp2_with fail
  refine (pHas_any T w B g _ bs most _ _ true h.out (by omega) (by omega) (by simp; omega)).mono ?_
  rintro e1 w1 ⟨rfl, rfl⟩
  go_wp2_with fail
  go_loopw [8, 9] (fun v i w' => ∃ (k y : Nat), k ≤ n ∧ v = .int .u64 y ∧ y = M.le bs (n - k) (a + k) ∧ i = .int .i64 ((k : Int) - 1) ∧ Below w1.heap.size w1 w') (fun _ i _ => (intOf i + 1).toNat)
  case atStart => exact ⟨n, 0, by omega, rfl, by rw [Nat.sub_self]; rfl, rfl, Below.refl _ _⟩
  case round =>
    obtain ⟨k, y, hk, rfl, hy, rfl, hb⟩ := hrel
    replace hy := Lib.hid hy
    have h3 := h.out.later hb
    have c3 := h3.c0
    by_cases hk0 : k = 0
    · subst hk0
      replace h3 := Lib.hid h3
      replace hb := Lib.hid hb
      go_wp2_with fail
      go_ret2
      refine ⟨tupUB ?_, hb.out, h3.out⟩
      rw [hx.out, hy.out, Nat.sub_zero, Nat.add_zero]
    · obtain ⟨q, rfl⟩ : ∃ q, k = q + 1 := ⟨k - 1, by omega⟩
      obtain ⟨r, rfl, q1, _⟩ := h3.byte (a + q) (by omega)
      have hbb := M.getD_lt h3.lt (a + q)
      have hyl : y < 72057594037927936 := by
        rw [hy.out]
        refine Nat.lt_of_lt_of_le (M.le_lt h3.lt _ _) ?_
        exact Nat.le_trans (Nat.pow_le_pow_right (by omega) (show n - (q + 1) ≤ 7 by omega)) (by decide)
      have hbk := Lib.hid (le_back bs n a q (by omega))
      obtain ⟨b, hbe⟩ : ∃ b, b = bs.getD (a + q) 0 := ⟨_, rfl⟩
      rw [← hbe] at q1 hbb
      replace hbe := Lib.hid hbe
      have hor := Lib.hid (or_back y b hyl hbb)
      replace h3 := Lib.hid h3
      replace hb := Lib.hid hb
      have eq1 : ((q + 1 : Nat) : Int) - 1 = (q : Int) := by omega
      go_wp2_with fail
      exact ⟨⟨q, b + 256 * y, by omega, by rw [hor.out], by rw [hbk.out, ← hbe.out, ← hy.out], rfl, hb.out⟩, by simp [intOf]⟩
theorem shr_run (x k : Nat) (hk : k ≤ 7) (z : Nat) (hz : z = x / 256 ^ k) (w : World) : (Op.shift BinOp.shr IntKind.u64 (x : Int) IntKind.i64 (IntKind.i64.wrap (8 * (k : Int)))).run Try.prog w = .ok (.int .u64 (z : Int)) w := by
  have e : IntKind.i64.wrap (8 * (k : Int)) = ((8 * k : Nat) : Int) := by rw [IntKind.wrap_i64]; omega
  have e2 : ((x : Int) / 2 ^ min ((8 * k : Nat) : Int).toNat IntKind.u64.bits) = (z : Int) := by
    rw [Int.toNat_natCast, show min (8 * k) IntKind.u64.bits = 8 * k from by show min (8 * k) 64 = _; omega, hz, show (256 : Nat) = 2 ^ 8 from rfl, ← Nat.pow_mul]
    push_cast
    rfl
  rw [e, shift_shr_any _ _ _ _ (by omega), e2]
  rfl
set_option maxRecDepth 100000 in
theorem pStore_ok (T : Nat) (w : World) (B g : Nat) (v : Value) (bs : List Nat) (most : Int) (a n : Nat) (ai ni : Int) (x : Nat) (hai : ai = (a : Nat)) (hni : ni = (n : Nat)) (h : MAt T w B g v bs most) (hn : n ≤ 8) (ha : a + n ≤ bs.length) (hx : x < 18446744073709551616) :
    Calls Try.prog 22 #[Mp g, .int .i64 ai, .int .i64 ni, .int .u64 (x : Int)] w fun e w' => e = .returned (.bool true) ∧ MAt T w' B g v (M.put n bs a x) most ∧ But (fun k => v.ownBlock = some k) w w' := by
  subst hai
  subst hni
  obtain ⟨A, c, rfl, h1, h2⟩ := h.form
  have c0 := h.c0
  have hl := h.len
  replace h := Lib.hid h
  go_enter Try.func22, Try.ntmps22
  go_wp2_with fail
  refine (pHas_any T w B g _ bs most _ _ true h.out (by omega) (by omega) (by simp; omega)).mono ?_
  rintro e1 w1 ⟨rfl, rfl⟩
  go_wp2_with fail
  go_loopw [9] (fun i w' => ∃ k : Nat, k ≤ n ∧ i = .int .i64 k ∧ MAt T w' B g (.slice A bs.length c) (M.put k bs a x) most ∧ But (fun q => Value.ownBlock (.slice A bs.length c) = some q) w1 w') (fun i _ => n - (intOf i).toNat)
  case atStart => exact ⟨0, by omega, rfl, h.out, But.refl _ _⟩
  case round =>
    obtain ⟨k, hk, rfl, m2, b2⟩ := hrel
    have c2 := m2.c0
    by_cases hkn : k < n
    · obtain ⟨r, rfl, q1, q2⟩ := m2.byte (a + k) (by rw [M.put_length]; omega)
      have hs := m2.set (a + k) (x / 256 ^ k % 256) (by rw [M.put_length]; omega) (by omega)
      rw [← M.put_succ] at hs
      obtain ⟨z, hz⟩ : ∃ z, z = x / 256 ^ k := ⟨_, rfl⟩
      rw [← hz] at hs
      have hsr := shr_run x k (by omega) z hz
      have hzl : z < 18446744073709551616 := by rw [hz]; exact Nat.lt_of_le_of_lt (Nat.div_le_self _ _) hx
      clear hz
      rw [show ((z % 256 : Nat) : Int) = (z : Int) % 256 by omega] at hs
      replace hs := Lib.hid hs
      have s0 : (0 : Int) ≤ (a : Int) + (k : Int) := by omega
      replace m2 := Lib.hid m2
      replace b2 := Lib.hid b2
      obtain ⟨b, hbe⟩ : ∃ b, b = (M.put k bs a x).getD (a + k) 0 := ⟨_, rfl⟩
      rw [← hbe] at q1
      clear hbe
      go_wp2_with fail
      go_still_tail 12, (by kernel_rfl)
      change wpList _ _ _ _ _ wr.drew
      go_wp2_with fail
      have hx2 := b2.out.trans (hs.out.2.mono (Y := fun q => Value.ownBlock (.slice (some ⟨r, 0, none⟩) bs.length c) = some q) (fun q _ e => by subst e; rfl))
      exact ⟨⟨k + 1, by omega, by go_num, ⟨hs.out.1.obj, hs.out.1.ge, hs.out.1.row, hs.out.1.lt, hs.out.1.ne, hs.out.1.len⟩, ⟨hx2.os, hx2.tape, hx2.output, hx2.size, hx2.block⟩⟩, by simp [intOf]; omega⟩
    · obtain rfl : k = n := by omega
      replace m2 := Lib.hid m2
      replace b2 := Lib.hid b2
      go_wp2_with fail
      go_ret
      exact ⟨rfl, m2.out, b2.out⟩
end Go.Proofs.Ytcdfmldbpmgoiaa
