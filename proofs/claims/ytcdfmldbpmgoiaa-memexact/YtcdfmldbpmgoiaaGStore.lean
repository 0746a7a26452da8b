/-
  Numbers of one, two, four and eight bytes written into a memory; condition: the memory was made by the call.
-/
import Derived.Test.YtcdfmldbpmgoiaaGLoad
namespace Go.Proofs.Ytcdfmldbpmgoiaa
open Go.RowKit
def StPost (T : Nat) (w : World) (B g : Nat) (v : Value) (cs : List Nat) (most : Int) (e : Ending) (w' : World) : Prop :=
  e = .returned (.tuple #[]) ∧ MAt T w' B g v cs most ∧ But (fun k => v.ownBlock = some k) w w'
theorem store1_any (T : Nat) (w : World) (B g : Nat) (v : Value) (bs : List Nat) (most : Int) (a : Nat) (ai vi : Int) (x : Nat) (hai : ai = (a : Nat)) (hvi : vi = (x : Nat)) (hx : x < 18446744073709551616) (h : MAt T w B g v bs most) (ha : a + 1 ≤ bs.length) :
    Calls Try.prog 36 #[Mp g, .int .i64 ai, .int .u64 vi] w (StPost T w B g v (M.put 1 bs a x) most) := by
  subst hai
  subst hvi
  obtain ⟨A, c, rfl, h1, h2⟩ := h.form
  have c0 := h.c0
  have hl := h.len
  obtain ⟨r, rfl, q1, q2⟩ := h.byte a ha
  have hs := Lib.hid (h.set a (x % 256) ha (by omega))
  obtain ⟨n, hN⟩ : ∃ n, n = bs.length := ⟨_, rfl⟩
  rw [← hN] at ha h1 c0 hl hs ⊢
  obtain ⟨q, hq⟩ : ∃ q, q = bs.getD a 0 := ⟨_, rfl⟩
  rw [← hq] at q1
  clear hq
  replace h := Lib.hid h
  have hs2 := Lib.hid (show ((x % 256 : Nat) : Int) = (x : Int) % 256 by omega)
  go_enter Try.func36, Try.ntmps36
  go_wp2_with fail
  go_end0
  have hs3 := hs.out
  rw [hs2.out] at hs3
  exact ⟨rfl, hs3.1, hs3.2.mono fun k _ e => by subst e; rfl⟩
theorem store2_any (T : Nat) (w : World) (B g : Nat) (v : Value) (bs : List Nat) (most : Int) (a : Nat) (ai vi : Int) (x : Nat) (hai : ai = (a : Nat)) (hvi : vi = (x : Nat)) (hx : x < 18446744073709551616) (h : MAt T w B g v bs most) (ha : a + 2 ≤ bs.length) :
    Calls Try.prog 37 #[Mp g, .int .i64 ai, .int .u64 vi] w (StPost T w B g v (M.put 2 bs a x) most) := by
  have hl := h.len
  subst hai
  subst hvi
  have e2 : M.put 2 bs a x = M.put 1 (M.put 1 bs a x) (a + 1) (x / 256) := M.put_add 1 1 bs a x
  replace e2 := Lib.hid e2
  replace h := Lib.hid h
  have hlen := Lib.hid (M.put_length 1 bs a x)
  go_enter Try.func37, Try.ntmps37
  go_wp2_with fail
  refine (store1_any T w B g v bs most a _ _ x (by omega) (by omega) (by omega) h.out (by omega)).mono ?_
  rintro e1 w1 ⟨rfl, k1, b1⟩
  replace k1 := Lib.hid k1
  replace b1 := Lib.hid b1
  go_wp2_with fail
  refine (store1_any T w1 B g v _ most (a + 1) _ _ (x / 256) (by omega) (by omega) (by omega) k1.out (by rw [hlen.out]; omega)).mono ?_
  rintro e2 w2 ⟨rfl, k2, b2⟩
  replace k2 := Lib.hid k2
  replace b2 := Lib.hid b2
  go_wp2_with fail
  go_end0
  exact ⟨rfl, by rw [e2.out]; exact k2.out, b1.out.trans b2.out⟩
theorem store4_any (T : Nat) (w : World) (B g : Nat) (v : Value) (bs : List Nat) (most : Int) (a : Nat) (ai vi : Int) (x : Nat) (hai : ai = (a : Nat)) (hvi : vi = (x : Nat)) (hx : x < 18446744073709551616) (h : MAt T w B g v bs most) (ha : a + 4 ≤ bs.length) :
    Calls Try.prog 38 #[Mp g, .int .i64 ai, .int .u64 vi] w (StPost T w B g v (M.put 4 bs a x) most) := by
  have hl := h.len
  subst hai
  subst hvi
  have e2 : M.put 4 bs a x = M.put 2 (M.put 2 bs a x) (a + 2) (x / 65536) := M.put_add 2 2 bs a x
  replace e2 := Lib.hid e2
  replace h := Lib.hid h
  have hlen := Lib.hid (M.put_length 2 bs a x)
  go_enter Try.func38, Try.ntmps38
  go_wp2_with fail
  refine (store2_any T w B g v bs most a _ _ x (by omega) (by omega) (by omega) h.out (by omega)).mono ?_
  rintro e1 w1 ⟨rfl, k1, b1⟩
  replace k1 := Lib.hid k1
  replace b1 := Lib.hid b1
  go_wp2_with fail
  refine (store2_any T w1 B g v _ most (a + 2) _ _ (x / 65536) (by omega) (by omega) (by omega) k1.out (by rw [hlen.out]; omega)).mono ?_
  rintro e2 w2 ⟨rfl, k2, b2⟩
  replace k2 := Lib.hid k2
  replace b2 := Lib.hid b2
  go_wp2_with fail
  go_end0
  exact ⟨rfl, by rw [e2.out]; exact k2.out, b1.out.trans b2.out⟩
theorem store8_any (T : Nat) (w : World) (B g : Nat) (v : Value) (bs : List Nat) (most : Int) (a : Nat) (ai vi : Int) (x : Nat) (hai : ai = (a : Nat)) (hvi : vi = (x : Nat)) (hx : x < 18446744073709551616) (h : MAt T w B g v bs most) (ha : a + 8 ≤ bs.length) :
    Calls Try.prog 39 #[Mp g, .int .i64 ai, .int .u64 vi] w (StPost T w B g v (M.put 8 bs a x) most) := by
  have hl := h.len
  subst hai
  subst hvi
  have e2 : M.put 8 bs a x = M.put 4 (M.put 4 bs a x) (a + 4) (x / 4294967296) := M.put_add 4 4 bs a x
  replace e2 := Lib.hid e2
  replace h := Lib.hid h
  have hlen := Lib.hid (M.put_length 4 bs a x)
  go_enter Try.func39, Try.ntmps39
  go_wp2_with fail
  refine (store4_any T w B g v bs most a _ _ x (by omega) (by omega) (by omega) h.out (by omega)).mono ?_
  rintro e1 w1 ⟨rfl, k1, b1⟩
  replace k1 := Lib.hid k1
  replace b1 := Lib.hid b1
  go_wp2_with fail
  refine (store4_any T w1 B g v _ most (a + 4) _ _ (x / 4294967296) (by omega) (by omega) (by omega) k1.out (by rw [hlen.out]; omega)).mono ?_
  rintro e2 w2 ⟨rfl, k2, b2⟩
  replace k2 := Lib.hid k2
  replace b2 := Lib.hid b2
  go_wp2_with fail
  go_end0
  exact ⟨rfl, by rw [e2.out]; exact k2.out, b1.out.trans b2.out⟩
end Go.Proofs.Ytcdfmldbpmgoiaa
