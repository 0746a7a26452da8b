/-
  The statements' small helpers: what is a number, what wakes; no condition.
-/
import Derived.Test.YtcdfmldbpmgoiaaGWrite
import Derived.Test.YtcdfmldbpmgoiaaGGrow
namespace Go.Proofs.Ytcdfmldbpmgoiaa
open Go.RowKit
theorem M.st_ok {bs : List Nat} {a o n : Int} {x : Nat} (hf : M.form a o n = true) (hl : a + o + n ≤ bs.length) : (M.put n.toNat bs (a + o).toNat x, (0 : Int)) = M.st bs a o n x := by
  unfold M.st; rw [if_pos hf, if_pos hl]
theorem M.st_far {bs : List Nat} {a o n : Int} {x : Nat} (hf : M.form a o n = true) (hl : ¬ a + o + n ≤ bs.length) : (bs, (21 : Int)) = M.st bs a o n x := by
  unfold M.st; rw [if_pos hf, if_neg hl]
theorem M.st_bad {bs : List Nat} {a o n : Int} {x : Nat} (hf : M.form a o n = false) : (bs, (100 : Int)) = M.st bs a o n x := by
  unfold M.st; rw [if_neg (by simp [hf])]
theorem M.ld_ok {bs : List Nat} {a o n : Int} (hf : M.form a o n = true) (hl : a + o + n ≤ bs.length) : (M.le bs n.toNat (a + o).toNat, (0 : Int)) = M.ld bs a o n := by
  unfold M.ld; rw [if_pos hf, if_pos hl]
theorem M.ld_far {bs : List Nat} {a o n : Int} (hf : M.form a o n = true) (hl : ¬ a + o + n ≤ bs.length) : (0, (21 : Int)) = M.ld bs a o n := by
  unfold M.ld; rw [if_pos hf, if_neg hl]
theorem M.ld_bad {bs : List Nat} {a o n : Int} (hf : M.form a o n = false) : (0, (100 : Int)) = M.ld bs a o n := by
  unfold M.ld; rw [if_neg (by simp [hf])]
theorem num_any (e : Int) (w : World) : Calls Try.prog 8 #[.int .i64 e] w fun r w' => r = .returned (.int .i64 e) ∧ w' = w := by
  go_enter Try.func8, Try.ntmps8
  go_wp2
  go_ret
  exact ⟨rfl, rfl⟩
/-- The blocks of a memory that was made since. -/
theorem MAt.since {T : Nat} {w w1 w2 : World} {B g : Nat} {v : Value} {bs : List Nat} {most : Int} (h : MAt T w1 B g v bs most) (hb : Below B w w1) (hB : B ≤ w.heap.size) (hx : But (fun k => v.ownBlock = some k) w1 w2) : Below B w w2 :=
  hb.trans (hx.below (fun k hk => (h.row.lt k hk).1) (Nat.le_trans hB hb.size))
set_option maxRecDepth 100000 in
theorem wakes_any (w : World) : Calls Try.prog 9 #[] w fun e w' => e = .returned (.bool true) ∧ Below w.heap.size w w' := by
  have key : ∀ n : Nat, n = 65536 → ∀ cs : List Nat, cs = M.put 4 (List.replicate n 0) 8 7 → Calls Try.prog 9 #[] w fun e w' => e = .returned (.bool true) ∧ Below w.heap.size w w' := by
    intro n hn cs hcs
    have hst : (cs, (0 : Int)) = M.st (List.replicate n 0) 5 3 4 7 := by rw [hcs]; exact M.st_ok (a := 5) (o := 3) (n := 4) (by decide) (by rw [List.length_replicate, hn]; decide)
    have hld : (7, (0 : Int)) = M.ld cs 8 0 4 := by
      have h1 := M.ld_ok (bs := cs) (a := 8) (o := 0) (n := 4) (by decide) (by rw [hcs, M.put_length, List.length_replicate, hn]; decide)
      rw [← h1, hcs]
      show _ = (M.le (M.put 4 (List.replicate n 0) 8 7) 4 8, (0 : Int))
      rw [M.le_put 4 _ 8 7 (by rw [List.length_replicate, hn]; decide)]
    replace hst := Lib.hid hst
    replace hld := Lib.hid hld
    clear hcs
    go_enter Try.func9, Try.ntmps9
    go_wp2_with fail
    refine (New_ok 1 (-1) 2 2 _ (by decide) (by decide) (by decide)).mono ?_
    rintro e1 w1 ⟨g, v, rfl, m1, b1⟩
    rw [show (1 : Int).toNat * 65536 = n by rw [hn]; rfl] at m1
    replace m1 := Lib.hid m1
    replace b1 := Lib.hid b1
    go_wp2_with (go_at_call 8; refine (num_any _ _).mono ?_; rintro e wn ⟨rfl, rfl⟩)
    refine (Store_any 62 _ _ g v _ cs 2 _ _ _ 7 _ 0 m1.out (by decide) (by decide) rfl (by decide) hst.out).mono ?_
    rintro e2 w2 ⟨rfl, m2, b2⟩
    have d2 := Lib.hid (m1.out.since b1.out (Nat.le_refl _) b2)
    replace m2 := Lib.hid m2
    clear b2
    go_wp2_with (go_at_call 8; refine (num_any _ _).mono ?_; rintro e wn ⟨rfl, rfl⟩)
    refine (Load_any 62 _ _ g v cs 2 _ _ _ 7 0 m2.out (by decide) (by decide) hld.out).mono ?_
    rintro e2 w3 ⟨rfl, rfl⟩
    go_wp2_with (go_at_call 8; refine (num_any _ _).mono ?_; rintro e wn ⟨rfl, rfl⟩)
    go_ret
    exact ⟨rfl, d2.out⟩
  exact key 65536 rfl _ rfl
end Go.Proofs.Ytcdfmldbpmgoiaa
