/-
  The law MemBounds, walked: it answers true; no condition.
-/
import Derived.Test.YtmejgbbdehndaabGWakes
namespace Go.Proofs.Ytmejgbbdehndaab
open Go.RowKit
theorem M.form_of {a o n : Int} (hn : n = 1 ∨ n = 2 ∨ n = 4 ∨ n = 8) (ha : 0 ≤ a ∧ a < 4294967296) (ho : 0 ≤ o ∧ o < 4294967296) : M.form a o n = true := by unfold M.form; simpa using ⟨hn, ha, ho⟩
/-- What the loops of a law keep: the memory, and what was there when it was made. -/
structure Kept (w0 : World) (B g : Nat) (v : Value) (n : Nat) (most : Int) (w' : World) (bs : List Nat) : Prop where
  mem : MAt 46 w' B g v bs most
  len : bs.length = n
  bel : Below B w0 w'
theorem Kept.step {w0 w1 w2 : World} {B g : Nat} {v : Value} {n : Nat} {most : Int} {bs cs : List Nat} (h : Kept w0 B g v n most w1 bs) (hB : B ≤ w0.heap.size) (m : MAt 46 w2 B g v cs most) (hl : cs.length = n) (hx : But (fun k => v.ownBlock = some k) w1 w2) : Kept w0 B g v n most w2 cs :=
  ⟨m, hl, h.mem.since h.bel hB hx⟩
theorem Kept.new {w0 w1 w2 : World} {B g : Nat} {v : Value} {n : Nat} {most : Int} {bs : List Nat} (h : Kept w0 B g v n most w1 bs) (hB : B ≤ w0.heap.size) (hb : Below w1.heap.size w1 w2) : Kept w0 B g v n most w2 bs :=
  ⟨h.mem.later hb, h.len, h.bel.trans (hb.mono (Nat.le_trans hB h.bel.size))⟩
set_option maxRecDepth 100000 in
set_option maxHeartbeats 4000000 in
theorem boundsWalk (mn mx limit : Int) (A : Option Addr) (l c : Nat) (w : World) : Calls Try.prog 4 #[.agg #[.int .i64 mn, .int .i64 mx, .int .i64 limit, .slice A l c]] w fun e w' => e = .returned (.bool true) ∧ Below w.heap.size w w' := by
  obtain ⟨N, hN⟩ : ∃ N : Nat, N = 65536 := ⟨_, rfl⟩
  go_enter Try.func4, Try.ntmps4
  go_wp2_with fail
  obtain ⟨W0, hW0⟩ : ∃ W0, W0 = w.alloc (.cells #[.int .i64 mn, .int .i64 mx, .int .i64 limit, .slice A l c] 26) := ⟨_, rfl⟩
  rw [← hW0]
  have hz : W0.heap.size = w.heap.size + 1 := by rw [hW0]; simp
  have q3 : W0.cell? ⟨w.heap.size, 3, none⟩ = some (.slice A l c) := by rw [hW0]; simp
  have hbW : Below w.heap.size w W0 := by rw [hW0]; exact (Below.refl _ _).alloc (Nat.le_refl _) _
  clear hW0
  replace hbW := Lib.hid hbW
  refine (New_ok 1 1 1 1 _ (by decide) (by decide) (by decide)).mono ?_
  rintro e1 w1 ⟨g, v, rfl, m1, b1⟩
  rw [show (1 : Int).toNat * 65536 = N by rw [hN]; rfl] at m1
  obtain ⟨bs, hbs⟩ : ∃ bs, bs = List.replicate N 0 := ⟨_, rfl⟩
  have hlen : bs.length = 65536 := by rw [hbs, List.length_replicate, hN]
  rw [← hbs] at m1
  have K1 : Kept W0 W0.heap.size g v 65536 1 w1 bs := ⟨m1, hlen, b1⟩
  clear hbs hN m1 b1 hlen
  replace K1 := Lib.hid K1
  go_wp2_with (go_at_call 6; refine (num_any _ _).mono ?_; rintro e wn ⟨rfl, rfl⟩)
  go_loopw [6] (fun i w' => ∃ (k : Int) (bs : List Nat), (0 ≤ k ∧ k ≤ 4) ∧ i = .int .i64 k ∧ Kept W0 W0.heap.size g v 65536 1 w' bs) (fun i _ => (4 - intOf i).toNat)
  case atStart => exact ⟨0, bs, by omega, rfl, K1.out⟩
  case round =>
    clear K1
    obtain ⟨k, cs, hk, rfl, K2⟩ := hrel
    replace K2 := Lib.hid K2
    by_cases hk4 : k < 4
    · rcases (show k = 0 ∨ k = 1 ∨ k = 2 ∨ k = 3 by omega) with rfl | rfl | rfl | rfl
      · have hmk := make_run 1 1 rfl (by omega)
        go_wp2_with fail
        go_loopw [8] (fun i w' => ∃ (j : Nat) (bs : List Nat), j ≤ 5 ∧ i = .int .i64 ((j : Int) - 2) ∧ Kept W0 W0.heap.size g v 65536 1 w' bs) (fun i _ => (3 - intOf i).toNat)
        case atStart => exact ⟨0, cs, by omega, rfl, K2.out⟩
        case round =>
          clear K2
          obtain ⟨j, ds, hj, rfl, K3⟩ := hrel
          replace K3 := Lib.hid K3
          by_cases hj5 : j < 5
          · by_cases hok : j ≤ 2
            · obtain ⟨es, he⟩ : ∃ es, es = M.put 1 ds (65535 + j - 2) 0 := ⟨_, rfl⟩
              have hst : (es, (0 : Int)) = M.st ds (65535 + ((j : Int) - 2)) 0 1 0 := by
                rw [← M.st_ok (M.form_of (by omega) (by omega) (by omega)) (by rw [K3.out.len]; omega), he]
                congr 2
                omega
              have hel : es.length = 65536 := by rw [he, M.put_length]; exact K3.out.len
              obtain ⟨x, hx⟩ : ∃ x, x = M.le es 1 (0 + (65535 + ((j : Int) - 2))).toNat := ⟨_, rfl⟩
              have hld : (x, (0 : Int)) = M.ld es 0 (65535 + ((j : Int) - 2)) 1 := by
                rw [hx]; exact M.ld_ok (a := 0) (o := 65535 + ((j : Int) - 2)) (n := 1) (M.form_of (by omega) (by omega) (by omega)) (by rw [hel]; omega)
              obtain ⟨ys, hys⟩ : ∃ ys, ys = M.lay es (65535 + j - 2) (List.replicate 1 0) := ⟨_, rfl⟩
              have hyl : ys.length = 65536 := by rw [hys, M.lay_length (by rw [List.length_replicate, hel]; omega)]; exact hel
              clear he hx
              replace hst := Lib.hid hst
              replace hld := Lib.hid hld
              replace hel := Lib.hid hel
              replace hys := Lib.hid hys
              replace hyl := Lib.hid hyl
              go_wp2_with fail
              refine (Store_any 46 _ _ g v ds es 1 _ _ _ 0 _ 0 K3.out.mem (by omega) (by omega) rfl (by omega) hst.out).mono ?_
              rintro e2 w2 ⟨rfl, m2, b2⟩
              have K4 := Lib.hid (K3.out.step (Nat.le_refl _) m2 hel.out b2)
              clear m2 b2
              go_wp2_with fail
              refine (Load_any 46 _ _ g v es 1 _ _ _ x 0 K4.out.mem (by omega) (by omega) hld.out).mono ?_
              rintro e3 w3 ⟨rfl, rfl⟩
              go_wp2_with fail
              refine (Read_ok 46 _ _ g v es _ 1 (65535 + j - 2) 1 _ _ (by omega) (by omega) K4.out.mem (by rw [hel.out]; omega) rfl).mono ?_
              rintro e4 w4 ⟨u4, rfl, _, b4⟩
              have K5 := Lib.hid ((K4.out.new (Nat.le_refl _) b4).new (Nat.le_refl _) ((Below.refl _ _).alloc (Nat.le_refl _) (.cells (zrow 1) 5)))
              have hB5 := Lib.hid (show BS (w4.alloc (.cells (zrow 1) 5)) (w4.alloc (.cells (zrow 1) 5)).heap.size (.slice (some ⟨w4.heap.size, 0, none⟩) 1 1) (List.replicate 1 0) from own_BS (by rw [List.length_replicate]; exact zrow_own w4 w4.heap.size 1 (Nat.le_refl _) (by omega)) (zero_lt 1))
              clear b4
              go_wp2_with fail
              refine (Write_ok 46 _ _ g v es (List.replicate 1 0) ys 1 (65535 + j - 2) _ _ (by omega) K5.out.mem hB5.out (by rw [hel.out, List.length_replicate]; omega) hys.out).mono ?_
              rintro e6 w6 ⟨rfl, m6, b6⟩
              have K6 := Lib.hid (K5.out.step (Nat.le_refl _) m6 hyl.out b6)
              clear m6 b6 hB5
              have hd : decide ((j : Int) - 2 ≤ 0) = true := by simp; omega
              go_wp2_with (go_at_call 6; refine (num_any _ _).mono ?_; rintro e wn ⟨rfl, rfl⟩)
              exact ⟨⟨j + 1, ys, by omega, by go_num, K6.out⟩, by simp [intOf]; omega⟩
            · have hst : (ds, (21 : Int)) = M.st ds (65535 + ((j : Int) - 2)) 0 1 0 := M.st_far (M.form_of (by omega) (by omega) (by omega)) (by rw [K3.out.len]; omega)
              have hld : (0, (21 : Int)) = M.ld ds 0 (65535 + ((j : Int) - 2)) 1 := M.ld_far (M.form_of (by omega) (by omega) (by omega)) (by rw [K3.out.len]; omega)
              replace hst := Lib.hid hst
              replace hld := Lib.hid hld
              go_wp2_with fail
              refine (Store_any 46 _ _ g v ds ds 1 _ _ _ 0 _ 21 K3.out.mem (by omega) (by omega) rfl (by omega) hst.out).mono ?_
              rintro e2 w2 ⟨rfl, m2, b2⟩
              have K4 := Lib.hid (K3.out.step (Nat.le_refl _) m2 K3.out.len b2)
              clear m2 b2
              go_wp2_with fail
              refine (Load_any 46 _ _ g v ds 1 _ _ _ 0 21 K4.out.mem (by omega) (by omega) hld.out).mono ?_
              rintro e3 w3 ⟨rfl, rfl⟩
              go_wp2_with fail
              refine (Read_no 46 _ _ g v ds 1 _ _ K4.out.mem (by omega) (by omega) (by rw [K4.out.len]; omega)).mono ?_
              rintro e4 w4 ⟨rfl, rfl⟩
              have K5 := Lib.hid (K4.out.new (Nat.le_refl _) ((Below.refl _ _).alloc (Nat.le_refl _) (.cells (zrow 1) 5)))
              have hB5 := Lib.hid (show BS (w4.alloc (.cells (zrow 1) 5)) (w4.alloc (.cells (zrow 1) 5)).heap.size (.slice (some ⟨w4.heap.size, 0, none⟩) 1 1) (List.replicate 1 0) from own_BS (by rw [List.length_replicate]; exact zrow_own w4 w4.heap.size 1 (Nat.le_refl _) (by omega)) (zero_lt 1))
              go_wp2_with fail
              refine (Write_no 46 _ _ g v ds (List.replicate 1 0) 1 _ _ K5.out.mem (by omega) hB5.out (by rw [K5.out.len, List.length_replicate]; omega)).mono ?_
              rintro e6 w6 ⟨rfl, m6, b6⟩
              have K6 := Lib.hid (K5.out.step (Nat.le_refl _) m6 K5.out.len b6)
              clear m6 b6 hB5
              have hd : decide ((j : Int) - 2 ≤ 0) = false := by simp; omega
              go_wp2_with (go_at_call 6; refine (num_any _ _).mono ?_; rintro e wn ⟨rfl, rfl⟩)
              exact ⟨⟨j + 1, ds, by omega, by go_num, K6.out⟩, by simp [intOf]; omega⟩
          · obtain rfl : j = 5 := by omega
            go_wp2_with fail
            exact ⟨⟨_, ds, by omega, rfl, K3.out⟩, by simp [intOf]⟩
      · have hmk := make_run 2 2 rfl (by omega)
        go_wp2_with fail
        go_loopw [8] (fun i w' => ∃ (j : Nat) (bs : List Nat), j ≤ 5 ∧ i = .int .i64 ((j : Int) - 2) ∧ Kept W0 W0.heap.size g v 65536 1 w' bs) (fun i _ => (3 - intOf i).toNat)
        case atStart => exact ⟨0, cs, by omega, rfl, K2.out⟩
        case round =>
          clear K2
          obtain ⟨j, ds, hj, rfl, K3⟩ := hrel
          replace K3 := Lib.hid K3
          by_cases hj5 : j < 5
          · by_cases hok : j ≤ 2
            · obtain ⟨es, he⟩ : ∃ es, es = M.put 2 ds (65534 + j - 2) 0 := ⟨_, rfl⟩
              have hst : (es, (0 : Int)) = M.st ds (65534 + ((j : Int) - 2)) 0 2 0 := by
                rw [← M.st_ok (M.form_of (by omega) (by omega) (by omega)) (by rw [K3.out.len]; omega), he]
                congr 2
                omega
              have hel : es.length = 65536 := by rw [he, M.put_length]; exact K3.out.len
              obtain ⟨x, hx⟩ : ∃ x, x = M.le es 2 (0 + (65534 + ((j : Int) - 2))).toNat := ⟨_, rfl⟩
              have hld : (x, (0 : Int)) = M.ld es 0 (65534 + ((j : Int) - 2)) 2 := by
                rw [hx]; exact M.ld_ok (a := 0) (o := 65534 + ((j : Int) - 2)) (n := 2) (M.form_of (by omega) (by omega) (by omega)) (by rw [hel]; omega)
              obtain ⟨ys, hys⟩ : ∃ ys, ys = M.lay es (65534 + j - 2) (List.replicate 2 0) := ⟨_, rfl⟩
              have hyl : ys.length = 65536 := by rw [hys, M.lay_length (by rw [List.length_replicate, hel]; omega)]; exact hel
              clear he hx
              replace hst := Lib.hid hst
              replace hld := Lib.hid hld
              replace hel := Lib.hid hel
              replace hys := Lib.hid hys
              replace hyl := Lib.hid hyl
              go_wp2_with fail
              refine (Store_any 46 _ _ g v ds es 1 _ _ _ 0 _ 0 K3.out.mem (by omega) (by omega) rfl (by omega) hst.out).mono ?_
              rintro e2 w2 ⟨rfl, m2, b2⟩
              have K4 := Lib.hid (K3.out.step (Nat.le_refl _) m2 hel.out b2)
              clear m2 b2
              go_wp2_with fail
              refine (Load_any 46 _ _ g v es 1 _ _ _ x 0 K4.out.mem (by omega) (by omega) hld.out).mono ?_
              rintro e3 w3 ⟨rfl, rfl⟩
              go_wp2_with fail
              refine (Read_ok 46 _ _ g v es _ 1 (65534 + j - 2) 2 _ _ (by omega) (by omega) K4.out.mem (by rw [hel.out]; omega) rfl).mono ?_
              rintro e4 w4 ⟨u4, rfl, _, b4⟩
              have K5 := Lib.hid ((K4.out.new (Nat.le_refl _) b4).new (Nat.le_refl _) ((Below.refl _ _).alloc (Nat.le_refl _) (.cells (zrow 2) 5)))
              have hB5 := Lib.hid (show BS (w4.alloc (.cells (zrow 2) 5)) (w4.alloc (.cells (zrow 2) 5)).heap.size (.slice (some ⟨w4.heap.size, 0, none⟩) 2 2) (List.replicate 2 0) from own_BS (by rw [List.length_replicate]; exact zrow_own w4 w4.heap.size 2 (Nat.le_refl _) (by omega)) (zero_lt 2))
              clear b4
              go_wp2_with fail
              refine (Write_ok 46 _ _ g v es (List.replicate 2 0) ys 1 (65534 + j - 2) _ _ (by omega) K5.out.mem hB5.out (by rw [hel.out, List.length_replicate]; omega) hys.out).mono ?_
              rintro e6 w6 ⟨rfl, m6, b6⟩
              have K6 := Lib.hid (K5.out.step (Nat.le_refl _) m6 hyl.out b6)
              clear m6 b6 hB5
              have hd : decide ((j : Int) - 2 ≤ 0) = true := by simp; omega
              go_wp2_with (go_at_call 6; refine (num_any _ _).mono ?_; rintro e wn ⟨rfl, rfl⟩)
              exact ⟨⟨j + 1, ys, by omega, by go_num, K6.out⟩, by simp [intOf]; omega⟩
            · have hst : (ds, (21 : Int)) = M.st ds (65534 + ((j : Int) - 2)) 0 2 0 := M.st_far (M.form_of (by omega) (by omega) (by omega)) (by rw [K3.out.len]; omega)
              have hld : (0, (21 : Int)) = M.ld ds 0 (65534 + ((j : Int) - 2)) 2 := M.ld_far (M.form_of (by omega) (by omega) (by omega)) (by rw [K3.out.len]; omega)
              replace hst := Lib.hid hst
              replace hld := Lib.hid hld
              go_wp2_with fail
              refine (Store_any 46 _ _ g v ds ds 1 _ _ _ 0 _ 21 K3.out.mem (by omega) (by omega) rfl (by omega) hst.out).mono ?_
              rintro e2 w2 ⟨rfl, m2, b2⟩
              have K4 := Lib.hid (K3.out.step (Nat.le_refl _) m2 K3.out.len b2)
              clear m2 b2
              go_wp2_with fail
              refine (Load_any 46 _ _ g v ds 1 _ _ _ 0 21 K4.out.mem (by omega) (by omega) hld.out).mono ?_
              rintro e3 w3 ⟨rfl, rfl⟩
              go_wp2_with fail
              refine (Read_no 46 _ _ g v ds 1 _ _ K4.out.mem (by omega) (by omega) (by rw [K4.out.len]; omega)).mono ?_
              rintro e4 w4 ⟨rfl, rfl⟩
              have K5 := Lib.hid (K4.out.new (Nat.le_refl _) ((Below.refl _ _).alloc (Nat.le_refl _) (.cells (zrow 2) 5)))
              have hB5 := Lib.hid (show BS (w4.alloc (.cells (zrow 2) 5)) (w4.alloc (.cells (zrow 2) 5)).heap.size (.slice (some ⟨w4.heap.size, 0, none⟩) 2 2) (List.replicate 2 0) from own_BS (by rw [List.length_replicate]; exact zrow_own w4 w4.heap.size 2 (Nat.le_refl _) (by omega)) (zero_lt 2))
              go_wp2_with fail
              refine (Write_no 46 _ _ g v ds (List.replicate 2 0) 1 _ _ K5.out.mem (by omega) hB5.out (by rw [K5.out.len, List.length_replicate]; omega)).mono ?_
              rintro e6 w6 ⟨rfl, m6, b6⟩
              have K6 := Lib.hid (K5.out.step (Nat.le_refl _) m6 K5.out.len b6)
              clear m6 b6 hB5
              have hd : decide ((j : Int) - 2 ≤ 0) = false := by simp; omega
              go_wp2_with (go_at_call 6; refine (num_any _ _).mono ?_; rintro e wn ⟨rfl, rfl⟩)
              exact ⟨⟨j + 1, ds, by omega, by go_num, K6.out⟩, by simp [intOf]; omega⟩
          · obtain rfl : j = 5 := by omega
            go_wp2_with fail
            exact ⟨⟨_, ds, by omega, rfl, K3.out⟩, by simp [intOf]⟩
      · have hmk := make_run 4 4 rfl (by omega)
        go_wp2_with fail
        go_loopw [8] (fun i w' => ∃ (j : Nat) (bs : List Nat), j ≤ 5 ∧ i = .int .i64 ((j : Int) - 2) ∧ Kept W0 W0.heap.size g v 65536 1 w' bs) (fun i _ => (3 - intOf i).toNat)
        case atStart => exact ⟨0, cs, by omega, rfl, K2.out⟩
        case round =>
          clear K2
          obtain ⟨j, ds, hj, rfl, K3⟩ := hrel
          replace K3 := Lib.hid K3
          by_cases hj5 : j < 5
          · by_cases hok : j ≤ 2
            · obtain ⟨es, he⟩ : ∃ es, es = M.put 4 ds (65532 + j - 2) 0 := ⟨_, rfl⟩
              have hst : (es, (0 : Int)) = M.st ds (65532 + ((j : Int) - 2)) 0 4 0 := by
                rw [← M.st_ok (M.form_of (by omega) (by omega) (by omega)) (by rw [K3.out.len]; omega), he]
                congr 2
                omega
              have hel : es.length = 65536 := by rw [he, M.put_length]; exact K3.out.len
              obtain ⟨x, hx⟩ : ∃ x, x = M.le es 4 (0 + (65532 + ((j : Int) - 2))).toNat := ⟨_, rfl⟩
              have hld : (x, (0 : Int)) = M.ld es 0 (65532 + ((j : Int) - 2)) 4 := by
                rw [hx]; exact M.ld_ok (a := 0) (o := 65532 + ((j : Int) - 2)) (n := 4) (M.form_of (by omega) (by omega) (by omega)) (by rw [hel]; omega)
              obtain ⟨ys, hys⟩ : ∃ ys, ys = M.lay es (65532 + j - 2) (List.replicate 4 0) := ⟨_, rfl⟩
              have hyl : ys.length = 65536 := by rw [hys, M.lay_length (by rw [List.length_replicate, hel]; omega)]; exact hel
              clear he hx
              replace hst := Lib.hid hst
              replace hld := Lib.hid hld
              replace hel := Lib.hid hel
              replace hys := Lib.hid hys
              replace hyl := Lib.hid hyl
              go_wp2_with fail
              refine (Store_any 46 _ _ g v ds es 1 _ _ _ 0 _ 0 K3.out.mem (by omega) (by omega) rfl (by omega) hst.out).mono ?_
              rintro e2 w2 ⟨rfl, m2, b2⟩
              have K4 := Lib.hid (K3.out.step (Nat.le_refl _) m2 hel.out b2)
              clear m2 b2
              go_wp2_with fail
              refine (Load_any 46 _ _ g v es 1 _ _ _ x 0 K4.out.mem (by omega) (by omega) hld.out).mono ?_
              rintro e3 w3 ⟨rfl, rfl⟩
              go_wp2_with fail
              refine (Read_ok 46 _ _ g v es _ 1 (65532 + j - 2) 4 _ _ (by omega) (by omega) K4.out.mem (by rw [hel.out]; omega) rfl).mono ?_
              rintro e4 w4 ⟨u4, rfl, _, b4⟩
              have K5 := Lib.hid ((K4.out.new (Nat.le_refl _) b4).new (Nat.le_refl _) ((Below.refl _ _).alloc (Nat.le_refl _) (.cells (zrow 4) 5)))
              have hB5 := Lib.hid (show BS (w4.alloc (.cells (zrow 4) 5)) (w4.alloc (.cells (zrow 4) 5)).heap.size (.slice (some ⟨w4.heap.size, 0, none⟩) 4 4) (List.replicate 4 0) from own_BS (by rw [List.length_replicate]; exact zrow_own w4 w4.heap.size 4 (Nat.le_refl _) (by omega)) (zero_lt 4))
              clear b4
              go_wp2_with fail
              refine (Write_ok 46 _ _ g v es (List.replicate 4 0) ys 1 (65532 + j - 2) _ _ (by omega) K5.out.mem hB5.out (by rw [hel.out, List.length_replicate]; omega) hys.out).mono ?_
              rintro e6 w6 ⟨rfl, m6, b6⟩
              have K6 := Lib.hid (K5.out.step (Nat.le_refl _) m6 hyl.out b6)
              clear m6 b6 hB5
              have hd : decide ((j : Int) - 2 ≤ 0) = true := by simp; omega
              go_wp2_with (go_at_call 6; refine (num_any _ _).mono ?_; rintro e wn ⟨rfl, rfl⟩)
              exact ⟨⟨j + 1, ys, by omega, by go_num, K6.out⟩, by simp [intOf]; omega⟩
            · have hst : (ds, (21 : Int)) = M.st ds (65532 + ((j : Int) - 2)) 0 4 0 := M.st_far (M.form_of (by omega) (by omega) (by omega)) (by rw [K3.out.len]; omega)
              have hld : (0, (21 : Int)) = M.ld ds 0 (65532 + ((j : Int) - 2)) 4 := M.ld_far (M.form_of (by omega) (by omega) (by omega)) (by rw [K3.out.len]; omega)
              replace hst := Lib.hid hst
              replace hld := Lib.hid hld
              go_wp2_with fail
              refine (Store_any 46 _ _ g v ds ds 1 _ _ _ 0 _ 21 K3.out.mem (by omega) (by omega) rfl (by omega) hst.out).mono ?_
              rintro e2 w2 ⟨rfl, m2, b2⟩
              have K4 := Lib.hid (K3.out.step (Nat.le_refl _) m2 K3.out.len b2)
              clear m2 b2
              go_wp2_with fail
              refine (Load_any 46 _ _ g v ds 1 _ _ _ 0 21 K4.out.mem (by omega) (by omega) hld.out).mono ?_
              rintro e3 w3 ⟨rfl, rfl⟩
              go_wp2_with fail
              refine (Read_no 46 _ _ g v ds 1 _ _ K4.out.mem (by omega) (by omega) (by rw [K4.out.len]; omega)).mono ?_
              rintro e4 w4 ⟨rfl, rfl⟩
              have K5 := Lib.hid (K4.out.new (Nat.le_refl _) ((Below.refl _ _).alloc (Nat.le_refl _) (.cells (zrow 4) 5)))
              have hB5 := Lib.hid (show BS (w4.alloc (.cells (zrow 4) 5)) (w4.alloc (.cells (zrow 4) 5)).heap.size (.slice (some ⟨w4.heap.size, 0, none⟩) 4 4) (List.replicate 4 0) from own_BS (by rw [List.length_replicate]; exact zrow_own w4 w4.heap.size 4 (Nat.le_refl _) (by omega)) (zero_lt 4))
              go_wp2_with fail
              refine (Write_no 46 _ _ g v ds (List.replicate 4 0) 1 _ _ K5.out.mem (by omega) hB5.out (by rw [K5.out.len, List.length_replicate]; omega)).mono ?_
              rintro e6 w6 ⟨rfl, m6, b6⟩
              have K6 := Lib.hid (K5.out.step (Nat.le_refl _) m6 K5.out.len b6)
              clear m6 b6 hB5
              have hd : decide ((j : Int) - 2 ≤ 0) = false := by simp; omega
              go_wp2_with (go_at_call 6; refine (num_any _ _).mono ?_; rintro e wn ⟨rfl, rfl⟩)
              exact ⟨⟨j + 1, ds, by omega, by go_num, K6.out⟩, by simp [intOf]; omega⟩
          · obtain rfl : j = 5 := by omega
            go_wp2_with fail
            exact ⟨⟨_, ds, by omega, rfl, K3.out⟩, by simp [intOf]⟩
      · have hmk := make_run 8 8 rfl (by omega)
        go_wp2_with fail
        go_loopw [8] (fun i w' => ∃ (j : Nat) (bs : List Nat), j ≤ 5 ∧ i = .int .i64 ((j : Int) - 2) ∧ Kept W0 W0.heap.size g v 65536 1 w' bs) (fun i _ => (3 - intOf i).toNat)
        case atStart => exact ⟨0, cs, by omega, rfl, K2.out⟩
        case round =>
          clear K2
          obtain ⟨j, ds, hj, rfl, K3⟩ := hrel
          replace K3 := Lib.hid K3
          by_cases hj5 : j < 5
          · by_cases hok : j ≤ 2
            · obtain ⟨es, he⟩ : ∃ es, es = M.put 8 ds (65528 + j - 2) 0 := ⟨_, rfl⟩
              have hst : (es, (0 : Int)) = M.st ds (65528 + ((j : Int) - 2)) 0 8 0 := by
                rw [← M.st_ok (M.form_of (by omega) (by omega) (by omega)) (by rw [K3.out.len]; omega), he]
                congr 2
                omega
              have hel : es.length = 65536 := by rw [he, M.put_length]; exact K3.out.len
              obtain ⟨x, hx⟩ : ∃ x, x = M.le es 8 (0 + (65528 + ((j : Int) - 2))).toNat := ⟨_, rfl⟩
              have hld : (x, (0 : Int)) = M.ld es 0 (65528 + ((j : Int) - 2)) 8 := by
                rw [hx]; exact M.ld_ok (a := 0) (o := 65528 + ((j : Int) - 2)) (n := 8) (M.form_of (by omega) (by omega) (by omega)) (by rw [hel]; omega)
              obtain ⟨ys, hys⟩ : ∃ ys, ys = M.lay es (65528 + j - 2) (List.replicate 8 0) := ⟨_, rfl⟩
              have hyl : ys.length = 65536 := by rw [hys, M.lay_length (by rw [List.length_replicate, hel]; omega)]; exact hel
              clear he hx
              replace hst := Lib.hid hst
              replace hld := Lib.hid hld
              replace hel := Lib.hid hel
              replace hys := Lib.hid hys
              replace hyl := Lib.hid hyl
              go_wp2_with fail
              refine (Store_any 46 _ _ g v ds es 1 _ _ _ 0 _ 0 K3.out.mem (by omega) (by omega) rfl (by omega) hst.out).mono ?_
              rintro e2 w2 ⟨rfl, m2, b2⟩
              have K4 := Lib.hid (K3.out.step (Nat.le_refl _) m2 hel.out b2)
              clear m2 b2
              go_wp2_with fail
              refine (Load_any 46 _ _ g v es 1 _ _ _ x 0 K4.out.mem (by omega) (by omega) hld.out).mono ?_
              rintro e3 w3 ⟨rfl, rfl⟩
              go_wp2_with fail
              refine (Read_ok 46 _ _ g v es _ 1 (65528 + j - 2) 8 _ _ (by omega) (by omega) K4.out.mem (by rw [hel.out]; omega) rfl).mono ?_
              rintro e4 w4 ⟨u4, rfl, _, b4⟩
              have K5 := Lib.hid ((K4.out.new (Nat.le_refl _) b4).new (Nat.le_refl _) ((Below.refl _ _).alloc (Nat.le_refl _) (.cells (zrow 8) 5)))
              have hB5 := Lib.hid (show BS (w4.alloc (.cells (zrow 8) 5)) (w4.alloc (.cells (zrow 8) 5)).heap.size (.slice (some ⟨w4.heap.size, 0, none⟩) 8 8) (List.replicate 8 0) from own_BS (by rw [List.length_replicate]; exact zrow_own w4 w4.heap.size 8 (Nat.le_refl _) (by omega)) (zero_lt 8))
              clear b4
              go_wp2_with fail
              refine (Write_ok 46 _ _ g v es (List.replicate 8 0) ys 1 (65528 + j - 2) _ _ (by omega) K5.out.mem hB5.out (by rw [hel.out, List.length_replicate]; omega) hys.out).mono ?_
              rintro e6 w6 ⟨rfl, m6, b6⟩
              have K6 := Lib.hid (K5.out.step (Nat.le_refl _) m6 hyl.out b6)
              clear m6 b6 hB5
              have hd : decide ((j : Int) - 2 ≤ 0) = true := by simp; omega
              go_wp2_with (go_at_call 6; refine (num_any _ _).mono ?_; rintro e wn ⟨rfl, rfl⟩)
              exact ⟨⟨j + 1, ys, by omega, by go_num, K6.out⟩, by simp [intOf]; omega⟩
            · have hst : (ds, (21 : Int)) = M.st ds (65528 + ((j : Int) - 2)) 0 8 0 := M.st_far (M.form_of (by omega) (by omega) (by omega)) (by rw [K3.out.len]; omega)
              have hld : (0, (21 : Int)) = M.ld ds 0 (65528 + ((j : Int) - 2)) 8 := M.ld_far (M.form_of (by omega) (by omega) (by omega)) (by rw [K3.out.len]; omega)
              replace hst := Lib.hid hst
              replace hld := Lib.hid hld
              go_wp2_with fail
              refine (Store_any 46 _ _ g v ds ds 1 _ _ _ 0 _ 21 K3.out.mem (by omega) (by omega) rfl (by omega) hst.out).mono ?_
              rintro e2 w2 ⟨rfl, m2, b2⟩
              have K4 := Lib.hid (K3.out.step (Nat.le_refl _) m2 K3.out.len b2)
              clear m2 b2
              go_wp2_with fail
              refine (Load_any 46 _ _ g v ds 1 _ _ _ 0 21 K4.out.mem (by omega) (by omega) hld.out).mono ?_
              rintro e3 w3 ⟨rfl, rfl⟩
              go_wp2_with fail
              refine (Read_no 46 _ _ g v ds 1 _ _ K4.out.mem (by omega) (by omega) (by rw [K4.out.len]; omega)).mono ?_
              rintro e4 w4 ⟨rfl, rfl⟩
              have K5 := Lib.hid (K4.out.new (Nat.le_refl _) ((Below.refl _ _).alloc (Nat.le_refl _) (.cells (zrow 8) 5)))
              have hB5 := Lib.hid (show BS (w4.alloc (.cells (zrow 8) 5)) (w4.alloc (.cells (zrow 8) 5)).heap.size (.slice (some ⟨w4.heap.size, 0, none⟩) 8 8) (List.replicate 8 0) from own_BS (by rw [List.length_replicate]; exact zrow_own w4 w4.heap.size 8 (Nat.le_refl _) (by omega)) (zero_lt 8))
              go_wp2_with fail
              refine (Write_no 46 _ _ g v ds (List.replicate 8 0) 1 _ _ K5.out.mem (by omega) hB5.out (by rw [K5.out.len, List.length_replicate]; omega)).mono ?_
              rintro e6 w6 ⟨rfl, m6, b6⟩
              have K6 := Lib.hid (K5.out.step (Nat.le_refl _) m6 K5.out.len b6)
              clear m6 b6 hB5
              have hd : decide ((j : Int) - 2 ≤ 0) = false := by simp; omega
              go_wp2_with (go_at_call 6; refine (num_any _ _).mono ?_; rintro e wn ⟨rfl, rfl⟩)
              exact ⟨⟨j + 1, ds, by omega, by go_num, K6.out⟩, by simp [intOf]; omega⟩
          · obtain rfl : j = 5 := by omega
            go_wp2_with fail
            exact ⟨⟨_, ds, by omega, rfl, K3.out⟩, by simp [intOf]⟩
    · obtain rfl : k = 4 := by omega
      go_wp2_with fail
      refine (Read_ok 46 _ _ g v cs [] 1 65536 0 _ _ (by omega) (by omega) K2.out.mem (by rw [K2.out.len]; omega) (by rw [List.take_zero])).mono ?_
      rintro e4 w4 ⟨u4, rfl, own4, b4⟩
      have K3 := Lib.hid (K2.out.new (Nat.le_refl _) b4)
      obtain ⟨A4, c4, rfl, _, _⟩ := own_form own4
      clear b4 own4
      go_wp2_with fail
      refine (Read_no 46 _ _ g v cs 1 _ _ K3.out.mem (by omega) (by omega) (by rw [K3.out.len]; omega)).mono ?_
      rintro e5 w5 ⟨rfl, rfl⟩
      go_wp2_with fail
      refine (Load_any 46 _ _ g v cs 1 _ _ _ 0 100 K3.out.mem (by omega) (by omega) (M.ld_bad (by decide))).mono ?_
      rintro e6 w6 ⟨rfl, rfl⟩
      have q3' : w6.cell? ⟨w.heap.size, 3, none⟩ = some (.slice A l c) := (K3.out.bel.cell (by show w.heap.size < _; omega)).trans q3
      go_wp2_with (go_at_call 6; refine (num_any _ _).mono ?_; rintro e wn ⟨rfl, rfl⟩)
      refine (wakes_any _).mono ?_
      rintro e7 w7 ⟨rfl, b7⟩
      have d7 := Lib.hid (hbW.out.trans ((K3.out.bel.trans (b7.mono K3.out.bel.size)).mono (by omega)))
      go_wp2_with fail
      go_ret
      exact ⟨rfl, d7.out⟩
end Go.Proofs.Ytmejgbbdehndaab
