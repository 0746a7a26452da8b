/-
  The ground of the proofs of this seat, put together: XChain, XForm, XImp. No condition beyond what each text names.
-/
import Derived.Test.YtilaheifccjjeaaGreatXGH
import Derived.Test.YtilaheifccjjeaaGreatXGA
import Derived.Test.YtilaheifccjjeaaGreatXGB
import Derived.Test.YtilaheifccjjeaaGreatXGC
import Derived.Test.YtilaheifccjjeaaGreatXGD
import Derived.Test.YtilaheifccjjeaaGreatXGE
import Derived.Test.YtilaheifccjjeaaGreatXGF
import Derived.Test.YtilaheifccjjeaaGreatXGG
namespace Go.Proofs.YtilaheifccjjeaaGreat
open Go.RowKit
set_option maxRecDepth 100000 in
set_option maxHeartbeats 4000000 in
theorem thead_any (B : Nat) (w : World) (P : Nat) (out : List Nat) (ty : Int) (v1 v2 : Value) (h : MTx B w P out) (h1 : -9223372036854775808 ≤ ty ∧ ty ≤ 9223372036854775807) :
    Calls Tryz.prog 109 #[.pointer (some ⟨P, 0, none⟩), .agg #[.int .i64 ty, v1, v2]] w (WrPost B P out (M.inR ty) (M.U ty) w) := by
  obtain ⟨W0, hW0⟩ : ∃ W0, W0 = w.alloc (.cells #[.int .i64 ty, v1, v2] 64) := ⟨_, rfl⟩
  have b0 : Below w.heap.size w W0 := by rw [hW0]; exact (Below.refl _ _).alloc (Nat.le_refl _) _
  have q0 : W0.cell? ⟨w.heap.size, 0, none⟩ = some (.int .i64 ty) := by rw [hW0]; simp
  have q1 : W0.cell? ⟨w.heap.size, 1, none⟩ = some (v1) := by rw [hW0]; simp
  have q2 : W0.cell? ⟨w.heap.size, 2, none⟩ = some (v2) := by rw [hW0]; simp
  have hz : w.heap.size < W0.heap.size := by rw [hW0]; simp
  have lat : ∀ w', Wro P W0 w' → Below B w w' := fun w' b => (b0.mono h.nn).trans (b.below (h.later b0))

  have ht := Lib.hid (h.later b0)
  have hP := h.lt
  have d0 := Lib.hid (Wro.ofBelow h.lt b0)
  have keep := box_keep h b0 (Nat.le_refl _) hz
  replace keep := Lib.hid keep
  replace hW0 := Lib.hid hW0
  clear b0 h lat
  go_enter Tryz.func109, Tryz.ntmps109
  go_upto_region 1 with fail
  rw [← hW0.out]
  go_wp2_with fail
  refine (tnumb_any B W0 P _ ty ht.out h1).mono ?_
  intro e1 w1 k1
  have this := Lib.hid (k1.pre d0.out)
  rcases k1 with ⟨_, _, rfl, _⟩ | ⟨_, rfl, _⟩
  all_goals
    go_wp2_with fail
    go_ret
    exact this.out
set_option maxRecDepth 100000 in
set_option maxHeartbeats 4000000 in
theorem texport_any (B : Nat) (w : World) (P : Nat) (out : List Nat) (s : ByteArray) (kd ix : Int) (h : MTx B w P out) (hs : s.size ≤ 1000000000) (h1 : -9223372036854775808 ≤ ix ∧ ix ≤ 9223372036854775807) :
    Calls Tryz.prog 116 #[.pointer (some ⟨P, 0, none⟩), .agg #[.string s, .int .i64 kd, .int .i64 ix]] w (WrPost B P out (M.cName.ok (sby s) ∧ KindOk kd ∧ M.inR ix) (M.cName.wr (sby s) ++ ([kd.toNat] ++ M.U ix)) w) := by
  obtain ⟨W0, hW0⟩ : ∃ W0, W0 = w.alloc (.cells #[.string s, .int .i64 kd, .int .i64 ix] 74) := ⟨_, rfl⟩
  have b0 : Below w.heap.size w W0 := by rw [hW0]; exact (Below.refl _ _).alloc (Nat.le_refl _) _
  have q0 : W0.cell? ⟨w.heap.size, 0, none⟩ = some (.string s) := by rw [hW0]; simp
  have q1 : W0.cell? ⟨w.heap.size, 1, none⟩ = some (.int .i64 kd) := by rw [hW0]; simp
  have q2 : W0.cell? ⟨w.heap.size, 2, none⟩ = some (.int .i64 ix) := by rw [hW0]; simp
  have hz : w.heap.size < W0.heap.size := by rw [hW0]; simp
  have lat : ∀ w', Wro P W0 w' → Below B w w' := fun w' b => (b0.mono h.nn).trans (b.below (h.later b0))

  have ht := Lib.hid (h.later b0)
  have hP := h.lt
  have d0 := Lib.hid (Wro.ofBelow h.lt b0)
  have keep := box_keep h b0 (Nat.le_refl _) hz
  replace keep := Lib.hid keep
  replace hW0 := Lib.hid hW0
  clear b0 h lat
  go_enter Tryz.func116, Tryz.ntmps116
  go_upto_region 1 with fail
  rw [← hW0.out]
  go_wp2_with fail
  refine (tname_any B W0 P _ s ht.out hs).mono ?_
  rintro e1 w1 (⟨ho1, hf1, rfl, t1, b1⟩ | ⟨hn1, rfl, b1⟩)
  · have c1_1 := (keep.out w1 b1 1).trans q1
    replace t1 := Lib.hid t1
    replace b1 := Lib.hid b1
    go_wp2_with fail
    refine (tkind_any B w1 P _ kd t1.out).mono ?_
    rintro e2 w2 (⟨ho2, hf2, rfl, t2, b2⟩ | ⟨hn2, rfl, b2⟩)
    · have c2_2 := (keep.out w2 (b1.out.trans b2) 2).trans q2
      replace t2 := Lib.hid t2
      replace b2 := Lib.hid b2
      go_wp2_with fail
      refine (tnumb_any B w2 P _ ix t2.out h1).mono ?_
      intro e3 w3 k3
      have this := Lib.hid ((WrPost.then ⟨ho1, hf1⟩ b1.out (WrPost.then ⟨ho2, hf2⟩ b2.out k3)).pre d0.out)
      rcases k3 with ⟨_, _, rfl, _⟩ | ⟨_, rfl, _⟩
      all_goals
        go_wp2_with fail
        go_ret
        exact this.out
    · have this := Lib.hid ((WrPost.then ⟨ho1, hf1⟩ b1.out (WrPost.stop (B := B) (C := M.inR ix) (yb := M.U ix) hn2 b2)).pre d0.out)
      go_wp2_with fail
      go_ret
      exact this.out
  · have this := Lib.hid ((WrPost.stop (B := B) (C := KindOk kd ∧ M.inR ix) (yb := [kd.toNat] ++ (M.U ix)) hn1 b1).pre d0.out)
    go_wp2_with fail
    go_ret
    exact this.out
set_option maxRecDepth 100000 in
set_option maxHeartbeats 4000000 in
theorem tglobal_any (B : Nat) (w : World) (P : Nat) (out : List Nat) (ty : Int) (mu : Bool) (x : M.L) (hd : M.Hd) (A1 A2 A3 : Option Addr) (m1 c1 m2 c2 m3 c3 : Nat) (h : MTx B w P out) (hx : rIns.is w (· < B) x (item9 hd (.slice A1 m1 c1) (.slice A2 m2 c2) (.slice A3 m3 c3))) (hs : x.sz ≤ 24000) :
    Calls Tryz.prog 114 #[.pointer (some ⟨P, 0, none⟩), .agg #[.int .i64 ty, .bool mu, .int .i64 hd.op, .int .i64 hd.ty, .int .i64 hd.ix, .int .i64 hd.al, .int .i64 hd.ofs, .int .i64 hd.val, .slice A1 m1 c1, .slice A2 m2 c2, .slice A3 m3 c3]] w (WrPost B P out (M.cVal.ok ty ∧ True ∧ M.cConst.ok x) (M.cVal.wr ty ++ (M.cFlag.wr mu ++ M.cConst.wr x)) w) := by
  obtain ⟨W0, hW0⟩ : ∃ W0, W0 = w.alloc (.cells #[.int .i64 ty, .bool mu, .int .i64 hd.op, .int .i64 hd.ty, .int .i64 hd.ix, .int .i64 hd.al, .int .i64 hd.ofs, .int .i64 hd.val, .slice A1 m1 c1, .slice A2 m2 c2, .slice A3 m3 c3] 70) := ⟨_, rfl⟩
  have b0 : Below w.heap.size w W0 := by rw [hW0]; exact (Below.refl _ _).alloc (Nat.le_refl _) _
  have q0 : W0.cell? ⟨w.heap.size, 0, none⟩ = some (.int .i64 ty) := by rw [hW0]; simp
  have q1 : W0.cell? ⟨w.heap.size, 1, none⟩ = some (.bool mu) := by rw [hW0]; simp
  have q2 : W0.cell? ⟨w.heap.size, 2, none⟩ = some (.int .i64 hd.op) := by rw [hW0]; simp
  have q3 : W0.cell? ⟨w.heap.size, 3, none⟩ = some (.int .i64 hd.ty) := by rw [hW0]; simp
  have q4 : W0.cell? ⟨w.heap.size, 4, none⟩ = some (.int .i64 hd.ix) := by rw [hW0]; simp
  have q5 : W0.cell? ⟨w.heap.size, 5, none⟩ = some (.int .i64 hd.al) := by rw [hW0]; simp
  have q6 : W0.cell? ⟨w.heap.size, 6, none⟩ = some (.int .i64 hd.ofs) := by rw [hW0]; simp
  have q7 : W0.cell? ⟨w.heap.size, 7, none⟩ = some (.int .i64 hd.val) := by rw [hW0]; simp
  have q8 : W0.cell? ⟨w.heap.size, 8, none⟩ = some (.slice A1 m1 c1) := by rw [hW0]; simp
  have q9 : W0.cell? ⟨w.heap.size, 9, none⟩ = some (.slice A2 m2 c2) := by rw [hW0]; simp
  have q10 : W0.cell? ⟨w.heap.size, 10, none⟩ = some (.slice A3 m3 c3) := by rw [hW0]; simp
  have hz : w.heap.size < W0.heap.size := by rw [hW0]; simp
  have lat : ∀ w', Wro P W0 w' → Below B w w' := fun w' b => (b0.mono h.nn).trans (b.below (h.later b0))
  have hX := Lib.hid (fun w' (b : Wro P W0 w') => rIns.agree hx (below_agree (lat w' b)) (fun _ hk => hk))
  have ht := Lib.hid (h.later b0)
  have hP := h.lt
  have d0 := Lib.hid (Wro.ofBelow h.lt b0)
  have keep := box_keep h b0 (Nat.le_refl _) hz
  replace keep := Lib.hid keep
  replace hW0 := Lib.hid hW0
  clear b0 h lat hx
  go_enter Tryz.func114, Tryz.ntmps114
  go_upto_region 1 with fail
  rw [← hW0.out]
  go_wp2_with fail
  refine (tval2_any B W0 P _ ty ht.out).mono ?_
  rintro e1 w1 (⟨ho1, hf1, rfl, t1, b1⟩ | ⟨hn1, rfl, b1⟩)
  · have c1_1 := (keep.out w1 b1 1).trans q1
    replace t1 := Lib.hid t1
    replace b1 := Lib.hid b1
    go_wp2_with fail
    refine (tflag_any B w1 P _ mu t1.out).mono ?_
    rintro e2 w2 (⟨ho2, hf2, rfl, t2, b2⟩ | ⟨hn2, rfl, b2⟩)
    · have c2_2 := (keep.out w2 (b1.out.trans b2) 2).trans q2
      have c2_3 := (keep.out w2 (b1.out.trans b2) 3).trans q3
      have c2_4 := (keep.out w2 (b1.out.trans b2) 4).trans q4
      have c2_5 := (keep.out w2 (b1.out.trans b2) 5).trans q5
      have c2_6 := (keep.out w2 (b1.out.trans b2) 6).trans q6
      have c2_7 := (keep.out w2 (b1.out.trans b2) 7).trans q7
      have c2_8 := (keep.out w2 (b1.out.trans b2) 8).trans q8
      have c2_9 := (keep.out w2 (b1.out.trans b2) 9).trans q9
      have c2_10 := (keep.out w2 (b1.out.trans b2) 10).trans q10
      replace t2 := Lib.hid t2
      replace b2 := Lib.hid b2
      go_wp2_with fail
      refine (tconst_any B w2 P _ x _ t2.out (hX.out _ (b1.out.trans b2.out)) hs).mono ?_
      intro e3 w3 k3
      have this := Lib.hid ((WrPost.then ⟨ho1, hf1⟩ b1.out (WrPost.then ⟨ho2, hf2⟩ b2.out k3)).pre d0.out)
      rcases k3 with ⟨_, _, rfl, _⟩ | ⟨_, rfl, _⟩
      all_goals
        go_wp2_with fail
        go_ret
        exact this.out
    · have this := Lib.hid ((WrPost.then ⟨ho1, hf1⟩ b1.out (WrPost.stop (B := B) (C := M.cConst.ok x) (yb := M.cConst.wr x) hn2 b2)).pre d0.out)
      go_wp2_with fail
      go_ret
      exact this.out
  · have this := Lib.hid ((WrPost.stop (B := B) (C := True ∧ M.cConst.ok x) (yb := M.cFlag.wr mu ++ (M.cConst.wr x)) hn1 b1).pre d0.out)
    go_wp2_with fail
    go_ret
    exact this.out
set_option maxRecDepth 100000 in
set_option maxHeartbeats 4000000 in
theorem telem_any (B : Nat) (w : World) (P : Nat) (out : List Nat) (ta : Int) (fs : List Int) (A4 : Option Addr) (m4 c4 : Nat) (x : M.L) (hd : M.Hd) (A1 A2 A3 : Option Addr) (m1 c1 m2 c2 m3 c3 : Nat) (h : MTx B w P out) (h1 : -9223372036854775808 ≤ ta ∧ ta ≤ 9223372036854775807) (hx : rIns.is w (· < B) x (item9 hd (.slice A1 m1 c1) (.slice A2 m2 c2) (.slice A3 m3 c3))) (hs : x.sz ≤ 24000) (hf : Lst rInt w (· < B) (.slice A4 m4 c4) fs) :
    Calls Tryz.prog 118 #[.pointer (some ⟨P, 0, none⟩), .agg #[.int .i64 ta, .int .i64 hd.op, .int .i64 hd.ty, .int .i64 hd.ix, .int .i64 hd.al, .int .i64 hd.ofs, .int .i64 hd.val, .slice A1 m1 c1, .slice A2 m2 c2, .slice A3 m3 c3, .slice A4 m4 c4]] w (WrPost B P out (M.inR ta ∧ M.cConst.ok x ∧ (M.vec M.cNum).ok fs) (M.U ta ++ (M.cConst.wr x ++ (M.vec M.cNum).wr fs)) w) := by
  obtain ⟨W0, hW0⟩ : ∃ W0, W0 = w.alloc (.cells #[.int .i64 ta, .int .i64 hd.op, .int .i64 hd.ty, .int .i64 hd.ix, .int .i64 hd.al, .int .i64 hd.ofs, .int .i64 hd.val, .slice A1 m1 c1, .slice A2 m2 c2, .slice A3 m3 c3, .slice A4 m4 c4] 76) := ⟨_, rfl⟩
  have b0 : Below w.heap.size w W0 := by rw [hW0]; exact (Below.refl _ _).alloc (Nat.le_refl _) _
  have q0 : W0.cell? ⟨w.heap.size, 0, none⟩ = some (.int .i64 ta) := by rw [hW0]; simp
  have q1 : W0.cell? ⟨w.heap.size, 1, none⟩ = some (.int .i64 hd.op) := by rw [hW0]; simp
  have q2 : W0.cell? ⟨w.heap.size, 2, none⟩ = some (.int .i64 hd.ty) := by rw [hW0]; simp
  have q3 : W0.cell? ⟨w.heap.size, 3, none⟩ = some (.int .i64 hd.ix) := by rw [hW0]; simp
  have q4 : W0.cell? ⟨w.heap.size, 4, none⟩ = some (.int .i64 hd.al) := by rw [hW0]; simp
  have q5 : W0.cell? ⟨w.heap.size, 5, none⟩ = some (.int .i64 hd.ofs) := by rw [hW0]; simp
  have q6 : W0.cell? ⟨w.heap.size, 6, none⟩ = some (.int .i64 hd.val) := by rw [hW0]; simp
  have q7 : W0.cell? ⟨w.heap.size, 7, none⟩ = some (.slice A1 m1 c1) := by rw [hW0]; simp
  have q8 : W0.cell? ⟨w.heap.size, 8, none⟩ = some (.slice A2 m2 c2) := by rw [hW0]; simp
  have q9 : W0.cell? ⟨w.heap.size, 9, none⟩ = some (.slice A3 m3 c3) := by rw [hW0]; simp
  have q10 : W0.cell? ⟨w.heap.size, 10, none⟩ = some (.slice A4 m4 c4) := by rw [hW0]; simp
  have hz : w.heap.size < W0.heap.size := by rw [hW0]; simp
  have lat : ∀ w', Wro P W0 w' → Below B w w' := fun w' b => (b0.mono h.nn).trans (b.below (h.later b0))
  have hX := Lib.hid (fun w' (b : Wro P W0 w') => rIns.agree hx (below_agree (lat w' b)) (fun _ hk => hk))
  have hF := Lib.hid (fun w' (b : Wro P W0 w') => hf.agree (below_agree (lat w' b)) (fun _ hk => hk))
  have ht := Lib.hid (h.later b0)
  have hP := h.lt
  have d0 := Lib.hid (Wro.ofBelow h.lt b0)
  have keep := box_keep h b0 (Nat.le_refl _) hz
  replace keep := Lib.hid keep
  replace hW0 := Lib.hid hW0
  clear b0 h lat hx hf
  go_enter Tryz.func118, Tryz.ntmps118
  go_upto_region 1 with fail
  rw [← hW0.out]
  go_wp2_with fail
  refine (tnumb_any B W0 P _ ta ht.out h1).mono ?_
  rintro e1 w1 (⟨ho1, hf1, rfl, t1, b1⟩ | ⟨hn1, rfl, b1⟩)
  · have c1_1 := (keep.out w1 b1 1).trans q1
    have c1_2 := (keep.out w1 b1 2).trans q2
    have c1_3 := (keep.out w1 b1 3).trans q3
    have c1_4 := (keep.out w1 b1 4).trans q4
    have c1_5 := (keep.out w1 b1 5).trans q5
    have c1_6 := (keep.out w1 b1 6).trans q6
    have c1_7 := (keep.out w1 b1 7).trans q7
    have c1_8 := (keep.out w1 b1 8).trans q8
    have c1_9 := (keep.out w1 b1 9).trans q9
    replace t1 := Lib.hid t1
    replace b1 := Lib.hid b1
    go_wp2_with fail
    refine (tconst_any B w1 P _ x _ t1.out (hX.out _ b1.out) hs).mono ?_
    rintro e2 w2 (⟨ho2, hf2, rfl, t2, b2⟩ | ⟨hn2, rfl, b2⟩)
    · have c2_10 := (keep.out w2 (b1.out.trans b2) 10).trans q10
      replace t2 := Lib.hid t2
      replace b2 := Lib.hid b2
      go_wp2_with fail
      refine (list_w_num B w2 P _ _ fs t2.out (hF.out _ (b1.out.trans b2.out)) (fun _ _ => trivial)).mono ?_
      intro e3 w3 k3
      have this := Lib.hid ((WrPost.then ⟨ho1, hf1⟩ b1.out (WrPost.then ⟨ho2, hf2⟩ b2.out k3)).pre d0.out)
      rcases k3 with ⟨_, _, rfl, _⟩ | ⟨_, rfl, _⟩
      all_goals
        go_wp2_with fail
        go_ret
        exact this.out
    · have this := Lib.hid ((WrPost.then ⟨ho1, hf1⟩ b1.out (WrPost.stop (B := B) (C := (M.vec M.cNum).ok fs) (yb := (M.vec M.cNum).wr fs) hn2 b2)).pre d0.out)
      go_wp2_with fail
      go_ret
      exact this.out
  · have this := Lib.hid ((WrPost.stop (B := B) (C := M.cConst.ok x ∧ (M.vec M.cNum).ok fs) (yb := M.cConst.wr x ++ ((M.vec M.cNum).wr fs)) hn1 b1).pre d0.out)
    go_wp2_with fail
    go_ret
    exact this.out
set_option maxRecDepth 100000 in
set_option maxHeartbeats 4000000 in
theorem tdata_any (B : Nat) (w : World) (P : Nat) (out : List Nat) (me : Int) (bs : List Nat) (A4 : Option Addr) (m4 c4 : Nat) (x : M.L) (hd : M.Hd) (A1 A2 A3 : Option Addr) (m1 c1 m2 c2 m3 c3 : Nat) (h : MTx B w P out) (h1 : -9223372036854775808 ≤ me ∧ me ≤ 9223372036854775807) (hx : rIns.is w (· < B) x (item9 hd (.slice A1 m1 c1) (.slice A2 m2 c2) (.slice A3 m3 c3))) (hs : x.sz ≤ 24000) (hf : BS w B (.slice A4 m4 c4) bs) (hl : bs.length ≤ 1000000000) :
    Calls Tryz.prog 121 #[.pointer (some ⟨P, 0, none⟩), .agg #[.int .i64 me, .int .i64 hd.op, .int .i64 hd.ty, .int .i64 hd.ix, .int .i64 hd.al, .int .i64 hd.ofs, .int .i64 hd.val, .slice A1 m1 c1, .slice A2 m2 c2, .slice A3 m3 c3, .slice A4 m4 c4]] w (WrPost B P out (M.inR me ∧ M.cConst.ok x ∧ M.inR bs.length) (M.U me ++ (M.cConst.wr x ++ (M.U bs.length ++ bs))) w) := by
  obtain ⟨W0, hW0⟩ : ∃ W0, W0 = w.alloc (.cells #[.int .i64 me, .int .i64 hd.op, .int .i64 hd.ty, .int .i64 hd.ix, .int .i64 hd.al, .int .i64 hd.ofs, .int .i64 hd.val, .slice A1 m1 c1, .slice A2 m2 c2, .slice A3 m3 c3, .slice A4 m4 c4] 78) := ⟨_, rfl⟩
  have b0 : Below w.heap.size w W0 := by rw [hW0]; exact (Below.refl _ _).alloc (Nat.le_refl _) _
  have q0 : W0.cell? ⟨w.heap.size, 0, none⟩ = some (.int .i64 me) := by rw [hW0]; simp
  have q1 : W0.cell? ⟨w.heap.size, 1, none⟩ = some (.int .i64 hd.op) := by rw [hW0]; simp
  have q2 : W0.cell? ⟨w.heap.size, 2, none⟩ = some (.int .i64 hd.ty) := by rw [hW0]; simp
  have q3 : W0.cell? ⟨w.heap.size, 3, none⟩ = some (.int .i64 hd.ix) := by rw [hW0]; simp
  have q4 : W0.cell? ⟨w.heap.size, 4, none⟩ = some (.int .i64 hd.al) := by rw [hW0]; simp
  have q5 : W0.cell? ⟨w.heap.size, 5, none⟩ = some (.int .i64 hd.ofs) := by rw [hW0]; simp
  have q6 : W0.cell? ⟨w.heap.size, 6, none⟩ = some (.int .i64 hd.val) := by rw [hW0]; simp
  have q7 : W0.cell? ⟨w.heap.size, 7, none⟩ = some (.slice A1 m1 c1) := by rw [hW0]; simp
  have q8 : W0.cell? ⟨w.heap.size, 8, none⟩ = some (.slice A2 m2 c2) := by rw [hW0]; simp
  have q9 : W0.cell? ⟨w.heap.size, 9, none⟩ = some (.slice A3 m3 c3) := by rw [hW0]; simp
  have q10 : W0.cell? ⟨w.heap.size, 10, none⟩ = some (.slice A4 m4 c4) := by rw [hW0]; simp
  have hz : w.heap.size < W0.heap.size := by rw [hW0]; simp
  have lat : ∀ w', Wro P W0 w' → Below B w w' := fun w' b => (b0.mono h.nn).trans (b.below (h.later b0))
  have hX := Lib.hid (fun w' (b : Wro P W0 w') => rIns.agree hx (below_agree (lat w' b)) (fun _ hk => hk))
  have hF := Lib.hid (fun w' (b : Wro P W0 w') => hf.below (lat w' b) (Nat.le_refl _))
  have ht := Lib.hid (h.later b0)
  have hP := h.lt
  have d0 := Lib.hid (Wro.ofBelow h.lt b0)
  have keep := box_keep h b0 (Nat.le_refl _) hz
  replace keep := Lib.hid keep
  replace hW0 := Lib.hid hW0
  clear b0 h lat hx hf
  go_enter Tryz.func121, Tryz.ntmps121
  go_upto_region 1 with fail
  rw [← hW0.out]
  go_wp2_with fail
  refine (tnumb_any B W0 P _ me ht.out h1).mono ?_
  rintro e1 w1 (⟨ho1, hf1, rfl, t1, b1⟩ | ⟨hn1, rfl, b1⟩)
  · have c1_1 := (keep.out w1 b1 1).trans q1
    have c1_2 := (keep.out w1 b1 2).trans q2
    have c1_3 := (keep.out w1 b1 3).trans q3
    have c1_4 := (keep.out w1 b1 4).trans q4
    have c1_5 := (keep.out w1 b1 5).trans q5
    have c1_6 := (keep.out w1 b1 6).trans q6
    have c1_7 := (keep.out w1 b1 7).trans q7
    have c1_8 := (keep.out w1 b1 8).trans q8
    have c1_9 := (keep.out w1 b1 9).trans q9
    replace t1 := Lib.hid t1
    replace b1 := Lib.hid b1
    go_wp2_with fail
    refine (tconst_any B w1 P _ x _ t1.out (hX.out _ b1.out) hs).mono ?_
    rintro e2 w2 (⟨ho2, hf2, rfl, t2, b2⟩ | ⟨hn2, rfl, b2⟩)
    · have c2_10 := (keep.out w2 (b1.out.trans b2) 10).trans q10
      replace t2 := Lib.hid t2
      replace b2 := Lib.hid b2
      go_wp2_with fail
      refine (tbytes_any B w2 P _ bs _ t2.out (Stays.of_BS t2.out (hF.out _ (b1.out.trans b2.out))) hl).mono ?_
      intro e3 w3 k3
      have this := Lib.hid ((WrPost.then ⟨ho1, hf1⟩ b1.out (WrPost.then ⟨ho2, hf2⟩ b2.out k3)).pre d0.out)
      rcases k3 with ⟨_, _, rfl, _⟩ | ⟨_, rfl, _⟩
      all_goals
        go_wp2_with fail
        go_ret
        exact this.out
    · have this := Lib.hid ((WrPost.then ⟨ho1, hf1⟩ b1.out (WrPost.stop (B := B) (C := M.inR bs.length) (yb := (M.U bs.length ++ bs)) hn2 b2)).pre d0.out)
      go_wp2_with fail
      go_ret
      exact this.out
  · have this := Lib.hid ((WrPost.stop (B := B) (C := M.cConst.ok x ∧ M.inR bs.length) (yb := M.cConst.wr x ++ ((M.U bs.length ++ bs))) hn1 b1).pre d0.out)
    go_wp2_with fail
    go_ret
    exact this.out
end Go.Proofs.YtilaheifccjjeaaGreat
namespace Go.Proofs.YtilaheifccjjeaaGreat
open Go.RowKit
theorem push_list (x : List Nat) : ∀ s : ByteArray, (x.foldl (fun r n => r.push (UInt8.ofNat n)) s).data.toList = s.data.toList ++ x.map UInt8.ofNat := by
  induction x with
  | nil => intro s; simp
  | cons a t ih => intro s; rw [List.foldl_cons, ih]; simp [ByteArray.push]
theorem str_form (x : List Nat) (h : ∀ b ∈ x, b < 256) : ∃ s : ByteArray, str x = .string s ∧ sby s = x := by
  refine ⟨_, rfl, ?_⟩
  unfold sby
  rw [push_list]
  simp only [List.map_append, List.map_map]
  have e : (ByteArray.empty.data.toList : List UInt8) = [] := rfl
  rw [e, List.map_nil, List.nil_append]
  refine (List.map_congr_left fun b hb => ?_).trans (List.map_id _)
  show (UInt8.ofNat b).toNat = id b
  rw [UInt8.toNat_ofNat']
  exact Nat.mod_eq_of_lt (h b hb)
section
variable {w : World} {S : Nat → Prop} {cs : List Value}
theorem form_lim {x : M.Lim} (h : rLim.is w S x cs) : cs = [.int .i64 x.mn, .int .i64 x.mx] ∧ i64R x.mn ∧ i64R x.mx := by
  obtain ⟨c, d, rfl, ⟨rfl, h1⟩, rfl, h2⟩ := h
  exact ⟨rfl, h1, h2⟩
theorem form_ft {x : M.FT} (h : rFT.is w S x cs) : ∃ A1 c1 A2 c2, cs = [.slice A1 x.ps.length c1, .slice A2 x.rs.length c2] ∧ NS w S (.slice A1 x.ps.length c1) x.ps ∧ NS w S (.slice A2 x.rs.length c2) x.rs := by
  obtain ⟨c, d, rfl, ⟨v1, rfl, h1⟩, v2, rfl, h2⟩ := h
  obtain ⟨A1, c1, rfl, _⟩ := h1.form
  obtain ⟨A2, c2, rfl, _⟩ := h2.form
  exact ⟨A1, c1, A2, c2, rfl, h1, h2⟩
theorem form_exp {x : M.Exp} (h : rExp.is w S x cs) : ∃ s, cs = [.string s, .int .i64 x.kd, .int .i64 x.ix] ∧ sby s = x.na ∧ x.na.length ≤ 1000000000 ∧ i64R x.kd ∧ i64R x.ix := by
  obtain ⟨c, d, rfl, ⟨c1, c2, rfl, ⟨rfl, h1, h2⟩, rfl, h3⟩, rfl, h4⟩ := h
  obtain ⟨s, e1, e2⟩ := str_form x.na h1
  exact ⟨s, by show [str x.na] ++ _ ++ _ = _; rw [e1]; rfl, e2, h2, h3, h4⟩
theorem form_ins {x : M.L} (h : rIns.is w S x cs) : ∃ hd A1 m1 c1 A2 m2 c2 A3 m3 c3, cs = item9 hd (.slice A1 m1 c1) (.slice A2 m2 c2) (.slice A3 m3 c3) := by
  obtain ⟨hd, b, e, vL, vB, vE, _, h2, _, h4, h5, h6⟩ := h
  obtain ⟨A1, c1, rfl, _⟩ := h4.form
  obtain ⟨A2, c2, rfl, _⟩ := LS.form h5
  obtain ⟨A3, c3, rfl, _⟩ := LS.form h6
  exact ⟨hd, A1, _, c1, A2, _, c2, A3, _, c3, h2⟩
theorem form_glo {x : M.Glo} (h : rGlo.is w S x cs) : ∃ hd A1 m1 c1 A2 m2 c2 A3 m3 c3, cs = [.int .i64 x.ty, .bool x.mu, .int .i64 hd.op, .int .i64 hd.ty, .int .i64 hd.ix, .int .i64 hd.al, .int .i64 hd.ofs, .int .i64 hd.val, .slice A1 m1 c1, .slice A2 m2 c2, .slice A3 m3 c3] ∧ rIns.is w S x.ini (item9 hd (.slice A1 m1 c1) (.slice A2 m2 c2) (.slice A3 m3 c3)) := by
  obtain ⟨c, d, rfl, ⟨c1, c2, rfl, ⟨rfl, h1⟩, rfl⟩, h2⟩ := h
  obtain ⟨hd, A1, m1, c1, A2, m2, c2, A3, m3, c3, rfl⟩ := form_ins h2
  exact ⟨hd, A1, m1, c1, A2, m2, c2, A3, m3, c3, rfl, h2⟩
theorem form_elm {x : M.Elm} (h : rElm.is w S x cs) : ∃ hd A1 m1 c1 A2 m2 c2 A3 m3 c3 A4 c4, cs = [.int .i64 x.ta, .int .i64 hd.op, .int .i64 hd.ty, .int .i64 hd.ix, .int .i64 hd.al, .int .i64 hd.ofs, .int .i64 hd.val, .slice A1 m1 c1, .slice A2 m2 c2, .slice A3 m3 c3, .slice A4 x.fs.length c4] ∧ i64R x.ta ∧ rIns.is w S x.off (item9 hd (.slice A1 m1 c1) (.slice A2 m2 c2) (.slice A3 m3 c3)) ∧ NS w S (.slice A4 x.fs.length c4) x.fs := by
  obtain ⟨c, d, rfl, ⟨c1, c2, rfl, ⟨rfl, h1⟩, h2⟩, v, rfl, h3⟩ := h
  obtain ⟨hd, A1, m1, c1, A2, m2, c2, A3, m3, c3, rfl⟩ := form_ins h2
  obtain ⟨A4, c4, rfl, _⟩ := h3.form
  exact ⟨hd, A1, m1, c1, A2, m2, c2, A3, m3, c3, A4, c4, rfl, h1, h2, h3⟩
theorem form_dat {x : M.Dat} (h : rDat.is w S x cs) : ∃ hd A1 m1 c1 A2 m2 c2 A3 m3 c3 A4 c4, cs = [.int .i64 x.me, .int .i64 hd.op, .int .i64 hd.ty, .int .i64 hd.ix, .int .i64 hd.al, .int .i64 hd.ofs, .int .i64 hd.val, .slice A1 m1 c1, .slice A2 m2 c2, .slice A3 m3 c3, .slice A4 x.bs.length c4] ∧ i64R x.me ∧ rIns.is w S x.off (item9 hd (.slice A1 m1 c1) (.slice A2 m2 c2) (.slice A3 m3 c3)) ∧ BSS w S (.slice A4 x.bs.length c4) x.bs := by
  obtain ⟨c, d, rfl, ⟨c1, c2, rfl, ⟨rfl, h1⟩, h2⟩, v, rfl, h3⟩ := h
  obtain ⟨hd, A1, m1, c1, A2, m2, c2, A3, m3, c3, rfl⟩ := form_ins h2
  have h3' := h3
  obtain ⟨A4, c4, rfl, _⟩ := h3
  exact ⟨hd, A1, m1, c1, A2, m2, c2, A3, m3, c3, A4, c4, rfl, h1, h2, h3'⟩
theorem form_fn {x : M.Fn} (h : rFn.is w S x cs) : ∃ A1 c1 A2 c2, cs = [.int .i64 x.ty, .slice A1 x.lo.length c1, .slice A2 x.bo.len c2] ∧ i64R x.ty ∧ NS w S (.slice A1 x.lo.length c1) x.lo ∧ LS w S (.slice A2 x.bo.len c2) x.bo := by
  obtain ⟨c, d, rfl, ⟨c1, c2, rfl, ⟨rfl, h1⟩, v1, rfl, h2⟩, v2, rfl, h3⟩ := h
  obtain ⟨A1, c1, rfl, _⟩ := h2.form
  obtain ⟨A2, c2, rfl, _⟩ := LS.form h3
  exact ⟨A1, c1, A2, c2, rfl, h1, h2, h3⟩
theorem form_imp {x : M.Imp} (h : rImp.is w S x cs) : ∃ s t, cs = [.string s, .string t, .int .i64 x.kd, .int .i64 x.ty, .bool x.mu, .int .i64 x.lim.mn, .int .i64 x.lim.mx] ∧ (sby s = x.mo ∧ x.mo.length ≤ 1000000000) ∧ (sby t = x.na ∧ x.na.length ≤ 1000000000) ∧ i64R x.kd ∧ i64R x.ty ∧ i64R x.lim.mn ∧ i64R x.lim.mx := by
  obtain ⟨c, d, rfl, ⟨c1, c2, rfl, ⟨c3, c4, rfl, ⟨c5, c6, rfl, ⟨c7, c8, rfl, ⟨rfl, h1, h2⟩, rfl, h3, h4⟩, rfl, h5⟩, rfl, h6⟩, rfl⟩, c9, c10, rfl, ⟨rfl, h7⟩, rfl, h8⟩ := h
  obtain ⟨s, e1, e2⟩ := str_form x.mo h1
  obtain ⟨t, e3, e4⟩ := str_form x.na h3
  exact ⟨s, t, by show [str x.mo] ++ [str x.na] ++ _ ++ _ ++ _ ++ _ = _; rw [e1, e3]; rfl, ⟨e2, h2⟩, ⟨e4, h4⟩, h5, h6, h7, h8⟩
end
end Go.Proofs.YtilaheifccjjeaaGreat
namespace Go.Proofs.YtilaheifccjjeaaGreat
open Go.RowKit
/-- Has an import nothing of what others have? -/
def noB (kd ty : Int) (mu : Bool) (mn mx : Int) : Bool := if kd = 1 ∨ kd = 2 then ty == 0 && !mu else (mn == 0 && mx == 0) && (kd == 3 || !mu)
def NoPost (r : Bool) (w : World) (e : Ending) (w' : World) : Prop := e = .returned (.bool r) ∧ Below w.heap.size w w'
set_option maxRecDepth 100000 in
set_option maxHeartbeats 4000000 in
theorem noother_any (s t : ByteArray) (kd ty mn mx : Int) (mu : Bool) (w : World) (hk : kd = 0 ∨ kd = 1 ∨ kd = 2 ∨ kd = 3) :
    Calls Tryz.prog 144 #[.agg #[.string s, .string t, .int .i64 kd, .int .i64 ty, .bool mu, .int .i64 mn, .int .i64 mx]] w (NoPost (noB kd ty mu mn mx) w) := by
  have bel : ∀ o, Below w.heap.size w (w.alloc o) := fun o => (Below.refl _ _).alloc (Nat.le_refl _) _
  replace bel := Lib.hid bel
  obtain ⟨r, hr⟩ : ∃ r, noB kd ty mu mn mx = r := ⟨_, rfl⟩
  rw [hr]
  have z1 : ty = 0 ∨ (ty == 0) = false := by by_cases h : ty = 0 <;> simp [h]
  have z2 : mn = 0 ∨ (mn == 0) = false := by by_cases h : mn = 0 <;> simp [h]
  have z3 : mx = 0 ∨ (mx == 0) = false := by by_cases h : mx = 0 <;> simp [h]
  rcases hk with rfl | rfl | rfl | rfl
  · clear z1
    rcases z2 with rfl | z2
    all_goals rcases z3 with rfl | z3
    all_goals cases mu
    all_goals
      have hr2 := hr
      simp [noB, *] at hr2
      subst hr2
      clear hr
      go_enter Tryz.func144, Tryz.ntmps144
      go_wp2_with fail
      go_ret
      exact ⟨rfl, bel.out _⟩
  · clear z2 z3
    rcases z1 with rfl | z1
    all_goals cases mu
    all_goals
      have hr2 := hr
      simp [noB, *] at hr2
      subst hr2
      clear hr
      go_enter Tryz.func144, Tryz.ntmps144
      go_wp2_with fail
      go_ret
      exact ⟨rfl, bel.out _⟩
  · clear z2 z3
    rcases z1 with rfl | z1
    all_goals cases mu
    all_goals
      have hr2 := hr
      simp [noB, *] at hr2
      subst hr2
      clear hr
      go_enter Tryz.func144, Tryz.ntmps144
      go_wp2_with fail
      go_ret
      exact ⟨rfl, bel.out _⟩
  · clear z1
    rcases z2 with rfl | z2
    all_goals rcases z3 with rfl | z3
    all_goals cases mu
    all_goals
      have hr2 := hr
      simp [noB, *] at hr2
      subst hr2
      clear hr
      go_enter Tryz.func144, Tryz.ntmps144
      go_wp2_with fail
      go_ret
      exact ⟨rfl, bel.out _⟩
/-- What is imported, by its kind: may it be, and its bytes. -/
def whatOk (kd ty : Int) (mn mx : Int) : Prop := if kd = 0 then M.inR ty else if kd = 1 then M.cTab.ok ⟨mn, mx⟩ else if kd = 2 then M.cLim.ok ⟨mn, mx⟩ else M.cVal.ok ty ∧ True
def whatWr (kd ty : Int) (mu : Bool) (mn mx : Int) : List Nat := if kd = 0 then M.U ty else if kd = 1 then M.cTab.wr ⟨mn, mx⟩ else if kd = 2 then M.cLim.wr ⟨mn, mx⟩ else M.cVal.wr ty ++ M.cFlag.wr mu
set_option maxRecDepth 100000 in
set_option maxHeartbeats 4000000 in
theorem twhat_any (B : Nat) (w : World) (P : Nat) (out : List Nat) (s t : ByteArray) (kd ty mn mx : Int) (mu : Bool) (h : MTx B w P out) (hk : kd = 0 ∨ kd = 1 ∨ kd = 2 ∨ kd = 3)
    (r1 : -9223372036854775808 ≤ ty ∧ ty ≤ 9223372036854775807) (r2 : -9223372036854775808 ≤ mn ∧ mn ≤ 9223372036854775807) (r3 : -9223372036854775808 ≤ mx ∧ mx ≤ 9223372036854775807) :
    Calls Tryz.prog 145 #[.pointer (some ⟨P, 0, none⟩), .agg #[.string s, .string t, .int .i64 kd, .int .i64 ty, .bool mu, .int .i64 mn, .int .i64 mx]] w (WrPost B P out (whatOk kd ty mn mx) (whatWr kd ty mu mn mx) w) := by
  obtain ⟨W0, hW0⟩ : ∃ W0, W0 = w.alloc (.cells #[.string s, .string t, .int .i64 kd, .int .i64 ty, .bool mu, .int .i64 mn, .int .i64 mx] 60) := ⟨_, rfl⟩
  have b0 : Below w.heap.size w W0 := by rw [hW0]; exact (Below.refl _ _).alloc (Nat.le_refl _) _
  have q2 : W0.cell? ⟨w.heap.size, 2, none⟩ = some (.int .i64 kd) := by rw [hW0]; simp
  have q3 : W0.cell? ⟨w.heap.size, 3, none⟩ = some (.int .i64 ty) := by rw [hW0]; simp
  have q4 : W0.cell? ⟨w.heap.size, 4, none⟩ = some (.bool mu) := by rw [hW0]; simp
  have q5 : W0.cell? ⟨w.heap.size, 5, none⟩ = some (.int .i64 mn) := by rw [hW0]; simp
  have q6 : W0.cell? ⟨w.heap.size, 6, none⟩ = some (.int .i64 mx) := by rw [hW0]; simp
  have hz : w.heap.size < W0.heap.size := by rw [hW0]; simp
  have ht := Lib.hid (h.later b0)
  have hP := h.lt
  have d0 := Lib.hid (Wro.ofBelow h.lt b0)
  have keep := box_keep h b0 (Nat.le_refl _) hz
  replace keep := Lib.hid keep
  replace hW0 := Lib.hid hW0
  clear b0 h
  rcases hk with rfl | rfl | rfl | rfl
  · have ho : whatOk 0 ty mn mx = M.inR ty := rfl
    have hwr : whatWr 0 ty mu mn mx = M.U ty := rfl
    rw [ho, hwr]
    clear ho hwr
    go_enter Tryz.func145, Tryz.ntmps145
    go_upto_region 1 with fail
    rw [← hW0.out]
    go_wp2_with fail
    refine (tnumb_any B W0 P out ty ht.out r1).mono ?_
    intro e1 w1 k1
    have this := Lib.hid (k1.pre d0.out)
    rcases k1 with ⟨_, _, rfl, _⟩ | ⟨_, rfl, _⟩
    all_goals
      go_wp2_with fail
      go_ret
      exact this.out
  · have ho : whatOk 1 ty mn mx = M.cTab.ok ⟨mn, mx⟩ := rfl
    have hwr : whatWr 1 ty mu mn mx = M.cTab.wr ⟨mn, mx⟩ := rfl
    rw [ho, hwr]
    clear ho hwr
    go_enter Tryz.func145, Tryz.ntmps145
    go_upto_region 1 with fail
    rw [← hW0.out]
    go_wp2_with fail
    refine (ttable_any B W0 P out mn mx ht.out r2 r3).mono ?_
    intro e1 w1 k1
    have this := Lib.hid (k1.pre d0.out)
    rcases k1 with ⟨_, _, rfl, _⟩ | ⟨_, rfl, _⟩
    all_goals
      go_wp2_with fail
      go_ret
      exact this.out
  · have ho : whatOk 2 ty mn mx = M.cLim.ok ⟨mn, mx⟩ := rfl
    have hwr : whatWr 2 ty mu mn mx = M.cLim.wr ⟨mn, mx⟩ := rfl
    rw [ho, hwr]
    clear ho hwr
    go_enter Tryz.func145, Tryz.ntmps145
    go_upto_region 1 with fail
    rw [← hW0.out]
    go_wp2_with fail
    refine (tlimits_any B W0 P out mn mx ht.out r2 r3).mono ?_
    intro e1 w1 k1
    have this := Lib.hid (k1.pre d0.out)
    rcases k1 with ⟨_, _, rfl, _⟩ | ⟨_, rfl, _⟩
    all_goals
      go_wp2_with fail
      go_ret
      exact this.out
  · have ho : whatOk 3 ty mn mx = (M.cVal.ok ty ∧ True) := rfl
    have hwr : whatWr 3 ty mu mn mx = M.cVal.wr ty ++ M.cFlag.wr mu := rfl
    rw [ho, hwr]
    clear ho hwr
    go_enter Tryz.func145, Tryz.ntmps145
    go_upto_region 1 with fail
    rw [← hW0.out]
    go_wp2_with fail
    refine (tval2_any B W0 P out ty ht.out).mono ?_
    rintro e1 w1 (⟨ho1, hf1, rfl, t1, b1⟩ | ⟨hn1, rfl, b1⟩)
    · have c4 := (keep.out w1 b1 4).trans q4
      replace t1 := Lib.hid t1
      replace b1 := Lib.hid b1
      go_wp2_with fail
      refine (tflag_any B w1 P _ mu t1.out).mono ?_
      intro e2 w2 k2
      have this := Lib.hid ((WrPost.then ⟨ho1, hf1⟩ b1.out k2).pre d0.out)
      rcases k2 with ⟨_, _, rfl, _⟩ | ⟨_, rfl, _⟩
      all_goals
        go_wp2_with fail
        go_ret
        exact this.out
    · have this := Lib.hid ((WrPost.stop (B := B) (C := True) (yb := M.cFlag.wr mu) hn1 b1).pre d0.out)
      go_wp2_with fail
      go_ret
      exact this.out
theorem what_iff (kd ty mn mx : Int) (mu : Bool) (hk : kd = 0 ∨ kd = 1 ∨ kd = 2 ∨ kd = 3) : (M.cWhat kd).ok (ty, mu, ⟨mn, mx⟩) ↔ noB kd ty mu mn mx = true ∧ whatOk kd ty mn mx := by
  rcases hk with rfl | rfl | rfl | rfl
  · show M.inR ty ∧ (mu, (⟨mn, mx⟩ : M.Lim)) = (false, ⟨0, 0⟩) ↔ _
    unfold noB whatOk
    rw [if_pos rfl, if_neg (by decide)]
    simp only [Prod.mk.injEq, M.Lim.mk.injEq, Bool.and_eq_true, Bool.or_eq_true, beq_iff_eq, Bool.not_eq_true']
    constructor
    · rintro ⟨h1, h2, h3, h4⟩; exact ⟨⟨⟨h3, h4⟩, .inr h2⟩, h1⟩
    · rintro ⟨⟨⟨h3, h4⟩, h2⟩, h1⟩; exact ⟨h1, h2.resolve_left (by decide), h3, h4⟩
  · show M.cTab.ok ⟨mn, mx⟩ ∧ ty = 0 ∧ mu = false ↔ _
    unfold noB whatOk
    rw [if_pos (by decide), if_neg (by decide), if_pos rfl]
    simp only [Bool.and_eq_true, beq_iff_eq, Bool.not_eq_true']
    exact ⟨fun h => ⟨h.2, h.1⟩, fun h => ⟨h.2, h.1⟩⟩
  · show M.cLim.ok ⟨mn, mx⟩ ∧ ty = 0 ∧ mu = false ↔ _
    unfold noB whatOk
    rw [if_pos (by decide), if_neg (by decide), if_neg (by decide), if_pos rfl]
    simp only [Bool.and_eq_true, beq_iff_eq, Bool.not_eq_true']
    exact ⟨fun h => ⟨h.2, h.1⟩, fun h => ⟨h.2, h.1⟩⟩
  · show (M.cVal.ok ty ∧ True) ∧ (⟨mn, mx⟩ : M.Lim) = ⟨0, 0⟩ ↔ _
    unfold noB whatOk
    rw [if_neg (by decide), if_neg (by decide), if_neg (by decide), if_neg (by decide)]
    simp only [M.Lim.mk.injEq, Bool.and_eq_true, Bool.or_eq_true, beq_iff_eq, Bool.not_eq_true', beq_self_eq_true, true_or, and_true]
    exact ⟨fun h => ⟨h.2, h.1⟩, fun h => ⟨h.2, h.1⟩⟩
theorem what_wr (kd ty mn mx : Int) (mu : Bool) (hk : kd = 0 ∨ kd = 1 ∨ kd = 2 ∨ kd = 3) : (M.cWhat kd).wr (ty, mu, ⟨mn, mx⟩) = whatWr kd ty mu mn mx := by
  rcases hk with rfl | rfl | rfl | rfl <;> rfl
theorem what_no (kd : Int) (y : Int × Bool × M.Lim) (hk : ¬ (kd = 0 ∨ kd = 1 ∨ kd = 2 ∨ kd = 3)) : ¬ (M.cWhat kd).ok y := by
  unfold M.cWhat
  rw [if_neg (by omega), if_neg (by omega), if_neg (by omega), if_neg (by omega)]
  exact fun h => h
def NN (k : Int) : Prop := 0 ≤ k
theorem WrPost.back {B P : Nat} {out ys : List Nat} {C : Prop} {w w1 : World} (h : ¬ C) (b : Wro P w w1) : WrPost B P out C ys w (.returned (.bool false)) w1 := .inr ⟨fun hh => h hh.1, rfl, b⟩
set_option maxRecDepth 100000 in
set_option maxHeartbeats 4000000 in
theorem timp_any (B : Nat) (w : World) (P : Nat) (out : List Nat) (s t : ByteArray) (kd ty mn mx : Int) (mu : Bool) (h : MTx B w P out) (hs : s.size ≤ 1000000000) (htt : t.size ≤ 1000000000)
    (r1 : -9223372036854775808 ≤ ty ∧ ty ≤ 9223372036854775807) (r2 : -9223372036854775808 ≤ mn ∧ mn ≤ 9223372036854775807) (r3 : -9223372036854775808 ≤ mx ∧ mx ≤ 9223372036854775807) :
    Calls Tryz.prog 107 #[.pointer (some ⟨P, 0, none⟩), .agg #[.string s, .string t, .int .i64 kd, .int .i64 ty, .bool mu, .int .i64 mn, .int .i64 mx]] w (WrPost B P out (M.cImp.ok ⟨sby s, sby t, kd, ty, mu, ⟨mn, mx⟩⟩) (M.cImp.wr ⟨sby s, sby t, kd, ty, mu, ⟨mn, mx⟩⟩) w) := by
  have e1 : M.cImp.ok ⟨sby s, sby t, kd, ty, mu, ⟨mn, mx⟩⟩ ↔ M.cName.ok (sby s) ∧ M.cName.ok (sby t) ∧ NN kd ∧ (M.cWhat kd).ok (ty, mu, ⟨mn, mx⟩) := by
    show _ ∧ _ ∧ (0 ≤ kd ∧ _) ∧ _ ↔ _ ∧ _ ∧ (0 ≤ kd) ∧ _
    simp
  have e2 : M.cImp.wr ⟨sby s, sby t, kd, ty, mu, ⟨mn, mx⟩⟩ = M.cName.wr (sby s) ++ (M.cName.wr (sby t) ++ ([kd.toNat] ++ (M.cWhat kd).wr (ty, mu, ⟨mn, mx⟩))) := rfl
  obtain ⟨ok, hok⟩ : ∃ ok, ok = M.cImp.ok ⟨sby s, sby t, kd, ty, mu, ⟨mn, mx⟩⟩ := ⟨_, rfl⟩
  obtain ⟨ys, hys⟩ : ∃ ys, ys = M.cImp.wr ⟨sby s, sby t, kd, ty, mu, ⟨mn, mx⟩⟩ := ⟨_, rfl⟩
  rw [← hok, ← hys]
  rw [← hok] at e1
  rw [← hys] at e2
  clear hok hys
  obtain ⟨W0, hW0⟩ : ∃ W0, W0 = w.alloc (.cells #[.string s, .string t, .int .i64 kd, .int .i64 ty, .bool mu, .int .i64 mn, .int .i64 mx] 60) := ⟨_, rfl⟩
  have b0 : Below w.heap.size w W0 := by rw [hW0]; exact (Below.refl _ _).alloc (Nat.le_refl _) _
  have q0 : W0.cell? ⟨w.heap.size, 0, none⟩ = some (.string s) := by rw [hW0]; simp
  have q1 : W0.cell? ⟨w.heap.size, 1, none⟩ = some (.string t) := by rw [hW0]; simp
  have q2 : W0.cell? ⟨w.heap.size, 2, none⟩ = some (.int .i64 kd) := by rw [hW0]; simp
  have q3 : W0.cell? ⟨w.heap.size, 3, none⟩ = some (.int .i64 ty) := by rw [hW0]; simp
  have q4 : W0.cell? ⟨w.heap.size, 4, none⟩ = some (.bool mu) := by rw [hW0]; simp
  have q5 : W0.cell? ⟨w.heap.size, 5, none⟩ = some (.int .i64 mn) := by rw [hW0]; simp
  have q6 : W0.cell? ⟨w.heap.size, 6, none⟩ = some (.int .i64 mx) := by rw [hW0]; simp
  have hz : w.heap.size < W0.heap.size := by rw [hW0]; simp
  have ht := Lib.hid (h.later b0)
  have hP := h.lt
  have d0 := Lib.hid (Wro.ofBelow h.lt b0)
  have keep := box_keep h b0 (Nat.le_refl _) hz
  replace keep := Lib.hid keep
  replace hW0 := Lib.hid hW0
  replace e1 := Lib.hid e1
  replace e2 := Lib.hid e2
  clear b0 h
  go_enter Tryz.func107, Tryz.ntmps107
  go_upto_region 1 with fail
  rw [← hW0.out]
  go_wp2_with fail
  refine (tname_any B W0 P out s ht.out hs).mono ?_
  rintro e1' w1 (⟨ho1, hf1, rfl, t1, b1⟩ | ⟨hn1, rfl, b1⟩)
  rotate_left
  · have this := Lib.hid (((WrPost.stop (B := B) (C := M.cName.ok (sby t) ∧ NN kd ∧ (M.cWhat kd).ok (ty, mu, ⟨mn, mx⟩)) (yb := M.cName.wr (sby t) ++ ([kd.toNat] ++ (M.cWhat kd).wr (ty, mu, ⟨mn, mx⟩))) hn1 b1).pre d0.out).iff e1.out.symm)
    rw [← e2.out] at this
    go_wp2_with fail
    go_ret
    exact this.out
  have c1 := (keep.out w1 b1 1).trans q1
  replace t1 := Lib.hid t1
  replace b1 := Lib.hid b1
  go_wp2_with fail
  refine (tname_any B w1 P _ t t1.out htt).mono ?_
  rintro e2' w2 (⟨ho2, hf2, rfl, t2, b2⟩ | ⟨hn2, rfl, b2⟩)
  rotate_left
  · have this := Lib.hid (((WrPost.then ⟨ho1, hf1⟩ b1.out (WrPost.stop (B := B) (C := NN kd ∧ (M.cWhat kd).ok (ty, mu, ⟨mn, mx⟩)) (yb := [kd.toNat] ++ (M.cWhat kd).wr (ty, mu, ⟨mn, mx⟩)) hn2 b2)).pre d0.out).iff e1.out.symm)
    rw [← e2.out] at this
    go_wp2_with fail
    go_ret
    exact this.out
  have c2 := (keep.out w2 (b1.out.trans b2) 2).trans q2
  replace t2 := Lib.hid t2
  replace b2 := Lib.hid b2
  go_wp2_with fail
  refine (tkind_any B w2 P _ kd t2.out).mono ?_
  rintro e3' w3 (⟨ho3, hf3, rfl, t3, b3⟩ | ⟨hn3, rfl, b3⟩)
  rotate_left
  · have hno : ¬ ((NN kd ∧ (M.cWhat kd).ok (ty, mu, ⟨mn, mx⟩)) ∧ (out ++ M.cName.wr (sby s) ++ M.cName.wr (sby t)).length + ([kd.toNat] ++ (M.cWhat kd).wr (ty, mu, ⟨mn, mx⟩)).length ≤ 65536) := fun hh => by
      by_cases hk : kd = 0 ∨ kd = 1 ∨ kd = 2 ∨ kd = 3
      · exact hn3 ⟨⟨by omega, by omega⟩, by have := hh.2; simp only [List.length_append] at this ⊢; omega⟩
      · exact what_no kd _ hk hh.1.2
    have this := Lib.hid (((WrPost.then ⟨ho1, hf1⟩ b1.out (WrPost.then (B := B) ⟨ho2, hf2⟩ b2.out (.inr ⟨hno, rfl, b3⟩))).pre d0.out).iff e1.out.symm)
    rw [← e2.out] at this
    go_wp2_with fail
    go_ret
    exact this.out
  have hk : kd = 0 ∨ kd = 1 ∨ kd = 2 ∨ kd = 3 := by obtain ⟨h1, h2⟩ := ho3; omega
  have hk0 : NN kd := by show 0 ≤ kd; omega
  rw [what_iff kd ty mn mx mu hk] at e1
  rw [what_wr kd ty mn mx mu hk] at e2
  have k0 := (keep.out w3 ((b1.out.trans b2.out).trans b3) 0).trans q0
  have k1 := (keep.out w3 ((b1.out.trans b2.out).trans b3) 1).trans q1
  have k2 := (keep.out w3 ((b1.out.trans b2.out).trans b3) 2).trans q2
  have k3 := (keep.out w3 ((b1.out.trans b2.out).trans b3) 3).trans q3
  have k4 := (keep.out w3 ((b1.out.trans b2.out).trans b3) 4).trans q4
  have k5 := (keep.out w3 ((b1.out.trans b2.out).trans b3) 5).trans q5
  have k6 := (keep.out w3 ((b1.out.trans b2.out).trans b3) 6).trans q6
  have hk' := Lib.hid hk
  have ho3' := Lib.hid ho3
  have hk0' := Lib.hid hk0
  replace t3 := Lib.hid t3
  replace b3 := Lib.hid b3
  clear hk ho3 hk0 c1 c2
  go_wp2_with fail
  refine (noother_any s t kd ty mn mx mu w3 hk'.out).mono ?_
  rintro e4' w4 ⟨rfl, b4⟩
  have hw3 := t3.out.lt
  have t4 := Lib.hid (t3.out.later b4)
  have d4 := Lib.hid (Wro.ofBelow hw3 b4)
  have m0 := (keep.out w4 (((b1.out.trans b2.out).trans b3.out).trans d4.out) 0).trans q0
  have m1 := (keep.out w4 (((b1.out.trans b2.out).trans b3.out).trans d4.out) 1).trans q1
  have m2 := (keep.out w4 (((b1.out.trans b2.out).trans b3.out).trans d4.out) 2).trans q2
  have m3 := (keep.out w4 (((b1.out.trans b2.out).trans b3.out).trans d4.out) 3).trans q3
  have m4 := (keep.out w4 (((b1.out.trans b2.out).trans b3.out).trans d4.out) 4).trans q4
  have m5 := (keep.out w4 (((b1.out.trans b2.out).trans b3.out).trans d4.out) 5).trans q5
  have m6 := (keep.out w4 (((b1.out.trans b2.out).trans b3.out).trans d4.out) 6).trans q6
  clear b4 k0 k1 k2 k3 k4 k5 k6
  cases hb : noB kd ty mu mn mx with
  | false =>
    have this := Lib.hid (((WrPost.then ⟨ho1, hf1⟩ b1.out (WrPost.then (B := B) ⟨ho2, hf2⟩ b2.out (WrPost.then (C := noB kd ty mu mn mx = true ∧ whatOk kd ty mn mx) (yb := whatWr kd ty mu mn mx) ⟨ho3'.out, hf3⟩ b3.out (WrPost.back (fun hh => by rw [hb] at hh; cases hh.1) d4.out)))).pre d0.out).iff (C := ok) ⟨fun hh => e1.out.2 ⟨hh.1, hh.2.1, hk0'.out, hh.2.2.2⟩, fun hh => by have := e1.out.1 hh; exact ⟨this.1, this.2.1, ho3'.out, this.2.2.2⟩⟩)
    rw [← e2.out] at this
    clear hb
    go_wp2_with fail
    go_ret
    exact this.out
  | true =>
    have hb' := Lib.hid hb
    clear hb
    go_wp2_with fail
    refine (twhat_any B w4 P _ s t kd ty mn mx mu t4.out hk'.out r1 r2 r3).mono ?_
    intro e5' w5 k5
    have this := Lib.hid (((WrPost.then ⟨ho1, hf1⟩ b1.out (WrPost.then (B := B) ⟨ho2, hf2⟩ b2.out (WrPost.then ⟨ho3'.out, hf3⟩ b3.out (k5.pre d4.out)))).pre d0.out).iff (C := ok) ⟨fun hh => e1.out.2 ⟨hh.1, hh.2.1, hk0'.out, hb'.out, hh.2.2.2⟩, fun hh => by have := e1.out.1 hh; exact ⟨this.1, this.2.1, ho3'.out, this.2.2.2.2⟩⟩)
    rw [← e2.out] at this
    rcases k5 with ⟨_, _, rfl, _⟩ | ⟨_, rfl, _⟩
    all_goals
      go_wp2_with fail
      go_ret
      exact this.out
end Go.Proofs.YtilaheifccjjeaaGreat
