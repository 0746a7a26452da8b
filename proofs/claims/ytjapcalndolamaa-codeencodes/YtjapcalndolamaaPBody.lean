/-
  The bytes that the page tells of instructions that may be; condition: they lie in memory that was there at the call, and weigh no more than two thousand.
-/
import Derived.Test.YtjapcalndolamaaEncode
import Derived.Test.YtjapcalndolamaaCat
namespace Go.Proofs.Ytjapcalndolamaa
open Go.RowKit
set_option maxRecDepth 100000 in
theorem short_any (x : Nat) (w : World) (hx : x < 9223372036854775808) : Calls Try.prog 54 #[.int .i64 (x : Nat)] w (Gives (M.putU 10 x) w) := by
  have tc : IntKind.u64.wrap (x : Int) = (x : Int) := by rw [IntKind.wrap_u64]; omega
  go_enter Try.func54, Try.ntmps54
  go_wp2_with fail
  refine (rPutUint_any x _ (by omega)).mono ?_
  rintro e1 w1 ⟨u, rfl, o1, b1⟩
  replace o1 := Lib.hid o1
  replace b1 := Lib.hid b1
  go_wp2_with fail
  go_ret
  exact ⟨u, rfl, o1.out, b1.out⟩
/-- Where the page's writing has come to: what is written, and the instruction that it copied. -/
structure BSt (w W : World) (v : Value) (out : List Nat) (n g : Nat) (h : M.Hd) (vL vB vE : Value) : Prop where
  own : W.ownsRow w.heap.size 5 1 v out.length (vals out)
  bel : Below w.heap.size w W
  row : W.heap[g]? = some (.cells (item9 h vL vB vE).toArray 48 (0, 0))
  len : out.length ≤ n
theorem BSt.call {w W W' : World} {v : Value} {out : List Nat} {n g : Nat} {h : M.Hd} {vL vB vE : Value} (s : BSt w W v out n g h vL vB vE) (k : Below W.heap.size W W') : BSt w W' v out n g h vL vB vE :=
  ⟨own_later s.own k, s.bel.trans (k.mono s.bel.size), by rw [k.block g (Array.getElem?_eq_some_iff.1 s.row).1]; exact s.row, s.len⟩
theorem BSt.put {w W W4 w5 : World} {v v' : Value} {out cs : List Nat} {n m g : Nat} {h : M.Hd} {vL vB vE : Value} (s : BSt w W v out n g h vL vB vE) (k : Below W.heap.size W W4) (own' : w5.ownsRow w.heap.size 5 1 v' (out ++ cs).length (vals (out ++ cs))) (gr : W4.grownBy w5 v.ownBlock) (hm : n + cs.length ≤ m) : BSt w w5 v' (out ++ cs) m g h vL vB vE := by
  have s4 := s.call k
  have hgl := (Array.getElem?_eq_some_iff.1 s4.row).1
  have hne : v.ownBlock ≠ some g := by
    intro e
    rcases s4.own.2 with ⟨rfl, _⟩ | ⟨g', cap, cur, rfl, _, hg, _⟩
    · cases e
    · have e : g' = g := by simpa [Value.ownBlock] using e
      subst e
      rw [s4.row] at hg
      injection hg with hg
      injection hg with _ hg
      exact absurd hg (by decide)
  refine ⟨own', s4.bel.grown gr s4.bel.size (fun q hq => (s4.own.lt q hq).1), ?_, by have := s.len; rw [List.length_append]; omega⟩
  rw [gr.block g hgl (fun e => hne e.symm)]
  exact s4.row
theorem BSt.cells {w W : World} {v : Value} {out : List Nat} {n g : Nat} {h : M.Hd} {vL vB vE : Value} (s : BSt w W v out n g h vL vB vE) :
    W.cell? ⟨g, 0, none⟩ = some (.int .i64 h.op) ∧ W.cell? ⟨g, 1, none⟩ = some (.int .i64 h.ty) ∧ W.cell? ⟨g, 2, none⟩ = some (.int .i64 h.ix) ∧ W.cell? ⟨g, 3, none⟩ = some (.int .i64 h.al) ∧ W.cell? ⟨g, 4, none⟩ = some (.int .i64 h.ofs) ∧ W.cell? ⟨g, 5, none⟩ = some (.int .i64 h.val) ∧ W.cell? ⟨g, 6, none⟩ = some vL ∧ W.cell? ⟨g, 7, none⟩ = some vB ∧ W.cell? ⟨g, 8, none⟩ = some vE := by
  have e : ∀ j, W.cell? ⟨g, j, none⟩ = (item9 h vL vB vE).toArray[j]? := fun j => cell_of_row W g j _ _ (0, 0) s.row
  exact ⟨by rw [e]; rfl, by rw [e]; rfl, by rw [e]; rfl, by rw [e]; rfl, by rw [e]; rfl, by rw [e]; rfl, by rw [e]; rfl, by rw [e]; rfl, by rw [e]; rfl⟩
theorem BSt.lt {w W : World} {v : Value} {out : List Nat} {n g : Nat} {h : M.Hd} {vL vB vE : Value} (s : BSt w W v out n g h vL vB vE) : g < W.heap.size := (Array.getElem?_eq_some_iff.1 s.row).1
theorem alloc_bel (w : World) (o : Obj) : Below w.heap.size w (w.alloc o) := (Below.refl _ _).alloc (Nat.le_refl _) o
theorem one_BS (w : World) (x : Nat) (hx : x < 256) : BS (w.alloc (.cells #[.int .u8 (x : Nat)] 5)) (w.alloc (.cells #[.int .u8 (x : Nat)] 5)).heap.size (.slice (some ⟨w.heap.size, 0, none⟩) 1 1) [x] :=
  lit_BS w _ [x] _ 5 w.heap.size 1 1 rfl (fun b hb => by simp at hb; omega) (heap_alloc_new w _) (by simp) rfl (by omega) (by unfold maxLen; omega)
theorem enc_lt (l : M.L) : ∀ (d : Nat), M.ok d l → ∀ x ∈ M.enc l, x < 256 := by
  induction l with
  | nil => intro d _ x hx; cases hx
  | cons h b e r ihb ihe ihr =>
    intro d hok x hx
    obtain ⟨h1, h2⟩ := (ok_cons d h b e r).1 hok
    obtain ⟨hfl, ⟨db, hb⟩, ⟨de, he⟩, _, hk0⟩ := okI_subs h1
    rw [M.enc_cons] at hx
    have hU : ∀ (y : Int), ∀ z ∈ M.U y, z < 256 := fun y => M.putU_lt 10 y.toNat
    have hS : ∀ (y : Int), ∀ z ∈ M.S y, z < 256 := fun y => M.putS_lt 10 y
    have hUs : ∀ (ys : List Int), ∀ z ∈ M.Us ys, z < 256 := by
      intro ys
      induction ys with
      | nil => intro z hz; cases hz
      | cons y t ih => intro z hz; rcases List.mem_append.1 hz with hz | hz; exact hU y z hz; exact ih z hz
    rcases List.mem_cons.1 hx with rfl | hx
    · have := M.kind_op h.op hk0; omega
    rcases List.mem_append.1 hx with hx | hx
    · rcases M.kind_cases h.op with k | k | k | k | k | k | k | k | k | k
      all_goals rw [M.tail_of k] at hx
      · exact absurd k hk0
      · cases hx
      · have hty : M.tyOk h.ty := (M.flat_to k hfl).2
        unfold M.tyOk at hty
        simp only [M.tailK, List.mem_cons, List.mem_append] at hx
        rcases hx with hx | (hx | hx) | hx
        · omega
        · exact ihb db hb x hx
        · cases e with
          | nil => cases hx
          | cons a1 a2 a3 a4 =>
            rcases List.mem_cons.1 hx with rfl | hx
            · omega
            · exact ihe de he x hx
        · rcases hx with hx | hx
          · omega
          · cases hx
      · exact hU _ x hx
      · simp only [M.tailK, List.mem_append] at hx
        rcases hx with (hx | hx) | hx
        · exact hU _ x hx
        · exact hUs _ x hx
        · exact hU _ x hx
      · simp only [M.tailK, List.mem_append] at hx
        rcases hx with hx | hx
        · exact hU _ x hx
        · simp at hx; omega
      · simp only [M.tailK, List.mem_append] at hx
        rcases hx with hx | hx
        · exact hU _ x hx
        · exact hU _ x hx
      · simp [M.tailK] at hx; omega
      · exact hS _ x hx
      · exact hS _ x hx
    · exact ihr d h2 x hx
def BodyOk (N : Nat) : Prop := ∀ (l : M.L) (v : Value) (w : World) (d : Nat), l.sz < N → LB w v l → M.ok d l → l.sz ≤ 2000 → Calls Try.prog 31 #[v] w (Gives (M.enc l) w)
set_option maxRecDepth 100000 in
set_option maxHeartbeats 16000000 in
theorem pbody_of (N : Nat) (ih : BodyOk N) : BodyOk (N + 1) := by
  intro l v w d hN hls hok hsz
  obtain ⟨A, c, rfl, hf1, hf2, hf3⟩ := LS.form hls
  unfold maxLen at hf3
  replace hls := Lib.hid hls
  replace hok := Lib.hid hok
  replace ih := Lib.hid ih
  have hel := M.enc_len l
  obtain ⟨n, hn⟩ : ∃ n, n = l.len := ⟨_, rfl⟩
  rw [← hn] at hf1 hf2 hls ⊢
  replace hn := Lib.hid hn
  go_enter Try.func31, Try.ntmps31
  go_wp2_with fail
  go_loopw [3, 4] (fun b i w' => ∃ k : Nat, k ≤ n ∧ i = .int .i64 k ∧ w'.ownsRow w.heap.size 5 1 b (M.enc (M.L.take k l)).length (vals (M.enc (M.L.take k l))) ∧ Below w.heap.size w w') (fun _ i _ => n - (intOf i).toNat)
  case atStart => exact ⟨0, by omega, rfl, by rw [M.take_zero]; exact World.ownsRow_nil _ _ _ _, Below.refl _ _⟩
  case round =>
    obtain ⟨k, hk, rfl, own, hb⟩ := hrel
    have hsw : w.heap.size ≤ wr.heap.size := hb.size
    by_cases hlt : k < n
    · obtain ⟨h, b, e, hnth⟩ := M.nth_of (l := l) (k := k) (by rw [← hn.out]; exact hlt)
      obtain ⟨g, o, vL, vB, vE, rfl, hg, hi, hR, hL, hB, hE⟩ := hls.out.nth' hnth
      have hsz1 := (M.nth_some hnth).2
      obtain ⟨hfl, ⟨db, hokb⟩, ⟨de, hoke⟩, he4, hk0⟩ := okI_subs (ok_of_nth hok.out k h b e hnth)
      have hst := Lib.hid (show M.enc (M.L.take (k + 1) l) = M.enc (M.L.take k l) ++ (h.op.toNat :: (M.tailOf h b e ++ [])) by rw [M.take_nth hnth, M.enc_app, M.enc_cons]; rfl)
      have hle := M.enc_take l k
      have hi1 := hi.agree (hb.block g hg)
      have hops := M.kind_op h.op hk0
      obtain ⟨op, ty, ix, al, ofs, val, labels⟩ := h
      simp only at hops hsz1 hst
      obtain ⟨x0, rfl⟩ := Int.eq_ofNat_of_zero_le hops.1
      have hx0 : x0 < 256 := by omega
      obtain ⟨AL, cL, rfl, hLa, hLb, hLc⟩ := NS.form hL
      obtain ⟨AB, cB, rfl, _⟩ := LS.form hB
      obtain ⟨AE, cE, rfl, hEa, hEb, hEc⟩ := LS.form hE
      unfold maxLen at hLc hEc
      obtain ⟨y0, y1, y2, y3, y4, y5, y6, y7, y8⟩ := hi1
      simp only at y0 y1 y2 y3 y4 y5 hLa hLb hL
      rw [Int.toNat_natCast] at hst
      have HL := Lib.hid hL
      have HB := Lib.hid hB
      have HE := Lib.hid hE
      have hR5 := hR.r5
      simp only at hR5
      obtain ⟨nL, hnL⟩ : ∃ nL, nL = labels.length := ⟨_, rfl⟩
      rw [← hnL] at hLa hLb HL y6 hsz1
      replace hnL := Lib.hid hnL
      have t0 : (0 : Int) ≤ (k : Int) := by omega
      have t1 : (k : Int) < (n : Int) := by omega
      have S0 : BSt w (wr.alloc (.cells (item9 ⟨(x0 : Nat), ty, ix, al, ofs, val, labels⟩ (.slice AL nL cL) (.slice AB b.len cB) (.slice AE e.len cE)).toArray 48)) u3 (M.enc (M.L.take k l)) 80000 wr.heap.size ⟨(x0 : Nat), ty, ix, al, ofs, val, labels⟩ (.slice AL nL cL) (.slice AB b.len cB) (.slice AE e.len cE) := ⟨own.alloc _, hb.alloc hsw _, heap_alloc_new wr _, by omega⟩
      have S := Lib.hid S0
      have fin := Lib.hid (show ∀ (W : World) (v' : Value) (out' : List Nat) (m : Nat), BSt w W v' out' m wr.heap.size ⟨(x0 : Nat), ty, ix, al, ofs, val, labels⟩ (.slice AL nL cL) (.slice AB b.len cB) (.slice AE e.len cE) → out' = M.enc (M.L.take (k + 1) l) → (∃ k' : Nat, k' ≤ n ∧ (.int .i64 ((k : Int) + 1) : Value) = .int .i64 (k' : Nat) ∧ W.ownsRow w.heap.size 5 1 v' (M.enc (M.L.take k' l)).length (vals (M.enc (M.L.take k' l))) ∧ Below w.heap.size w W) ∧ n - (intOf (.int .i64 ((k : Int) + 1))).toNat < n - (intOf (.int .i64 (k : Int))).toNat from fun W v' out' m s e9 => by
        subst e9
        exact ⟨⟨k + 1, by omega, by go_num, s.own, s.bel⟩, by simp [intOf]; omega⟩)
      replace hfl := Lib.hid hfl
      replace hokb := Lib.hid hokb
      replace hoke := Lib.hid hoke
      replace he4 := Lib.hid he4
      replace own := Lib.hid own
      replace hb := Lib.hid hb
      replace hk0 := Lib.hid hk0
      clear hi hL hB hE hnth hR S0
      go_upto_region 6 with fail
      obtain ⟨W0, hW0⟩ : ∃ W0, W0 = wr.alloc (.cells (item9 ⟨(x0 : Nat), ty, ix, al, ofs, val, labels⟩ (.slice AL nL cL) (.slice AB b.len cB) (.slice AE e.len cE)).toArray 48) := ⟨_, rfl⟩
      rw [← hW0] at S
      rw [show wr.alloc (.cells #[.int .i64 (x0 : Nat), .int .i64 ty, .int .i64 ix, .int .i64 al, .int .i64 ofs, .int .i64 val, .slice AL nL cL, .slice AB b.len cB, .slice AE e.len cE] 48) = W0 from hW0.symm]
      replace hW0 := Lib.hid hW0
      obtain ⟨q0, q1, q2, q3, q4, q5, q6, q7, q8⟩ := S.out.cells
      simp only at q0 q1 q2 q3 q4 q5
      have sl := S.out.lt
      clear y0 y1 y2 y3 y4 y5 y6 y7 y8
      go_wp2_with (first | (at_builtin; refine wpList_cat rfl _ _ rfl w.heap.size _ _ _ [x0] rfl (S.out.own.alloc _) rfl (one_BS _ x0 (by omega)) (by have := S.out.len; simp; omega) (by have := S.out.bel.size; simp; omega) ?_; intro v9 w9 own9 gr9; replace S := Lib.hid (S.out.put (m := 80001) (alloc_bel _ _) own9 gr9 (by simp)); clear own9 gr9 q0 q1 q2 q3 q4 q5 q6 q7 q8 sl; obtain ⟨q0, q1, q2, q3, q4, q5, q6, q7, q8⟩ := S.out.cells; simp only at q0 q1 q2 q3 q4 q5; have sl := S.out.lt))
      have hkc := M.kind_cases (x0 : Int)
      rcases hkc with hk | hk | hk | hk | hk | hk | hk | hk | hk | hk
      · exact absurd hk hk0.out
      · have hf := M.flat_to hk hfl.out
        skip
        have htl := Lib.hid (show M.tailOf ⟨(x0 : Nat), ty, ix, al, ofs, val, labels⟩ b e = [] by rw [M.tail_of hk]; rfl)
        replace hk := Lib.hid hk
        clear hf
        refine (shape_is _ 1 _ hk.out).mono ?_
        rintro e1 w1 ⟨rfl, rfl⟩
        go_wp2_with fail
        exact fin.out _ _ _ _ S.out (by rw [hst.out, htl.out]; simp [M.U_nat, M.enc, M.U, M.S])
      · have hf := M.flat_to hk hfl.out
        have hty : M.tyOk ty := hf.2
        unfold M.tyOk at hty
        obtain ⟨x1, rfl⟩ := Int.eq_ofNat_of_zero_le (show 0 ≤ ty by omega)
        have hx1 : x1 < 256 := by omega
        clear hty
        by_cases he0 : e.len = 0
        · have hen := M.len_zero he0
          have htl := Lib.hid (show M.tailOf ⟨(x0 : Nat), (x1 : Nat), ix, al, ofs, val, labels⟩ b e = x1 :: (M.enc b ++ [] ++ [11]) by rw [M.tail_of hk, hen]; rfl)
          have tz3 : decide (0 < e.len) = false := by simp; omega
          replace hen := Lib.hid hen
          replace he0 := Lib.hid he0
          replace hk := Lib.hid hk
          clear hf
          refine (shape_is _ 2 _ hk.out).mono ?_
          rintro e1 w1 ⟨rfl, rfl⟩
          go_wp2_with (first | (at_builtin; refine wpList_cat rfl _ _ rfl w.heap.size _ _ _ [x1] rfl (S.out.own.alloc _) rfl (one_BS _ x1 (by omega)) (by have := S.out.len; simp; omega) (by have := S.out.bel.size; simp; omega) ?_; intro v9 w9 own9 gr9; replace S := Lib.hid (S.out.put (m := 80002) (alloc_bel _ _) own9 gr9 (by simp)); clear own9 gr9 q0 q1 q2 q3 q4 q5 q6 q7 q8 sl; obtain ⟨q0, q1, q2, q3, q4, q5, q6, q7, q8⟩ := S.out.cells; simp only at q0 q1 q2 q3 q4 q5; have sl := S.out.lt))
          refine (ih.out b _ _ db (by omega) (LS.later HB.out S.out.bel) hokb.out (by omega)).mono ?_
          rintro e9 w9 ⟨u9, rfl, o9, b9⟩
          have hcl : (M.enc b).length ≤ 80000 := by have := M.enc_len b; omega
          have src := Lib.hid (own_BS o9 (enc_lt b db hokb.out))
          replace S := Lib.hid (S.out.call b9)
          clear o9 b9 q0 q1 q2 q3 q4 q5 q6 q7 q8 sl
          obtain ⟨q0, q1, q2, q3, q4, q5, q6, q7, q8⟩ := S.out.cells
          simp only at q0 q1 q2 q3 q4 q5
          have sl := S.out.lt
          go_wp2_with (first | (at_builtin; refine wpList_cat rfl _ _ rfl w.heap.size _ _ _ _ rfl S.out.own rfl src.out (by have := S.out.len; omega) S.out.bel.size ?_; intro v9 w9 own9 gr9; replace S := Lib.hid (S.out.put (m := 170000) (Below.refl _ _) own9 gr9 (by omega)); clear own9 gr9 q0 q1 q2 q3 q4 q5 q6 q7 q8 sl src; obtain ⟨q0, q1, q2, q3, q4, q5, q6, q7, q8⟩ := S.out.cells; simp only at q0 q1 q2 q3 q4 q5; have sl := S.out.lt) | (at_builtin; refine wpList_cat rfl _ _ rfl w.heap.size _ _ _ [11] rfl (S.out.own.alloc _) rfl (one_BS _ 11 (by omega)) (by have := S.out.len; simp; omega) (by have := S.out.bel.size; simp; omega) ?_; intro v9 w9 own9 gr9; replace S := Lib.hid (S.out.put (m := 170001) (alloc_bel _ _) own9 gr9 (by simp)); clear own9 gr9 q0 q1 q2 q3 q4 q5 q6 q7 q8 sl; obtain ⟨q0, q1, q2, q3, q4, q5, q6, q7, q8⟩ := S.out.cells; simp only at q0 q1 q2 q3 q4 q5; have sl := S.out.lt))
          exact fin.out _ _ _ _ S.out (by rw [hst.out, htl.out]; simp [M.U_nat, M.enc, M.U, M.S])
        · have htl := Lib.hid (show M.tailOf ⟨(x0 : Nat), (x1 : Nat), ix, al, ofs, val, labels⟩ b e = x1 :: (M.enc b ++ 5 :: M.enc e ++ [11]) by
            rw [M.tail_of hk]
            cases e with
            | nil => exact absurd rfl he0
            | cons => rfl)
          have tz3 : decide (0 < e.len) = true := by simp; omega
          replace he0 := Lib.hid he0
          replace hk := Lib.hid hk
          clear hf
          refine (shape_is _ 2 _ hk.out).mono ?_
          rintro e1 w1 ⟨rfl, rfl⟩
          go_wp2_with (first | (at_builtin; refine wpList_cat rfl _ _ rfl w.heap.size _ _ _ [x1] rfl (S.out.own.alloc _) rfl (one_BS _ x1 (by omega)) (by have := S.out.len; simp; omega) (by have := S.out.bel.size; simp; omega) ?_; intro v9 w9 own9 gr9; replace S := Lib.hid (S.out.put (m := 80002) (alloc_bel _ _) own9 gr9 (by simp)); clear own9 gr9 q0 q1 q2 q3 q4 q5 q6 q7 q8 sl; obtain ⟨q0, q1, q2, q3, q4, q5, q6, q7, q8⟩ := S.out.cells; simp only at q0 q1 q2 q3 q4 q5; have sl := S.out.lt))
          refine (ih.out b _ _ db (by omega) (LS.later HB.out S.out.bel) hokb.out (by omega)).mono ?_
          rintro e9 w9 ⟨u9, rfl, o9, b9⟩
          have hcl : (M.enc b).length ≤ 80000 := by have := M.enc_len b; omega
          have src := Lib.hid (own_BS o9 (enc_lt b db hokb.out))
          replace S := Lib.hid (S.out.call b9)
          clear o9 b9 q0 q1 q2 q3 q4 q5 q6 q7 q8 sl
          obtain ⟨q0, q1, q2, q3, q4, q5, q6, q7, q8⟩ := S.out.cells
          simp only at q0 q1 q2 q3 q4 q5
          have sl := S.out.lt
          go_wp2_with (first | (at_builtin; refine wpList_cat rfl _ _ rfl w.heap.size _ _ _ _ rfl S.out.own rfl src.out (by have := S.out.len; omega) S.out.bel.size ?_; intro v9 w9 own9 gr9; replace S := Lib.hid (S.out.put (m := 170000) (Below.refl _ _) own9 gr9 (by omega)); clear own9 gr9 q0 q1 q2 q3 q4 q5 q6 q7 q8 sl src; obtain ⟨q0, q1, q2, q3, q4, q5, q6, q7, q8⟩ := S.out.cells; simp only at q0 q1 q2 q3 q4 q5; have sl := S.out.lt) | (at_builtin; refine wpList_cat rfl _ _ rfl w.heap.size _ _ _ [5] rfl (S.out.own.alloc _) rfl (one_BS _ 5 (by omega)) (by have := S.out.len; simp; omega) (by have := S.out.bel.size; simp; omega) ?_; intro v9 w9 own9 gr9; replace S := Lib.hid (S.out.put (m := 170001) (alloc_bel _ _) own9 gr9 (by simp)); clear own9 gr9 q0 q1 q2 q3 q4 q5 q6 q7 q8 sl; obtain ⟨q0, q1, q2, q3, q4, q5, q6, q7, q8⟩ := S.out.cells; simp only at q0 q1 q2 q3 q4 q5; have sl := S.out.lt))
          refine (ih.out e _ _ de (by omega) (LS.later HE.out S.out.bel) hoke.out (by omega)).mono ?_
          rintro e9 w9 ⟨u9, rfl, o9, b9⟩
          have hcl : (M.enc e).length ≤ 80000 := by have := M.enc_len e; omega
          have src := Lib.hid (own_BS o9 (enc_lt e de hoke.out))
          replace S := Lib.hid (S.out.call b9)
          clear o9 b9 q0 q1 q2 q3 q4 q5 q6 q7 q8 sl
          obtain ⟨q0, q1, q2, q3, q4, q5, q6, q7, q8⟩ := S.out.cells
          simp only at q0 q1 q2 q3 q4 q5
          have sl := S.out.lt
          go_wp2_with (first | (at_builtin; refine wpList_cat rfl _ _ rfl w.heap.size _ _ _ _ rfl S.out.own rfl src.out (by have := S.out.len; omega) S.out.bel.size ?_; intro v9 w9 own9 gr9; replace S := Lib.hid (S.out.put (m := 260000) (Below.refl _ _) own9 gr9 (by omega)); clear own9 gr9 q0 q1 q2 q3 q4 q5 q6 q7 q8 sl src; obtain ⟨q0, q1, q2, q3, q4, q5, q6, q7, q8⟩ := S.out.cells; simp only at q0 q1 q2 q3 q4 q5; have sl := S.out.lt) | (at_builtin; refine wpList_cat rfl _ _ rfl w.heap.size _ _ _ [11] rfl (S.out.own.alloc _) rfl (one_BS _ 11 (by omega)) (by have := S.out.len; simp; omega) (by have := S.out.bel.size; simp; omega) ?_; intro v9 w9 own9 gr9; replace S := Lib.hid (S.out.put (m := 260001) (alloc_bel _ _) own9 gr9 (by simp)); clear own9 gr9 q0 q1 q2 q3 q4 q5 q6 q7 q8 sl; obtain ⟨q0, q1, q2, q3, q4, q5, q6, q7, q8⟩ := S.out.cells; simp only at q0 q1 q2 q3 q4 q5; have sl := S.out.lt))
          exact fin.out _ _ _ _ S.out (by rw [hst.out, htl.out]; simp [M.U_nat, M.enc, M.U, M.S])
      · have hf := M.flat_to hk hfl.out
        have hqx2 := (show M.inR ix from hf.2)
        obtain ⟨x2, rfl⟩ := Int.eq_ofNat_of_zero_le (show 0 ≤ ix from hqx2.1)
        have hx2 : x2 < 4294967296 := by have := hqx2.2; omega
        clear hqx2
        have htl := Lib.hid (show M.tailOf ⟨(x0 : Nat), ty, (x2 : Nat), al, ofs, val, labels⟩ b e = M.U (x2 : Nat) by rw [M.tail_of hk]; rfl)
        replace hk := Lib.hid hk
        clear hf
        refine (shape_is _ 3 _ hk.out).mono ?_
        rintro e1 w1 ⟨rfl, rfl⟩
        go_wp2_with fail
        refine (short_any x2 _ (by omega)).mono ?_
        rintro e9 w9 ⟨u9, rfl, o9, b9⟩
        have hcl : (M.putU 10 x2).length ≤ 11 := (M.putU_length 10 x2).2
        have src := Lib.hid (own_BS o9 (M.putU_lt 10 x2))
        replace S := Lib.hid (S.out.call b9)
        clear o9 b9 q0 q1 q2 q3 q4 q5 q6 q7 q8 sl
        obtain ⟨q0, q1, q2, q3, q4, q5, q6, q7, q8⟩ := S.out.cells
        simp only at q0 q1 q2 q3 q4 q5
        have sl := S.out.lt
        go_wp2_with (first | (at_builtin; refine wpList_cat rfl _ _ rfl w.heap.size _ _ _ _ rfl S.out.own rfl src.out (by have := S.out.len; omega) S.out.bel.size ?_; intro v9 w9 own9 gr9; replace S := Lib.hid (S.out.put (m := 80012) (Below.refl _ _) own9 gr9 (by omega)); clear own9 gr9 q0 q1 q2 q3 q4 q5 q6 q7 q8 sl src; obtain ⟨q0, q1, q2, q3, q4, q5, q6, q7, q8⟩ := S.out.cells; simp only at q0 q1 q2 q3 q4 q5; have sl := S.out.lt))
        exact fin.out _ _ _ _ S.out (by rw [hst.out, htl.out]; simp [M.U_nat, M.enc, M.U, M.S])
      · have hf := M.flat_to hk hfl.out
        have hqx2 := (show M.inR ix from hf.2.1)
        obtain ⟨x2, rfl⟩ := Int.eq_ofNat_of_zero_le (show 0 ≤ ix from hqx2.1)
        have hx2 : x2 < 4294967296 := by have := hqx2.2; omega
        clear hqx2
        have hlab : ∀ y ∈ labels, M.inR y := hf.2.2
        replace hlab := Lib.hid hlab
        have htl := Lib.hid (show M.tailOf ⟨(x0 : Nat), ty, (x2 : Nat), al, ofs, val, labels⟩ b e = M.U labels.length ++ M.Us labels ++ M.U (x2 : Nat) by rw [M.tail_of hk]; rfl)
        replace hk := Lib.hid hk
        clear hf
        refine (shape_is _ 4 _ hk.out).mono ?_
        rintro e1 w1 ⟨rfl, rfl⟩
        go_wp2_with fail
        refine (short_any nL _ (by omega)).mono ?_
        rintro e9 w9 ⟨u9, rfl, o9, b9⟩
        have hcl : (M.putU 10 nL).length ≤ 11 := (M.putU_length 10 nL).2
        have src := Lib.hid (own_BS o9 (M.putU_lt 10 nL))
        replace S := Lib.hid (S.out.call b9)
        clear o9 b9 q0 q1 q2 q3 q4 q5 q6 q7 q8 sl
        obtain ⟨q0, q1, q2, q3, q4, q5, q6, q7, q8⟩ := S.out.cells
        simp only at q0 q1 q2 q3 q4 q5
        have sl := S.out.lt
        go_wp2_with (first | (at_builtin; refine wpList_cat rfl _ _ rfl w.heap.size _ _ _ _ rfl S.out.own rfl src.out (by have := S.out.len; omega) S.out.bel.size ?_; intro v9 w9 own9 gr9; replace S := Lib.hid (S.out.put (m := 80012) (Below.refl _ _) own9 gr9 (by omega)); clear own9 gr9 q0 q1 q2 q3 q4 q5 q6 q7 q8 sl src; obtain ⟨q0, q1, q2, q3, q4, q5, q6, q7, q8⟩ := S.out.cells; simp only at q0 q1 q2 q3 q4 q5; have sl := S.out.lt))
        obtain ⟨wo, rfl⟩ : ∃ wo, wo = wr := ⟨wr, rfl⟩
        obtain ⟨out1, hout1⟩ : ∃ o1, o1 = (M.enc (M.L.take k l) ++ [x0]) ++ M.putU 10 nL := ⟨_, rfl⟩
        rw [← hout1] at S
        have hUL := M.Us_len labels
        rw [← hnL.out] at hUL
        go_loopw [3, 6] (fun b' i w' => ∃ j : Nat, j ≤ nL ∧ i = .int .i64 j ∧ BSt w w' b' (out1 ++ M.Us (labels.take j)) (80012 + 11 * j) wo.heap.size ⟨(x0 : Nat), ty, (x2 : Nat), al, ofs, val, labels⟩ (.slice AL nL cL) (.slice AB b.len cB) (.slice AE e.len cE)) (fun _ i _ => nL - (intOf i).toNat)
        case atStart => exact ⟨0, by omega, rfl, by simpa [M.Us] using S.out⟩
        case round =>
          obtain ⟨j, hj, rfl, S'⟩ := hrel
          clear q0 q1 q2 q3 q4 q5 q6 q7 q8 sl S
          have S := Lib.hid S'
          clear S'
          obtain ⟨q0, q1, q2, q3, q4, q5, q6, q7, q8⟩ := S.out.cells
          simp only at q0 q1 q2 q3 q4 q5
          have sl := S.out.lt
          by_cases hjl : j < nL
          · obtain ⟨AL', cL', eL, _, hLx⟩ := HL.out
            obtain ⟨ad, eA, hSb, _, hcl9⟩ := hLx j (by rw [← hnL.out]; exact hjl)
            have eA0 : AL = AL' := by injection eL
            rw [← eA0] at eA
            subst eA
            clear eL eA0
            have hyj := hlab.out (labels.getD j 0) (getD_mem (by rw [← hnL.out]; exact hjl))
            obtain ⟨xj, hxj⟩ := Int.eq_ofNat_of_zero_le hyj.1
            have hxj2 : xj < 4294967296 := by have := hyj.2; omega
            have hus := Lib.hid (show M.Us (labels.take (j + 1)) = M.Us (labels.take j) ++ M.putU 10 xj by rw [M.Us_take labels j (by rw [← hnL.out]; exact hjl), hxj, M.U_nat])
            rw [hxj] at hcl9
            have qc : wr.cell? (ad.add j) = some (.int .i64 (xj : Nat)) := by rw [S.out.bel.cell (by rw [addr_block]; exact hSb)]; exact hcl9
            have t0j : (0 : Int) ≤ (j : Int) := by omega
            have t1j : (j : Int) < (nL : Int) := by omega
            replace hxj := Lib.hid hxj
            clear hLx hcl9 hyj
            go_wp2_with fail
            refine (short_any xj _ (by omega)).mono ?_
            rintro e9 w9 ⟨u9, rfl, o9, b9⟩
            have hcl : (M.putU 10 xj).length ≤ 11 := (M.putU_length 10 xj).2
            have src := Lib.hid (own_BS o9 (M.putU_lt 10 xj))
            replace S := Lib.hid (S.out.call b9)
            clear o9 b9 q0 q1 q2 q3 q4 q5 q6 q7 q8 sl
            obtain ⟨q0, q1, q2, q3, q4, q5, q6, q7, q8⟩ := S.out.cells
            simp only at q0 q1 q2 q3 q4 q5
            have sl := S.out.lt
            go_wp2_with (first | (at_builtin; refine wpList_cat rfl _ _ rfl w.heap.size _ _ _ _ rfl S.out.own rfl src.out (by have := S.out.len; omega) S.out.bel.size ?_; intro v9 w9 own9 gr9; replace S := Lib.hid (S.out.put (m := (80012 + 11 * (j + 1))) (Below.refl _ _) own9 gr9 (by omega)); clear own9 gr9 q0 q1 q2 q3 q4 q5 q6 q7 q8 sl src; obtain ⟨q0, q1, q2, q3, q4, q5, q6, q7, q8⟩ := S.out.cells; simp only at q0 q1 q2 q3 q4 q5; have sl := S.out.lt))
            exact ⟨⟨j + 1, by omega, by go_num, by rw [hus.out, ← List.append_assoc]; exact S.out⟩, by simp [intOf]; omega⟩
          · have tj : decide ((j : Int) < (nL : Int)) = false := by simp; omega
            have htkl : labels.take j = labels := by rw [show j = labels.length by rw [← hnL.out]; omega]; exact List.take_length
            rw [htkl] at S
            replace htkl := Lib.hid htkl
            go_wp2_with fail
            refine (short_any x2 _ (by omega)).mono ?_
            rintro e9 w9 ⟨u9, rfl, o9, b9⟩
            have hcl : (M.putU 10 x2).length ≤ 11 := (M.putU_length 10 x2).2
            have src := Lib.hid (own_BS o9 (M.putU_lt 10 x2))
            replace S := Lib.hid (S.out.call b9)
            clear o9 b9 q0 q1 q2 q3 q4 q5 q6 q7 q8 sl
            obtain ⟨q0, q1, q2, q3, q4, q5, q6, q7, q8⟩ := S.out.cells
            simp only at q0 q1 q2 q3 q4 q5
            have sl := S.out.lt
            go_wp2_with (first | (at_builtin; refine wpList_cat rfl _ _ rfl w.heap.size _ _ _ _ rfl S.out.own rfl src.out (by have := S.out.len; omega) S.out.bel.size ?_; intro v9 w9 own9 gr9; replace S := Lib.hid (S.out.put (m := 200000) (Below.refl _ _) own9 gr9 (by omega)); clear own9 gr9 q0 q1 q2 q3 q4 q5 q6 q7 q8 sl src; obtain ⟨q0, q1, q2, q3, q4, q5, q6, q7, q8⟩ := S.out.cells; simp only at q0 q1 q2 q3 q4 q5; have sl := S.out.lt))
            exact fin.out _ _ _ _ S.out (by rw [hst.out, htl.out, hout1, hnL.out]; simp [M.U_nat, M.U])
      · have hf := M.flat_to hk hfl.out
        have hqx2 := (show M.inR ix from hf.2)
        obtain ⟨x2, rfl⟩ := Int.eq_ofNat_of_zero_le (show 0 ≤ ix from hqx2.1)
        have hx2 : x2 < 4294967296 := by have := hqx2.2; omega
        clear hqx2
        have htl := Lib.hid (show M.tailOf ⟨(x0 : Nat), ty, (x2 : Nat), al, ofs, val, labels⟩ b e = M.U (x2 : Nat) ++ [0] by rw [M.tail_of hk]; rfl)
        replace hk := Lib.hid hk
        clear hf
        refine (shape_is _ 5 _ hk.out).mono ?_
        rintro e1 w1 ⟨rfl, rfl⟩
        go_wp2_with fail
        refine (short_any x2 _ (by omega)).mono ?_
        rintro e9 w9 ⟨u9, rfl, o9, b9⟩
        have hcl : (M.putU 10 x2).length ≤ 11 := (M.putU_length 10 x2).2
        have src := Lib.hid (own_BS o9 (M.putU_lt 10 x2))
        replace S := Lib.hid (S.out.call b9)
        clear o9 b9 q0 q1 q2 q3 q4 q5 q6 q7 q8 sl
        obtain ⟨q0, q1, q2, q3, q4, q5, q6, q7, q8⟩ := S.out.cells
        simp only at q0 q1 q2 q3 q4 q5
        have sl := S.out.lt
        go_wp2_with (first | (at_builtin; refine wpList_cat rfl _ _ rfl w.heap.size _ _ _ _ rfl S.out.own rfl src.out (by have := S.out.len; omega) S.out.bel.size ?_; intro v9 w9 own9 gr9; replace S := Lib.hid (S.out.put (m := 80012) (Below.refl _ _) own9 gr9 (by omega)); clear own9 gr9 q0 q1 q2 q3 q4 q5 q6 q7 q8 sl src; obtain ⟨q0, q1, q2, q3, q4, q5, q6, q7, q8⟩ := S.out.cells; simp only at q0 q1 q2 q3 q4 q5; have sl := S.out.lt) | (at_builtin; refine wpList_cat rfl _ _ rfl w.heap.size _ _ _ [0] rfl (S.out.own.alloc _) rfl (one_BS _ 0 (by omega)) (by have := S.out.len; simp; omega) (by have := S.out.bel.size; simp; omega) ?_; intro v9 w9 own9 gr9; replace S := Lib.hid (S.out.put (m := 80013) (alloc_bel _ _) own9 gr9 (by simp)); clear own9 gr9 q0 q1 q2 q3 q4 q5 q6 q7 q8 sl; obtain ⟨q0, q1, q2, q3, q4, q5, q6, q7, q8⟩ := S.out.cells; simp only at q0 q1 q2 q3 q4 q5; have sl := S.out.lt))
        exact fin.out _ _ _ _ S.out (by rw [hst.out, htl.out]; simp [M.U_nat, M.enc, M.U, M.S])
      · have hf := M.flat_to hk hfl.out
        have hqx3 := (show M.inR al from hf.2.1)
        obtain ⟨x3, rfl⟩ := Int.eq_ofNat_of_zero_le (show 0 ≤ al from hqx3.1)
        have hx3 : x3 < 4294967296 := by have := hqx3.2; omega
        clear hqx3
        have hqx4 := (show M.inR ofs from hf.2.2)
        obtain ⟨x4, rfl⟩ := Int.eq_ofNat_of_zero_le (show 0 ≤ ofs from hqx4.1)
        have hx4 : x4 < 4294967296 := by have := hqx4.2; omega
        clear hqx4
        have htl := Lib.hid (show M.tailOf ⟨(x0 : Nat), ty, ix, (x3 : Nat), (x4 : Nat), val, labels⟩ b e = M.U (x3 : Nat) ++ M.U (x4 : Nat) by rw [M.tail_of hk]; rfl)
        replace hk := Lib.hid hk
        clear hf
        refine (shape_is _ 6 _ hk.out).mono ?_
        rintro e1 w1 ⟨rfl, rfl⟩
        go_wp2_with fail
        refine (short_any x3 _ (by omega)).mono ?_
        rintro e9 w9 ⟨u9, rfl, o9, b9⟩
        have hcl : (M.putU 10 x3).length ≤ 11 := (M.putU_length 10 x3).2
        have src := Lib.hid (own_BS o9 (M.putU_lt 10 x3))
        replace S := Lib.hid (S.out.call b9)
        clear o9 b9 q0 q1 q2 q3 q4 q5 q6 q7 q8 sl
        obtain ⟨q0, q1, q2, q3, q4, q5, q6, q7, q8⟩ := S.out.cells
        simp only at q0 q1 q2 q3 q4 q5
        have sl := S.out.lt
        go_wp2_with (first | (at_builtin; refine wpList_cat rfl _ _ rfl w.heap.size _ _ _ _ rfl S.out.own rfl src.out (by have := S.out.len; omega) S.out.bel.size ?_; intro v9 w9 own9 gr9; replace S := Lib.hid (S.out.put (m := 80012) (Below.refl _ _) own9 gr9 (by omega)); clear own9 gr9 q0 q1 q2 q3 q4 q5 q6 q7 q8 sl src; obtain ⟨q0, q1, q2, q3, q4, q5, q6, q7, q8⟩ := S.out.cells; simp only at q0 q1 q2 q3 q4 q5; have sl := S.out.lt))
        refine (short_any x4 _ (by omega)).mono ?_
        rintro e9 w9 ⟨u9, rfl, o9, b9⟩
        have hcl : (M.putU 10 x4).length ≤ 11 := (M.putU_length 10 x4).2
        have src := Lib.hid (own_BS o9 (M.putU_lt 10 x4))
        replace S := Lib.hid (S.out.call b9)
        clear o9 b9 q0 q1 q2 q3 q4 q5 q6 q7 q8 sl
        obtain ⟨q0, q1, q2, q3, q4, q5, q6, q7, q8⟩ := S.out.cells
        simp only at q0 q1 q2 q3 q4 q5
        have sl := S.out.lt
        go_wp2_with (first | (at_builtin; refine wpList_cat rfl _ _ rfl w.heap.size _ _ _ _ rfl S.out.own rfl src.out (by have := S.out.len; omega) S.out.bel.size ?_; intro v9 w9 own9 gr9; replace S := Lib.hid (S.out.put (m := 80023) (Below.refl _ _) own9 gr9 (by omega)); clear own9 gr9 q0 q1 q2 q3 q4 q5 q6 q7 q8 sl src; obtain ⟨q0, q1, q2, q3, q4, q5, q6, q7, q8⟩ := S.out.cells; simp only at q0 q1 q2 q3 q4 q5; have sl := S.out.lt))
        exact fin.out _ _ _ _ S.out (by rw [hst.out, htl.out]; simp [M.U_nat, M.enc, M.U, M.S])
      · have hf := M.flat_to hk hfl.out
        skip
        have htl := Lib.hid (show M.tailOf ⟨(x0 : Nat), ty, ix, al, ofs, val, labels⟩ b e = [0] by rw [M.tail_of hk]; rfl)
        replace hk := Lib.hid hk
        clear hf
        refine (shape_is _ 7 _ hk.out).mono ?_
        rintro e1 w1 ⟨rfl, rfl⟩
        go_wp2_with (first | (at_builtin; refine wpList_cat rfl _ _ rfl w.heap.size _ _ _ [0] rfl (S.out.own.alloc _) rfl (one_BS _ 0 (by omega)) (by have := S.out.len; simp; omega) (by have := S.out.bel.size; simp; omega) ?_; intro v9 w9 own9 gr9; replace S := Lib.hid (S.out.put (m := 80002) (alloc_bel _ _) own9 gr9 (by simp)); clear own9 gr9 q0 q1 q2 q3 q4 q5 q6 q7 q8 sl; obtain ⟨q0, q1, q2, q3, q4, q5, q6, q7, q8⟩ := S.out.cells; simp only at q0 q1 q2 q3 q4 q5; have sl := S.out.lt))
        exact fin.out _ _ _ _ S.out (by rw [hst.out, htl.out]; simp [M.U_nat, M.enc, M.U, M.S])
      · have hf := M.flat_to hk hfl.out
        skip
        have htl := Lib.hid (show M.tailOf ⟨(x0 : Nat), ty, ix, al, ofs, val, labels⟩ b e = M.S val by rw [M.tail_of hk]; rfl)
        replace hk := Lib.hid hk
        clear hf
        refine (shape_is _ 8 _ hk.out).mono ?_
        rintro e1 w1 ⟨rfl, rfl⟩
        go_wp2_with fail
        refine (rPutSint_any val _ (by omega)).mono ?_
        rintro e9 w9 ⟨u9, rfl, o9, b9⟩
        have hcl : (M.putS 10 val).length ≤ 11 := (M.putS_length 10 val).2
        have src := Lib.hid (own_BS o9 (M.putS_lt 10 val))
        replace S := Lib.hid (S.out.call b9)
        clear o9 b9 q0 q1 q2 q3 q4 q5 q6 q7 q8 sl
        obtain ⟨q0, q1, q2, q3, q4, q5, q6, q7, q8⟩ := S.out.cells
        simp only at q0 q1 q2 q3 q4 q5
        have sl := S.out.lt
        go_wp2_with (first | (at_builtin; refine wpList_cat rfl _ _ rfl w.heap.size _ _ _ _ rfl S.out.own rfl src.out (by have := S.out.len; omega) S.out.bel.size ?_; intro v9 w9 own9 gr9; replace S := Lib.hid (S.out.put (m := 80012) (Below.refl _ _) own9 gr9 (by omega)); clear own9 gr9 q0 q1 q2 q3 q4 q5 q6 q7 q8 sl src; obtain ⟨q0, q1, q2, q3, q4, q5, q6, q7, q8⟩ := S.out.cells; simp only at q0 q1 q2 q3 q4 q5; have sl := S.out.lt))
        exact fin.out _ _ _ _ S.out (by rw [hst.out, htl.out]; simp [M.U_nat, M.enc, M.U, M.S])
      · have hf := M.flat_to hk hfl.out
        skip
        have htl := Lib.hid (show M.tailOf ⟨(x0 : Nat), ty, ix, al, ofs, val, labels⟩ b e = M.S val by rw [M.tail_of hk]; rfl)
        replace hk := Lib.hid hk
        clear hf
        refine (shape_is _ 9 _ hk.out).mono ?_
        rintro e1 w1 ⟨rfl, rfl⟩
        go_wp2_with fail
        refine (rPutSint_any val _ (by omega)).mono ?_
        rintro e9 w9 ⟨u9, rfl, o9, b9⟩
        have hcl : (M.putS 10 val).length ≤ 11 := (M.putS_length 10 val).2
        have src := Lib.hid (own_BS o9 (M.putS_lt 10 val))
        replace S := Lib.hid (S.out.call b9)
        clear o9 b9 q0 q1 q2 q3 q4 q5 q6 q7 q8 sl
        obtain ⟨q0, q1, q2, q3, q4, q5, q6, q7, q8⟩ := S.out.cells
        simp only at q0 q1 q2 q3 q4 q5
        have sl := S.out.lt
        go_wp2_with (first | (at_builtin; refine wpList_cat rfl _ _ rfl w.heap.size _ _ _ _ rfl S.out.own rfl src.out (by have := S.out.len; omega) S.out.bel.size ?_; intro v9 w9 own9 gr9; replace S := Lib.hid (S.out.put (m := 80012) (Below.refl _ _) own9 gr9 (by omega)); clear own9 gr9 q0 q1 q2 q3 q4 q5 q6 q7 q8 sl src; obtain ⟨q0, q1, q2, q3, q4, q5, q6, q7, q8⟩ := S.out.cells; simp only at q0 q1 q2 q3 q4 q5; have sl := S.out.lt))
        exact fin.out _ _ _ _ S.out (by rw [hst.out, htl.out]; simp [M.U_nat, M.enc, M.U, M.S])
    · have hta := Lib.hid (show M.L.take k l = l from M.take_all l (by rw [← hn.out]; omega))
      have tlt : decide ((k : Int) < (n : Int)) = false := by simp; omega
      rw [hta.out] at own
      replace own := Lib.hid own
      replace hb := Lib.hid hb
      go_wp2_with fail
      go_ret
      exact ⟨_, rfl, own.out, hb.out⟩
theorem pbody_any : ∀ N, BodyOk N := by
  intro N
  induction N with
  | zero => intro l v w d h; omega
  | succ N ih => exact pbody_of N ih
end Go.Proofs.Ytjapcalndolamaa
