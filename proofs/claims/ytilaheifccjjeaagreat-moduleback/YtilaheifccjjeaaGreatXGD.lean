/-
  The ground of the proofs of this seat, put together: XText, XNum, XName, Small2, Chk, Chk2, Chk3, Parts. No condition beyond what each text names.
-/
import Derived.Lib.ConvBytes
import Derived.Test.YtilaheifccjjeaaGreatXGB
import Derived.Test.YtilaheifccjjeaaGreatXGC
import Derived.Test.YtilaheifccjjeaaGreatXGA
namespace Go.Proofs.YtilaheifccjjeaaGreat
open Go.RowKit
theorem x_form {w : World} {b e s k : Nat} {v : Value} {xs : List Value} (h : w.ownsRow b e s v k xs) : ∃ A c, v = .slice A k c ∧ k ≤ c ∧ c ≤ maxLen := by
  rcases h.2 with ⟨rfl, rfl⟩ | ⟨g, cap, cur, rfl, _, _, h1, h2, _⟩
  · exact ⟨none, 0, rfl, Nat.le_refl _, by unfold maxLen; omega⟩
  · exact ⟨_, _, rfl, h1, h2⟩
theorem x_obj {w : World} {b n q : Nat} {v : Value} {xs : List Value} (h : w.ownsRow b 5 1 v n xs) (hq : v.ownBlock = some q) : ∃ cur, w.heap[q]? = some (.cells cur 5 (0, 0)) := by
  rcases h.2 with ⟨rfl, _⟩ | ⟨g, cap, cur, rfl, _, h2, _⟩
  · cases hq
  · cases hq
    exact ⟨cur, h2⟩
theorem x_agree {w w' : World} {base t size : Nat} {v : Value} {n : Nat} {xs : List Value} (h : w.ownsRow base t size v n xs) (ha : ∀ k, v.ownBlock = some k → w'.heap[k]? = w.heap[k]?) : w'.ownsRow base t size v n xs := by
  refine ⟨h.1, ?_⟩
  rcases h.2 with hn | ⟨g, cap, cur, rfl, h1, h2, h3⟩
  · exact .inl hn
  · exact .inr ⟨g, cap, cur, rfl, h1, by rw [ha g rfl]; exact h2, h3⟩
theorem x_ne {w : World} {b n P : Nat} {v : Value} {xs : List Value} {cs : Array Value} (h : w.ownsRow b 5 1 v n xs) (h1 : w.heap[P]? = some (.cells cs 89 (0, 0))) : v.ownBlock ≠ some P := fun e => by
  obtain ⟨cur, hc⟩ := x_obj h e
  rw [h1] at hc
  injection hc with hc
  injection hc with _ hc
  exact absurd hc (by decide)
/-- What has been written so far: the text's one cell, and its row. -/
structure MTx (B : Nat) (w : World) (P : Nat) (out : List Nat) : Prop where
  ex : ∃ v, w.heap[P]? = some (.cells #[v] 89 (0, 0)) ∧ w.ownsRow B 5 1 v out.length (vals out)
  hB : B ≤ P
  len : out.length ≤ 65536
  rng : ∀ b ∈ out, b < 256
theorem MTx.lt {B : Nat} {w : World} {P : Nat} {out : List Nat} (h : MTx B w P out) : P < w.heap.size := by
  obtain ⟨v, h1, _⟩ := h.ex
  exact (Array.getElem?_eq_some_iff.1 h1).1
theorem MTx.later {B : Nat} {w w' : World} {P : Nat} {out : List Nat} (h : MTx B w P out) (hb : Below w.heap.size w w') : MTx B w' P out := by
  obtain ⟨v, h1, h2⟩ := h.ex
  exact ⟨⟨v, by rw [hb.block P h.lt]; exact h1, own_later h2 hb⟩, h.hB, h.len, h.rng⟩
/-- The text's own blocks: its cell's, its row's. -/
def TB (w : World) (P k : Nat) : Prop := k = P ∨ ∃ v, w.cell? ⟨P, 0, none⟩ = some v ∧ v.ownBlock = some k
/-- Nothing but the text's own blocks has turned; its row is where it was, or in a new block. -/
structure Wro (P : Nat) (w w' : World) : Prop where
  kb : Kb (TB w P) w w'
  nw : ∀ k, TB w' P k → TB w P k ∨ w.heap.size ≤ k
theorem Wro.refl (P : Nat) (w : World) : Wro P w w := ⟨Kb.refl _ _, fun _ h => .inl h⟩
theorem Wro.trans {P : Nat} {a b c : World} (h : Wro P a b) (k : Wro P b c) : Wro P a c := by
  refine ⟨⟨k.kb.os.trans h.kb.os, k.kb.tape.trans h.kb.tape, k.kb.output.trans h.kb.output, Nat.le_trans h.kb.size k.kb.size, fun i hi ht => ?_⟩, fun j hj => ?_⟩
  · rw [k.kb.block i (Nat.lt_of_lt_of_le hi h.kb.size) (fun h2 => (h.nw i h2).elim ht (fun h3 => by omega)), h.kb.block i hi ht]
  · rcases k.nw j hj with h1 | h1
    · exact h.nw j h1
    · exact .inr (Nat.le_trans h.kb.size h1)
theorem Wro.ofBelow {P : Nat} {w w' : World} (hP : P < w.heap.size) (hb : Below w.heap.size w w') : Wro P w w' :=
  ⟨Kb.of_below hb, fun k hk => .inl (by
    rcases hk with hk | ⟨v, h1, h2⟩
    · exact .inl hk
    · exact .inr ⟨v, (hb.cell (p := ⟨P, 0, none⟩) hP).symm.trans h1, h2⟩)⟩
theorem MTx.tb {B : Nat} {w : World} {P : Nat} {out : List Nat} (h : MTx B w P out) (k : Nat) (hk : TB w P k) : B ≤ k ∧ k < w.heap.size := by
  obtain ⟨v, h1, h2⟩ := h.ex
  rcases hk with rfl | ⟨u, h3, h4⟩
  · exact ⟨h.hB, h.lt⟩
  · have h5 : w.cell? ⟨P, 0, none⟩ = some v := by rw [cell_of_row w P 0 _ _ (0, 0) h1]; rfl
    rw [h5] at h3
    injection h3 with h3
    subst h3
    exact h2.lt k h4
theorem Wro.below {B : Nat} {w w' : World} {P : Nat} {out : List Nat} (h : Wro P w w') (t : MTx B w P out) : Below B w w' :=
  ⟨h.kb.os, h.kb.tape, h.kb.output, h.kb.size, fun k hk => h.kb.block k (by have := t.lt; have := t.hB; omega) (fun h2 => by have := (t.tb k h2).1; omega)⟩
/-- What a writer answers: it has written ys if that may be and there is room; else false. -/
def WrPost (B P : Nat) (out : List Nat) (ok : Prop) (ys : List Nat) (w : World) (e : Ending) (w' : World) : Prop :=
  (ok ∧ out.length + ys.length ≤ 65536 ∧ e = .returned (.bool true) ∧ MTx B w' P (out ++ ys) ∧ Wro P w w') ∨
  (¬ (ok ∧ out.length + ys.length ≤ 65536) ∧ e = .returned (.bool false) ∧ Wro P w w')
set_option maxRecDepth 100000 in
theorem run_catx (w : World) (base ty : Nat) (v vs : Value) (bs cs : List Nat) (hown : w.ownsRow base 5 1 v bs.length (vals bs)) (hA : BS w w.heap.size vs cs)
    (h63 : bs.length + cs.length ≤ 140737488355328) (hbase : base ≤ w.heap.size) :
    ∃ v' w', (Builtin.append_ #[33, 33] ty #[v, vs]).run Tryz.prog w = .ok v' w' ∧ w'.ownsRow base 5 1 v' (bs ++ cs).length (vals (bs ++ cs)) ∧ w.grownBy w' v.ownBlock ∧ (v'.ownBlock = v.ownBlock ∨ v'.ownBlock = some w.heap.size) := by
  obtain ⟨i0, hi0, hz0, hz1, hz2⟩ := info_parts u8_info
  obtain ⟨A, c, rfl, _, _, hB⟩ := hA
  rw [List.length_append, vals_append]
  rcases A with _ | ad
  · have hm : cs = [] := by
      cases cs with
      | nil => rfl
      | cons y r =>
        obtain ⟨ad, h, _⟩ := hB 0 (by simp)
        cases h
    subst hm
    exact ⟨v, w, run_nil_source w base 33 ty 5 i0 1 Tryz.underlying33 hi0 v _ _ hown c, by simpa [vals] using hown, World.grownBy.refl w _, .inl rfl⟩
  · obtain ⟨v', w', h1, h2, h3, _, h4⟩ := run_append_own_at (P := Tryz.prog) w base 33 ty 5 i0 _ 1 1 Tryz.underlying33 hi0 hz0 hz1 hz2 rfl (by omega) v bs.length (vals bs) hown ad cs.length c (vals cs)
      (by rw [vals_length]; omega) (fun j u hu => by
        have hj : j < cs.length := by
          have := (List.getElem?_eq_some_iff.1 hu).1
          rwa [vals_length] at this
        obtain ⟨ad', e, _, _, hc⟩ := hB j hj
        injection e with e
        subst e
        rw [hc, ← hu, getD_vals _ _ hj]) (vals_one _) (by unfold maxLen; omega) (by omega) hbase
    exact ⟨v', w', h1, h2, h3, h4⟩
theorem step_catx {ops : Array Oper} {o : Oper} {a : Act} {w : World} {K : Act → World → Prop} {Q : Exit → Act → World → Prop} {E : Prop} (hgd : o.guard = none) (s x : Operand)
    (ho : o.op = .call { callee := .builtin .append, args := #[s, x], argTypes := #[33, 33] }) (base : Nat) (v vs : Value) (bs cs : List Nat) (hs : a.eval s = v) (hown : w.ownsRow base 5 1 v bs.length (vals bs))
    (hx : a.eval x = vs) (hA : BS w w.heap.size vs cs) (h63 : bs.length + cs.length ≤ 140737488355328) (hbase : base ≤ w.heap.size)
    (h : ∀ v' w', w'.ownsRow base 5 1 v' (bs ++ cs).length (vals (bs ++ cs)) → w.grownBy w' v.ownBlock → (v'.ownBlock = v.ownBlock ∨ v'.ownBlock = some w.heap.size) → K (a.put o.dst v') w') :
    if Region.wanted o (yielded ops a.tmps) = true then Oper.wp Tryz.prog o a w K Q else E := by
  have hw : Region.wanted o (yielded ops a.tmps) = true := by simp [Region.wanted, hgd]
  rw [if_pos hw]
  obtain ⟨v', w', hr, h2, h3, h4⟩ := run_catx w base o.type v vs bs cs hown hA h63 hbase
  unfold Oper.wp execOp
  simp only [ho, resolve, invoke, builtin, Sem.run_bind, Sem.run_pure, Result.andThen_ok, List.map_toArray, List.map_cons, List.map_nil, hs, hx, hr]
  exact h v' w' h2 h3 h4
theorem wpList_catx {ops : Array Oper} {o : Oper} {rest : List Oper} {a : Act} {w : World} {Q : Exit → Act → World → Prop} (hgd : o.guard = none) (s x : Operand)
    (ho : o.op = .call { callee := .builtin .append, args := #[s, x], argTypes := #[33, 33] }) (base : Nat) (v vs : Value) (bs cs : List Nat) (hs : a.eval s = v) (hown : w.ownsRow base 5 1 v bs.length (vals bs))
    (hx : a.eval x = vs) (hA : BS w w.heap.size vs cs) (h63 : bs.length + cs.length ≤ 140737488355328) (hbase : base ≤ w.heap.size)
    (h : ∀ v' w', w'.ownsRow base 5 1 v' (bs ++ cs).length (vals (bs ++ cs)) → w.grownBy w' v.ownBlock → (v'.ownBlock = v.ownBlock ∨ v'.ownBlock = some w.heap.size) → wpList Tryz.prog ops Q rest (a.put o.dst v') w') :
    wpList Tryz.prog ops Q (o :: rest) a w :=
  wpList_plain hgd fun K hK => by
    have := step_catx (ops := ops) (K := K) (Q := Q) (E := True) hgd s x ho base v vs bs cs hs hown hx hA h63 hbase (fun v' w' h2 h3 h4 => hK _ _ (h v' w' h2 h3 h4))
    have hw : Region.wanted o (yielded ops a.tmps) = true := by simp [Region.wanted, hgd]
    rwa [if_pos hw] at this
theorem troom_any (B : Nat) (w : World) (P : Nat) (out : List Nat) (h : MTx B w P out) :
    Calls Tryz.prog 92 #[.pointer (some ⟨P, 0, none⟩)] w fun e w' => e = .returned (.int .i64 (65536 - (out.length : Int))) ∧ w' = w := by
  obtain ⟨⟨v, h1, h2⟩, h3, h4, h5⟩ := h
  obtain ⟨A, c, rfl, _⟩ := x_form h2
  have c0 : w.cell? ⟨P, 0, none⟩ = some (.slice A out.length c) := by rw [cell_of_row w P 0 _ _ (0, 0) h1]; rfl
  clear h1 h2
  obtain ⟨n, hn⟩ : ∃ n, n = out.length := ⟨_, rfl⟩
  rw [← hn] at c0 h4 ⊢
  clear hn h5
  go_enter Tryz.func92, Tryz.ntmps92
  go_wp2_with fail
  go_ret
  exact ⟨rfl, rfl⟩
set_option maxRecDepth 100000 in
theorem tput_any (B : Nat) (w : World) (P : Nat) (out xs : List Nat) (u : Value) (h : MTx B w P out) (hu : BS w w.heap.size u xs) (hx : xs.length ≤ 1000000000) :
    Calls Tryz.prog 64 #[.pointer (some ⟨P, 0, none⟩), u] w (WrPost B P out True xs w) := by
  have H := Lib.hid h
  have hP := h.lt
  obtain ⟨⟨v, h1, h2⟩, h3, h4, h5⟩ := h
  obtain ⟨A, c, rfl, _⟩ := x_form h2
  have c0 : w.cell? ⟨P, 0, none⟩ = some (.slice A out.length c) := by rw [cell_of_row w P 0 _ _ (0, 0) h1]; rfl
  obtain ⟨U, d, rfl, u1, u2, hU⟩ := hu
  have HU : BS w w.heap.size (.slice U xs.length d) xs := ⟨U, d, rfl, u1, u2, hU⟩
  replace HU := Lib.hid HU
  have hne := x_ne h2 h1
  replace h1 := Lib.hid h1
  replace h2 := Lib.hid h2
  replace hne := Lib.hid hne
  replace h5 := Lib.hid h5
  have hux := Lib.hid HU.out.lt
  clear hU
  by_cases hf : out.length + xs.length ≤ 65536
  · obtain ⟨L, hL⟩ : ∃ L, L = out.length := ⟨_, rfl⟩
    obtain ⟨X, hX⟩ : ∃ X, X = xs.length := ⟨_, rfl⟩
    rw [← hL] at c0
    have hfi : ¬ ((65536 : Int) - (L : Int) < (X : Int)) := by omega
    have e1 := Lib.hid hL
    have e2 := Lib.hid hX
    rw [← hX] at HU ⊢
    clear hL hX
    go_enter Tryz.func64, Tryz.ntmps64
    go_wp2_with (first
      | (go_at_call 92; refine (troom_any B _ P out H.out).mono ?_; rintro er wr ⟨rfl, rfl⟩; rw [← e1.out])
      | (at_builtin; refine wpList_catx rfl _ _ rfl B (.slice A L c) (.slice U X d) out xs rfl (by rw [e1.out]; exact h2.out) rfl HU.out (by omega) (by omega) ?_; intro v' w2 own2 gr2 at2; replace at2 := Lib.hid at2; obtain ⟨A2, c2, rfl, _⟩ := x_form own2; have q1 : w2.heap[P]? = some (.cells #[.slice A out.length c] 89 (0, 0)) := (gr2.block P hP (fun e => hne.out (by rw [e1.out] at e; exact e.symm))).trans h1.out; have q2 : w2.cell? ⟨P, 0, none⟩ = some (.slice A out.length c) := (by rw [cell_of_row w2 P 0 _ _ (0, 0) q1]; rfl); have q3 : w2.frozen? ⟨P, 0, none⟩ = false := frozen_of_row w2 P 0 _ _ q1; replace own2 := Lib.hid own2; replace gr2 := Lib.hid gr2; replace q1 := Lib.hid q1))
    go_ret
    rw [← List.length_append]
    refine .inl ⟨trivial, hf, rfl, ⟨⟨.slice A2 (out ++ xs).length c2, ?_, ?_⟩, h3, by rw [List.length_append]; exact hf, fun b hb => ?_⟩, ?_⟩
    · rw [heap_setCell_same _ P 0 _ _ _ q1.out]; rfl
    · exact x_agree own2.out fun k hk => Below.heap_setCell _ _ _ _ (fun e => by
        subst e
        exact x_ne own2.out q1.out hk)
    · rcases List.mem_append.1 hb with hb | hb
      · exact h5.out b hb
      · exact hux.out b hb
    · have c1 : ∀ k, Value.ownBlock (.slice A L c) = some k → TB wr P k := fun k hk => .inr ⟨_, c0, hk⟩
      refine ⟨Kb.setCell (p := ⟨P, 0, none⟩) ⟨gr2.out.os, gr2.out.tape, gr2.out.output, gr2.out.size, fun k hk hn => gr2.out.block k hk (fun e => hn (c1 k e.symm))⟩ (.inl rfl) _, fun k hk => ?_⟩
      rcases hk with hk | ⟨v9, hv9, hk⟩
      · exact .inl (.inl hk)
      · rw [World.cell?_setCell_same _ _ _ q2] at hv9
        injection hv9 with hv9
        subst hv9
        rcases at2.out with h7 | h7
        · exact .inl (c1 k (by rw [← h7]; exact hk))
        · rw [h7] at hk
          injection hk with hk
          exact .inr (by omega)
  · have hfi : ((65536 : Int) - (out.length : Int) < (xs.length : Int)) := by omega
    go_enter Tryz.func64, Tryz.ntmps64
    go_wp2_with (first
      | (go_at_call 92; refine (troom_any B _ P out H.out).mono ?_; rintro er wr ⟨rfl, rfl⟩))
    go_ret
    exact .inr ⟨fun hh => hf hh.2, rfl, Wro.refl _ _⟩
end Go.Proofs.YtilaheifccjjeaaGreat
namespace Go.Proofs.YtilaheifccjjeaaGreat
open Go.RowKit
theorem MTx.nn {B : Nat} {w : World} {P : Nat} {out : List Nat} (h : MTx B w P out) : B ≤ w.heap.size := by have := h.lt; have := h.hB; omega
/-- Two writers in a row. -/
theorem WrPost.then {B P : Nat} {out ya yb : List Nat} {A C : Prop} {w w1 w2 : World} {e : Ending} (h : A ∧ out.length + ya.length ≤ 65536) (b1 : Wro P w w1) (k : WrPost B P (out ++ ya) C yb w1 e w2) : WrPost B P out (A ∧ C) (ya ++ yb) w e w2 := by
  rcases k with ⟨hc, hf, he, t, b2⟩ | ⟨hn, he, b2⟩
  · rw [List.append_assoc] at t
    exact .inl ⟨⟨h.1, hc⟩, by rw [List.length_append] at *; omega, he, t, b1.trans b2⟩
  · exact .inr ⟨fun hh => hn ⟨hh.1.2, by have := hh.2; rw [List.length_append] at *; omega⟩, he, b1.trans b2⟩
/-- The first of two has failed. -/
theorem WrPost.stop {B P : Nat} {out ya yb : List Nat} {A C : Prop} {w w1 : World} (h : ¬ (A ∧ out.length + ya.length ≤ 65536)) (b1 : Wro P w w1) : WrPost B P out (A ∧ C) (ya ++ yb) w (.returned (.bool false)) w1 :=
  .inr ⟨fun hh => h ⟨hh.1.1, by have := hh.2; rw [List.length_append] at this; omega⟩, rfl, b1⟩
theorem WrPost.iff {B P : Nat} {out ys : List Nat} {A C : Prop} {w w1 : World} {e : Ending} (h : WrPost B P out A ys w e w1) (hi : A ↔ C) : WrPost B P out C ys w e w1 := by
  have : A = C := propext hi
  subst this
  exact h
set_option maxRecDepth 100000 in
theorem tnumb_any (B : Nat) (w : World) (P : Nat) (out : List Nat) (x : Int) (h : MTx B w P out) (hx : -9223372036854775808 ≤ x ∧ x ≤ 9223372036854775807) :
    Calls Tryz.prog 93 #[.pointer (some ⟨P, 0, none⟩), .int .i64 x] w (WrPost B P out (M.inR x) (M.U x) w) := by
  have hPl := h.lt
  replace h := Lib.hid h
  have hiff : M.inR x ↔ 0 ≤ x ∧ x < 4294967296 := by unfold M.inR; exact Iff.rfl
  replace hiff := Lib.hid hiff
  by_cases hr : 0 ≤ x ∧ x < 4294967296
  · obtain ⟨r0, r1⟩ := hr
    have hw : IntKind.u64.wrap x = x := by rw [IntKind.wrap_u64]; omega
    have hq : (x / 4294967296 == 0) = true := by simp; omega
    obtain ⟨n, rfl⟩ := Int.eq_ofNat_of_zero_le r0
    have hU : M.U (n : Int) = M.putU 10 n := by unfold M.U; rw [Int.toNat_natCast]
    have hlt := Lib.hid (M.putU_lt 10 n)
    have hle := (M.putU_length 10 n).2
    rw [hU]
    clear hU
    obtain ⟨ys, hys⟩ : ∃ ys, ys = M.putU 10 n := ⟨_, rfl⟩
    rw [← hys] at hlt hle ⊢
    replace hys := Lib.hid hys
    go_enter Tryz.func93, Tryz.ntmps93
    go_wp2_with fail
    refine (PutUint_any n w (by omega)).mono ?_
    rintro e1 w1 ⟨u, rfl, own1, b1⟩
    rw [← hys.out] at own1
    have t1 := Lib.hid (h.out.later b1)
    have bs1 := Lib.hid (own_BS own1 hlt.out)
    replace b1 := Lib.hid (Wro.ofBelow hPl b1)
    clear own1
    go_wp2_with fail
    refine (tput_any B w1 P out ys u t1.out bs1.out (by omega)).mono ?_
    rintro e2 w2 (⟨_, hf, rfl, t2, b2⟩ | ⟨hn, rfl, b2⟩)
    · go_wp2_with fail
      go_ret
      exact .inl ⟨hiff.out.2 ⟨by omega, r1⟩, hf, rfl, t2, b1.out.trans b2⟩
    · go_wp2_with fail
      go_ret
      exact .inr ⟨fun hh => hn ⟨trivial, hh.2⟩, rfl, b1.out.trans b2⟩
  · have hq : (IntKind.u64.wrap x / 4294967296 == 0) = false := by
      rw [IntKind.wrap_u64]
      simp
      omega
    go_enter Tryz.func93, Tryz.ntmps93
    go_wp2_with fail
    go_ret
    exact .inr ⟨fun hh => hr (hiff.out.1 hh.1), rfl, Wro.refl _ _⟩
/-- Bytes that stay as they are while the text P is written. -/
def Stays (P : Nat) (w : World) (u : Value) (xs : List Nat) : Prop := ∀ w', Wro P w w' → BS w' w'.heap.size u xs
theorem Stays.next {P : Nat} {w w1 : World} {u : Value} {xs : List Nat} (h : Stays P w u xs) (b : Wro P w w1) : Stays P w1 u xs := fun w' h' => h w' (b.trans h')
theorem Stays.of_BS {B P : Nat} {w : World} {out : List Nat} {u : Value} {xs : List Nat} (t : MTx B w P out) (h : BS w B u xs) : Stays P w u xs := fun w' h' =>
  h.below (h'.below t) (Nat.le_trans t.nn h'.kb.size)
theorem Stays.of_own {B P b : Nat} {w : World} {out : List Nat} {u : Value} {xs : List Nat} (_ : MTx B w P out) (h : w.ownsRow b 5 1 u xs.length (vals xs)) (hlt : ∀ b ∈ xs, b < 256) (hn : ∀ k, u.ownBlock = some k → ¬ TB w P k) : Stays P w u xs := fun w' h' =>
  own_BS (x_agree h fun k hk => h'.kb.block k (h.lt k hk).2 (hn k hk)) hlt
set_option maxRecDepth 100000 in
theorem tbytes_any (B : Nat) (w : World) (P : Nat) (out xs : List Nat) (u : Value) (h : MTx B w P out) (hu : Stays P w u xs) (hx : xs.length ≤ 1000000000) :
    Calls Tryz.prog 65 #[.pointer (some ⟨P, 0, none⟩), u] w (WrPost B P out (M.inR xs.length) (M.U xs.length ++ xs) w) := by
  obtain ⟨A, c, rfl, _, _, _⟩ := hu w (Wro.refl _ _)
  have hxl := Lib.hid hx
  replace h := Lib.hid h
  replace hu := Lib.hid hu
  obtain ⟨X, hX⟩ : ∃ X, X = xs.length := ⟨_, rfl⟩
  rw [← hX] at hu ⊢
  rw [← hX] at hx
  clear hX
  obtain ⟨ns, hns⟩ : ∃ ns, ns = M.U (X : Int) := ⟨_, rfl⟩
  obtain ⟨ok, hok⟩ : ∃ ok, ok = M.inR (X : Int) := ⟨_, rfl⟩
  have hnum := fun w' (t : MTx B w' P out) => tnumb_any B w' P out X t (by omega)
  rw [← hns, ← hok] at hnum
  rw [← hns, ← hok]
  clear hns hok
  replace hnum := Lib.hid hnum
  go_enter Tryz.func65, Tryz.ntmps65
  go_wp2_with fail
  refine (hnum.out _ h.out).mono ?_
  rintro e1 w1 (⟨ho, hf, rfl, t1, b1⟩ | ⟨hn, rfl, b1⟩)
  · replace t1 := Lib.hid t1
    replace b1 := Lib.hid b1
    go_wp2_with fail
    refine (tput_any B w1 P _ xs _ t1.out (hu.out w1 b1.out) hxl.out).mono ?_
    intro e2 w2 h2
    have := (WrPost.then ⟨ho, hf⟩ b1.out h2).iff (C := ok) (by simp)
    rcases h2 with ⟨_, _, rfl, _⟩ | ⟨_, rfl, _⟩
    all_goals
      replace this := Lib.hid this
      go_wp2_with fail
      go_ret
      exact this.out
  · have := (WrPost.stop (B := B) (C := True) (yb := xs) hn b1).iff (C := ok) (by simp)
    replace this := Lib.hid this
    go_wp2_with fail
    go_ret
    exact this.out
end Go.Proofs.YtilaheifccjjeaaGreat
namespace Go.Proofs.YtilaheifccjjeaaGreat
open Go.RowKit
theorem bw_below (w : World) (e : TypeId) (s : ByteArray) : Below w.heap.size w (Lib.bytesWorld w e s) := ⟨rfl, rfl, rfl, by rw [Lib.bytesWorld_size]; omega, fun k hk => Lib.bytesWorld_at_old w e s k hk⟩
/-- The bytes of a string. -/
def sby (s : ByteArray) : List Nat := s.data.toList.map UInt8.toNat
theorem sby_len (s : ByteArray) : (sby s).length = s.size := by simp [sby]
theorem bw_BS (w : World) (s : ByteArray) (hs : s.size ≤ 1000000000) : BS (Lib.bytesWorld w 5 s) (Lib.bytesWorld w 5 s).heap.size (.slice (some ⟨w.heap.size, 0, none⟩) s.size (grownCap w s.size 0 5)) (sby s) := by
  refine ⟨_, _, by rw [sby_len], by rw [sby_len]; exact grownCap_ge w _ _ _, grownCap_le_maxLen w _ _ _ (by unfold maxLen; omega), fun i hi => ?_⟩
  rw [sby_len] at hi
  have hi2 : i < s.data.toList.length := by simpa using hi
  have e : (sby s).getD i 0 = (s.data.toList.getD i 0).toNat := by
    unfold sby
    rw [List.getD_eq_getElem?_getD, List.getElem?_map, List.getElem?_eq_getElem hi2, List.getD_eq_getElem?_getD, List.getElem?_eq_getElem hi2]
    rfl
  refine ⟨⟨w.heap.size, 0, none⟩, rfl, by rw [Lib.bytesWorld_size]; show w.heap.size < _; omega, ?_, ?_⟩
  · show (sby s).getD i 0 < 256
    rw [e]; exact UInt8.toNat_lt _
  · show World.cell? _ _ = some (.int .u8 (((sby s).getD i 0 : Nat) : Int))
    rw [e, add_none, Nat.zero_add]
    exact Lib.bytesWorld_cell w 5 s i hi
theorem conv_str (w : World) (s : ByteArray) : (convert 9 33 (.string s)).run Tryz.prog w = .ok (.slice (some ⟨w.heap.size, 0, none⟩) s.size (grownCap w s.size 0 5)) (Lib.bytesWorld w 5 s) :=
  Lib.run_convert_string_bytes w 9 33 5 s Tryz.underlying9 Tryz.underlying33 Tryz.underlying5
theorem Stays.of_new {B P g o n c : Nat} {w : World} {out : List Nat} {xs : List Nat} (_ : MTx B w P out) (hn : ¬ TB w P g) (h : BS w w.heap.size (.slice (some ⟨g, o, none⟩) n c) xs) : Stays P w (.slice (some ⟨g, o, none⟩) n c) xs := fun w' h' => by
  obtain ⟨A, c', e, h1, h2, hb⟩ := h
  cases e
  refine ⟨_, _, rfl, h1, h2, fun i hi => ?_⟩
  obtain ⟨ad, e1, q1, q2, q3⟩ := hb i hi
  cases e1
  have hg : g < w.heap.size := q1
  refine ⟨_, rfl, Nat.lt_of_lt_of_le hg h'.kb.size, q2, ?_⟩
  rw [add_none] at q3 ⊢
  exact (World.cell?_of_block (w := w) (h'.kb.block g hg hn)).trans q3
theorem WrPost.pre {B P : Nat} {out ys : List Nat} {A : Prop} {w w1 w2 : World} {e : Ending} (k : WrPost B P out A ys w1 e w2) (b1 : Wro P w w1) : WrPost B P out A ys w e w2 := by
  rcases k with ⟨hc, hf, he, t, b2⟩ | ⟨hn, he, b2⟩
  · exact .inl ⟨hc, hf, he, t, b1.trans b2⟩
  · exact .inr ⟨hn, he, b1.trans b2⟩
set_option maxRecDepth 100000 in
set_option maxHeartbeats 1000000 in
theorem tname_any (B : Nat) (w : World) (P : Nat) (out : List Nat) (s : ByteArray) (h : MTx B w P out) (hs : s.size ≤ 1000000000) :
    Calls Tryz.prog 142 #[.pointer (some ⟨P, 0, none⟩), .string s] w (WrPost B P out (M.cName.ok (sby s)) (M.cName.wr (sby s)) w) := by
  have hconv := conv_str
  have hPl := h.lt
  have hok : M.cName.ok (sby s) ↔ (sby s).length < 4294967296 ∧ M.isText (sby s) = true := Iff.rfl
  have hwr : M.cName.wr (sby s) = M.U (sby s).length ++ sby s := rfl
  have hsl := Lib.hid (sby_len s)
  have hsm : (sby s).length ≤ 1000000000 := by rw [sby_len]; exact hs
  rw [hwr]
  clear hwr
  obtain ⟨xs, hxs⟩ : ∃ xs, xs = sby s := ⟨_, rfl⟩
  have hBS := Lib.hid (fun w => bw_BS w s hs)
  rw [← hxs] at hBS hsl hsm hok ⊢
  have hbl := Lib.hid (fun w => bw_below w 5 s)
  replace hxs := Lib.hid hxs
  have hln : s.size = xs.length := hsl.out.symm
  replace hok := Lib.hid hok
  have hl := h.len
  replace h := Lib.hid h
  obtain ⟨n, hn⟩ : ∃ n, n = s.size := ⟨_, rfl⟩
  have hnx : n = xs.length := hn.trans hln
  by_cases hf : (n : Int) ≤ 65536 - (out.length : Int)
  · have hf2 : (s.size : Int) ≤ 65536 - (out.length : Int) := by rw [← hn]; exact hf
    clear hn hnx hln hf
    by_cases ht : M.isText xs = true
    · obtain ⟨ps, hps⟩ := (M.isText_iff xs).1 ht
      have hps2 := Lib.hid hps
      have hoki : M.cName.ok xs ↔ True := ⟨fun _ => trivial, fun _ => hok.out.2 ⟨by omega, ht⟩⟩
      replace hoki := Lib.hid hoki
      clear hps ht
      go_enter Tryz.func142, Tryz.ntmps142
      go_wp2_with fail
      refine (troom_any B w P out h.out).mono ?_
      rintro e1 w1 ⟨rfl, rfl⟩
      go_wp2_with fail
      refine (Utf.Check_yes _ xs ps _ (hBS.out w1) hps2.out).mono ?_
      rintro e2 w2 ⟨rfl, b2⟩
      have d2 : Below w1.heap.size w1 w2 := (hbl.out w1).trans (b2.mono (hbl.out w1).size)
      have t2 := h.out.later d2
      have d3 := Lib.hid (Wro.ofBelow hPl (d2.trans ((hbl.out w2).mono d2.size)))
      have t3 := Lib.hid (t2.later (hbl.out w2))
      have hst := Lib.hid (Stays.of_new (t2.later (hbl.out w2)) (fun e => by
        have h1 := (t2.later (hbl.out w2)).ex
        obtain ⟨v, h1, _⟩ := (t2.later (hbl.out w2)).ex
        rcases e with e | ⟨v', h2, h3⟩
        · have := t2.lt; omega
        · have := (t2.tb _ (.inr ⟨v', ((hbl.out w2).cell (p := ⟨P, 0, none⟩) t2.lt).symm.trans h2, h3⟩)).2; omega) (hBS.out w2))
      clear b2 d2 t2
      go_wp2_with fail
      refine (tbytes_any B _ P out xs _ t3.out hst.out (by omega)).mono ?_
      intro e4 w4 h4
      have this := Lib.hid ((h4.pre d3.out).iff (C := M.cName.ok xs) (Iff.trans (show M.inR (xs.length : Int) ↔ True from ⟨fun _ => trivial, fun _ => ⟨Int.natCast_nonneg _, by omega⟩⟩) hoki.out.symm))
      rcases h4 with ⟨_, _, rfl, _⟩ | ⟨_, rfl, _⟩
      all_goals
        go_wp2_with fail
        go_ret
        exact this.out
    · have hno : ¬ (M.cName.ok xs ∧ out.length + (M.U xs.length ++ xs).length ≤ 65536) := fun hh => ht (hok.out.1 hh.1).2
      have hps : ∀ ps, ¬ Utf.M.Text xs ps := fun ps hp => ht ((M.isText_iff xs).2 ⟨ps, hp⟩)
      replace hps := Lib.hid hps
      replace hno := Lib.hid hno
      clear ht
      go_enter Tryz.func142, Tryz.ntmps142
      go_wp2_with fail
      refine (troom_any B w P out h.out).mono ?_
      rintro e1 w1 ⟨rfl, rfl⟩
      go_wp2_with fail
      refine (Utf.Check_no _ xs _ (hBS.out w1) hps.out).mono ?_
      rintro e2 w2 ⟨rfl, b2⟩
      have d2 := Lib.hid (Wro.ofBelow hPl ((hbl.out w1).trans (b2.mono (hbl.out w1).size)))
      clear b2
      go_wp2_with fail
      go_ret
      exact .inr ⟨hno.out, rfl, d2.out⟩
  · have hf2 : ¬ ((s.size : Int) ≤ 65536 - (out.length : Int)) := by rw [← hn]; exact hf
    have hno : ¬ (M.cName.ok xs ∧ out.length + (M.U xs.length ++ xs).length ≤ 65536) := fun hh => by have := hh.2; rw [List.length_append] at this; omega
    replace hno := Lib.hid hno
    have hf3 : (65536 : Int) - (out.length : Int) < (s.size : Int) := by omega
    clear hn hnx hln hf hf2
    go_enter Tryz.func142, Tryz.ntmps142
    go_wp2_with fail
    refine (troom_any B w P out h.out).mono ?_
    rintro e1 w1 ⟨rfl, rfl⟩
    go_wp2_with fail
    go_ret
    exact .inr ⟨hno.out, rfl, Wro.refl _ _⟩
end Go.Proofs.YtilaheifccjjeaaGreat
namespace Go.Proofs.YtilaheifccjjeaaGreat
open Go.RowKit
/-- The bits of the first k of these numbers. -/
def orF (f : Nat → Nat) : Nat → Nat
  | 0 => 0
  | k + 1 => orF f k ||| 2 ^ f k
theorem orF_lt (f : Nat → Nat) (h : ∀ i, f i < 10) (k : Nat) : orF f k < 1024 := by
  induction k with
  | zero => simp [orF]
  | succ k ih => exact Nat.or_lt_two_pow (n := 10) ih (Nat.pow_lt_pow_right (by omega) (h k))
theorem or_step (f : Nat → Nat) (h : ∀ i, f i < 10) (k : Nat) : bits .or .u64 (orF f k : Int) (IntKind.u64.wrap (2 ^ f k)) = ((orF f (k + 1) : Nat) : Int) := by
  have h1 := orF_lt f h k
  have h2 : 2 ^ f k < 1024 := Nat.pow_lt_pow_right (n := 10) (by omega) (h k)
  have e : ((2 : Int) ^ f k) = ((2 ^ f k : Nat) : Int) := by push_cast; rfl
  rw [e, IntKind.wrap_u64, Int.emod_eq_of_lt (Int.natCast_nonneg _) (by omega), u64_or_nat _ _ (by omega) (by omega)]
  rfl
theorem of_any (A : Option Addr) (n c : Nat) (f : Nat → Nat) (w : World) (h : Ints w w.heap.size A n (fun i => (f i : Int))) (hn : n ≤ maxLen) (hf : ∀ i, f i < 10) :
    Calls Tryz.prog 261 #[.slice A n c] w fun e w' => e = .returned (.int .u64 (orF f n : Nat)) ∧ w = w' := by
  unfold maxLen at hn
  replace h := Lib.hid h
  go_enter Tryz.func261, Tryz.ntmps261
  go_wp2
  go_loop [3, 5, 8] (fun s _ i => ∃ k : Nat, k ≤ n ∧ i = .int .i64 k ∧ s = .int .u64 (orF f k : Nat)) (fun _ _ i => n - (intOf i).toNat)
  case atStart => exact ⟨0, by omega, rfl, rfl⟩
  case round =>
    obtain ⟨k, hk, rfl, rfl⟩ := hrel
    by_cases hlt : k < n
    · obtain ⟨ad, rfl, _, _, q⟩ := h.out k hlt
      have hs := Lib.hid (or_step f hf k)
      have hk10 := hf k
      go_wp2
      exact ⟨⟨k + 1, by omega, by go_num, by rw [hs.out]⟩, by simp [intOf]; omega⟩
    · obtain rfl : n = k := by omega
      go_wp2
      go_ret
      exact ⟨rfl, rfl⟩
theorem lit_ints (w : World) (ps : List Nat) (t : TypeId) (cs : Array Value) (hcs : cs = (ps.map fun p : Nat => Value.int .i64 (p : Int)).toArray) (hp : ∀ p ∈ ps, p < 10) :
    Ints (w.alloc (.cells cs t)) (w.alloc (.cells cs t)).heap.size (some ⟨w.heap.size, 0, none⟩) ps.length (fun i => ((ps.getD i 0 : Nat) : Int)) := by
  intro i hi
  have e : ps.getD i 0 = ps[i] := by simp [List.getD_eq_getElem?_getD, hi]
  have h10 := hp ps[i] (List.getElem_mem hi)
  refine ⟨_, rfl, by simp, ?_, ?_⟩
  · simp only [e]; omega
  · rw [add_none, hcs]
    simp [World.cell?_alloc_new, hi]
theorem of_lit (ps : List Nat) (cs : Array Value) (v : Value) (M : Int) (w : World) (hcs : cs = (ps.map fun p : Nat => Value.int .i64 (p : Int)).toArray) (hp : ∀ p ∈ ps, p < 10) (hl : ps.length ≤ 10) (hv : v = .slice (some ⟨w.heap.size, 0, none⟩) ps.length ps.length) (hM : ((orF (fun i => ps.getD i 0) ps.length : Nat) : Int) = M) :
    Calls Tryz.prog 261 #[v] (w.alloc (.cells cs 293)) fun e w' => e = .returned (.int .u64 M) ∧ Below w.heap.size w w' := by
  subst hv
  have := of_any (some ⟨w.heap.size, 0, none⟩) ps.length ps.length (fun i => ps.getD i 0) _ (lit_ints w ps 293 cs hcs hp) (by unfold maxLen; omega) (fun i => by
    by_cases hi : i < ps.length
    · have e : ps.getD i 0 = ps[i] := by simp [List.getD_eq_getElem?_getD, hi]
      rw [e]; exact hp _ (List.getElem_mem hi)
    · have e : ps.getD i 0 = 0 := by simp [List.getD_eq_getElem?_getD, hi]
      omega)
  rw [hM] at this
  exact this.mono fun _ _ ⟨a, b⟩ => ⟨a, by rw [← b]; exact (Below.refl _ _).alloc (Nat.le_refl _) _⟩
theorem of_nil (w : World) : Calls Tryz.prog 261 #[.slice none 0 0] w fun e w' => e = .returned (.int .u64 0) ∧ Below w.heap.size w w' :=
  (of_any none 0 0 (fun _ => 0) w (fun i hi => by omega) (by unfold maxLen; omega) (fun _ => by omega)).mono fun _ _ ⟨a, b⟩ => ⟨a, by rw [← b]; exact Below.refl _ _⟩
namespace M
/-- The bits of what stands behind a byte. -/
def maskK (k : Nat) (op : Int) : Nat :=
  match k with
  | 2 => if op = 4 then 897 else 641
  | 3 => 4
  | 4 => 6
  | 5 => 36
  | 6 => 24
  | 7 => 32
  | 8 => 64
  | 9 => 64
  | _ => 0
def mask (op : Int) : Nat := maskK (kind op) op
theorem mask_of {op : Int} {k : Nat} (h : kind op = k) : mask op = maskK k op := by unfold mask; rw [h]
end M
def PartsPost (op : Int) (w : World) (e : Ending) (w' : World) : Prop := e = .returned (.tuple #[.int .u64 (M.mask op : Nat), .bool (decide (M.kind op ≠ 0))]) ∧ Below w.heap.size w w'
theorem parts_ret {op : Int} {k : Nat} {m : Int} {b : Bool} (hk : M.kind op = k) (hm : m = (M.maskK k op : Nat)) (hb : b = decide (k ≠ 0)) : Ending.returned (.tuple #[.int .u64 m, .bool b]) = .returned (.tuple #[.int .u64 (M.mask op : Nat), .bool (decide (M.kind op ≠ 0))]) := by
  rw [M.mask_of hk, hk, hm, hb]
set_option maxRecDepth 100000 in
theorem parts_0 (w : World) : Calls Tryz.prog 239 #[.int .i64 0] w (PartsPost 0 w) := by
  go_enter Tryz.func239, Tryz.ntmps239
  go_wp2_with fail
  refine (of_nil _).mono ?_
  rintro e w1 ⟨rfl, hb⟩
  replace hb := Lib.hid hb
  go_wp2
  go_ret2
  exact ⟨parts_ret (k := M.kind 0) rfl (by decide) (by decide), hb.out⟩
set_option maxRecDepth 100000 in
theorem parts_1 (w : World) : Calls Tryz.prog 239 #[.int .i64 1] w (PartsPost 1 w) := by
  go_enter Tryz.func239, Tryz.ntmps239
  go_wp2_with fail
  refine (of_nil _).mono ?_
  rintro e w1 ⟨rfl, hb⟩
  replace hb := Lib.hid hb
  go_wp2
  go_ret2
  exact ⟨parts_ret (k := M.kind 1) rfl (by decide) (by decide), hb.out⟩
set_option maxRecDepth 100000 in
theorem parts_15 (w : World) : Calls Tryz.prog 239 #[.int .i64 15] w (PartsPost 15 w) := by
  go_enter Tryz.func239, Tryz.ntmps239
  go_wp2_with fail
  refine (of_nil _).mono ?_
  rintro e w1 ⟨rfl, hb⟩
  replace hb := Lib.hid hb
  go_wp2
  go_ret2
  exact ⟨parts_ret (k := M.kind 15) rfl (by decide) (by decide), hb.out⟩
set_option maxRecDepth 100000 in
theorem parts_26 (w : World) : Calls Tryz.prog 239 #[.int .i64 26] w (PartsPost 26 w) := by
  go_enter Tryz.func239, Tryz.ntmps239
  go_wp2_with fail
  refine (of_nil _).mono ?_
  rintro e w1 ⟨rfl, hb⟩
  replace hb := Lib.hid hb
  go_wp2
  go_ret2
  exact ⟨parts_ret (k := M.kind 26) rfl (by decide) (by decide), hb.out⟩
set_option maxRecDepth 100000 in
theorem parts_27 (w : World) : Calls Tryz.prog 239 #[.int .i64 27] w (PartsPost 27 w) := by
  go_enter Tryz.func239, Tryz.ntmps239
  go_wp2_with fail
  refine (of_nil _).mono ?_
  rintro e w1 ⟨rfl, hb⟩
  replace hb := Lib.hid hb
  go_wp2
  go_ret2
  exact ⟨parts_ret (k := M.kind 27) rfl (by decide) (by decide), hb.out⟩
set_option maxRecDepth 100000 in
theorem parts_2 (w : World) : Calls Tryz.prog 239 #[.int .i64 2] w (PartsPost 2 w) := by
  go_enter Tryz.func239, Tryz.ntmps239
  go_wp2_with fail
  refine (of_lit [0, 7, 9] _ _ 641 _ rfl (by decide) (by decide) rfl (by decide)).mono ?_
  rintro e w1 ⟨rfl, hb⟩
  replace hb := Lib.hid hb
  go_wp2
  go_ret2
  exact ⟨parts_ret (k := M.kind 2) rfl (by decide) (by decide), hb.out⟩
set_option maxRecDepth 100000 in
theorem parts_3 (w : World) : Calls Tryz.prog 239 #[.int .i64 3] w (PartsPost 3 w) := by
  go_enter Tryz.func239, Tryz.ntmps239
  go_wp2_with fail
  refine (of_lit [0, 7, 9] _ _ 641 _ rfl (by decide) (by decide) rfl (by decide)).mono ?_
  rintro e w1 ⟨rfl, hb⟩
  replace hb := Lib.hid hb
  go_wp2
  go_ret2
  exact ⟨parts_ret (k := M.kind 3) rfl (by decide) (by decide), hb.out⟩
set_option maxRecDepth 100000 in
theorem parts_4 (w : World) : Calls Tryz.prog 239 #[.int .i64 4] w (PartsPost 4 w) := by
  go_enter Tryz.func239, Tryz.ntmps239
  go_wp2_with fail
  refine (of_lit [0, 7, 8, 9] _ _ 897 _ rfl (by decide) (by decide) rfl (by decide)).mono ?_
  rintro e w1 ⟨rfl, hb⟩
  replace hb := Lib.hid hb
  go_wp2
  go_ret2
  exact ⟨parts_ret (k := M.kind 4) rfl (by decide) (by decide), hb.out⟩
set_option maxRecDepth 100000 in
theorem parts_12 (w : World) : Calls Tryz.prog 239 #[.int .i64 12] w (PartsPost 12 w) := by
  go_enter Tryz.func239, Tryz.ntmps239
  go_wp2_with fail
  refine (of_lit [2] _ _ 4 _ rfl (by decide) (by decide) rfl (by decide)).mono ?_
  rintro e w1 ⟨rfl, hb⟩
  replace hb := Lib.hid hb
  go_wp2
  go_ret2
  exact ⟨parts_ret (k := M.kind 12) rfl (by decide) (by decide), hb.out⟩
set_option maxRecDepth 100000 in
theorem parts_13 (w : World) : Calls Tryz.prog 239 #[.int .i64 13] w (PartsPost 13 w) := by
  go_enter Tryz.func239, Tryz.ntmps239
  go_wp2_with fail
  refine (of_lit [2] _ _ 4 _ rfl (by decide) (by decide) rfl (by decide)).mono ?_
  rintro e w1 ⟨rfl, hb⟩
  replace hb := Lib.hid hb
  go_wp2
  go_ret2
  exact ⟨parts_ret (k := M.kind 13) rfl (by decide) (by decide), hb.out⟩
set_option maxRecDepth 100000 in
theorem parts_16 (w : World) : Calls Tryz.prog 239 #[.int .i64 16] w (PartsPost 16 w) := by
  go_enter Tryz.func239, Tryz.ntmps239
  go_wp2_with fail
  refine (of_lit [2] _ _ 4 _ rfl (by decide) (by decide) rfl (by decide)).mono ?_
  rintro e w1 ⟨rfl, hb⟩
  replace hb := Lib.hid hb
  go_wp2
  go_ret2
  exact ⟨parts_ret (k := M.kind 16) rfl (by decide) (by decide), hb.out⟩
set_option maxRecDepth 100000 in
theorem parts_14 (w : World) : Calls Tryz.prog 239 #[.int .i64 14] w (PartsPost 14 w) := by
  go_enter Tryz.func239, Tryz.ntmps239
  go_wp2_with fail
  refine (of_lit [1, 2] _ _ 6 _ rfl (by decide) (by decide) rfl (by decide)).mono ?_
  rintro e w1 ⟨rfl, hb⟩
  replace hb := Lib.hid hb
  go_wp2
  go_ret2
  exact ⟨parts_ret (k := M.kind 14) rfl (by decide) (by decide), hb.out⟩
set_option maxRecDepth 100000 in
theorem parts_17 (w : World) : Calls Tryz.prog 239 #[.int .i64 17] w (PartsPost 17 w) := by
  go_enter Tryz.func239, Tryz.ntmps239
  go_wp2_with fail
  refine (of_lit [2, 5] _ _ 36 _ rfl (by decide) (by decide) rfl (by decide)).mono ?_
  rintro e w1 ⟨rfl, hb⟩
  replace hb := Lib.hid hb
  go_wp2
  go_ret2
  exact ⟨parts_ret (k := M.kind 17) rfl (by decide) (by decide), hb.out⟩
set_option maxRecDepth 100000 in
theorem parts_40 (w : World) : Calls Tryz.prog 239 #[.int .i64 40] w (PartsPost 40 w) := by
  go_enter Tryz.func239, Tryz.ntmps239
  go_wp2_with fail
  refine (of_lit [3, 4] _ _ 24 _ rfl (by decide) (by decide) rfl (by decide)).mono ?_
  rintro e w1 ⟨rfl, hb⟩
  replace hb := Lib.hid hb
  go_wp2
  go_ret2
  exact ⟨parts_ret (k := M.kind 40) rfl (by decide) (by decide), hb.out⟩
set_option maxRecDepth 100000 in
theorem parts_41 (w : World) : Calls Tryz.prog 239 #[.int .i64 41] w (PartsPost 41 w) := by
  go_enter Tryz.func239, Tryz.ntmps239
  go_wp2_with fail
  refine (of_lit [3, 4] _ _ 24 _ rfl (by decide) (by decide) rfl (by decide)).mono ?_
  rintro e w1 ⟨rfl, hb⟩
  replace hb := Lib.hid hb
  go_wp2
  go_ret2
  exact ⟨parts_ret (k := M.kind 41) rfl (by decide) (by decide), hb.out⟩
set_option maxRecDepth 100000 in
theorem parts_63 (w : World) : Calls Tryz.prog 239 #[.int .i64 63] w (PartsPost 63 w) := by
  go_enter Tryz.func239, Tryz.ntmps239
  go_wp2_with fail
  refine (of_lit [5] _ _ 32 _ rfl (by decide) (by decide) rfl (by decide)).mono ?_
  rintro e w1 ⟨rfl, hb⟩
  replace hb := Lib.hid hb
  go_wp2
  go_ret2
  exact ⟨parts_ret (k := M.kind 63) rfl (by decide) (by decide), hb.out⟩
set_option maxRecDepth 100000 in
theorem parts_64 (w : World) : Calls Tryz.prog 239 #[.int .i64 64] w (PartsPost 64 w) := by
  go_enter Tryz.func239, Tryz.ntmps239
  go_wp2_with fail
  refine (of_lit [5] _ _ 32 _ rfl (by decide) (by decide) rfl (by decide)).mono ?_
  rintro e w1 ⟨rfl, hb⟩
  replace hb := Lib.hid hb
  go_wp2
  go_ret2
  exact ⟨parts_ret (k := M.kind 64) rfl (by decide) (by decide), hb.out⟩
set_option maxRecDepth 100000 in
theorem parts_65 (w : World) : Calls Tryz.prog 239 #[.int .i64 65] w (PartsPost 65 w) := by
  go_enter Tryz.func239, Tryz.ntmps239
  go_wp2_with fail
  refine (of_lit [6] _ _ 64 _ rfl (by decide) (by decide) rfl (by decide)).mono ?_
  rintro e w1 ⟨rfl, hb⟩
  replace hb := Lib.hid hb
  go_wp2
  go_ret2
  exact ⟨parts_ret (k := M.kind 65) rfl (by decide) (by decide), hb.out⟩
set_option maxRecDepth 100000 in
theorem parts_66 (w : World) : Calls Tryz.prog 239 #[.int .i64 66] w (PartsPost 66 w) := by
  go_enter Tryz.func239, Tryz.ntmps239
  go_wp2_with fail
  refine (of_lit [6] _ _ 64 _ rfl (by decide) (by decide) rfl (by decide)).mono ?_
  rintro e w1 ⟨rfl, hb⟩
  replace hb := Lib.hid hb
  go_wp2
  go_ret2
  exact ⟨parts_ret (k := M.kind 66) rfl (by decide) (by decide), hb.out⟩
set_option maxRecDepth 100000 in
theorem parts_167 (w : World) : Calls Tryz.prog 239 #[.int .i64 167] w (PartsPost 167 w) := by
  go_enter Tryz.func239, Tryz.ntmps239
  go_wp2_with fail
  refine (of_nil _).mono ?_
  rintro e w1 ⟨rfl, hb⟩
  replace hb := Lib.hid hb
  go_wp2
  go_ret2
  exact ⟨parts_ret (k := M.kind 167) rfl (by decide) (by decide), hb.out⟩
set_option maxRecDepth 100000 in
theorem parts_172 (w : World) : Calls Tryz.prog 239 #[.int .i64 172] w (PartsPost 172 w) := by
  go_enter Tryz.func239, Tryz.ntmps239
  go_wp2_with fail
  refine (of_nil _).mono ?_
  rintro e w1 ⟨rfl, hb⟩
  replace hb := Lib.hid hb
  go_wp2
  go_ret2
  exact ⟨parts_ret (k := M.kind 172) rfl (by decide) (by decide), hb.out⟩
set_option maxRecDepth 100000 in
theorem parts_173 (w : World) : Calls Tryz.prog 239 #[.int .i64 173] w (PartsPost 173 w) := by
  go_enter Tryz.func239, Tryz.ntmps239
  go_wp2_with fail
  refine (of_nil _).mono ?_
  rintro e w1 ⟨rfl, hb⟩
  replace hb := Lib.hid hb
  go_wp2
  go_ret2
  exact ⟨parts_ret (k := M.kind 173) rfl (by decide) (by decide), hb.out⟩
set_option maxRecDepth 100000 in
theorem parts_r32 (op : Int) (w : World) (h1 : op ≥ 32) (h2 : op ≤ 36) : Calls Tryz.prog 239 #[.int .i64 op] w (PartsPost op w) := by
  have hn := beqs op (by omega)
  have hk := Lib.hid (kindR3 op h1 h2)
  go_enter Tryz.func239, Tryz.ntmps239
  go_wp2_with fail
  refine (of_lit [2] _ _ 4 _ rfl (by decide) (by decide) rfl (by decide)).mono ?_
  rintro e w1 ⟨rfl, hb⟩
  replace hb := Lib.hid hb
  go_wp2
  go_ret2
  exact ⟨parts_ret hk.out rfl rfl, hb.out⟩
set_option maxRecDepth 100000 in
theorem parts_r44 (op : Int) (w : World) (h1 : op ≥ 44) (h2 : op ≤ 55) : Calls Tryz.prog 239 #[.int .i64 op] w (PartsPost op w) := by
  have hn := beqs op (by omega)
  have hk := Lib.hid (kindR6 op (by omega))
  go_enter Tryz.func239, Tryz.ntmps239
  go_wp2_with fail
  refine (of_lit [3, 4] _ _ 24 _ rfl (by decide) (by decide) rfl (by decide)).mono ?_
  rintro e w1 ⟨rfl, hb⟩
  replace hb := Lib.hid hb
  go_wp2
  go_ret2
  exact ⟨parts_ret hk.out rfl rfl, hb.out⟩
set_option maxRecDepth 100000 in
theorem parts_r58 (op : Int) (w : World) (h1 : op ≥ 58) (h2 : op ≤ 62) : Calls Tryz.prog 239 #[.int .i64 op] w (PartsPost op w) := by
  have hn := beqs op (by omega)
  have hk := Lib.hid (kindR6 op (by omega))
  go_enter Tryz.func239, Tryz.ntmps239
  go_wp2_with fail
  refine (of_lit [3, 4] _ _ 24 _ rfl (by decide) (by decide) rfl (by decide)).mono ?_
  rintro e w1 ⟨rfl, hb⟩
  replace hb := Lib.hid hb
  go_wp2
  go_ret2
  exact ⟨parts_ret hk.out rfl rfl, hb.out⟩
set_option maxRecDepth 100000 in
theorem parts_r69 (op : Int) (w : World) (h1 : op ≥ 69) (h2 : op ≤ 90) : Calls Tryz.prog 239 #[.int .i64 op] w (PartsPost op w) := by
  have hn := beqs op (by omega)
  have hk := Lib.hid (kindR1 op (by omega))
  go_enter Tryz.func239, Tryz.ntmps239
  go_wp2_with fail
  refine (of_nil _).mono ?_
  rintro e w1 ⟨rfl, hb⟩
  replace hb := Lib.hid hb
  go_wp2
  go_ret2
  exact ⟨parts_ret hk.out rfl rfl, hb.out⟩
set_option maxRecDepth 100000 in
theorem parts_r103 (op : Int) (w : World) (h1 : op ≥ 103) (h2 : op ≤ 138) : Calls Tryz.prog 239 #[.int .i64 op] w (PartsPost op w) := by
  have hn := beqs op (by omega)
  have hk := Lib.hid (kindR1 op (by omega))
  go_enter Tryz.func239, Tryz.ntmps239
  go_wp2_with fail
  refine (of_nil _).mono ?_
  rintro e w1 ⟨rfl, hb⟩
  replace hb := Lib.hid hb
  go_wp2
  go_ret2
  exact ⟨parts_ret hk.out rfl rfl, hb.out⟩
set_option maxRecDepth 100000 in
set_option maxHeartbeats 4000000 in
theorem parts_none (op : Int) (w : World) (h : op ≠ 0 ∧ op ≠ 1 ∧ op ≠ 15 ∧ op ≠ 26 ∧ op ≠ 27 ∧ op ≠ 2 ∧ op ≠ 3 ∧ op ≠ 4 ∧ op ≠ 12 ∧ op ≠ 13 ∧ op ≠ 16 ∧ op ≠ 14 ∧ op ≠ 17 ∧ op ≠ 40 ∧ op ≠ 41 ∧ op ≠ 63 ∧ op ≠ 64 ∧ op ≠ 65 ∧ op ≠ 66 ∧ op ≠ 167 ∧ op ≠ 172 ∧ op ≠ 173) (h2 : (op < 2 ∨ 4 < op) ∧ (op < 32 ∨ 36 < op) ∧ (op < 44 ∨ 55 < op) ∧ (op < 58 ∨ 62 < op) ∧ (op < 69 ∨ 90 < op) ∧ (op < 103 ∨ 138 < op)) : Calls Tryz.prog 239 #[.int .i64 op] w (PartsPost op w) := by
  have hn := beqs op h
  have hk := Lib.hid (kindR0 op h h2)
  clear h
  go_enter Tryz.func239, Tryz.ntmps239
  go_wp2_with fail
  all_goals
    go_ret2
    exact ⟨parts_ret hk.out rfl rfl, Below.refl _ _⟩
theorem partsOf_any (op : Int) (w : World) : Calls Tryz.prog 239 #[.int .i64 op] w (PartsPost op w) := by
  rcases op_split op with h | h | ⟨h, h2⟩
  · rcases h with rfl | rfl | rfl | rfl | rfl | rfl | rfl | rfl | rfl | rfl | rfl | rfl | rfl | rfl | rfl | rfl | rfl | rfl | rfl | rfl | rfl | rfl
    · exact parts_0 w
    · exact parts_1 w
    · exact parts_15 w
    · exact parts_26 w
    · exact parts_27 w
    · exact parts_2 w
    · exact parts_3 w
    · exact parts_4 w
    · exact parts_12 w
    · exact parts_13 w
    · exact parts_16 w
    · exact parts_14 w
    · exact parts_17 w
    · exact parts_40 w
    · exact parts_41 w
    · exact parts_63 w
    · exact parts_64 w
    · exact parts_65 w
    · exact parts_66 w
    · exact parts_167 w
    · exact parts_172 w
    · exact parts_173 w
  · rcases h with ⟨h1, h2⟩ | ⟨h1, h2⟩ | ⟨h1, h2⟩ | ⟨h1, h2⟩ | ⟨h1, h2⟩
    · exact parts_r32 op w h1 h2
    · exact parts_r44 op w h1 h2
    · exact parts_r58 op w h1 h2
    · exact parts_r69 op w h1 h2
    · exact parts_r103 op w h1 h2
  · exact parts_none op w h h2
end Go.Proofs.YtilaheifccjjeaaGreat
namespace Go.Proofs.YtilaheifccjjeaaGreat
open Go.RowKit
theorem isType_any (t : Int) (w : World) : Calls Tryz.prog 243 #[.int .i64 t] w fun e w' => e = .returned (.bool (decide (M.tyOk t))) ∧ w = w' := by
  by_cases h : M.tyOk t
  · have h' := h
    rcases h with rfl | rfl | rfl
    all_goals
      go_enter Tryz.func243, Tryz.ntmps243
      go_wp2
      go_ret
      exact ⟨by first | rfl | exact ret_bool (by decide), rfl⟩
  · have e1 : (t == 64) = false := by rw [beq_eq_false_iff_ne]; intro e; exact h (.inl e)
    have e2 : (t == 127) = false := by rw [beq_eq_false_iff_ne]; intro e; exact h (.inr (.inl e))
    have e3 : (t == 126) = false := by rw [beq_eq_false_iff_ne]; intro e; exact h (.inr (.inr e))
    replace h := Lib.hid h
    go_enter Tryz.func243, Tryz.ntmps243
    go_wp2
    go_ret
    exact ⟨ret_bool (by simp [h.out]), rfl⟩
def widthOf (op : Int) : Int := if op = 65 then 32 else 64
theorem width_any (op : Int) (w : World) : Calls Tryz.prog 264 #[.int .i64 op] w fun e w' => e = .returned (.int .i64 (widthOf op)) ∧ w = w' := by
  by_cases h : op = 65
  · subst h
    go_enter Tryz.func264, Tryz.ntmps264
    go_wp2
    go_ret
    exact ⟨rfl, rfl⟩
  · have e1 : (op == 65) = false := by rw [beq_eq_false_iff_ne]; exact h
    have H := Lib.hid (show (64 : Int) = widthOf op by unfold widthOf; rw [if_neg h])
    go_enter Tryz.func264, Tryz.ntmps264
    go_wp2
    go_ret
    exact ⟨ret_int H.out, rfl⟩
theorem num_div (v : Int) (h : -9223372036854775808 ≤ v ∧ v ≤ 9223372036854775807) : (IntKind.u64.wrap v / 4294967296 == 0) = decide (M.inR v) := by
  rw [IntKind.wrap_u64, Bool.eq_iff_iff, beq_iff_eq, decide_eq_true_iff]
  unfold M.inR
  omega
theorem isNumber_any (v : Int) (w : World) (h : -9223372036854775808 ≤ v ∧ v ≤ 9223372036854775807) : Calls Tryz.prog 263 #[.int .i64 v] w fun e w' => e = .returned (.bool (decide (M.inR v))) ∧ w = w' := by
  have H := Lib.hid (num_div v h)
  clear h
  go_enter Tryz.func263, Tryz.ntmps263
  go_wp2
  go_ret
  exact ⟨ret_bool H.out, rfl⟩
def pw (p : Nat) : Nat := 2 ^ p
/-- A bit more, or not. -/
def addB (s p : Nat) (t : Bool) : Nat := if t then s ||| 2 ^ p else s
theorem addB_lt {s p : Nat} {t : Bool} (hs : s < 1024) (hp : p < 10) : addB s p t < 1024 := by
  unfold addB
  split
  · exact Nat.or_lt_two_pow (n := 10) hs (Nat.pow_lt_pow_right (by omega) hp)
  · exact hs
/-- The cell P holds s, and nothing below it has turned. -/
structure CellU (w : World) (P : Nat) (s : Nat) : Prop where
  cell : w.cell? ⟨P, 0, none⟩ = some (.int .u64 (s : Nat))
  free : w.frozen? ⟨P, 0, none⟩ = false
theorem or_u64 (s p : Nat) (hs : s < 1024) (hp : p < 10) : bits .or .u64 (s : Int) (pw p : Nat) = ((addB s p true : Nat) : Int) := by
  have h2 : 2 ^ p < 1024 := Nat.pow_lt_pow_right (n := 10) (by omega) hp
  rw [u64_or_nat _ _ (by omega) (by unfold pw; omega)]
  simp [addB, pw]
/-- What stays while a bit is made. -/
def SU (P s : Nat) (w0 w : World) : Prop := w.cell? ⟨P, 0, none⟩ = some (.int .u64 (s : Nat)) ∧ w.frozen? ⟨P, 0, none⟩ = false ∧ Below P w0 w ∧ P < w.heap.size
theorem SU.below {P s : Nat} {w0 w w' : World} (h : SU P s w0 w) (hb : Below w.heap.size w w') : SU P s w0 w' := by
  obtain ⟨h1, h2, h3, h4⟩ := h
  exact ⟨by rw [hb.cell (p := ⟨P, 0, none⟩) h4]; exact h1, by rw [hb.frozen (p := ⟨P, 0, none⟩) h4]; exact h2, h3.trans (hb.mono (Nat.le_of_lt h4)), Nat.lt_of_lt_of_le h4 hb.size⟩
theorem SU.alloc {P s : Nat} {w0 w : World} (h : SU P s w0 w) (o : Obj) : SU P s w0 (w.alloc o) := h.below ((Below.refl _ _).alloc (Nat.le_refl _) _)
theorem SU.fin {P s s' : Nat} {w0 w : World} {i : Int} (h : SU P s w0 w) (hi : i = (s' : Nat)) : CellU (w.setCell ⟨P, 0, none⟩ (.int .u64 i)) P s' ∧ Below P w0 (w.setCell ⟨P, 0, none⟩ (.int .u64 i)) := by
  obtain ⟨h1, h2, h3, h4⟩ := h
  subst hi
  exact ⟨⟨World.cell?_setCell_same _ _ _ h1, by simpa using h2⟩, h3.setCell (Nat.le_refl _) _⟩
theorem of_one (p : Nat) (w : World) (hp : p < 10) : Calls Tryz.prog 261 #[.slice (some ⟨w.heap.size, 0, none⟩) 1 1] (w.alloc (.cells #[.int .i64 p] 293)).drew fun e w' => e = .returned (.int .u64 (pw p : Nat)) ∧ Below (w.alloc (.cells #[.int .i64 p] 293)).drew.heap.size (w.alloc (.cells #[.int .i64 p] 293)).drew w' := by
  have h := lit_ints w [p] 293 #[.int .i64 p] rfl (by simpa using hp)
  have h' : Ints (w.alloc (.cells #[.int .i64 p] 293)).drew (w.alloc (.cells #[.int .i64 p] 293)).drew.heap.size (some ⟨w.heap.size, 0, none⟩) 1 (fun i => (([p].getD i 0 : Nat) : Int)) := h.later ((Below.refl _ _).drew)
  exact (of_any _ 1 1 (fun i => [p].getD i 0) _ h' (by unfold maxLen; omega) (fun i => by cases i <;> simp <;> omega)).mono fun _ _ ⟨a, b⟩ => ⟨by rw [a]; simp [orF, pw], by rw [← b]; exact Below.refl _ _⟩
theorem past_new {P : Nat} {w w2 : World} {o : Obj} (h : P < w.heap.size) (hb : Below (w.alloc o).drew.heap.size (w.alloc o).drew w2) :
    w2.cell? ⟨P, 0, none⟩ = w.cell? ⟨P, 0, none⟩ ∧ w2.frozen? ⟨P, 0, none⟩ = w.frozen? ⟨P, 0, none⟩ ∧ Below w.heap.size w w2 := by
  have d : Below w.heap.size w w2 := (((Below.refl _ _).alloc (Nat.le_refl _) _).drew).trans (hb.mono (by simp))
  exact ⟨d.cell (p := ⟨P, 0, none⟩) h, d.frozen (p := ⟨P, 0, none⟩) h, d⟩
set_option maxRecDepth 100000 in
theorem add_yes (P s p : Nat) (w : World) (h : CellU w P s) (hP : P < w.heap.size) (hs : s < 1024) (hp : p < 10) :
    Calls Tryz.prog 262 #[.int .i64 p, .bool true, .pointer (some ⟨P, 0, none⟩)] w fun e w' => e = .returned (.tuple #[]) ∧ (CellU w' P (addB s p true) ∧ Below P w w') := by
  obtain ⟨h1, h2⟩ := h
  have H := Lib.hid (or_u64 s p hs hp)
  go_enter Tryz.func262, Tryz.ntmps262
  go_wp2_with fail
  go_region_with ((go_at_call 261; refine (of_one p _ hp).mono ?_; rintro e w2 ⟨rfl, hw2⟩; obtain ⟨q1, q2, q3⟩ := past_new hP hw2; rw [h1] at q1; rw [h2] at q2; replace q3 := Lib.hid q3; clear hw2))
  all_goals
    go_end0
    exact ⟨rfl, SU.fin (w0 := w) ⟨q1, q2, q3.out.mono (Nat.le_of_lt hP), Nat.lt_of_lt_of_le hP q3.out.size⟩ H.out⟩
theorem add_no (P p : Nat) (w : World) : Calls Tryz.prog 262 #[.int .i64 p, .bool false, .pointer (some ⟨P, 0, none⟩)] w fun e w' => e = .returned (.tuple #[]) ∧ w = w' := by
  go_enter Tryz.func262, Tryz.ntmps262
  go_wp2_with fail
  go_end0
  exact ⟨rfl, rfl⟩
theorem add_any (P s p : Nat) (t : Bool) (w : World) (h : CellU w P s) (hP : P < w.heap.size) (hs : s < 1024) (hp : p < 10) :
    Calls Tryz.prog 262 #[.int .i64 p, .bool t, .pointer (some ⟨P, 0, none⟩)] w fun e w' => e = .returned (.tuple #[]) ∧ (CellU w' P (addB s p t) ∧ Below P w w') := by
  cases t with
  | true => exact add_yes P s p w h hP hs hp
  | false => exact (add_no P p w).mono fun _ _ ⟨a, b⟩ => ⟨a, by rw [← b]; exact ⟨h, Below.refl _ _⟩⟩
/-- The bits of what an instruction has. -/
def fill (t0 t1 t2 t3 t4 t6 t7 t8 : Bool) : Nat := addB (addB (addB (addB (addB (addB (addB (addB 0 0 t0) 1 t1) 2 t2) 3 t3) 4 t4) 6 t6) 7 t7) 8 t8
/-- What an instruction has. -/
def fillOf (h : M.Hd) (b e : M.L) : Nat := fill (h.ty != 0) (decide (0 < h.labels.length)) (h.ix != 0) (h.al != 0) (h.ofs != 0) (h.val != 0) (decide (0 < b.len)) (decide (0 < e.len))
set_option maxRecDepth 100000 in
set_option maxHeartbeats 4000000 in
theorem filled_any (g o : Nat) (h : M.Hd) (vL vB vE : Value) (b e : M.L) (w : World) (hg : g < w.heap.size) (hi : ItemAt w g o h vL vB vE) (hL : ∃ A c, vL = .slice A h.labels.length c) (hB : ∃ A c, vB = .slice A b.len c) (hE : ∃ A c, vE = .slice A e.len c) :
    Calls Tryz.prog 240 #[.pointer (some ⟨g, o, none⟩)] w fun r w' => r = .returned (.int .u64 (fillOf h b e : Nat)) ∧ Below w.heap.size w w' := by
  obtain ⟨AL, cL, rfl⟩ := hL
  obtain ⟨AB, cB, rfl⟩ := hB
  obtain ⟨AE, cE, rfl⟩ := hE
  obtain ⟨c0, c1, c2, c3, c4, c5, c6, c7, c8⟩ := hi
  go_enter Tryz.func240, Tryz.ntmps240
  go_wp2_with fail
  have C0 : CellU (w.alloc (.cells #[.int .u64 0] 288)) w.heap.size 0 := ⟨by simp, by simp⟩
  have z0 : w.heap.size < (w.alloc (.cells #[.int .u64 0] 288)).heap.size := by simp
  have l0 : 0 < 1024 := by omega
  have d0 := Lib.hid ((Below.refl w.heap.size w).alloc (Nat.le_refl _) (.cells #[.int .u64 0] 288))
  refine (add_any w.heap.size 0 0 (h.ty != 0) _ C0 z0 l0 (by omega)).mono ?_
  rintro r1 w1 ⟨rfl, C1, b1⟩
  have l1 := addB_lt (s := 0) (p := 0) (t := (h.ty != 0)) l0 (by omega)
  obtain ⟨s1, e1⟩ : ∃ s, s = addB 0 0 (h.ty != 0) := ⟨_, rfl⟩
  rw [← e1] at C1 l1
  replace e1 := Lib.hid e1
  have d1 := Lib.hid (d0.out.trans b1)
  have z1 : w.heap.size < w1.heap.size := by have := b1.size; omega
  clear b1 C0 z0
  have x1 : w1.cell? ⟨g, o + 6, none⟩ = some (.slice AL h.labels.length cL) := by rw [d1.out.cell (by exact hg)]; exact c6
  replace C1 := Lib.hid C1
  go_wp2_with fail
  replace C1 := C1.out
  refine (add_any w.heap.size s1 1 (decide (0 < h.labels.length)) _ C1 z1 l1 (by omega)).mono ?_
  rintro r2 w2 ⟨rfl, C2, b2⟩
  have l2 := addB_lt (s := s1) (p := 1) (t := (decide (0 < h.labels.length))) l1 (by omega)
  obtain ⟨s2, e2⟩ : ∃ s, s = addB s1 1 (decide (0 < h.labels.length)) := ⟨_, rfl⟩
  rw [← e2] at C2 l2
  replace e2 := Lib.hid e2
  have d2 := Lib.hid (d1.out.trans b2)
  have z2 : w.heap.size < w2.heap.size := by have := b2.size; omega
  clear b2 C1 z1
  have x2 : w2.cell? ⟨g, o + 2, none⟩ = some (.int .i64 h.ix) := by rw [d2.out.cell (by exact hg)]; exact c2
  replace C2 := Lib.hid C2
  go_wp2_with fail
  replace C2 := C2.out
  refine (add_any w.heap.size s2 2 (h.ix != 0) _ C2 z2 l2 (by omega)).mono ?_
  rintro r3 w3 ⟨rfl, C3, b3⟩
  have l3 := addB_lt (s := s2) (p := 2) (t := (h.ix != 0)) l2 (by omega)
  obtain ⟨s3, e3⟩ : ∃ s, s = addB s2 2 (h.ix != 0) := ⟨_, rfl⟩
  rw [← e3] at C3 l3
  replace e3 := Lib.hid e3
  have d3 := Lib.hid (d2.out.trans b3)
  have z3 : w.heap.size < w3.heap.size := by have := b3.size; omega
  clear b3 C2 z2
  have x3 : w3.cell? ⟨g, o + 3, none⟩ = some (.int .i64 h.al) := by rw [d3.out.cell (by exact hg)]; exact c3
  replace C3 := Lib.hid C3
  go_wp2_with fail
  replace C3 := C3.out
  refine (add_any w.heap.size s3 3 (h.al != 0) _ C3 z3 l3 (by omega)).mono ?_
  rintro r4 w4 ⟨rfl, C4, b4⟩
  have l4 := addB_lt (s := s3) (p := 3) (t := (h.al != 0)) l3 (by omega)
  obtain ⟨s4, e4⟩ : ∃ s, s = addB s3 3 (h.al != 0) := ⟨_, rfl⟩
  rw [← e4] at C4 l4
  replace e4 := Lib.hid e4
  have d4 := Lib.hid (d3.out.trans b4)
  have z4 : w.heap.size < w4.heap.size := by have := b4.size; omega
  clear b4 C3 z3
  have x4 : w4.cell? ⟨g, o + 4, none⟩ = some (.int .i64 h.ofs) := by rw [d4.out.cell (by exact hg)]; exact c4
  replace C4 := Lib.hid C4
  go_wp2_with fail
  replace C4 := C4.out
  refine (add_any w.heap.size s4 4 (h.ofs != 0) _ C4 z4 l4 (by omega)).mono ?_
  rintro r5 w5 ⟨rfl, C5, b5⟩
  have l5 := addB_lt (s := s4) (p := 4) (t := (h.ofs != 0)) l4 (by omega)
  obtain ⟨s5, e5⟩ : ∃ s, s = addB s4 4 (h.ofs != 0) := ⟨_, rfl⟩
  rw [← e5] at C5 l5
  replace e5 := Lib.hid e5
  have d5 := Lib.hid (d4.out.trans b5)
  have z5 : w.heap.size < w5.heap.size := by have := b5.size; omega
  clear b5 C4 z4
  have x5 : w5.cell? ⟨g, o + 5, none⟩ = some (.int .i64 h.val) := by rw [d5.out.cell (by exact hg)]; exact c5
  replace C5 := Lib.hid C5
  go_wp2_with fail
  replace C5 := C5.out
  refine (add_any w.heap.size s5 6 (h.val != 0) _ C5 z5 l5 (by omega)).mono ?_
  rintro r6 w6 ⟨rfl, C6, b6⟩
  have l6 := addB_lt (s := s5) (p := 6) (t := (h.val != 0)) l5 (by omega)
  obtain ⟨s6, e6⟩ : ∃ s, s = addB s5 6 (h.val != 0) := ⟨_, rfl⟩
  rw [← e6] at C6 l6
  replace e6 := Lib.hid e6
  have d6 := Lib.hid (d5.out.trans b6)
  have z6 : w.heap.size < w6.heap.size := by have := b6.size; omega
  clear b6 C5 z5
  have x6 : w6.cell? ⟨g, o + 7, none⟩ = some (.slice AB b.len cB) := by rw [d6.out.cell (by exact hg)]; exact c7
  replace C6 := Lib.hid C6
  go_wp2_with fail
  replace C6 := C6.out
  refine (add_any w.heap.size s6 7 (decide (0 < b.len)) _ C6 z6 l6 (by omega)).mono ?_
  rintro r7 w7 ⟨rfl, C7, b7⟩
  have l7 := addB_lt (s := s6) (p := 7) (t := (decide (0 < b.len))) l6 (by omega)
  obtain ⟨s7, e7⟩ : ∃ s, s = addB s6 7 (decide (0 < b.len)) := ⟨_, rfl⟩
  rw [← e7] at C7 l7
  replace e7 := Lib.hid e7
  have d7 := Lib.hid (d6.out.trans b7)
  have z7 : w.heap.size < w7.heap.size := by have := b7.size; omega
  clear b7 C6 z6
  have x7 : w7.cell? ⟨g, o + 8, none⟩ = some (.slice AE e.len cE) := by rw [d7.out.cell (by exact hg)]; exact c8
  replace C7 := Lib.hid C7
  go_wp2_with fail
  replace C7 := C7.out
  refine (add_any w.heap.size s7 8 (decide (0 < e.len)) _ C7 z7 l7 (by omega)).mono ?_
  rintro r8 w8 ⟨rfl, C8, b8⟩
  have l8 := addB_lt (s := s7) (p := 8) (t := (decide (0 < e.len))) l7 (by omega)
  obtain ⟨s8, e8⟩ : ∃ s, s = addB s7 8 (decide (0 < e.len)) := ⟨_, rfl⟩
  rw [← e8] at C8 l8
  replace e8 := Lib.hid e8
  have d8 := Lib.hid (d7.out.trans b8)
  have z8 : w.heap.size < w8.heap.size := by have := b8.size; omega
  clear b8 C7 z7
  have q := C8.cell
  go_wp2_with fail
  go_ret
  refine ⟨ret_int ?_, d8.out⟩
  rw [e8.out, e7.out, e6.out, e5.out, e4.out, e3.out, e2.out, e1.out]
  rfl
end Go.Proofs.YtilaheifccjjeaaGreat
namespace Go.Proofs.YtilaheifccjjeaaGreat
open Go.RowKit
def valOk (h : M.Hd) : Prop := h.op = 65 → (-2147483648 ≤ h.val ∧ h.val < 2147483648)
def RangeP (h : M.Hd) : Prop := (∀ x ∈ h.labels, M.inR x) ∧ M.inR h.ix ∧ M.inR h.al ∧ M.inR h.ofs ∧ valOk h
def RPost (P : Prop) (w : World) (e : Ending) (w' : World) : Prop := ∃ r : Bool, e = .returned (.bool r) ∧ (r = true ↔ P) ∧ Below w.heap.size w w'
theorem RPost.yes {P : Prop} {w w' : World} {e : Ending} (he : e = .returned (.bool true)) (h : P) (hb : Below w.heap.size w w') : RPost P w e w' := ⟨true, he, by simp [h], hb⟩
theorem RPost.no {P : Prop} {w w' : World} {e : Ending} (he : e = .returned (.bool false)) (h : ¬ P) (hb : Below w.heap.size w w') : RPost P w e w' := ⟨false, he, by simp [h], hb⟩
theorem width_w (op W : Int) (w : World) (hW : widthOf op = W) : Calls Tryz.prog 264 #[.int .i64 op] w fun e w' => e = .returned (.int .i64 W) ∧ w' = w := (width_any op w).mono fun _ _ ⟨a, b⟩ => ⟨by rw [a, hW], b.symm⟩
theorem isNumber_yes (v : Int) (w : World) (h : M.inR v) : Calls Tryz.prog 263 #[.int .i64 v] w fun e w' => e = .returned (.bool true) ∧ w = w' :=
  (isNumber_any v w (by unfold M.inR at h; omega)).mono fun _ _ ⟨a, b⟩ => ⟨by rw [a]; simp [h], b⟩
theorem isNumber_no (v : Int) (w : World) (hr : -9223372036854775808 ≤ v ∧ v ≤ 9223372036854775807) (h : ¬ M.inR v) : Calls Tryz.prog 263 #[.int .i64 v] w fun e w' => e = .returned (.bool false) ∧ w = w' :=
  (isNumber_any v w hr).mono fun _ _ ⟨a, b⟩ => ⟨by rw [a]; simp [h], b⟩
/-- What is left of a number behind its lowest 31 or 63 bits. -/
def beyond (h : M.Hd) : Int := if h.op = 65 then h.val / 2147483648 else h.val / 9223372036854775808
theorem beyond_ok (h : M.Hd) (hR : Rng h) : (beyond h = 0 ∨ beyond h = -1) ↔ valOk h := by
  unfold beyond valOk
  have := hR.r5
  split <;> omega
theorem mem_of_all {xs : List Int} {P : Int → Prop} (h : ∀ i, i < xs.length → P (xs.getD i 0)) : ∀ x ∈ xs, P x := by
  intro x hx
  obtain ⟨i, hi, rfl⟩ := List.getElem_of_mem hx
  have := h i hi
  rwa [List.getD_eq_getElem?_getD, List.getElem?_eq_getElem hi] at this
theorem getD_mem {xs : List Int} {i : Nat} (h : i < xs.length) : xs.getD i 0 ∈ xs := by
  rw [List.getD_eq_getElem?_getD, List.getElem?_eq_getElem h]
  exact List.getElem_mem h
set_option maxRecDepth 100000 in
set_option maxHeartbeats 1000000 in
theorem inRange_any (g o : Nat) (h : M.Hd) (vL vB vE : Value) (w : World) (hi : ItemAt w g o h vL vB vE) (hR : Rng h) (hL : NB w vL h.labels) :
    Calls Tryz.prog 241 #[.pointer (some ⟨g, o, none⟩)] w (RPost (RangeP h) w) := by
  obtain ⟨A, c, rfl, ⟨n1, n2, n3⟩, hL⟩ := hL
  unfold maxLen at n3
  replace hL := Lib.hid hL
  have hB := Lib.hid (beyond_ok h hR)
  obtain ⟨r0, r1, r2, r3, r4, r5⟩ := hR
  obtain ⟨c0, c1, c2, c3, c4, c5, c6, c7, c8⟩ := hi
  clear c1 c7 c8 r0 r1
  go_enter Tryz.func241, Tryz.ntmps241
  go_wp2_with fail
  go_loop [4, 11] (fun _ i => ∃ k : Nat, k ≤ h.labels.length ∧ i = .int .i64 k ∧ ∀ j, j < k → M.inR (h.labels.getD j 0)) (fun _ i => h.labels.length - (intOf i).toNat)
  case atStart => exact ⟨0, by omega, rfl, fun j hj => by omega⟩
  case round =>
    obtain ⟨k, hk, rfl, ha⟩ := hrel
    replace ha := Lib.hid ha
    by_cases hlt : k < h.labels.length
    · obtain ⟨ad, rfl, _, hr, q⟩ := hL.out k hlt
      obtain ⟨x, hx⟩ : ∃ x, x = h.labels.getD k 0 := ⟨_, rfl⟩
      rw [← hx] at q hr
      by_cases hn : M.inR x
      · replace hx := Lib.hid hx
        replace hn := Lib.hid hn
        go_wp2_with (go_at_call 263; refine (isNumber_yes _ _ hn.out).mono ?_; rintro e w' ⟨rfl, rfl⟩)
        refine ⟨⟨k + 1, by omega, by go_num, fun j hj => ?_⟩, by simp [intOf]; omega⟩
        by_cases e : j = k
        · subst e; rw [← hx.out]; exact hn.out
        · exact ha.out j (by omega)
      · have hno := Lib.hid (show ¬ RangeP h from fun hp => hn (by rw [hx]; exact hp.1 _ (getD_mem hlt)))
        clear hx
        replace hn := Lib.hid hn
        go_wp2_with (go_at_call 263; refine (isNumber_no _ _ hr hn.out).mono ?_; rintro e w' ⟨rfl, rfl⟩)
        go_ret
        exact .no rfl hno.out (Below.refl _ _)
    · have hall := Lib.hid (mem_of_all (xs := h.labels) (P := M.inR) (fun i hi => ha.out i (by omega)))
      obtain ⟨y, hy⟩ : ∃ y, y = beyond h := ⟨_, rfl⟩
      have hBy := Lib.hid (show (y = 0 ∨ y = -1) ↔ valOk h by rw [hy]; exact hB.out)
      by_cases hop : h.op = 65
      all_goals
        first
          | (have hw := Lib.hid (show widthOf h.op = 32 by unfold widthOf; rw [if_pos hop]); have hy' := Lib.hid (show h.val / 2147483648 = y by rw [hy]; unfold beyond; rw [if_pos hop]))
          | (have hw := Lib.hid (show widthOf h.op = 64 by unfold widthOf; rw [if_neg hop]); have hy' := Lib.hid (show h.val / 9223372036854775808 = y by rw [hy]; unfold beyond; rw [if_neg hop]))
        clear hop hy
        go_wp2_with fail
        go_quiet ((go_at_call 264; exact Calls.quiet_of_same (width_w _ _ _ hw.out)))
        rw [hy'.out]
        clear hy'
        have hbd := Lib.hid (below_drewN (Below.refl w.heap.size w) nq)
        by_cases hix : M.inR h.ix
        · replace hix := Lib.hid hix
          go_wp2_with fail
          refine (isNumber_yes _ _ hix.out).mono ?_
          rintro e1 w1 ⟨rfl, rfl⟩
          by_cases hal : M.inR h.al
          · replace hal := Lib.hid hal
            go_wp2_with fail
            refine (isNumber_yes _ _ hal.out).mono ?_
            rintro e1 w1 ⟨rfl, rfl⟩
            by_cases hof : M.inR h.ofs
            · replace hof := Lib.hid hof
              go_wp2_with fail
              refine (isNumber_yes _ _ hof.out).mono ?_
              rintro e1 w1 ⟨rfl, rfl⟩
              by_cases y0 : y = 0
              · subst y0
                go_wp2_with fail
                go_ret
                exact .yes rfl ⟨hall.out, hix.out, hal.out, hof.out, hBy.out.1 (by simp)⟩ hbd.out
              · have y0' : (y == 0) = false := by rw [beq_eq_false_iff_ne]; exact y0
                by_cases y1 : y = -1
                · subst y1
                  go_wp2_with fail
                  go_ret
                  exact .yes rfl ⟨hall.out, hix.out, hal.out, hof.out, hBy.out.1 (by simp)⟩ hbd.out
                · have y1' : (y == -1) = false := by rw [beq_eq_false_iff_ne]; exact y1
                  have hno := Lib.hid (show ¬ RangeP h from fun hp => by have := hBy.out.2 hp.2.2.2.2; omega)
                  clear y0 y1
                  go_wp2_with fail
                  go_ret
                  exact .no rfl hno.out hbd.out
            · replace hof := Lib.hid hof
              go_wp2_with fail
              refine (isNumber_no _ _ r4 hof.out).mono ?_
              rintro e1 w1 ⟨rfl, rfl⟩
              go_wp2_with fail
              go_ret
              exact .no rfl (fun hp => hof.out hp.2.2.2.1) hbd.out
          · replace hal := Lib.hid hal
            go_wp2_with fail
            refine (isNumber_no _ _ r3 hal.out).mono ?_
            rintro e1 w1 ⟨rfl, rfl⟩
            go_wp2_with fail
            go_ret
            exact .no rfl (fun hp => hal.out hp.2.2.1) hbd.out
        · replace hix := Lib.hid hix
          go_wp2_with fail
          refine (isNumber_no _ _ r2 hix.out).mono ?_
          rintro e1 w1 ⟨rfl, rfl⟩
          go_wp2_with fail
          go_ret
          exact .no rfl (fun hp => hix.out hp.2.1) hbd.out
/-- Whether one instruction may be, with so many blocks still to come. -/
def okI (d : Nat) (h : M.Hd) (b e : M.L) : Prop := M.flat h ∧ (M.kind h.op = 2 → 0 < d ∧ M.ok (d - 1) b ∧ M.ok (d - 1) e) ∧ (M.kind h.op ≠ 2 → b = .nil) ∧ (h.op ≠ 4 → e = .nil)
theorem ok_cons (d : Nat) (h : M.Hd) (b e r : M.L) : M.ok d (.cons h b e r) ↔ okI d h b e ∧ M.ok d r :=
  ⟨fun ⟨a, b, c, d, e⟩ => ⟨⟨a, b, c, d⟩, e⟩, fun ⟨⟨a, b, c, d⟩, e⟩ => ⟨a, b, c, d, e⟩⟩
/-- Something is there that the byte does not have. -/
def overB (h : M.Hd) (b e : M.L) : Bool := bits .andNot .u64 (fillOf h b e : Nat) (M.mask h.op : Nat) != 0
theorem over_0 : ∀ t0 t1 t2 t3 t4 t6 t7 t8 : Bool, (bits .andNot .u64 (fill t0 t1 t2 t3 t4 t6 t7 t8 : Nat) ((0 : Nat) : Int) != 0) = (t0 || t1 || t2 || t3 || t4 || t6 || t7 || t8) := by decide +kernel
theorem over_641 : ∀ t0 t1 t2 t3 t4 t6 t7 t8 : Bool, (bits .andNot .u64 (fill t0 t1 t2 t3 t4 t6 t7 t8 : Nat) ((641 : Nat) : Int) != 0) = (t1 || t2 || t3 || t4 || t6 || t8) := by decide +kernel
theorem over_897 : ∀ t0 t1 t2 t3 t4 t6 t7 t8 : Bool, (bits .andNot .u64 (fill t0 t1 t2 t3 t4 t6 t7 t8 : Nat) ((897 : Nat) : Int) != 0) = (t1 || t2 || t3 || t4 || t6) := by decide +kernel
theorem over_4 : ∀ t0 t1 t2 t3 t4 t6 t7 t8 : Bool, (bits .andNot .u64 (fill t0 t1 t2 t3 t4 t6 t7 t8 : Nat) ((4 : Nat) : Int) != 0) = (t0 || t1 || t3 || t4 || t6 || t7 || t8) := by decide +kernel
theorem over_6 : ∀ t0 t1 t2 t3 t4 t6 t7 t8 : Bool, (bits .andNot .u64 (fill t0 t1 t2 t3 t4 t6 t7 t8 : Nat) ((6 : Nat) : Int) != 0) = (t0 || t3 || t4 || t6 || t7 || t8) := by decide +kernel
theorem over_36 : ∀ t0 t1 t2 t3 t4 t6 t7 t8 : Bool, (bits .andNot .u64 (fill t0 t1 t2 t3 t4 t6 t7 t8 : Nat) ((36 : Nat) : Int) != 0) = (t0 || t1 || t3 || t4 || t6 || t7 || t8) := by decide +kernel
theorem over_24 : ∀ t0 t1 t2 t3 t4 t6 t7 t8 : Bool, (bits .andNot .u64 (fill t0 t1 t2 t3 t4 t6 t7 t8 : Nat) ((24 : Nat) : Int) != 0) = (t0 || t1 || t2 || t6 || t7 || t8) := by decide +kernel
theorem over_32 : ∀ t0 t1 t2 t3 t4 t6 t7 t8 : Bool, (bits .andNot .u64 (fill t0 t1 t2 t3 t4 t6 t7 t8 : Nat) ((32 : Nat) : Int) != 0) = (t0 || t1 || t2 || t3 || t4 || t6 || t7 || t8) := by decide +kernel
theorem over_64 : ∀ t0 t1 t2 t3 t4 t6 t7 t8 : Bool, (bits .andNot .u64 (fill t0 t1 t2 t3 t4 t6 t7 t8 : Nat) ((64 : Nat) : Int) != 0) = (t0 || t1 || t2 || t3 || t4 || t7 || t8) := by decide +kernel
theorem len_pos (l : M.L) : decide (0 < l.len) = false ↔ l = .nil := by
  cases l with
  | nil => simp [M.L.len]
  | cons => simp [M.L.len]
theorem labels_pos (l : List Int) : decide (0 < l.length) = false ↔ l = [] := by cases l <;> simp
/-- The two ways to say that an instruction's own things may be. -/
theorem may_iff (h : M.Hd) (b e : M.L) (hR : Rng h) (hk : M.kind h.op ≠ 0) :
    (overB h b e = false ∧ RangeP h ∧ (M.kind h.op = 2 → M.tyOk h.ty)) ↔ (M.flat h ∧ (M.kind h.op ≠ 2 → b = .nil) ∧ (h.op ≠ 4 → e = .nil)) := by
  have h65 := M.kind_small h.op
  have h24 := M.kind_block h.op
  have h5 := hR.r5
  unfold RangeP valOk overB fillOf
  obtain ⟨op, ty, ix, al, ofs, val, labels⟩ := h
  simp only at *
  have z0 : M.inR 0 := by unfold M.inR; omega
  rcases M.kind_cases op with k | k | k | k | k | k | k | k | k | k
  · exact absurd k hk
  all_goals
    rw [M.mask_of k]
    unfold M.flat
    simp only
    rw [k]
  all_goals simp only [M.maskK, M.flatK]
  case inr.inr.inl =>
    by_cases h4 : op = 4
    · rw [if_pos h4, over_897]
      simp only [M.hd0, M.Hd.mk.injEq, Bool.or_eq_false_iff, bne_eq_false_iff_eq, labels_pos]
      constructor
      · rintro ⟨⟨⟨⟨⟨a1, a2⟩, a3⟩, a4⟩, a5⟩, _, a6⟩
        exact ⟨⟨⟨trivial, trivial, a2, a3, a4, a5, a1⟩, a6 trivial⟩, fun h => absurd rfl h, fun h => absurd h4 h⟩
      · rintro ⟨⟨⟨_, _, a2, a3, a4, a5, a1⟩, a6⟩, _, _⟩
        subst a1 a2 a3 a4 a5
        exact ⟨⟨⟨⟨⟨rfl, rfl⟩, rfl⟩, rfl⟩, rfl⟩, ⟨fun x hx => by simp at hx, z0, z0, z0, fun _ => by omega⟩, fun _ => a6⟩
    · rw [if_neg h4, over_641]
      simp only [M.hd0, M.Hd.mk.injEq, Bool.or_eq_false_iff, bne_eq_false_iff_eq, labels_pos, len_pos]
      constructor
      · rintro ⟨⟨⟨⟨⟨⟨a1, a2⟩, a3⟩, a4⟩, a5⟩, a7⟩, _, a6⟩
        exact ⟨⟨⟨trivial, trivial, a2, a3, a4, a5, a1⟩, a6 trivial⟩, fun h => absurd rfl h, fun _ => a7⟩
      · rintro ⟨⟨⟨_, _, a2, a3, a4, a5, a1⟩, a6⟩, _, a7⟩
        subst a1 a2 a3 a4 a5
        exact ⟨⟨⟨⟨⟨⟨rfl, rfl⟩, rfl⟩, rfl⟩, rfl⟩, a7 h4⟩, ⟨fun x hx => by simp at hx, z0, z0, z0, fun _ => by omega⟩, fun _ => a6⟩
  all_goals
    have n4 : op ≠ 4 := by omega
    have n65 : op = 65 ↔ M.kind op = 8 := h65.symm
    rw [k] at n65
    first | rw [over_0] | rw [over_4] | rw [over_6] | rw [over_36] | rw [over_24] | rw [over_32] | rw [over_64]
    simp only [M.hd0, M.Hd.mk.injEq, Bool.or_eq_false_iff, bne_eq_false_iff_eq, labels_pos, len_pos]
    constructor
    · intro hh
      simp_all <;> omega
    · intro hh
      simp_all
end Go.Proofs.YtilaheifccjjeaaGreat
namespace Go.Proofs.YtilaheifccjjeaaGreat
open Go.RowKit
def hasB (s p : Nat) : Bool := s / 2 ^ p % 2 == 1
theorem has_eq (s p : Nat) (hs : s < 1024) : (bits .and .u64 ((s : Int) / 2 ^ p) 1 == 1) = hasB s p := by
  have e : (s : Int) / 2 ^ p = ((s / 2 ^ p : Nat) : Int) := by push_cast; rfl
  have hl : s / 2 ^ p ≤ s := Nat.div_le_self _ _
  rw [e, show (1 : Int) = ((1 : Nat) : Int) from rfl, u64_and_nat _ _ (by omega) (by omega), Nat.and_one_is_mod]
  unfold hasB
  rw [Bool.eq_iff_iff, beq_iff_eq, beq_iff_eq]
  omega
theorem has_any (s p : Nat) (w : World) (hs : s < 1024) (hp : p < 10) : Calls Tryz.prog 242 #[.int .u64 s, .int .i64 p] w fun e w' => e = .returned (.bool (hasB s p)) ∧ w = w' := by
  have H := Lib.hid (has_eq s p hs)
  go_enter Tryz.func242, Tryz.ntmps242
  go_wp2
  go_ret
  exact ⟨ret_bool H.out, rfl⟩
theorem mask_lt (op : Int) : M.mask op < 1024 := by
  unfold M.mask
  rcases M.kind_cases op with k | k | k | k | k | k | k | k | k | k
  all_goals rw [k]; simp only [M.maskK]
  case inr.inr.inl => split <;> omega
  all_goals omega
theorem has_body (op : Int) : hasB (M.mask op) 7 = decide (M.kind op = 2) := by
  unfold M.mask
  rcases M.kind_cases op with k | k | k | k | k | k | k | k | k | k
  all_goals rw [k]; simp only [M.maskK]
  case inr.inr.inl => split <;> decide
  all_goals decide
theorem partsOf_yes (op : Int) (w : World) (h : M.kind op ≠ 0) : Calls Tryz.prog 239 #[.int .i64 op] w fun e w' => e = .returned (.tuple #[.int .u64 (M.mask op : Nat), .bool true]) ∧ Below w.heap.size w w' :=
  (partsOf_any op w).mono fun _ _ ⟨a, b⟩ => ⟨by rw [a]; simp [h], b⟩
theorem partsOf_no (op : Int) (w : World) (h : M.kind op = 0) : Calls Tryz.prog 239 #[.int .i64 op] w fun e w' => e = .returned (.tuple #[.int .u64 0, .bool false]) ∧ Below w.heap.size w w' :=
  (partsOf_any op w).mono fun _ _ ⟨a, b⟩ => ⟨by rw [a, M.mask_of h, h]; rfl, b⟩
theorem isType_yes (t : Int) (w : World) (h : M.tyOk t) : Calls Tryz.prog 243 #[.int .i64 t] w fun e w' => e = .returned (.bool true) ∧ w = w' :=
  (isType_any t w).mono fun _ _ ⟨a, b⟩ => ⟨by rw [a]; simp [h], b⟩
theorem isType_no (t : Int) (w : World) (h : ¬ M.tyOk t) : Calls Tryz.prog 243 #[.int .i64 t] w fun e w' => e = .returned (.bool false) ∧ w = w' :=
  (isType_any t w).mono fun _ _ ⟨a, b⟩ => ⟨by rw [a]; simp [h], b⟩
def AreOk (N : Nat) : Prop := ∀ (l : M.L) (v : Value) (deep : Nat) (w : World), l.sz < N → LB w v l → deep ≤ 40 → Calls Tryz.prog 204 #[v, .int .i64 deep] w (RPost (M.ok (40 - deep) l) w)
set_option maxRecDepth 100000 in
theorem isInstr_of (N : Nat) (ih : AreOk N) (g o : Nat) (h : M.Hd) (b e : M.L) (vL vB vE : Value) (deep : Nat) (w : World) (hb : b.sz < N) (he : e.sz < N) (hg : g < w.heap.size) (hi : ItemAt w g o h vL vB vE) (hR : Rng h) (h1 : NB w vL h.labels) (h2 : LB w vB b) (h3 : LB w vE e) (hd : deep ≤ 40) :
    Calls Tryz.prog 218 #[.pointer (some ⟨g, o, none⟩), .int .i64 deep] w (RPost (okI (40 - deep) h b e) w) := by
  have hi0 := Lib.hid hi
  obtain ⟨c0, c1, c2, c3, c4, c5, c6, c7, c8⟩ := hi
  clear c2 c3 c4 c5 c6
  replace h1 := Lib.hid h1
  replace h2 := Lib.hid h2
  replace h3 := Lib.hid h3
  replace hR := Lib.hid hR
  replace ih := Lib.hid ih
  by_cases hk : M.kind h.op = 0
  · have hno := Lib.hid (show ¬ okI (40 - deep) h b e from fun hp => M.flat_to hk hp.1)
    replace hk := Lib.hid hk
    go_enter Tryz.func218, Tryz.ntmps218
    go_wp2_with fail
    refine (partsOf_no _ _ hk.out).mono ?_
    rintro e1 w1 ⟨rfl, b1⟩
    replace b1 := Lib.hid b1
    go_wp2_with fail
    go_ret
    exact .no rfl hno.out b1.out
  · have hm := Lib.hid (may_iff h b e hR.out hk)
    have hml := mask_lt h.op
    have hbd := Lib.hid (has_body h.op)
    replace hk := Lib.hid hk
    go_enter Tryz.func218, Tryz.ntmps218
    go_wp2_with fail
    refine (partsOf_yes _ _ hk.out).mono ?_
    rintro e1 w1 ⟨rfl, b1⟩
    have i1 := Lib.hid (hi0.out.agree (b1.block g hg))
    have g1 : g < w1.heap.size := Nat.lt_of_lt_of_le hg b1.size
    replace b1 := Lib.hid b1
    go_wp2_with fail
    refine (filled_any g o h vL vB vE b e _ g1 i1.out ⟨_, _, (h1.out.form.choose_spec.choose_spec.1)⟩ ⟨_, _, (h2.out.form.choose_spec.choose_spec.1)⟩ ⟨_, _, (h3.out.form.choose_spec.choose_spec.1)⟩).mono ?_
    rintro e2 w2 ⟨rfl, b2⟩
    have d2 := Lib.hid (b1.out.trans (b2.mono b1.out.size))
    have i2 := Lib.hid (hi0.out.agree (d2.out.block g hg))
    have n2 := Lib.hid (h1.out.later d2.out)
    clear b2
    obtain ⟨t, ht⟩ : ∃ t, t = overB h b e := ⟨_, rfl⟩
    have ht' : (bits .andNot .u64 (fillOf h b e : Nat) (M.mask h.op : Nat) != 0) = t := ht.symm
    replace ht := Lib.hid ht
    cases t with
    | true =>
      go_wp2_with fail
      go_ret
      refine .no rfl (fun hp => ?_) d2.out
      have := (hm.out.2 ⟨hp.1, hp.2.2.1, hp.2.2.2⟩).1
      rw [← ht.out] at this
      cases this
    | false =>
      go_wp2_with fail
      refine (inRange_any g o h vL vB vE _ i2.out hR.out n2.out).mono ?_
      rintro e3 w3 ⟨r, rfl, hr, b3⟩
      have d3 := Lib.hid (d2.out.trans (b3.mono d2.out.size))
      clear b3 i1 i2 n2 ht'
      replace hr := Lib.hid hr
      have c1' : w3.cell? ⟨g, o + 1, none⟩ = some (.int .i64 h.ty) := by rw [d3.out.cell (by exact hg)]; exact c1
      have c7' : w3.cell? ⟨g, o + 7, none⟩ = some vB := by rw [d3.out.cell (by exact hg)]; exact c7
      cases r with
      | false =>
        go_wp2_with fail
        go_ret
        refine .no rfl (fun hp => ?_) d3.out
        have := (hm.out.2 ⟨hp.1, hp.2.2.1, hp.2.2.2⟩).2.1
        have h9 := hr.out.2 this
        cases h9
      | true =>
        have hrp := Lib.hid (hr.out.1 rfl)
        clear hr
        by_cases k2 : M.kind h.op = 2
        · have hbt := Lib.hid (show hasB (M.mask h.op) 7 = true by rw [hbd.out]; simp [k2])
          replace k2 := Lib.hid k2
          go_wp2_with fail
          refine (has_any _ 7 _ hml (by omega)).mono ?_
          rintro e4 w4 ⟨rfl, rfl⟩
          rw [hbt.out]
          by_cases ty : M.tyOk h.ty
          · replace ty := Lib.hid ty
            go_wp2_with fail
            refine (isType_yes _ _ ty.out).mono ?_
            rintro e4 w4 ⟨rfl, rfl⟩
            have hfl := Lib.hid (hm.out.1 ⟨ht.out.symm, hrp.out, fun _ => ty.out⟩)
            by_cases dp : deep < 40
            · have dp' : decide ((deep : Int) < 40) = true := by simp; omega
              go_wp2_with fail
              refine (ih.out b vB (deep + 1) _ hb (h2.out.later d3.out) (by omega)).mono ?_
              rintro e5 w5 ⟨r5, rfl, hr5, b5⟩
              have d5 := Lib.hid (d3.out.trans (b5.mono d3.out.size))
              clear b5
              have c8' : w5.cell? ⟨g, o + 8, none⟩ = some vE := by rw [d5.out.cell (by exact hg)]; exact c8
              replace hr5 := Lib.hid hr5
              cases r5 with
              | false =>
                go_wp2_with fail
                go_ret
                refine .no rfl (fun hp => ?_) d5.out
                have h9 := hr5.out.2 (by rw [show 40 - (deep + 1) = 40 - deep - 1 by omega]; exact (hp.2.1 k2.out).2.1)
                cases h9
              | true =>
                go_wp2_with fail
                refine (ih.out e vE (deep + 1) _ he (h3.out.later d5.out) (by omega)).mono ?_
                rintro e6 w6 ⟨r6, rfl, hr6, b6⟩
                have d6 := Lib.hid (d5.out.trans (b6.mono d5.out.size))
                clear b6
                replace hr6 := Lib.hid hr6
                cases r6 with
                | false =>
                  go_wp2_with fail
                  go_ret
                  refine .no rfl (fun hp => ?_) d6.out
                  have h9 := hr6.out.2 (by rw [show 40 - (deep + 1) = 40 - deep - 1 by omega]; exact (hp.2.1 k2.out).2.2)
                  cases h9
                | true =>
                  go_wp2_with fail
                  go_ret
                  refine .yes rfl ⟨hfl.out.1, fun _ => ⟨by omega, ?_, ?_⟩, hfl.out.2.1, hfl.out.2.2⟩ d6.out
                  · have := hr5.out.1 (by simp); rwa [show 40 - (deep + 1) = 40 - deep - 1 by omega] at this
                  · have := hr6.out.1 (by simp); rwa [show 40 - (deep + 1) = 40 - deep - 1 by omega] at this
            · have dp' : decide ((deep : Int) < 40) = false := by simp; omega
              go_wp2_with fail
              go_ret
              exact .no rfl (fun hp => by have := (hp.2.1 k2.out).1; omega) d3.out
          · replace ty := Lib.hid ty
            go_wp2_with fail
            refine (isType_no _ _ ty.out).mono ?_
            rintro e4 w4 ⟨rfl, rfl⟩
            go_wp2_with fail
            go_ret
            exact .no rfl (fun hp => ty.out ((hm.out.2 ⟨hp.1, hp.2.2.1, hp.2.2.2⟩).2.2 k2.out)) d3.out
        · have hbt := Lib.hid (show hasB (M.mask h.op) 7 = false by rw [hbd.out]; simp [k2])
          have hfl := Lib.hid (hm.out.1 ⟨ht.out.symm, hrp.out, fun h9 => absurd h9 k2⟩)
          replace k2 := Lib.hid k2
          go_wp2_with fail
          refine (has_any _ 7 _ hml (by omega)).mono ?_
          rintro e4 w4 ⟨rfl, rfl⟩
          rw [hbt.out]
          go_wp2_with fail
          go_ret
          exact .yes rfl ⟨hfl.out.1, fun h9 => absurd h9 k2.out, hfl.out.2.1, hfl.out.2.2⟩ d3.out
theorem ok_nth {d : Nat} : ∀ {l : M.L}, (∀ k h b e, l.nth k = some (h, b, e) → okI d h b e) → M.ok d l
  | .nil, _ => trivial
  | .cons h b e r, hp => (ok_cons d h b e r).2 ⟨hp 0 h b e rfl, ok_nth fun k h' b' e' hn => hp (k + 1) h' b' e' hn⟩
theorem ok_of_nth {d : Nat} : ∀ {l : M.L}, M.ok d l → ∀ k h b e, l.nth k = some (h, b, e) → okI d h b e
  | .nil, _, _, _, _, _, hn => by cases hn
  | .cons h b e r, hp, 0, h', b', e', hn => by
    simp only [M.L.nth, Option.some.injEq, Prod.mk.injEq] at hn
    obtain ⟨rfl, rfl, rfl⟩ := hn
    exact ((ok_cons d h b e r).1 hp).1
  | .cons h b e r, hp, k + 1, h', b', e', hn => ok_of_nth ((ok_cons d h b e r).1 hp).2 k h' b' e' hn
set_option maxRecDepth 100000 in
theorem areInstrs_of (N : Nat) : AreOk N := by
  induction N with
  | zero => intro l v deep w h; omega
  | succ N ih =>
    intro l v deep w hN hl hd
    obtain ⟨A, c, rfl, hc1, hc2, hc3⟩ := hl.form
    unfold maxLen at hc3
    replace hl := Lib.hid hl
    replace ih := Lib.hid ih
    go_enter Tryz.func204, Tryz.ntmps204
    go_wp2_with fail
    go_loopw [5, 8] (fun _ i w' => ∃ k : Nat, k ≤ l.len ∧ i = .int .i64 k ∧ (∀ j h b e, j < k → l.nth j = some (h, b, e) → okI (40 - deep) h b e) ∧ Below w.heap.size w w') (fun _ i _ => l.len - (intOf i).toNat)
    case atStart => exact ⟨0, by omega, rfl, fun j _ _ _ hj => by omega, Below.refl _ _⟩
    case round =>
      obtain ⟨k, hk, rfl, hall, hbw⟩ := hrel
      replace hall := Lib.hid hall
      by_cases hlt : k < l.len
      · obtain ⟨h, b, e, hn⟩ := M.nth_of hlt
        obtain ⟨g, o, vL, vB, vE, rfl, hg, hi, hR, hL, hB, hE⟩ := (hl.out.later hbw).nth' hn
        have hsz := (M.nth_some hn).2
        replace hn := Lib.hid hn
        replace hi := Lib.hid hi
        replace hR := Lib.hid hR
        replace hL := Lib.hid hL
        replace hB := Lib.hid hB
        replace hE := Lib.hid hE
        replace hbw := Lib.hid hbw
        go_wp2_with fail
        refine (isInstr_of N ih.out g (o + k * 9) h b e vL vB vE deep _ (by omega) (by omega) hg hi.out hR.out hL.out hB.out hE.out hd).mono ?_
        rintro e1 w1 ⟨r, rfl, hr, b1⟩
        have d1 := Lib.hid (hbw.out.trans (b1.mono hbw.out.size))
        clear b1
        replace hr := Lib.hid hr
        cases r with
        | false =>
          go_wp2_with fail
          go_ret
          refine .no rfl (fun hp => ?_) d1.out
          have h9 := hr.out.2 (ok_of_nth hp k h b e hn.out)
          cases h9
        | true =>
          go_wp2_with fail
          refine ⟨⟨k + 1, by omega, by go_num, fun j h' b' e' hj hn' => ?_, d1.out⟩, by simp [intOf]; omega⟩
          by_cases ej : j = k
          · subst ej
            rw [hn.out] at hn'
            simp only [Option.some.injEq, Prod.mk.injEq] at hn'
            obtain ⟨rfl, rfl, rfl⟩ := hn'
            exact hr.out.1 (by simp)
          · exact hall.out j h' b' e' (by omega) hn'
      · go_wp2_with fail
        go_ret
        exact .yes rfl (ok_nth fun j h b e hn => hall.out j h b e (by have := (M.nth_some hn).1; omega) hn) hbw
theorem areInstrs_any (l : M.L) (v : Value) (deep : Nat) (w : World) (hl : LB w v l) (hd : deep ≤ 40) : Calls Tryz.prog 204 #[v, .int .i64 deep] w (RPost (M.ok (40 - deep) l) w) :=
  areInstrs_of (l.sz + 1) l v deep w (Nat.lt_succ_self _) hl hd
theorem areInstrs_yes (l : M.L) (v : Value) (w : World) (hl : LB w v l) (h : M.ok 40 l) : Calls Tryz.prog 204 #[v, .int .i64 0] w fun e w' => e = .returned (.bool true) ∧ Below w.heap.size w w' :=
  (areInstrs_any l v 0 w hl (by omega)).mono fun _ _ ⟨r, a, b, c⟩ => ⟨by rw [a, b.2 h], c⟩
theorem areInstrs_no (l : M.L) (v : Value) (w : World) (hl : LB w v l) (h : ¬ M.ok 40 l) : Calls Tryz.prog 204 #[v, .int .i64 0] w fun e w' => e = .returned (.bool false) ∧ Below w.heap.size w w' :=
  (areInstrs_any l v 0 w hl (by omega)).mono fun _ _ ⟨r, a, b, c⟩ => ⟨by rw [a]; cases r with | false => rfl | true => exact absurd (b.1 rfl) h, c⟩
end Go.Proofs.YtilaheifccjjeaaGreat
namespace Go.Proofs.YtilaheifccjjeaaGreat
namespace M
/-- What has been read of an instruction, and what is left of the bytes. -/
structure Stt where
  r : List Nat
  h : Hd
  b : L
  e : L
def wd (op : Int) : Nat := if op = 65 then 32 else 64
/-- One part. -/
def rdPart (sub : Rd) (k : Nat) (s : Stt) : Option Stt :=
  match k with
  | 0 => match s.r with
    | [] => none
    | t :: r => if tyOk t then some { s with r := r, h := { s.h with ty := t } } else none
  | 1 => (num s.r).bind fun c => (nums c.1.toNat c.2).bind fun t => some { s with r := t.2, h := { s.h with labels := t.1 } }
  | 2 => (num s.r).bind fun p => some { s with r := p.2, h := { s.h with ix := p.1 } }
  | 3 => (num s.r).bind fun p => some { s with r := p.2, h := { s.h with al := p.1 } }
  | 4 => (num s.r).bind fun p => some { s with r := p.2, h := { s.h with ofs := p.1 } }
  | 5 => (zeroB s.r).bind fun r => some { s with r := r }
  | 6 => (sgn (wd s.h.op) s.r).bind fun p => some { s with r := p.2, h := { s.h with val := p.1 } }
  | 7 => (sub s.r).bind fun p => some { s with r := p.2, b := p.1 }
  | 8 => match s.r with
    | [] => some s
    | x :: r => if x = 5 then (sub r).bind fun p => some { s with r := p.2, e := p.1 } else some s
  | 9 => (endB s.r).bind fun r => some { s with r := r }
  | _ => some s
/-- The parts from the last n on. -/
def rdAll (sub : Rd) (m : Nat) : Nat → Stt → Option Stt
  | 0, s => some s
  | n + 1, s => if hasB m (9 - n) then (rdPart sub (9 - n) s).bind (rdAll sub m n) else rdAll sub m n s
theorem rd_at (sub : Rd) (m k : Nat) (s : Stt) (hk : k < 10) : rdAll sub m (10 - k) s = if hasB m k then (rdPart sub k s).bind (rdAll sub m (10 - (k + 1))) else rdAll sub m (10 - (k + 1)) s := by
  obtain ⟨n, hn⟩ : ∃ n, 10 - k = n + 1 := ⟨9 - k, by omega⟩
  rw [hn, rdAll, show 9 - n = k by omega, show 10 - (k + 1) = n by omega]
theorem rd_ins (sub : Rd) (op : Nat) (bs : List Nat) (hk : kind op ≠ 0) :
    rdAll sub (mask op) 10 ⟨bs, hd0 op, .nil, .nil⟩ = (ins sub op bs).bind fun p => some ⟨p.2, p.1.1, p.1.2.1, p.1.2.2⟩ := by
  unfold ins
  rcases kind_cases (op : Int) with k | k | k | k | k | k | k | k | k | k
  · exact absurd k hk
  all_goals rw [mask_of k, k]
  case inr.inr.inl =>
    simp only [maskK]
    cases bs with
    | nil =>
      by_cases h4 : (op : Int) = 4
      · rw [if_pos h4]; simp [rdAll, hasB, rdPart, blkB]
      · rw [if_neg h4]; simp [rdAll, hasB, rdPart, blkB]
    | cons t r =>
      by_cases ht : tyOk t
      · by_cases h4 : (op : Int) = 4
        · have h4' : op = 4 := by omega
          rw [if_pos h4]
          simp only [rdAll, rdPart, blkB, if_pos ht, hasB]
          cases hs : sub r with
          | none => simp [hs]
          | some p =>
            simp [hs, Option.bind_assoc, h4']
            cases hp : p.2 with
            | nil => simp [elsB]
            | cons x r' =>
              by_cases hx : x = 5
              · simp [elsB, hx, Option.bind_assoc]
              · simp [elsB, hx]
        · have h4' : ¬ op = 4 := by omega
          rw [if_neg h4]
          simp only [rdAll, rdPart, blkB, if_pos ht, hasB]
          cases hs : sub r with
          | none => simp [hs]
          | some p =>
            simp [hs, Option.bind_assoc]
            cases hp : p.2 with
            | nil => simp [elsB]
            | cons x r' => simp [elsB, h4']
      · by_cases h4 : (op : Int) = 4
        · rw [if_pos h4]; simp [rdAll, hasB, rdPart, blkB, ht]
        · rw [if_neg h4]; simp [rdAll, hasB, rdPart, blkB, ht]
  case inr.inr.inr.inr.inr.inr.inr.inr.inl =>
    have := (kind_small op).1 k
    simp [maskK, rdAll, hasB, rdPart, hd0, Option.bind_assoc, wd, this]
  case inr.inr.inr.inr.inr.inr.inr.inr.inr =>
    have : ¬ (op : Int) = 65 := fun h => by have := (kind_small op).2 h; omega
    simp [maskK, rdAll, hasB, rdPart, hd0, Option.bind_assoc, wd, this]
  all_goals
    simp [maskK, rdAll, hasB, rdPart, hd0, Option.bind_assoc]
end M
end Go.Proofs.YtilaheifccjjeaaGreat
