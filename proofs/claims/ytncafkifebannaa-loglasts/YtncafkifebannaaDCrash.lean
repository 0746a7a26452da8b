/-
  What the disk's Crash answers, whatever the picks; condition: the disk was made by the call.
-/
import Derived.Test.YtncafkifebannaaDOps
import Derived.Test.YtncafkifebannaaDOpen
import Derived.Laws.EntriesVeiled
namespace Go.Proofs.Ytncafkifebannaa
open Go.RowKit
theorem run_nil_source {P : Program} (w : World) (base : Nat) (t ty e : TypeId) (i : TypeInfo) (size : Nat) (ht : P.underlying t = some (.slice e)) (hi : P.info? e = some i)
    (v : Value) (n : Nat) (xs : List Value) (hown : w.ownsRow base e size v n xs) (c : Nat) : (Builtin.append_ #[t, t] ty #[v, .slice none 0 c]).run P w = .ok v w := by
  rcases hown.2 with ⟨rfl, rfl⟩ | ⟨g, cap, cur, rfl, _, _, hnc, _⟩
  · simp [Builtin.append_, run_underlying ht, sizeOf, typeInfo, hi, Builtin.lenOf, Builtin.firstCells]
  · simp [Builtin.append_, run_underlying ht, sizeOf, typeInfo, hi, Builtin.lenOf, Builtin.firstCells, hnc, storeCells]
set_option maxRecDepth 100000 in
theorem run_cat (w : World) (base ty : Nat) (v vs : Value) (bs cs : List Nat) (hown : w.ownsRow base 5 1 v bs.length (vals bs)) (hA : BS w w.heap.size vs cs)
    (h63 : bs.length + cs.length ≤ 140737488355328) (hbase : base ≤ w.heap.size) :
    ∃ v' w', (Builtin.append_ #[37, 37] ty #[v, vs]).run Try.prog w = .ok v' w' ∧ w'.ownsRow base 5 1 v' (bs ++ cs).length (vals (bs ++ cs)) ∧ w.grownBy w' v.ownBlock := by
  obtain ⟨i0, hi0, hz0, hz1, hz2⟩ := info_parts u8_info
  obtain ⟨A, c, rfl, _, _, hB⟩ := hA
  rw [List.length_append, vals_append]
  rcases A with _ | ad
  · have hm : cs = [] := by
      cases cs with
      | nil => rfl
      | cons y r =>
        obtain ⟨ad, h, _⟩ := hB 0 (by simp)
        cases h
    subst hm
    exact ⟨v, w, run_nil_source w base 37 ty 5 i0 1 Try.underlying37 hi0 v _ _ hown c, by simpa [vals] using hown, World.grownBy.refl w _⟩
  · obtain ⟨v', w', h1, h2, h3, _⟩ := run_append_own_at (P := Try.prog) w base 37 ty 5 i0 _ 1 1 Try.underlying37 hi0 hz0 hz1 hz2 rfl (by omega) v bs.length (vals bs) hown ad cs.length c (vals cs)
      (by rw [vals_length]; omega) (fun j u hu => by
        have hj : j < cs.length := by
          have := (List.getElem?_eq_some_iff.1 hu).1
          rwa [vals_length] at this
        obtain ⟨ad', e, _, _, hc⟩ := hB j hj
        injection e with e
        subst e
        rw [hc, ← hu, getD_vals _ _ hj]) (vals_one _) (by unfold maxLen; omega) (by omega) hbase
    exact ⟨v', w', h1, h2, h3⟩
theorem step_cat {ops : Array Oper} {o : Oper} {a : Act} {w : World} {K : Act → World → Prop} {Q : Exit → Act → World → Prop} {E : Prop} (hgd : o.guard = none) (s x : Operand)
    (ho : o.op = .call { callee := .builtin .append, args := #[s, x], argTypes := #[37, 37] }) (base : Nat) (v vs : Value) (bs cs : List Nat) (hs : a.eval s = v) (hown : w.ownsRow base 5 1 v bs.length (vals bs))
    (hx : a.eval x = vs) (hA : BS w w.heap.size vs cs) (h63 : bs.length + cs.length ≤ 140737488355328) (hbase : base ≤ w.heap.size)
    (h : ∀ v' w', w'.ownsRow base 5 1 v' (bs ++ cs).length (vals (bs ++ cs)) → w.grownBy w' v.ownBlock → K (a.put o.dst v') w') :
    if Region.wanted o (yielded ops a.tmps) = true then Oper.wp Try.prog o a w K Q else E := by
  have hw : Region.wanted o (yielded ops a.tmps) = true := by simp [Region.wanted, hgd]
  rw [if_pos hw]
  obtain ⟨v', w', hr, h2, h3⟩ := run_cat w base o.type v vs bs cs hown hA h63 hbase
  unfold Oper.wp execOp
  simp only [ho, resolve, invoke, builtin, Sem.run_bind, Sem.run_pure, Result.andThen_ok, List.map_toArray, List.map_cons, List.map_nil, hs, hx, hr]
  exact h v' w' h2 h3
theorem wpList_cat {ops : Array Oper} {o : Oper} {rest : List Oper} {a : Act} {w : World} {Q : Exit → Act → World → Prop} (hgd : o.guard = none) (s x : Operand)
    (ho : o.op = .call { callee := .builtin .append, args := #[s, x], argTypes := #[37, 37] }) (base : Nat) (v vs : Value) (bs cs : List Nat) (hs : a.eval s = v) (hown : w.ownsRow base 5 1 v bs.length (vals bs))
    (hx : a.eval x = vs) (hA : BS w w.heap.size vs cs) (h63 : bs.length + cs.length ≤ 140737488355328) (hbase : base ≤ w.heap.size)
    (h : ∀ v' w', w'.ownsRow base 5 1 v' (bs ++ cs).length (vals (bs ++ cs)) → w.grownBy w' v.ownBlock → wpList Try.prog ops Q rest (a.put o.dst v') w') :
    wpList Try.prog ops Q (o :: rest) a w :=
  wpList_plain hgd fun K hK => by
    have := step_cat (ops := ops) (K := K) (Q := Q) (E := True) hgd s x ho base v vs bs cs hs hown hx hA h63 hbase (fun v' w' h2 h3 => hK _ _ (h v' w' h2 h3))
    have hw : Region.wanted o (yielded ops a.tmps) = true := by simp [Region.wanted, hgd]
    rwa [if_pos hw] at this
/-- The reader of a row's sectors. -/
abbrev atF (x n c : Nat) : Value := .func (.func 39) #[.slice (some ⟨x, 0, none⟩) (n * 64) c] #[]
/-- A reader, and the picks behind. -/
def PickPost (N : Nat) (fv : Value) (ps : List Int) (w : World) (e : Ending) (w' : World) : Prop := ∃ v', e = .returned (.tuple #[fv, v']) ∧ NS w' N v' ps ∧ Below w.heap.size w w'
section
variable {B g r q n cS cE : Nat} {S E : List Nat} {k last : Int}
theorem picked_nil (w : World) (N : Nat) (v : Value) (h : DAt w B g r q n cS cE S E k last) (hv : NS w N v []) :
    Calls Try.prog 41 #[Mp g, v] w (PickPost N (atF r n cS) [] w) := by
  have c0 := h.c0
  obtain ⟨A, c, rfl, _⟩ := hv
  replace h := Lib.hid h
  have hnil := Lib.hid (show ∀ w : World, NS w N (.slice none 0 0) [] from fun w => ⟨none, 0, rfl, by simp, by unfold maxLen; omega, fun i hi => by simp at hi⟩)
  go_enter Try.func41, Try.ntmps41
  go_wp2_with fail
  go_ret2
  exact ⟨_, rfl, hnil.out _, Below.refl _ _⟩
theorem NS.tail {w : World} {N b o m c : Nat} {p : Int} {rest : List Int} (hN : N ≤ w.heap.size) (h : NS w N (.slice (some ⟨b, o, none⟩) m c) (p :: rest)) (w' : World) (hb : Below w.heap.size w w') (v' : Value) (hv : (c = 1 ∧ v' = .slice (some ⟨b, o, none⟩) (m - 1) (c - 1)) ∨ (c ≠ 1 ∧ v' = .slice (some ⟨b, o + 1, none⟩) (m - 1) (c - 1))) : NS w' N v' rest := by
  obtain ⟨A, c', e, h1, h2, h3⟩ := h
  cases e
  simp only [List.length_cons] at h1 h3 hv
  rcases hv with ⟨rfl, rfl⟩ | ⟨hc, rfl⟩
  · obtain rfl : rest = [] := List.eq_nil_of_length_eq_zero (by omega)
    exact ⟨_, _, rfl, by simp, by unfold maxLen; omega, fun i hi => by simp at hi⟩
  · refine ⟨some ⟨b, o + 1, none⟩, c - 1, by simp, by omega, by omega, fun i hi => ?_⟩
    obtain ⟨ad, e, q1, q2, q3⟩ := h3 (i + 1) (by omega)
    injection e with e
    subst e
    have q1' : b < w.heap.size := Nat.lt_of_lt_of_le q1 hN
    refine ⟨_, rfl, q1, by simpa using q2, ?_⟩
    rw [add_none] at q3 ⊢
    rw [hb.cell (p := ⟨b, o + 1 + i, none⟩) q1', show o + 1 + i = o + (i + 1) by omega]
    simpa using q3
set_option maxRecDepth 100000 in
theorem picked_one (w : World) (N : Nat) (hN : N ≤ w.heap.size) (v : Value) (p : Int) (rest : List Int) (fv : Value) (h : DAt w B g r q n cS cE S E k last) (hv : NS w N v (p :: rest)) (hf : (p % 2 = 1 ∧ fv = atF q n cE) ∨ (p % 2 ≠ 1 ∧ fv = atF r n cS)) :
    Calls Try.prog 41 #[Mp g, v] w (PickPost N fv rest w) := by
  have c0 := h.c0
  have c1 := h.c1
  obtain ⟨A, c, rfl, l1, l2, l3⟩ := id hv
  obtain ⟨⟨b, o, s⟩, rfl, hbl, _, hp0⟩ := l3 0 (by simp)
  have hs : s = none := by
    have := World.cell?_spot hp0
    simpa [Addr.add] using this
  subst hs
  have hp : w.cell? ⟨b, o, none⟩ = some (.int .i64 p) := by simpa [add_none] using hp0
  have ht := Lib.hid (fun w' hb v' hv' => hv.tail hN w' hb v' hv')
  clear hv l3 hp0
  simp only [List.length_cons] at l1 ht ⊢
  obtain ⟨m, hm⟩ : ∃ m, m = rest.length := ⟨_, rfl⟩
  rw [← hm] at l1 ht ⊢
  clear hm
  unfold maxLen at l2
  replace h := Lib.hid h
  by_cases hc : c = 1
  · subst hc
    obtain rfl : m = 0 := by omega
    rcases hf with ⟨f1, rfl⟩ | ⟨f1, rfl⟩
    · replace f1 := Lib.hid f1
      go_enter Try.func41, Try.ntmps41
      go_wp2_with fail
      refine (isOdd_any p true _ (by simpa using f1.out)).mono ?_
      rintro e1 w1 ⟨rfl, rfl⟩
      go_wp2_with fail
      go_quiet (fail)
      go_wp2_with fail
      go_ret2
      exact ⟨_, rfl, ht.out _ (below_drewN' _ _) _ (.inl ⟨by simp, rfl⟩), below_drewN' _ _⟩
    · replace f1 := Lib.hid f1
      go_enter Try.func41, Try.ntmps41
      go_wp2_with fail
      refine (isOdd_any p false _ (by simpa using f1.out)).mono ?_
      rintro e1 w1 ⟨rfl, rfl⟩
      go_wp2_with fail
      go_quiet (fail)
      go_wp2_with fail
      go_ret2
      exact ⟨_, rfl, ht.out _ (below_drewN' _ _) _ (.inl ⟨by simp, rfl⟩), below_drewN' _ _⟩
  · rcases hf with ⟨f1, rfl⟩ | ⟨f1, rfl⟩
    · replace f1 := Lib.hid f1
      go_enter Try.func41, Try.ntmps41
      go_wp2_with fail
      refine (isOdd_any p true _ (by simpa using f1.out)).mono ?_
      rintro e1 w1 ⟨rfl, rfl⟩
      go_wp2_with fail
      go_quiet (fail)
      go_wp2_with fail
      go_ret2
      exact ⟨_, rfl, ht.out _ (below_drewN' _ _) _ (.inr ⟨hc, rfl⟩), below_drewN' _ _⟩
    · replace f1 := Lib.hid f1
      go_enter Try.func41, Try.ntmps41
      go_wp2_with fail
      refine (isOdd_any p false _ (by simpa using f1.out)).mono ?_
      rintro e1 w1 ⟨rfl, rfl⟩
      go_wp2_with fail
      go_quiet (fail)
      go_wp2_with fail
      go_ret2
      exact ⟨_, rfl, ht.out _ (below_drewN' _ _) _ (.inr ⟨hc, rfl⟩), below_drewN' _ _⟩
/-- The bytes that a crash may leave, in new memory. -/
def CrashPost (bs : List Nat) (w : World) (e : Ending) (w' : World) : Prop := ∃ v, e = .returned v ∧ w'.ownsRow w.heap.size 5 1 v bs.length (vals bs) ∧ Below w.heap.size w w'
theorem pick_same {s e : List Nat} {ps : List Int} (h : s = e) : M.pick s e ps = (s, ps) := by unfold M.pick; rw [if_pos h]
theorem pick_nil {s e : List Nat} (h : s ≠ e) : M.pick s e [] = (s, []) := by unfold M.pick; rw [if_neg h]
theorem pick_odd {s e : List Nat} {p : Int} {r : List Int} (h : s ≠ e) (hp : p % 2 = 1) : M.pick s e (p :: r) = (e, r) := by unfold M.pick; rw [if_neg h]; simp [hp]
theorem pick_even {s e : List Nat} {p : Int} {r : List Int} (h : s ≠ e) (hp : p % 2 ≠ 1) : M.pick s e (p :: r) = (s, r) := by unfold M.pick; rw [if_neg h]; simp [hp]
theorem crash_step {S E : List Nat} {n j : Nat} {ps rs : List Int} {x : List Nat} (h : j < n) (hp : M.pick (M.sec S j) (M.sec E j) ps = (x, rs)) : M.crash S E (n - j) j ps = x ++ M.crash S E (n - (j + 1)) (j + 1) rs := by
  rw [show n - j = (n - (j + 1)) + 1 by omega, M.crash, hp]
/-- What a crash has found so far. -/
def CrRel (n : Nat) (S E : List Nat) (ps : List Int) (w : World) (p im i : Value) (w' : World) : Prop := ∃ (j : Nat) (rs : List Int) (out : List Nat), j ≤ n ∧ i = .int .i64 j ∧ NS w' w.heap.size p rs ∧ w'.ownsRow w.heap.size 5 1 im out.length (vals out) ∧ out.length = j * 64 ∧ out ++ M.crash S E (n - j) j rs = M.crash S E n 0 ps ∧ Below w.heap.size w w'
theorem CrRel.step {n : Nat} {S E : List Nat} {ps rs rs' : List Int} {w w5 w6 : World} {j : Nat} {out x : List Nat} {im im' p' : Value} (hj : j < n) (ho : out.length = j * 64) (hx : x.length = 64) (hfin : out ++ M.crash S E (n - j) j rs = M.crash S E n 0 ps) (hp : M.pick (M.sec S j) (M.sec E j) rs = (x, rs'))
    (hbel : Below w.heap.size w w5) (hown : w5.ownsRow w.heap.size 5 1 im out.length (vals out)) (hg : w5.grownBy w6 im.ownBlock) (hown6 : w6.ownsRow w.heap.size 5 1 im' (out ++ x).length (vals (out ++ x))) (hN : NS w5 w.heap.size p' rs') : CrRel n S E ps w p' im' (.int .i64 ((j : Int) + 1)) w6 := by
  have b7 := hbel.grown hg hbel.size (fun q hq => (hown.lt q hq).1)
  have b8 : Below w.heap.size w5 w6 := ((Below.refl w.heap.size w5)).grown hg hbel.size (fun q hq => (hown.lt q hq).1)
  exact ⟨j + 1, rs', out ++ x, by omega, by go_num, hN.below b8 (Nat.le_refl _), hown6, by rw [List.length_append, hx, ho]; omega, by rw [← hfin, crash_step hj hp, List.append_assoc], b7⟩
set_option maxRecDepth 100000 in
set_option maxHeartbeats 4000000 in
theorem Crash_any (w : World) (v : Value) (ps : List Int) (h : DAt w B g r q n cS cE S E k last) (hv : NS w w.heap.size v ps) :
    Calls Try.prog 16 #[Mp g, v] w (CrashPost (M.crash S E n 0 ps) w) := by
  have c1 := h.c1
  have hn := h.n0
  obtain ⟨k1, k2⟩ := h.cap
  have hmk := make_run 0 (n * 64) ((n : Int) * 64) 0 (by omega) rfl (by omega) (by omega) w
  have hb0 : Below w.heap.size w (w.alloc (.cells (zrow (n * 64)) 5)) := (Below.refl _ _).alloc (Nat.le_refl _) _
  have h1 := Lib.hid (h.later hb0)
  have hN1 := Lib.hid (hv.below hb0 (Nat.le_refl _))
  have hc1 : (w.alloc (.cells (zrow (n * 64)) 5)).cell? ⟨g, 1, none⟩ = some (.slice (some ⟨q, 0, none⟩) (n * 64) cE) := h1.out.c1
  have hO1 : (w.alloc (.cells (zrow (n * 64)) 5)).ownsRow w.heap.size 5 1 (.slice (some ⟨w.heap.size, 0, none⟩) 0 (n * 64)) 0 (vals []) :=
    ⟨rfl, .inr ⟨w.heap.size, n * 64, zrow (n * 64), rfl, Nat.le_refl _, heap_alloc_new w _, Nat.zero_le _, by unfold maxLen; omega, by rw [zrow_size]; omega, rfl⟩⟩
  have hlast := Lib.hid (show ∀ out : List Nat, out.length = n * 64 → out ++ M.crash S E (n - n) n [] = M.crash S E n 0 ps → out = M.crash S E n 0 ps from fun out _ e => by rw [Nat.sub_self, M.crash, List.append_nil] at e; exact e)
  have hz : ∀ rs, M.crash S E (n - n) n rs = [] := fun rs => by rw [Nat.sub_self]; rfl
  replace hz := Lib.hid hz
  replace hO1 := Lib.hid hO1
  replace hb0 := Lib.hid hb0
  replace hv := Lib.hid hv
  replace h := Lib.hid h
  clear hc1
  go_enter Try.func16, Try.ntmps16
  go_wp2_with fail
  refine (Count_any _ h1.out).mono ?_
  rintro e1 w1 ⟨rfl, rfl⟩
  go_wp2_with fail
  go_loopw [1, 5, 16] (CrRel n S E ps w) (fun _ _ i _ => n - (intOf i).toNat)
  case atStart => exact ⟨0, ps, [], by omega, rfl, hN1.out, hO1.out, rfl, by simp, hb0.out⟩
  case round =>
    obtain ⟨j, rs, out, hj, rfl, hN, hown, ho, hfin, hbel⟩ := hrel
    have hD := h.out.later hbel
    have d0 := hD.c0
    have d1 := hD.c1
    replace hN := Lib.hid hN
    replace hown := Lib.hid hown
    replace ho := Lib.hid ho
    replace hfin := Lib.hid hfin
    replace hbel := Lib.hid hbel
    by_cases hlt : j < n
    · by_cases heq : M.sec S j = M.sec E j
      · as_aux_lemma =>
        have hX := Lib.hid (M.sec_length (bs := S) (i := j) (by rw [hD.lS]; omega))
        replace hD := Lib.hid hD
        have pk := Lib.hid (pick_same (ps := rs) heq)
        replace heq := Lib.hid heq
        go_wp2_with fail
        refine (isSafe_any _ (j : Int) j true hD.out rfl hlt (by simp [heq.out])).mono ?_
        rintro e2 w2 ⟨rfl, b2⟩
        have hD2 := Lib.hid (hD.out.later b2)
        have bel2 := Lib.hid (hbel.out.trans (b2.mono hbel.out.size))
        have own2 := Lib.hid (own_later hown.out b2)
        have ns2 := Lib.hid (hN.out.below (b2.mono hbel.out.size) (Nat.le_refl _))
        clear b2
        go_wp2_with fail
        refine (at_any _ _ n _ _ j rfl hlt hn.2 ⟨by omega, by omega⟩).mono ?_
        rintro e5 w5 ⟨rfl, rfl⟩
        go_wp2_with (first
          | (at_builtin; refine wpList_cat rfl _ _ rfl w.heap.size _ _ out _ rfl own2.out rfl (hD2.out.secS j hlt) (by have := hX.out; have := ho.out; omega) (by have := bel2.out.size; omega) ?_; intro v' w6 hown6 hgrow6))
        exact ⟨CrRel.step hlt ho.out hX.out hfin.out pk.out bel2.out own2.out hgrow6 hown6 ns2.out, by simp [intOf]; omega⟩
      · rcases rs with _ | ⟨p, rest⟩
        · as_aux_lemma =>
          have hX := Lib.hid (M.sec_length (bs := S) (i := j) (by rw [hD.lS]; omega))
          replace hD := Lib.hid hD
          have pk := Lib.hid (pick_nil heq)
          replace heq := Lib.hid heq
          go_wp2_with fail
          refine (isSafe_any _ (j : Int) j false hD.out rfl hlt (by simpa using heq.out)).mono ?_
          rintro e2 w2 ⟨rfl, b2⟩
          have hD2 := hD.out.later b2
          have bel2 := hbel.out.trans (b2.mono hbel.out.size)
          have own2 := own_later hown.out b2
          have ns2 := hN.out.below (b2.mono hbel.out.size) (Nat.le_refl _)
          clear b2
          replace hD2 := Lib.hid hD2
          replace bel2 := Lib.hid bel2
          replace own2 := Lib.hid own2
          replace ns2 := Lib.hid ns2
          go_wp2_with fail
          refine (picked_nil _ w.heap.size _ hD2.out ns2.out).mono ?_
          rintro e3 w3 ⟨v3, rfl, n3, b3⟩
          have hD3 := Lib.hid (hD2.out.later b3)
          have bel3 := Lib.hid (bel2.out.trans (b3.mono bel2.out.size))
          have own3 := Lib.hid (own_later own2.out b3)
          replace n3 := Lib.hid n3
          clear b3
          go_wp2_with fail
          refine (at_any _ _ n _ _ j rfl hlt hn.2 ⟨by omega, by omega⟩).mono ?_
          rintro e5 w5 ⟨rfl, rfl⟩
          go_wp2_with (first
            | (at_builtin; refine wpList_cat rfl _ _ rfl w.heap.size _ _ out _ rfl own3.out rfl (hD3.out.secS j hlt) (by have := hX.out; have := ho.out; omega) (by have := bel3.out.size; omega) ?_; intro v' w6 hown6 hgrow6))
          exact ⟨CrRel.step hlt ho.out hX.out hfin.out pk.out bel3.out own3.out hgrow6 hown6 n3.out, by simp [intOf]; omega⟩
        · by_cases hp : p % 2 = 1
          · as_aux_lemma =>
            have hX := Lib.hid (M.sec_length (bs := E) (i := j) (by rw [hD.lE]; omega))
            replace hD := Lib.hid hD
            have pk := Lib.hid (pick_odd (r := rest) heq hp)
            replace heq := Lib.hid heq
            replace hp := Lib.hid hp
            go_wp2_with fail
            refine (isSafe_any _ (j : Int) j false hD.out rfl hlt (by simpa using heq.out)).mono ?_
            rintro e2 w2 ⟨rfl, b2⟩
            have hD2 := hD.out.later b2
            have bel2 := hbel.out.trans (b2.mono hbel.out.size)
            have own2 := own_later hown.out b2
            have ns2 := hN.out.below (b2.mono hbel.out.size) (Nat.le_refl _)
            clear b2
            replace hD2 := Lib.hid hD2
            replace bel2 := Lib.hid bel2
            replace own2 := Lib.hid own2
            replace ns2 := Lib.hid ns2
            go_wp2_with fail
            refine (picked_one _ w.heap.size bel2.out.size _ p rest (atF q n cE) hD2.out ns2.out (.inl ⟨hp.out, rfl⟩)).mono ?_
            rintro e3 w3 ⟨v3, rfl, n3, b3⟩
            have hD3 := Lib.hid (hD2.out.later b3)
            have bel3 := Lib.hid (bel2.out.trans (b3.mono bel2.out.size))
            have own3 := Lib.hid (own_later own2.out b3)
            replace n3 := Lib.hid n3
            clear b3
            go_wp2_with fail
            refine (at_any _ _ n _ _ j rfl hlt hn.2 ⟨by omega, by omega⟩).mono ?_
            rintro e5 w5 ⟨rfl, rfl⟩
            go_wp2_with (first
              | (at_builtin; refine wpList_cat rfl _ _ rfl w.heap.size _ _ out _ rfl own3.out rfl (hD3.out.secE j hlt) (by have := hX.out; have := ho.out; omega) (by have := bel3.out.size; omega) ?_; intro v' w6 hown6 hgrow6))
            exact ⟨CrRel.step hlt ho.out hX.out hfin.out pk.out bel3.out own3.out hgrow6 hown6 n3.out, by simp [intOf]; omega⟩
          · as_aux_lemma =>
            have hX := Lib.hid (M.sec_length (bs := S) (i := j) (by rw [hD.lS]; omega))
            replace hD := Lib.hid hD
            have pk := Lib.hid (pick_even (r := rest) heq hp)
            replace heq := Lib.hid heq
            replace hp := Lib.hid hp
            go_wp2_with fail
            refine (isSafe_any _ (j : Int) j false hD.out rfl hlt (by simpa using heq.out)).mono ?_
            rintro e2 w2 ⟨rfl, b2⟩
            have hD2 := hD.out.later b2
            have bel2 := hbel.out.trans (b2.mono hbel.out.size)
            have own2 := own_later hown.out b2
            have ns2 := hN.out.below (b2.mono hbel.out.size) (Nat.le_refl _)
            clear b2
            replace hD2 := Lib.hid hD2
            replace bel2 := Lib.hid bel2
            replace own2 := Lib.hid own2
            replace ns2 := Lib.hid ns2
            go_wp2_with fail
            refine (picked_one _ w.heap.size bel2.out.size _ p rest (atF r n cS) hD2.out ns2.out (.inr ⟨by have := hp.out; omega, rfl⟩)).mono ?_
            rintro e3 w3 ⟨v3, rfl, n3, b3⟩
            have hD3 := Lib.hid (hD2.out.later b3)
            have bel3 := Lib.hid (bel2.out.trans (b3.mono bel2.out.size))
            have own3 := Lib.hid (own_later own2.out b3)
            replace n3 := Lib.hid n3
            clear b3
            go_wp2_with fail
            refine (at_any _ _ n _ _ j rfl hlt hn.2 ⟨by omega, by omega⟩).mono ?_
            rintro e5 w5 ⟨rfl, rfl⟩
            go_wp2_with (first
              | (at_builtin; refine wpList_cat rfl _ _ rfl w.heap.size _ _ out _ rfl own3.out rfl (hD3.out.secS j hlt) (by have := hX.out; have := ho.out; omega) (by have := bel3.out.size; omega) ?_; intro v' w6 hown6 hgrow6))
            exact ⟨CrRel.step hlt ho.out hX.out hfin.out pk.out bel3.out own3.out hgrow6 hown6 n3.out, by simp [intOf]; omega⟩
    · obtain rfl : j = n := by omega
      go_wp2_with fail
      go_ret
      have e : out = M.crash S E j 0 ps := by
        have := hfin.out
        rw [hz.out, List.append_nil] at this
        exact this
      exact ⟨_, rfl, by rw [← e]; exact hown.out, hbel.out⟩
end
end Go.Proofs.Ytncafkifebannaa
