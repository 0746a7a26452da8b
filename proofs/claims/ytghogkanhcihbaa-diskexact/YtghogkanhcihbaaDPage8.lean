/-
  What the page's May and Crash answer; condition: the page's disk was made by the call.
-/
import Derived.Test.YtghogkanhcihbaaDPage7
namespace Go.Proofs.Ytghogkanhcihbaa
open Go.RowKit
def MayPost (ts : List Int) (w : World) (e : Ending) (w' : World) : Prop := (((∀ t ∈ ts, 1 ≤ t) ∧ e = .returned (.bool true)) ∨ ((∃ t ∈ ts, t < 1) ∧ e = .returned (.bool false))) ∧ w = w'
set_option maxRecDepth 100000 in
theorem May_any (w : World) (A : Option Addr) (c n : Nat) (vt : Value) (ts : List Int) (hn : 0 < n ∧ n ≤ 16384) (ht : NS w w.heap.size vt ts) :
    Calls Try.prog 9 #[.slice A (n * 64) c, vt] w (MayPost ts w) := by
  obtain ⟨T, d, rfl, t1, t2, _⟩ := id ht
  unfold maxLen at t2
  have hat := Lib.hid ht.at.2
  have hmem : ∀ j, j < ts.length → ts.getD j 0 ∈ ts := fun j hj => by rw [List.getD_eq_getElem?_getD, List.getElem?_eq_getElem hj]; exact List.getElem_mem hj
  have hall : ∀ j, j = ts.length → (∀ i, i < j → 1 ≤ ts.getD i 0) → ∀ t ∈ ts, 1 ≤ t := fun j hj h t ht => by
    obtain ⟨i, hi, rfl⟩ := List.getElem_of_mem ht
    have := h i (by omega)
    rwa [List.getD_eq_getElem?_getD, List.getElem?_eq_getElem hi] at this
  obtain ⟨m, hm⟩ : ∃ m, m = ts.length := ⟨_, rfl⟩
  rw [← hm] at t1 hat hmem hall ⊢
  clear hm ht
  have q1 : ((n : Int) * 64 == 0) = false := by simp; omega
  replace hmem := Lib.hid hmem
  replace hall := Lib.hid hall
  go_enter Try.func9, Try.ntmps9
  go_wp2_with fail
  go_loop [5] (fun i => ∃ j : Nat, j ≤ m ∧ i = .int .i64 j ∧ (∀ i, i < j → 1 ≤ ts.getD i 0)) (fun i => m - (intOf i).toNat)
  case atStart => exact ⟨0, by omega, rfl, fun i hi => by omega⟩
  case round =>
    obtain ⟨j, hj, rfl, hge⟩ := hrel
    by_cases hlt : j < m
    · obtain ⟨b, o, rfl, _, hrg, hc⟩ := hat.out j hlt
      have hm' := hmem.out j hlt
      have hnext : 1 ≤ ts.getD j 0 → ∀ i, i < j + 1 → 1 ≤ ts.getD i 0 := fun h i hi => by
        by_cases e : i = j
        · rw [e]; exact h
        · exact hge i (by omega)
      obtain ⟨t, ht⟩ : ∃ t, t = ts.getD j 0 := ⟨_, rfl⟩
      rw [← ht] at hc hrg hm' hnext
      clear ht hge
      replace hm' := Lib.hid hm'
      replace hnext := Lib.hid hnext
      have t0 : (0 : Int) ≤ (j : Int) := by omega
      have t1' : (j : Int) < (m : Int) := by omega
      by_cases h1 : t < 1
      · go_wp2_with fail
        go_ret
        exact ⟨.inr ⟨⟨t, hm'.out, h1⟩, rfl⟩, rfl⟩
      · go_wp2_with fail
        go_round
        case rel => exact ⟨j + 1, by omega, by go_num, hnext.out (by omega)⟩
        case measure => simp [intOf]; omega
    · obtain rfl : j = m := by omega
      have hfin := Lib.hid (hall.out j rfl hge)
      clear hge
      go_wp2_with fail
      go_ret
      exact ⟨.inl ⟨hfin.out, rfl⟩, rfl⟩
theorem tmod2 (p : Int) : (p.tmod 2 != 0) = decide (p % 2 = 1) := by
  rw [Bool.eq_iff_iff]
  simp only [bne_iff_ne, ne_eq, decide_eq_true_eq]
  constructor
  · intro h
    by_cases e : p % 2 = 1
    · exact e
    · exact absurd (Int.tmod_eq_zero_of_dvd (show (2 : Int) ∣ p by omega)) h
  · intro h e
    have := Int.dvd_of_tmod_eq_zero e
    omega
/-- What the page's crash has found so far. -/
def PCrRel (n : Nat) (S E : List Nat) (ps : List Int) (w : World) (im a i : Value) (w' : World) : Prop := ∃ (j q : Nat) (out : List Nat), j ≤ n ∧ q ≤ j ∧ i = .int .i64 j ∧ a = .int .i64 q ∧ w'.ownsRow w.heap.size 5 1 im out.length (vals out) ∧ out.length = j * 64 ∧ out ++ M.crash S E (n - j) j (ps.drop q) = M.crash S E n 0 ps ∧ Below w.heap.size w w'
theorem PCrRel.step {n : Nat} {S E : List Nat} {ps rs' : List Int} {w w5 w6 : World} {j q q' : Nat} {out x : List Nat} {im im' : Value} (hj : j < n) (hq : q' ≤ j + 1) (ho : out.length = j * 64) (hx : x.length = 64) (hfin : out ++ M.crash S E (n - j) j (ps.drop q) = M.crash S E n 0 ps) (hp : M.pick (M.sec S j) (M.sec E j) (ps.drop q) = (x, rs')) (hr : rs' = ps.drop q')
    (hbel : Below w.heap.size w w5) (hown : w5.ownsRow w.heap.size 5 1 im out.length (vals out)) (hg : w5.grownBy w6 im.ownBlock) (hown6 : w6.ownsRow w.heap.size 5 1 im' (out ++ x).length (vals (out ++ x))) (a i : Value) (ha : a = .int .i64 q') (hi : i = .int .i64 ((j : Int) + 1)) : PCrRel n S E ps w im' a i w6 := by
  have b7 := hbel.grown hg hbel.size (fun q hq => (hown.lt q hq).1)
  exact ⟨j + 1, q', out ++ x, by omega, hq, by rw [hi]; go_num, ha, hown6, by rw [List.length_append, hx, ho]; omega, by rw [← hfin, crash_step hj hp, List.append_assoc, hr], b7⟩
set_option maxRecDepth 100000 in
set_option maxHeartbeats 4000000 in
theorem pCrash_any {B g ps cs pe ce : Nat} {vt : Value} {ss es : List Value} {ts : List Int} {n : Nat} {S E : List Nat} {off : Bool} {k : Int} (w : World) (v : Value) (pk : List Int) (h : PAt w B g ps cs pe ce vt ss es ts n S E off k) (hn : n ≤ 16384) (hpl : pk.length ≤ 1000000) (lS : S.length = n * 64) (lE : E.length = n * 64) (hv : NS w w.heap.size v pk) :
    Calls Try.prog 20 #[Mp g, v] w (CrashPost (M.crash S E n 0 pk) w) := by
  obtain ⟨T, d, rfl, t1, t2, _⟩ := id hv
  unfold maxLen at t2
  obtain ⟨⟨cap3, cap4⟩, cap1, cap2⟩ := h.cap
  unfold maxLen at cap2 cap4
  have hat := Lib.hid hv.at.2
  have hdrop := Lib.hid (fun (q : Nat) (hq : q < pk.length) => show pk.drop q = pk.getD q 0 :: pk.drop (q + 1) by rw [List.drop_eq_getElem_cons hq, List.getD_eq_getElem?_getD, List.getElem?_eq_getElem hq]; rfl)
  have hend := Lib.hid (fun (q : Nat) (hq : pk.length ≤ q) => show pk.drop q = [] from List.drop_eq_nil_of_le hq)
  have hz := Lib.hid (fun rs => show M.crash S E (n - n) n rs = [] by rw [Nat.sub_self]; rfl)
  obtain ⟨m, hm⟩ : ∃ m, m = pk.length := ⟨_, rfl⟩
  rw [← hm] at t1 hat hdrop hend hpl ⊢
  clear hm hv
  replace h := Lib.hid h
  replace lS := Lib.hid lS
  replace lE := Lib.hid lE
  go_enter Try.func20, Try.ntmps20
  go_wp2_with fail
  go_loopw [5, 6, 7] (PCrRel n S E pk w) (fun _ _ i _ => n - (intOf i).toNat)
  case atStart => exact ⟨0, 0, [], by omega, by omega, rfl, rfl, World.ownsRow_nil _ _ _ _, rfl, by simp, Below.refl _ _⟩
  case round =>
    obtain ⟨j, q, out, hj, hq, rfl, rfl, hown, ho, hfin, hbel⟩ := hrel
    have hP := h.out.later hbel
    have d0 := hP.raw.c0
    have d1 := hP.raw.c1
    replace hown := Lib.hid hown
    replace ho := Lib.hid ho
    replace hfin := Lib.hid hfin
    replace hbel := Lib.hid hbel
    by_cases hlt : j < n
    · obtain ⟨rs, ks, y1, q1⟩ := hP.secS j hlt
      obtain ⟨re, ke, y2, q2⟩ := hP.secE j hlt
      have hSl := Lib.hid (M.sec_length (bs := S) (i := j) (by rw [lS.out]; omega))
      have hEl := Lib.hid (M.sec_length (bs := E) (i := j) (by rw [lE.out]; omega))
      have t0 : (0 : Int) ≤ (j : Int) := by omega
      have t1' : (j : Int) < (n : Int) := by omega
      have lpe := hP.lt pe (.inr (.inr rfl))
      have lg := hP.lt g (.inl rfl)
      replace hP := Lib.hid hP
      replace q1 := Lib.hid q1
      replace q2 := Lib.hid q2
      by_cases heq : M.sec S j = M.sec E j
      · as_aux_lemma =>
        have pk1 := Lib.hid (pick_same (ps := pk.drop q) heq)
        replace heq := Lib.hid heq
        go_wp2_with fail
        refine (EqBytes_any _ _ (M.sec S j) (M.sec E j) true _ (q1.out.all (n := 64) hSl.out.symm) (q2.out.all (n := 64) hEl.out.symm) (by simpa using heq.out)).mono ?_
        rintro e2 w2 ⟨rfl, b2⟩
        have bel2 := Lib.hid (hbel.out.trans (b2.mono hbel.out.size))
        have own2 := Lib.hid (own_later hown.out b2)
        have q1' := Lib.hid (q1.out.later b2)
        have q2' := Lib.hid (q2.out.later b2)
        have d1' := (b2.cell (p := ⟨g, 1, none⟩) (by exact lg)).trans d1
        have y2' := (b2.cell (p := ⟨pe, j, none⟩) (by exact lpe)).trans y2
        clear b2
        go_wp2_with (first
          | (at_builtin; refine wpList_cat rfl _ _ rfl w.heap.size _ _ out _ rfl own2.out rfl (q1'.out.all (n := 64) hSl.out.symm) (by have := hSl.out; have := ho.out; omega) (by have := bel2.out.size; omega) ?_; intro v' w6 hown6 hgrow6))
        exact ⟨PCrRel.step hlt (by omega) ho.out hSl.out hfin.out pk1.out rfl bel2.out own2.out hgrow6 hown6 _ _ rfl rfl, by simp [intOf]; omega⟩
      · by_cases hqm : q < m
        · obtain ⟨b, o, rfl, hbl, _, hc0⟩ := hat.out q hqm
          have hdr := hdrop.out q hqm
          have hc := (hbel.out.cell (p := ⟨b, o + q, none⟩) hbl).trans hc0
          obtain ⟨p, hp⟩ : ∃ p, p = pk.getD q 0 := ⟨_, rfl⟩
          rw [← hp] at hc hdr
          clear hp hc0
          have hbl2 : b < wr.heap.size := Nat.lt_of_lt_of_le hbl hbel.out.size
          have tm := tmod2 p
          have u0 : (0 : Int) ≤ (q : Int) := by omega
          have u1 : (q : Int) < (m : Int) := by omega
          by_cases hpo : p % 2 = 1
          · as_aux_lemma =>
            have pk1 := pick_odd (r := pk.drop (q + 1)) heq hpo
            rw [← hdr] at pk1
            replace pk1 := Lib.hid pk1
            replace hdr := Lib.hid hdr
            replace heq := Lib.hid heq
            have tm2 : (p.tmod 2 != 0) = true := by rw [tm]; simpa using hpo
            clear tm
            replace hpo := Lib.hid hpo
            go_wp2_with fail
            refine (EqBytes_any _ _ (M.sec S j) (M.sec E j) false _ (q1.out.all (n := 64) hSl.out.symm) (q2.out.all (n := 64) hEl.out.symm) (by simpa using heq.out)).mono ?_
            rintro e2 w2 ⟨rfl, b2⟩
            have bel2 := Lib.hid (hbel.out.trans (b2.mono hbel.out.size))
            have own2 := Lib.hid (own_later hown.out b2)
            have q1' := Lib.hid (q1.out.later b2)
            have q2' := Lib.hid (q2.out.later b2)
            have d1' := (b2.cell (p := ⟨g, 1, none⟩) (by exact lg)).trans d1
            have y2' := (b2.cell (p := ⟨pe, j, none⟩) (by exact lpe)).trans y2
            have hc' := (b2.cell (p := ⟨b, o + q, none⟩) (by exact hbl2)).trans hc
            clear b2
            go_wp2_with (first
              | (at_builtin; refine wpList_cat rfl _ _ rfl w.heap.size _ _ out _ rfl own2.out rfl (q2'.out.all (n := 64) hEl.out.symm) (by have := hEl.out; have := ho.out; omega) (by have := bel2.out.size; omega) ?_; intro v' w6 hown6 hgrow6))
            exact ⟨PCrRel.step hlt (by omega) ho.out hEl.out hfin.out pk1.out rfl bel2.out own2.out hgrow6 hown6 _ _ (by go_num) rfl, by simp [intOf]; omega⟩
          · as_aux_lemma =>
            have pk1 := pick_even (r := pk.drop (q + 1)) heq hpo
            rw [← hdr] at pk1
            replace pk1 := Lib.hid pk1
            replace hdr := Lib.hid hdr
            replace heq := Lib.hid heq
            have tm2 : (p.tmod 2 != 0) = false := by rw [tm]; simpa using hpo
            clear tm
            replace hpo := Lib.hid hpo
            go_wp2_with fail
            refine (EqBytes_any _ _ (M.sec S j) (M.sec E j) false _ (q1.out.all (n := 64) hSl.out.symm) (q2.out.all (n := 64) hEl.out.symm) (by simpa using heq.out)).mono ?_
            rintro e2 w2 ⟨rfl, b2⟩
            have bel2 := Lib.hid (hbel.out.trans (b2.mono hbel.out.size))
            have own2 := Lib.hid (own_later hown.out b2)
            have q1' := Lib.hid (q1.out.later b2)
            have q2' := Lib.hid (q2.out.later b2)
            have d1' := (b2.cell (p := ⟨g, 1, none⟩) (by exact lg)).trans d1
            have y2' := (b2.cell (p := ⟨pe, j, none⟩) (by exact lpe)).trans y2
            have hc' := (b2.cell (p := ⟨b, o + q, none⟩) (by exact hbl2)).trans hc
            clear b2
            go_wp2_with (first
              | (at_builtin; refine wpList_cat rfl _ _ rfl w.heap.size _ _ out _ rfl own2.out rfl (q1'.out.all (n := 64) hSl.out.symm) (by have := hSl.out; have := ho.out; omega) (by have := bel2.out.size; omega) ?_; intro v' w6 hown6 hgrow6))
            exact ⟨PCrRel.step hlt (by omega) ho.out hSl.out hfin.out pk1.out rfl bel2.out own2.out hgrow6 hown6 _ _ (by go_num) rfl, by simp [intOf]; omega⟩
        · as_aux_lemma =>
          have hdr := hend.out q (by omega)
          have hdr2 := hend.out (q + 1) (by omega)
          have pk1 := pick_nil heq
          rw [← hdr] at pk1
          replace pk1 := Lib.hid (show M.pick (M.sec S j) (M.sec E j) (pk.drop q) = (M.sec S j, pk.drop (q + 1)) by rw [hdr2, ← hdr]; exact pk1)
          replace heq := Lib.hid heq
          clear hdr hdr2
          go_wp2_with fail
          refine (EqBytes_any _ _ (M.sec S j) (M.sec E j) false _ (q1.out.all (n := 64) hSl.out.symm) (q2.out.all (n := 64) hEl.out.symm) (by simpa using heq.out)).mono ?_
          rintro e2 w2 ⟨rfl, b2⟩
          have bel2 := Lib.hid (hbel.out.trans (b2.mono hbel.out.size))
          have own2 := Lib.hid (own_later hown.out b2)
          have q1' := Lib.hid (q1.out.later b2)
          have q2' := Lib.hid (q2.out.later b2)
          have d1' := (b2.cell (p := ⟨g, 1, none⟩) (by exact lg)).trans d1
          have y2' := (b2.cell (p := ⟨pe, j, none⟩) (by exact lpe)).trans y2
          clear b2
          go_wp2_with (first
            | (at_builtin; refine wpList_cat rfl _ _ rfl w.heap.size _ _ out _ rfl own2.out rfl (q1'.out.all (n := 64) hSl.out.symm) (by have := hSl.out; have := ho.out; omega) (by have := bel2.out.size; omega) ?_; intro v' w6 hown6 hgrow6))
          exact ⟨PCrRel.step hlt (by omega) ho.out hSl.out hfin.out pk1.out rfl bel2.out own2.out hgrow6 hown6 _ _ (by go_num) rfl, by simp [intOf]; omega⟩
    · obtain rfl : j = n := by omega
      go_wp2_with fail
      go_ret
      have e : out = M.crash S E j 0 pk := by
        have := hfin.out
        rw [hz.out, List.append_nil] at this
        exact this
      exact ⟨_, rfl, by rw [← e]; exact hown.out, hbel.out⟩
end Go.Proofs.Ytghogkanhcihbaa
