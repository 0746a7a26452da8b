/-
  What the page's own reader of a text answers: its points, or that there are none; conditions: at most 100000 bytes, which lie in memory that was there at the call.
-/
import Derived.Test.YtlppgaaepllbiaaFirst1
import Derived.Test.YtlppgaaepllbiaaFirst2
import Derived.Test.YtlppgaaepllbiaaFirst3
import Derived.Test.YtlppgaaepllbiaaFirst4
import Derived.Test.YtlppgaaepllbiaaWalk
namespace Go.Proofs.Ytlppgaaepllbiaa
open Go.RowKit
set_option maxRecDepth 100000 in
theorem first_0 (ad : Addr) (bs : List Nat) (b0 l c : Nat) (f : Nat → Nat) (w : World) (hf : f = fun i => bs.getD i 0) (hB0 : b0 = bs.getD 0 0)
    (hb : Bytes w w.heap.size (some ad) l f) (hl0 : 1 ≤ l) (hk : 128 ≤ b0) (hk2 : b0 < 192) :
    Calls Try.prog 22 #[.slice (some ad) l c] w (FPost bs w) := by
  obtain ⟨_, e, _, hf0, q0⟩ := hb 0 (by omega)
  injection e with e
  subst e
  have hno := Lib.hid (show ∀ p r, ¬ M.Head bs p r from stuck_kind (.inl (by rw [← hB0]; exact ⟨hk, hk2⟩)))
  have hfb : f 0 = b0 := by rw [hf, hB0]
  rw [hfb] at hf0
  replace q0 : w.cell? ad = some (.int .u8 (b0 : Int)) := by rw [← hfb]; simpa [Addr.add] using q0
  clear hb hf hB0 hfb
  go_enter Try.func22, Try.ntmps22
  go_wp2
  go_ret2
  exact .no hno.out rfl (Below.refl _ _)
theorem first_any (ad : Addr) (bs : List Nat) (b0 l c : Nat) (f : Nat → Nat) (w : World) (hL : l = bs.length) (hf : f = fun i => bs.getD i 0) (hB0 : b0 = bs.getD 0 0) (hlc : l ≤ c) (hcm : c ≤ maxLen)
    (hb : Bytes w w.heap.size (some ad) l f) (hl0 : 1 ≤ l) : Calls Try.prog 22 #[.slice (some ad) l c] w (FPost bs w) := by
  by_cases k1 : b0 < 128
  · exact first_1 ad bs b0 l c f w hL hf hB0 hlc hcm hb hl0 k1
  · by_cases k2 : b0 < 192
    · exact first_0 ad bs b0 l c f w hf hB0 hb hl0 (by omega) k2
    · by_cases k3 : b0 < 224
      · exact first_2 ad bs b0 l c f w hL hf hB0 hlc hcm hb hl0 (by omega) k3
      · by_cases k4 : b0 < 240
        · exact first_3 ad bs b0 l c f w hL hf hB0 hlc hcm hb hl0 (by omega) k4
        · exact first_4 ad bs b0 l c f w hL hf hB0 hlc hcm hb hl0 (by omega)
def RPost (bs : List Nat) (w : World) (e : Ending) (w' : World) : Prop :=
  ((∃ ps v, M.Text bs ps ∧ e = .returned (.tuple #[v, .bool true]) ∧ w'.ownsRow w.heap.size 21 1 v ps.length (pvals ps)) ∨ ((∀ ps, ¬ M.Text bs ps) ∧ e = .returned (.tuple #[.slice none 0 0, .bool false]))) ∧ Below w.heap.size w w'
def RRel (bs : List Nat) (w : World) (b v : Value) (w' : World) : Prop :=
  ∃ (done rest : List Nat) (A' : Option Addr) (l c' : Nat), (∀ p ∈ done, M.IsP p) ∧ bs = M.encs done ++ rest ∧ l = rest.length ∧ b = .slice A' l c' ∧ l ≤ c' ∧ c' ≤ maxLen ∧
    Bytes w' w.heap.size A' l (fun i => rest.getD i 0) ∧ w'.ownsRow w.heap.size 21 1 v done.length (pvals done) ∧ Below w.heap.size w w'
def lenOf (v : Value) : Nat := match v with | .slice _ l _ => l | _ => 0
theorem rrel_step {bs done rest r : List Nat} {p l c' : Nat} {A2 : Option Addr} {w w3 : World} {v' : Value} (hd : ∀ p ∈ done, M.IsP p) (he : bs = M.encs done ++ rest) (hh : M.Head rest p r) (hl : l = rest.length) (h4 : l ≤ c') (h5 : c' ≤ maxLen)
    (hA : Bytes w3 w.heap.size A2 (l - M.wid p) (fun i => rest.getD (M.wid p + i) 0)) (ho : w3.ownsRow w.heap.size 21 1 v' (done ++ [p]).length (pvals (done ++ [p]))) (hb : Below w.heap.size w w3) :
    RRel bs w (.slice A2 (l - M.wid p) (c' - M.wid p)) v' w3 := by
  have hel := M.enc_length p
  have hr : r = rest.drop (M.wid p) := by rw [hh.2, ← hel]; simp
  have hll : rest.length = M.wid p + r.length := by rw [hh.2, List.length_append, hel]
  refine ⟨done ++ [p], r, A2, l - M.wid p, c' - M.wid p, ?_, ?_, by omega, rfl, by omega, by omega, ?_, ho, hb⟩
  · intro q hq
    rcases List.mem_append.1 hq with h | h
    · exact hd q h
    · simp at h; subst h; exact hh.1
  · rw [M.encs_snoc, he, List.append_assoc, ← hh.2]
  · intro i hi
    have := hA i hi
    rw [hr]
    simpa only [getD_drop] using this
set_option maxRecDepth 100000 in
theorem rPoints_post (v : Value) (bs : List Nat) (w : World) (h : BS w w.heap.size v bs) (hl : bs.length ≤ 100000) : Calls Try.prog 10 #[v] w (RPost bs w) := by
  obtain ⟨i0, hi0, hz0, hz1, hz2⟩ := info_parts i32_info
  obtain ⟨A, c, rfl, h1, h2, h3⟩ := h
  replace h3 := Lib.hid h3
  go_enter Try.func10, Try.ntmps10
  go_wp2
  go_loopw [0, 4] (fun b v w' => RRel bs w b v w') (fun b _ _ => lenOf b)
  case atStart => exact ⟨[], bs, A, bs.length, c, by simp, by simp [M.encs], rfl, rfl, h1, h2, h3.out, World.ownsRow_nil _ _ _ _, Below.refl _ _⟩
  case round =>
    obtain ⟨done, rest, A', l, c', hd, he, hll, rfl, h4, h5, hB, hown, hbel⟩ := hrel
    have hdl : done.length ≤ 100000 := done_le he hl
    replace hll := Lib.hid hll
    replace hd := Lib.hid hd
    replace he := Lib.hid he
    replace hB := Lib.hid hB
    replace hown := Lib.hid hown
    unfold maxLen at h5
    by_cases hr : l = 0
    · subst hr
      go_wp2
      go_ret2
      refine ⟨.inl ⟨done, _, ⟨hd.out, ?_⟩, rfl, hown.out⟩, hbel⟩
      rw [he.out, List.eq_nil_of_length_eq_zero hll.out.symm, List.append_nil]
    · have hne : Hid (rest ≠ []) := Lib.hid (fun h => hr (by rw [hll.out, h]; rfl))
      obtain ⟨ad, rfl, _⟩ := hB.out 0 (by omega)
      obtain ⟨f, hf⟩ : ∃ f : Nat → Nat, f = fun i => rest.getD i 0 := ⟨_, rfl⟩
      obtain ⟨b0, hb0⟩ : ∃ b0, b0 = rest.getD 0 0 := ⟨_, rfl⟩
      rw [← hf] at hB
      replace hf := Lib.hid hf
      replace hb0 := Lib.hid hb0
      go_wp2_with fail
      refine (first_any ad rest b0 l c' f _ hll.out hf.out hb0.out h4 (by unfold maxLen; omega) (hB.out.below (Below.refl _ _) hbel.size) (by omega)).mono ?_
      rintro e w1 ⟨⟨p, r, hh, rfl⟩ | ⟨hno, rfl⟩, hb1⟩
      · have hwr := M.wid_range p
        have hle : M.wid p ≤ l := by
          have e1 := M.enc_length p
          rw [hll.out, hh.2, List.length_append]; omega
        obtain ⟨m, hm⟩ : ∃ m, m = M.wid p := ⟨_, rfl⟩
        rw [← hm] at hwr hle ⊢
        replace hm := Lib.hid hm
        replace hh := Lib.hid hh
        have t1 : ((m : Int) == 0) = false := by simp; omega
        have ho1 := Lib.hid (own_later hown.out hb1)
        have hbel1 : Below w.heap.size w wr := hbel
        have hbw1 : Below w.heap.size w w1 := hbel.trans (hb1.mono hbel.size)
        have hB1 := Lib.hid (hB.out.below (hb1.mono hbel.size) (Nat.le_refl _))
        clear hb1
        by_cases hcm : c' = m
        all_goals
          go_wp2_with (first
            | (at_builtin; refine wpList_append_own _ rfl _ _ 25 rfl w.heap.size 21 i0 (.int .i32 0) 1 4 Try.underlying25 hi0 hz0 hz1 hz2 rfl (by decide) u4 done.length (pvals done) rfl (ho1.out.alloc _) ⟨_, 0, none⟩ 1 1 [_] rfl rfl (cell_one_new _ _ _) (fun x hx => by simp at hx; subst hx; rfl) (by unfold maxLen; omega) (by omega) (by have := hbw1.size; simp; omega) ?_; intro v' w3 hown' hgrow3 hnil3))
          have hb3 : Below w.heap.size w w3 := (hbw1.alloc hbw1.size _).grown hgrow3 (by have := hbw1.size; simp; omega) (fun q hq => (ho1.out.lt q hq).1)
          have hb13 : Below w.heap.size w1 w3 := ((Below.refl w.heap.size w1).alloc hbw1.size _).grown hgrow3 (by have := hbw1.size; simp; omega) (fun q hq => (ho1.out.lt q hq).1)
          have hB3 := hB1.out.below hb13 (Nat.le_refl _)
          have o3 : w3.ownsRow w.heap.size 21 1 v' (done ++ [p]).length (pvals (done ++ [p])) := by
            rw [pvals_append, List.length_append]; exact hown'
          refine ⟨?_, by show l - m < l; omega⟩
          first
            | (have hst := rrel_step (A2 := some ad) (w3 := w3) hd.out he.out hh.out hll.out h4 (by unfold maxLen; omega) (by rw [← hm.out]; intro i hi; omega) o3 hb3
               rw [← hm.out, show c' - m = 0 by omega] at hst
               exact hst)
            | (have hst := rrel_step (A2 := some (ad.add m)) (w3 := w3) hd.out he.out hh.out hll.out h4 (by unfold maxLen; omega) (by rw [← hm.out]; exact hB3.drop (fun i => by rw [hf.out])) o3 hb3
               rw [← hm.out] at hst
               exact hst)
      · replace hno := Lib.hid hno
        replace hb1 := Lib.hid hb1
        go_wp2
        go_ret2
        refine ⟨.inr ⟨fun ps => ?_, rfl⟩, hbel.trans (hb1.out.mono hbel.size)⟩
        rw [he.out]
        exact M.text_stuck hd.out hne.out hno.out
theorem rPoints_yes (v : Value) (bs ps : List Nat) (w : World) (h : BS w w.heap.size v bs) (hl : bs.length ≤ 100000) (ht : M.Text bs ps) :
    Calls Try.prog 10 #[v] w fun e w' => ∃ vl, e = .returned (.tuple #[vl, .bool true]) ∧ w'.ownsRow w.heap.size 21 1 vl ps.length (pvals ps) ∧ Below w.heap.size w w' :=
  (rPoints_post v bs w h hl).mono fun _ _ ⟨h1, h2⟩ => by
    rcases h1 with ⟨qs, vl, hq, he, ho⟩ | ⟨hn, _⟩
    · obtain rfl := M.text_unique ht hq
      exact ⟨vl, he, ho, h2⟩
    · exact absurd ht (hn ps)
theorem rPoints_no (v : Value) (bs : List Nat) (w : World) (h : BS w w.heap.size v bs) (hl : bs.length ≤ 100000) (ht : ∀ ps, ¬ M.Text bs ps) :
    Calls Try.prog 10 #[v] w fun e w' => e = .returned (.tuple #[.slice none 0 0, .bool false]) ∧ Below w.heap.size w w' :=
  (rPoints_post v bs w h hl).mono fun _ _ ⟨h1, h2⟩ => by
    rcases h1 with ⟨qs, vl, hq, he, ho⟩ | ⟨_, he⟩
    · exact absurd hq (ht qs)
    · exact ⟨he, h2⟩
end Go.Proofs.Ytlppgaaepllbiaa
