/-
  Copies of records, and records written over; condition: all lies in memory, what is written over was made by the call.
-/
import Derived.Test.YtncafkifebannaaLgLw
namespace Go.Proofs.Ytncafkifebannaa
open Go.RowKit
theorem own_ne {w : World} {b b' e e' s s' n n' : Nat} {v v' : Value} {xs xs' : List Value} (h : w.ownsRow b e s v n xs) (h' : w.ownsRow b' e' s' v' n' xs') (hne : e ≠ e') (k : Nat) (hk : v.ownBlock = some k) : v'.ownBlock ≠ some k := by
  intro hk'
  rcases h.2 with ⟨rfl, _⟩ | ⟨g, cap, cur, rfl, _, h2, _⟩
  · simp [Value.ownBlock] at hk
  · rcases h'.2 with ⟨rfl, _⟩ | ⟨g', cap', cur', rfl, _, h2', _⟩
    · simp [Value.ownBlock] at hk'
    · have e1 : g = k := by simpa [Value.ownBlock] using hk
      have e2 : g' = k := by simpa [Value.ownBlock] using hk'
      subst e1
      rw [e2, h2] at h2'
      injection h2' with h2'
      injection h2' with _ h2'
      exact hne h2'
set_option maxRecDepth 100000 in
set_option maxHeartbeats 2000000 in
theorem CopyCells_any (w : World) (P : Nat → Prop) (v : Value) (rs : List (List Nat)) (h : Recs w P v rs) (hP : ∀ b, P b → b < w.heap.size) (hlen : ∀ r ∈ rs, r.length ≤ 1000000) (hN : rs.length ≤ 1000000) :
    Calls Try.prog 13 #[v] w (GivesL rs w) := by
  obtain ⟨i0, hi0, hz0, hz1, hz2⟩ := info_parts row_info
  obtain ⟨A, c, rfl, a1, _⟩ := id h
  obtain ⟨n, hn⟩ : ∃ n, n = rs.length := ⟨_, rfl⟩
  rw [← hn] at h a1 hN
  rw [← hn]
  unfold maxLen at a1
  have g1 := Lib.hid (fun W (hW : Below w.heap.size w W) => Recs.get (h.to (w' := W) (Q := P) (fun b hb => hW.block b (hP b hb)) (fun _ h => h)))
  replace hn := Lib.hid hn
  replace hP := Lib.hid hP
  replace hlen := Lib.hid hlen
  clear h
  go_enter Try.func13, Try.ntmps13
  go_wp2_with fail
  go_loopw [3, 4] (fun m i w' => ∃ (k : Nat) (us : List Value), k ≤ n ∧ i = .int .i64 k ∧ w'.ownsRow w.heap.size 37 1 m k us ∧ (∀ (j : Nat) (x : List Nat), j < k → rs[j]? = some x → ∃ u, us[j]? = some u ∧ w'.ownsRow w.heap.size 5 1 u x.length (vals x)) ∧ Apart us ∧ Below w.heap.size w w') (fun _ i _ => n - (intOf i).toNat)
  case atStart => exact ⟨0, [], by omega, rfl, World.ownsRow_nil _ _ _ _, fun j x hj => by omega, fun i j u u' b _ hu => by simp at hu, Below.refl _ _⟩
  case round =>
    obtain ⟨k, us, hk, rfl, hown, hrow, hap, hb⟩ := hrel
    have hs := hb.size
    by_cases hlt : k < n
    · obtain ⟨ad, B1, x, d1, rfl, p1, e1, q1, s1⟩ := g1.out wr hb k hlt
      have t0 : (0 : Int) ≤ (k : Int) := by omega
      have t1 : (k : Int) < (n : Int) := by omega
      have s1' := s1.bs (fun b hb' => Nat.lt_of_lt_of_le (hP.out b hb') hs)
      have hcp := Lib.hid (CopyBytes_any _ x wr (hlen.out x (List.mem_of_getElem? e1)) s1')
      replace hown := Lib.hid hown
      replace hrow := Lib.hid hrow
      replace hap := Lib.hid hap
      replace hb := Lib.hid hb
      clear s1 s1'
      go_wp2_with fail
      refine hcp.out.mono ?_
      rintro e9 w1 ⟨u1, rfl, o1, b1⟩
      obtain ⟨A9, d9, rfl, _, _⟩ := own_form o1
      have hown1 := Lib.hid (own_later hown.out b1)
      have hs1 := b1.size
      have ho1 := Lib.hid o1
      have b1' := Lib.hid b1
      clear o1 b1 hcp
      go_wp2_with (first
        | (at_builtin; refine wpList_append_own _ rfl _ _ 31 rfl w.heap.size 37 i0 (.slice none 0 0) 1 24 Try.underlying31 hi0 hz0 hz1 hz2 rfl (by decide) u3 k us rfl (hown1.out.alloc _) ⟨_, 0, none⟩ 1 1 [_] rfl rfl (cell_one_new _ _ _) (fun x hx => by simp at hx; subst hx; rfl) (by unfold maxLen; omega) (by omega) (by simp; omega) ?_; intro v' w3 hown' hgrow3 hnil3))
      have hg3 : But (fun b => u3.ownBlock = some b) w1 w3 := (But.alloc _ w1 _).trans (But.grown hgrow3)
      have hne37 : 37 ≠ 5 := by decide
      have hul : us.length = k := by have := hown.out.1; omega
      refine ⟨⟨k + 1, us ++ [.slice A9 x.length d9], by omega, by go_num, hown', fun j y hj hy => ?_, fun i j u u' b hij hu hu' hbu hbu' => ?_, ?_⟩, by simp [intOf]; omega⟩
      · by_cases hjk : j = k
        · subst hjk
          rw [e1] at hy
          injection hy with hy
          subst hy
          refine ⟨_, by rw [List.getElem?_append_right (by omega), hul, Nat.sub_self]; rfl, ownsRow_base (ownsRow_agree ho1.out (fun q hq => hg3.block q (ho1.out.lt q hq).2 (own_ne ho1.out hown1.out (Ne.symm hne37) q hq))) (fun q hq => by have := (ho1.out.lt q hq).1; omega)⟩
        · obtain ⟨u, z1, z2⟩ := hrow.out j y (by omega) hy
          refine ⟨u, by rw [List.getElem?_append_left (by omega)]; exact z1, ownsRow_agree z2 (fun q hq => ?_)⟩
          have hq1 := (z2.lt q hq).2
          exact (hg3.block q (by omega) (own_ne z2 hown.out (Ne.symm hne37) q hq)).trans (b1'.out.block q hq1)
      · have hjl : j < k + 1 := by have := (List.getElem?_eq_some_iff.1 hu').1; simp at this; omega
        have hik : i < k := by omega
        rw [List.getElem?_append_left (by omega)] at hu
        by_cases hjk : j = k
        · subst hjk
          rw [List.getElem?_append_right (by omega), hul, Nat.sub_self] at hu'
          have hu' : Value.slice A9 x.length d9 = u' := by simpa using hu'
          subst hu'
          have h1 := (ho1.out.lt b hbu').1
          have hil : i < rs.length := by have := hn.out; omega
          obtain ⟨u2, z1, z2⟩ := hrow.out i _ hik (List.getElem?_eq_getElem hil)
          rw [hu] at z1
          injection z1 with z1
          subst z1
          have h2 := (z2.lt b hbu).2
          omega
        · rw [List.getElem?_append_left (by omega)] at hu'
          exact hap.out i j u u' b hij hu hu' hbu hbu'
      · refine (hb.out.trans (b1'.out.mono hs)).trans (hg3.below (fun q hq => ?_) (by omega))
        exact (hown.out.lt q hq).1
    · obtain rfl : k = n := by omega
      have hfin := Lib.hid (show GivesL rs w (.returned u3) wr from ⟨_, us, rfl, ⟨by rw [← hn.out]; exact hown, fun i x hx => hrow i x (by have := (List.getElem?_eq_some_iff.1 hx).1; have := hn.out; omega) hx, hap⟩, hb⟩)
      clear hown hrow hap hb
      go_wp2_with fail
      go_ret
      exact hfin.out
end Go.Proofs.Ytncafkifebannaa
