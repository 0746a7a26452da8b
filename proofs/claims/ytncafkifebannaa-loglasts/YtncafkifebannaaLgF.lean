/-
  How the log writes bytes of a half, sector by sector; condition: the log's block and its disk lie in memory, the bytes elsewhere.
-/
import Derived.Test.YtncafkifebannaaLgE
import Derived.Deep.Cut
namespace Go.Proofs.Ytncafkifebannaa
open Go.RowKit
section
variable {w w' : World} {B G g r q n cS cE : Nat} {S E : List Nat} {k last : Int} {h : Nat} {v2 v3 v4 : Value}
/-- What writing bytes at a place makes: up to the end, or to the end of some sector, or nothing. -/
def WrPost (w : World) (B g r q n cS cE : Nat) (S E : List Nat) (k last : Int) (base at0 : Nat) (bs : List Nat) (e : Ending) (w' : World) : Prop :=
  ∃ (k' : Int) (j : Nat), k ≤ k' ∧ k' ≤ k + (j + 1) ∧ j ≤ bs.length ∧ DAt w' B g r q n cS cE S (M.lay E (base + at0) (bs.take j)) k' last ∧ But (DX g r q) w w' ∧
    ((e = .returned (.int .i64 0) ∧ j = bs.length ∧ (¬ last ≤ k' ∨ bs.length = 0 ∧ k' = k)) ∨ (e = .returned (.int .i64 103) ∧ last ≤ k' ∧ (j = bs.length ∨ j = 0 ∨ (at0 + j) % 64 = 0)))
/-- The bytes behind the first k, whatever the capacity. -/
theorem cut_any {w : World} {B n c : Nat} {ad : Addr} {bs : List Nat} (h : BS w B (.slice (some ad) n c) bs) (m : Nat) (h0 : 0 < m) (hm : m ≤ n) (u : Value) (hu : (c = m ∧ u = .slice (some ad) (n - m) (c - m)) ∨ (c ≠ m ∧ u = .slice (some (ad.add m)) (n - m) (c - m))) : BS w B u (bs.drop m) := by
  have hn : n = bs.length := by
    obtain ⟨_, _, e, _⟩ := h
    injection e
  rcases hu with ⟨e, rfl⟩ | ⟨_, rfl⟩
  · obtain ⟨_, _, e1, a1, a2, _⟩ := h
    injection e1 with _ _ e4
    subst e4
    have hd : bs.drop m = [] := List.drop_eq_nil_of_le (by omega)
    have e5 : n - m = 0 := by omega
    rw [hd, e5]
    exact ⟨_, _, rfl, by simp, by omega, fun i hi => by simp at hi⟩
  · have := h.cut m h0 (by omega)
    have e : (⟨ad.block, ad.off + m, none⟩ : Addr) = ad.add m := by unfold Addr.add; rw [if_neg (by omega)]
    rwa [e] at this
theorem M.lay_lay {bs xs ys : List Nat} {a : Nat} (h : a + xs.length + ys.length ≤ bs.length) : M.lay (M.lay bs a xs) (a + xs.length) ys = M.lay bs a (xs ++ ys) := by
  have hl : (M.lay bs a xs).length = bs.length := M.lay_length (by omega)
  apply List.ext_getElem?
  intro i
  have g1 := M.lay_get (bs := M.lay bs a xs) (xs := ys) (a := a + xs.length) (by omega) i
  have g2 := M.lay_get (bs := bs) (xs := xs) (a := a) (by omega) i
  have g3 := M.lay_get (bs := bs) (xs := xs ++ ys) (a := a) (by simp; omega) i
  rw [g1, g2, g3]
  by_cases h1 : a ≤ i ∧ i < a + xs.length
  · rw [if_neg (by omega), if_pos h1, if_pos (by simp; omega), List.getElem?_append_left (by omega)]
  · by_cases h2 : a + xs.length ≤ i ∧ i < a + xs.length + ys.length
    · rw [if_pos h2, if_pos (by simp; omega), List.getElem?_append_right (by omega)]
      congr 1; omega
    · rw [if_neg h2, if_neg h1, if_neg (by simp; omega)]
set_option maxRecDepth 100000 in
set_option maxHeartbeats 2000000 in
theorem write_any (w : World) (at0 L : Nat) (U : Value) (bs : List Nat) (a : HAt w B G g r q n cS cE S E k last h v2 v3 v4) (hL : L = bs.length) (hst : ∀ w', But (DX g r q) w w' → BS w' w'.heap.size U bs) (hfit : at0 + L ≤ M.cnt n * 64) (hk : 0 ≤ k ∧ k + L < 1000000) :
    Calls Try.prog 44 #[Mp G, .int .i64 (at0 : Int), U] w (WrPost w B g r q n cS cE S E k last ((1 + h * M.cnt n) * 64) at0 bs) := by
  obtain ⟨A0, d0, rfl, _, hd0, _⟩ := hst w (But.refl _ _)
  have hn := a.disk.n0
  have h2 := a.h2
  have hc : M.cnt n ≤ 8192 := by unfold M.cnt; omega
  have hend : 1 + h * M.cnt n + M.cnt n ≤ n := by
    have : M.cnt n * 2 + 1 ≤ n := by unfold M.cnt; omega
    rcases (show h = 0 ∨ h = 1 by omega) with rfl | rfl <;> omega
  obtain ⟨b0, hb0⟩ : ∃ b0, b0 = 1 + h * M.cnt n := ⟨_, rfl⟩
  rw [← hb0] at hend ⊢
  rw [← hL]
  replace hb0 := Lib.hid hb0
  replace hL := Lib.hid hL
  replace hst := Lib.hid hst
  have ha := Lib.hid a
  go_enter Try.func44, Try.ntmps44
  go_wp2_with fail
  go_loopw [1, 2] (fun s v w' => ∃ (j : Nat) (A : Option Addr) (d : Nat) (k' : Int), j ≤ L ∧ s = .int .i64 ((at0 + j : Nat) : Int) ∧ v = .slice A (L - j) d ∧ (∀ w2, But (DX g r q) w' w2 → BS w2 w2.heap.size (.slice A (L - j) d) (bs.drop j)) ∧ DAt w' B g r q n cS cE S (M.lay E (b0 * 64 + at0) (bs.take j)) k' last ∧ But (DX g r q) w w' ∧ k ≤ k' ∧ k' ≤ k + j ∧ (j = 0 ∧ k' = k ∨ ¬ last ≤ k')) (fun s _ _ => at0 + L - (intOf s).toNat)
  case atStart => exact ⟨0, A0, d0, k, by omega, by simp, by rw [hL.out, Nat.sub_zero], fun w2 hb => by rw [hL.out, Nat.sub_zero]; exact hst.out w2 hb, by rw [List.take_zero, M.lay_nil _ _ (by rw [a.disk.lE]; have := hL.out; omega)]; exact a.disk, But.refl _ _, by omega, by omega, .inl ⟨rfl, rfl⟩⟩
  case round =>
    obtain ⟨j, A, d, k', hj, rfl, rfl, hs, hd, hx, hk1, hk2, hon⟩ := hrel
    by_cases hlt : j < L
    · have hs0 := hs wr (But.refl _ _)
      obtain ⟨m, hm⟩ : ∃ m, m = L - j := ⟨_, rfl⟩
      obtain ⟨t, ht⟩ : ∃ t, t = at0 + j := ⟨_, rfl⟩
      rw [← hm] at hs hs0 ⊢
      rw [← ht]
      have m0 : 0 < m := by omega
      obtain ⟨ad, rfl⟩ : ∃ ad, A = some ad := by
        obtain ⟨_, _, e1, _, _, e2⟩ := hs0
        injection e1 with e3 e4 e5
        obtain ⟨ad, e6, _⟩ := e2 0 (by omega)
        exact ⟨ad, e3.trans e6⟩
      obtain ⟨oo, hoo⟩ : ∃ oo, oo = t % 64 := ⟨_, rfl⟩
      obtain ⟨ss, hss⟩ : ∃ ss, ss = t / 64 := ⟨_, rfl⟩
      obtain ⟨nn, hnn⟩ : ∃ nn, nn = min m (64 - oo) := ⟨_, rfl⟩
      have n1 : 0 < nn ∧ nn ≤ m ∧ oo + nn ≤ 64 ∧ (nn = m ∨ oo + nn = 64) := by omega
      have e1 : (t : Int) % 64 = (oo : Int) := by omega
      have e2 : (t : Int) / 64 = (ss : Int) := by omega
      have e3 : (if 64 - (oo : Int) < (m : Int) then 64 - (oo : Int) else (m : Int)) = (nn : Int) := by split <;> omega
      have ht2 : t = ss * 64 + oo := by omega
      have hss2 : ss < M.cnt n := by omega
      have s1 : (0 : Int) < (m : Int) := by omega
      have s2 : (0 : Int) ≤ (t : Int) := by omega
      have s3 : (t : Int) ≤ 1048576 := by omega
      have s4 : (nn : Int) ≤ (m : Int) := by omega
      have hcap : m ≤ d ∧ d ≤ 9223372036854775807 := by
        obtain ⟨_, _, e4, e5, e6, _⟩ := hs0
        injection e4 with e7 e8 e9
        unfold maxLen at e6
        omega
      have s5 : (nn : Int) ≤ (d : Int) := by omega
      have s6 : nn ≤ d := by omega
      have hA := Lib.hid ((ha.out.but hd hx).later (Below.refl _ _).drew)
      have hsec := Lib.hid (show ∀ W, HAt W B G g r q n cS cE S (M.lay E (b0 * 64 + at0) (bs.take j)) k' last h v2 v3 v4 → Calls Try.prog 58 #[Mp G, .int .i64 (ss : Int)] W fun e w' => e = .returned (.int .i64 ((b0 + ss : Nat) : Int)) ∧ Below W.heap.size W w' from fun W hW => by rw [hb0.out]; exact sector_of W ss hW (by omega))
      have hws := Lib.hid (fun W (hW : HAt W B G g r q n cS cE S (M.lay E (b0 * 64 + at0) (bs.take j)) k' last h v2 v3 v4) (hu : BS W W.heap.size (.slice (some ad) nn d) ((bs.drop j).take nn)) => show Calls Try.prog 57 #[Mp G, .int .i64 ((b0 + ss : Nat) : Int), .int .i64 (oo : Int), .slice (some ad) nn d] W (fun e w' => ∃ (k3 cc : Int) (E3 : List Nat), e = .returned (.int .i64 cc) ∧ (Unit → cc = if last ≤ k3 then 103 else 0) ∧ k' ≤ k3 ∧ k3 ≤ k' + 1 ∧ (Unit → E3 = if last ≤ k' then M.lay E (b0 * 64 + at0) (bs.take j) else M.lay (M.lay E (b0 * 64 + at0) (bs.take j)) ((b0 + ss) * 64 + oo) ((bs.drop j).take nn)) ∧ DAt w' B g r q n cS cE S E3 k3 last ∧ But (DX g r q) W w') from
        (writeSector_any W (b0 + ss) oo nn d (some ad) ((bs.drop j).take nn) hW (by omega) hu (by rw [List.length_take, List.length_drop, ← hL.out]; omega) (by omega) (by omega) ⟨by omega, by omega⟩).mono fun e w' ⟨k3, E3, p1, p2, p3, p4, p5, p6⟩ => ⟨k3, _, E3, p1, fun _ => rfl, p2, p3, fun _ => p4, p5, p6⟩)
      have hsf := Lib.hid (show ∀ W, Below wr.heap.size wr W → BS W W.heap.size (.slice (some ad) nn d) ((bs.drop j).take nn) from fun W hW => (hs W (But.ofBelow hW)).front nn (by rw [List.length_drop, ← hL.out]; omega))
      have htm := Lib.hid (show (t : Int).tmod 64 = (oo : Int) by rw [Int.tmod_eq_emod_of_nonneg (by omega)]; exact e1)
      have hbss : Unit → (b0 : Int) + (ss : Int) = ((b0 + ss : Nat) : Int) := fun _ => by push_cast; rfl
      have hwss := Lib.hid (show IntKind.i64.wrap (ss : Int) = (ss : Int) by rw [IntKind.wrap_i64]; omega)
      replace hs := Lib.hid hs
      replace hd := Lib.hid hd
      replace hx := Lib.hid hx
      replace hon := Lib.hid hon
      replace hm := Lib.hid hm
      replace ht := Lib.hid ht
      replace hoo := Lib.hid hoo
      replace hss := Lib.hid hss
      replace hnn := Lib.hid hnn
      replace ht2 := Lib.hid ht2
      replace hcap := Lib.hid hcap
      replace hb0 := Lib.hid hb0.out
      clear hs0
      go_wp2_with fail
      go_region_held3 (fun w' => True)
        (trivial)
        (first
          | (go_at_call 58; rw [hwss.out]; (with_reducible refine (hsec.out _ hA.out).mono ?_); rintro ex w2 ⟨rfl, b2⟩; have b2' := Lib.hid ((Below.refl wr.heap.size wr).drew.trans b2))
          | (go_at_call 57; rw [htm.out, hbss ()]; (with_reducible refine (hws.out _ (hA.out.later b2) (hsf.out _ b2'.out)).mono ?_); rintro ex w3 ⟨k3, cc, E3, rfl, q0, q1, q2, q3, d3, x3⟩))
      have x13 : But (DX g r q) wr w3 := ⟨x3.os.trans b2'.out.os, x3.tape.trans b2'.out.tape, x3.output.trans b2'.out.output, Nat.le_trans b2'.out.size x3.size, fun b hb hx' => (x3.block b (Nat.lt_of_lt_of_le hb b2'.out.size) hx').trans (b2'.out.block b hb)⟩
      have hx3 := hx.out.trans x13
      have hlE : E.length = n * 64 := a.disk.lE
      have hlj : (bs.take j).length = j := by rw [List.length_take, ← hL.out]; omega
      have hln : ((bs.drop j).take nn).length = nn := by rw [List.length_take, List.length_drop, ← hL.out, ← hm.out]; omega
      have htj := ht.out
      have ht3 := ht2.out
      have hE3 : ¬ last ≤ k' → E3 = M.lay E (b0 * 64 + at0) (bs.take (j + nn)) := fun hne => by
        have := q3 ()
        rw [if_neg hne] at this
        rw [this]
        have hll := M.lay_lay (bs := E) (xs := bs.take j) (ys := (bs.drop j).take nn) (a := b0 * 64 + at0) (by rw [hlj, hln, hlE]; omega)
        rw [hlj] at hll
        rw [show (b0 + ss) * 64 + oo = b0 * 64 + at0 + j by omega, hll, List.take_add]
      by_cases hl : last ≤ k3
      · have hcc : cc = 103 := by rw [q0 (), if_pos hl]
        subst hcc
        have hfin : WrPost w B g r q n cS cE S E k last (b0 * 64) at0 bs (.returned (.int .i64 103)) w3 := by
          by_cases hne : last ≤ k'
          · have hj0 : j = 0 ∧ k' = k := by
              rcases hon.out with h9 | h9
              · exact h9
              · omega
            have hE := q3 ()
            rw [if_pos hne] at hE
            refine ⟨k3, 0, by omega, by omega, by omega, ?_, hx3, .inr ⟨rfl, hl, .inr (.inl rfl)⟩⟩
            rw [hj0.1] at hE
            rw [← hE]; exact d3
          · refine ⟨k3, j + nn, by omega, by omega, by rw [← hL.out]; have := hm.out; omega, ?_, hx3, .inr ⟨rfl, hl, ?_⟩⟩
            · rw [← hE3 hne]; exact d3
            · rcases n1.2.2.2 with h9 | h9
              · exact .inl (by rw [← hL.out]; have := hm.out; omega)
              · exact .inr (.inr (by omega))
        replace hfin := Lib.hid hfin
        clear d3 x3 x13 hx3 hE3 q3 q0
        go_wp2_with fail
        go_ret
        exact hfin.out
      · have hne : ¬ last ≤ k' := by omega
        have hcc : cc = 0 := by rw [q0 (), if_neg hl]
        subst hcc
        have d4 := Lib.hid (show DAt w3 B g r q n cS cE S (M.lay E (b0 * 64 + at0) (bs.take (j + nn))) k3 last by rw [← hE3 hne]; exact d3)
        have hs4 := Lib.hid (show ∀ w2, But (DX g r q) w3 w2 → ∀ u, (d = nn ∧ u = .slice (some ad) (m - nn) (d - nn)) ∨ (d ≠ nn ∧ u = .slice (some (ad.add nn)) (m - nn) (d - nn)) → BS w2 w2.heap.size u (bs.drop (j + nn)) from fun w2 hb u hu => by
          have := cut_any (hs.out w2 (x13.trans hb)) nn n1.1 n1.2.1 u hu
          rwa [List.drop_drop] at this)
        replace hx3 := Lib.hid hx3
        have hlnn := Lib.hid (show L - (j + nn) = m - nn by have := hm.out; omega)
        have hl' := Lib.hid hl
        have u1 : (nn : Int) ≤ (d : Int) := s5
        clear d3 x3 x13 hE3 q3 q0
        by_cases hdn : d = nn
        · go_wp2_with fail
          go_quiet (fail)
          go_wp2_with fail
          exact ⟨⟨j + nn, some ad, 0, k3, by have := hm.out; omega, congrArg (Value.int .i64) (by push_cast; omega), by rw [hlnn.out], fun w2 hb => by rw [hlnn.out]; exact hs4.out w2 ((But.ofBelow (below_drewN' w3 _)).trans hb) _ (.inl ⟨hdn, by rw [hdn, Nat.sub_self]⟩), d4.out.later (below_drewN' w3 _), hx3.out.trans (But.ofBelow (below_drewN' w3 _)), by omega, by omega, .inr (by omega)⟩, by have := ht.out; have := hm.out; simp [intOf]; omega⟩
        · have u2 : (nn : Int) < (d : Int) := by omega
          have u3 : nn < d := by omega
          go_wp2_with fail
          go_quiet (fail)
          go_wp2_with fail
          exact ⟨⟨j + nn, some (ad.add nn), d - nn, k3, by have := hm.out; omega, congrArg (Value.int .i64) (by push_cast; omega), by rw [hlnn.out], fun w2 hb => by rw [hlnn.out]; exact hs4.out w2 ((But.ofBelow (below_drewN' w3 _)).trans hb) _ (.inr ⟨hdn, rfl⟩), d4.out.later (below_drewN' w3 _), hx3.out.trans (But.ofBelow (below_drewN' w3 _)), by omega, by omega, .inr (by omega)⟩, by have := ht.out; have := hm.out; simp [intOf]; omega⟩
    · obtain rfl : j = L := by omega
      have hfin : WrPost w B g r q n cS cE S E k last (b0 * 64) at0 bs (.returned (.int .i64 0)) wr := by
        refine ⟨k', j, hk1, by omega, by rw [← hL.out]; omega, hd, hx, .inl ⟨rfl, hL.out, ?_⟩⟩
        rcases hon with h9 | h9
        · exact .inr ⟨by rw [← hL.out]; exact h9.1, h9.2⟩
        · exact .inl h9
      replace hfin := Lib.hid hfin
      clear hs hd hx hon
      go_wp2_with fail
      go_ret
      exact hfin.out
end
end Go.Proofs.Ytncafkifebannaa
