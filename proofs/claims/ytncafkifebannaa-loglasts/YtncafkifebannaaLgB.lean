/-
  What the log's functions on entries answer; condition: the bytes lie in memory.
-/
import Derived.Test.YtncafkifebannaaLgA
import Derived.Deep.RegionHeld3
namespace Go.Proofs.Ytncafkifebannaa
open Go.RowKit
theorem M.lay_app (p q s xs : List Nat) (h : xs.length = q.length) : M.lay (p ++ (q ++ s)) p.length xs = p ++ (xs ++ s) := by
  unfold M.lay splice
  rw [List.take_left' rfl, h, ← List.append_assoc p q s, ← List.length_append, List.drop_left' rfl]
theorem M.ent_lay (r : List Nat) : M.lay (M.lay (M.lay (List.replicate (M.elen r.length) 0) 0 (M.by4 r.length)) 4 (M.by4 (M.chk r))) 8 r = M.ent r := by
  have hp := M.pad_ge r.length
  have e : List.replicate (M.elen r.length) 0 = [] ++ (List.replicate 4 0 ++ (List.replicate 4 0 ++ (List.replicate r.length 0 ++ List.replicate (M.pad r.length - r.length) 0))) := by
    simp only [List.nil_append, List.replicate_append_replicate]
    congr 1
    unfold M.elen
    omega
  rw [e]
  have h1 := M.lay_app [] (List.replicate 4 0) (List.replicate 4 0 ++ (List.replicate r.length 0 ++ List.replicate (M.pad r.length - r.length) 0)) (M.by4 r.length) rfl
  rw [List.length_nil] at h1
  rw [h1, List.nil_append]
  have h2 := M.lay_app (M.by4 r.length) (List.replicate 4 0) (List.replicate r.length 0 ++ List.replicate (M.pad r.length - r.length) 0) (M.by4 (M.chk r)) rfl
  rw [M.by4_length] at h2
  rw [h2]
  have h3 := M.lay_app (M.by4 r.length ++ M.by4 (M.chk r)) (List.replicate r.length 0) (List.replicate (M.pad r.length - r.length) 0) r (by simp)
  rw [List.length_append, M.by4_length, M.by4_length, List.append_assoc, List.append_assoc] at h3
  exact h3
def EntPost (bs : List Nat) (n : Nat) (w : World) (e : Ending) (w' : World) : Prop := ∃ r, e = .returned (.slice (some ⟨r, 0, none⟩) n n) ∧ RowAt w' r n bs ∧ w.heap.size ≤ r ∧ Below w.heap.size w w'
set_option maxRecDepth 100000 in
theorem entry_any (v : Value) (bs : List Nat) (w : World) (h : BS w w.heap.size v bs) (hn : bs.length ≤ 1048576) : Calls Try.prog 45 #[v] w (EntPost (M.ent bs) (M.elen bs.length) w) := by
  have hcp := Lib.hid hn
  have hel := M.ent_lay bs
  have hpd := M.pad_ge bs.length
  have hck : M.chk bs < 4294967296 := by have := M.sum_le h.lt; unfold M.chk; omega
  obtain ⟨A, c, rfl, a1, a2, a3⟩ := h
  have h : BS w w.heap.size (.slice A bs.length c) bs := ⟨A, c, rfl, a1, a2, a3⟩
  obtain ⟨n, hN⟩ : ∃ n, n = bs.length := ⟨_, rfl⟩
  obtain ⟨L, hL⟩ : ∃ L, L = M.elen n := ⟨_, rfl⟩
  have hL8 : 8 + n ≤ L ∧ L ≤ n + 15 := by rw [hL]; unfold M.elen; rw [← hN] at hpd; omega
  have hmk := make_run L L (L : Int) (L : Int) rfl rfl (Nat.le_refl _) (by omega) w
  rw [← hN] at h hn hel ⊢
  rw [← hL] at hel ⊢
  have h0 := zrow_at w L (by omega)
  have b0 : Below w.heap.size w (w.alloc (.cells (zrow L) 5)) := (Below.refl _ _).alloc (Nat.le_refl _) _
  obtain ⟨W0, hW0⟩ : ∃ W0, W0 = w.alloc (.cells (zrow L) 5) := ⟨_, rfl⟩
  rw [← hW0] at h0 b0 hmk
  obtain ⟨g, hg⟩ : ∃ g, g = w.heap.size := ⟨_, rfl⟩
  have hgl : w.heap.size ≤ g := by omega
  rw [← hg] at h0 hmk
  have ent := Lib.hid (entryLen_any A n c w (by omega))
  rw [← hL] at ent
  have h1 := Lib.hid (putNumber_any W0 g L 0 L L n (List.replicate L 0) h0 ⟨by omega, by rw [List.length_replicate]; omega⟩ (by omega))
  have hv := Lib.hid h
  replace hN := Lib.hid hN
  replace hL := Lib.hid hL
  replace hg := Lib.hid hg
  replace hW0 := Lib.hid hW0
  replace hel := Lib.hid hel
  replace b0 := Lib.hid b0
  clear h0 hpd a1 a2 a3 h
  go_enter Try.func45, Try.ntmps45
  go_wp2_with fail
  refine ent.out.mono ?_
  rintro e w' ⟨rfl, rfl⟩
  go_wp2_with fail
  refine h1.out.mono ?_
  rintro e w1 ⟨rfl, r1, x1⟩
  have B1 : Below w'.heap.size w' w1 := b0.out.trans (x1.below (fun k e => by rw [e]; exact hgl) b0.out.size)
  have v1 := Lib.hid ((hv.out.later B1).later (Below.refl _ _).drew)
  have d1 := Lib.hid B1.drew
  have r1d := Lib.hid (r1.later (Below.refl _ _).drew)
  have l1 := Lib.hid (show 4 + 4 ≤ (M.lay (List.replicate L 0) 0 (M.by4 n)).length by rw [M.lay_length (by rw [M.by4_length, List.length_replicate]; omega), List.length_replicate]; omega)
  have s1 : (4 : Int) ≤ (L : Int) := by omega
  have s2 : 4 ≤ L := by omega
  have s3 : ¬ L = 4 := by omega
  have s4 : (4 : Int) < (L : Int) := by omega
  have s5 := Lib.hid (show 4 ≤ L - 4 by omega)
  replace hck := Lib.hid hck
  clear B1 r1 x1 h1 ent
  go_wp2_with fail
  go_region_held3 (fun w' => True)
    (trivial)
    (first
      | (go_at_call 60; (with_reducible refine (sum_any _ bs _ v1.out hcp.out).mono ?_); rintro e2 w2 ⟨rfl, rfl⟩)
      | (go_at_call 59; (with_reducible refine (putNumber_any _ g L 4 (L - 4) (L - 4) (M.chk bs) _ r1d.out ⟨s5.out, l1.out⟩ hck.out).mono ?_); rintro e3 w3 ⟨rfl, r3, x3⟩))
  have B3 : Below w'.heap.size w' w3 := d1.out.trans (x3.below (fun k e => by rw [e]; exact hgl) d1.out.size)
  have hel' := hel.out
  have hlA : (M.lay (List.replicate L 0) 0 (M.by4 n)).length = L := by rw [M.lay_length (by rw [M.by4_length, List.length_replicate]; omega), List.length_replicate]
  have hlB : (M.lay (M.lay (List.replicate L 0) 0 (M.by4 n)) 4 (M.by4 (M.chk bs))).length = L := by rw [M.lay_length (by rw [M.by4_length, hlA]; omega), hlA]
  have hv3 := hv.out.later B3
  by_cases hz : n = 0
  · have hb0 : bs = [] := List.eq_nil_of_length_eq_zero (by rw [← hN.out]; exact hz)
    have hL8' : L = 8 := by rw [hL.out, hz]; rfl
    have hfin : EntPost (M.ent bs) L w' (.returned (.slice (some ⟨g, 0, none⟩) L L)) w3 := by
      refine ⟨g, rfl, ?_, hgl, B3⟩
      rw [← hel', hb0, M.lay_nil _ _ (by rw [← hb0, hlB]; omega), ← hb0]
      exact r3
    replace hfin := Lib.hid hfin
    clear hel hel' hv3 B3 r3 x3 l1 v1 d1 hlA hlB
    subst hL8'
    subst hz
    have hcn := fun W => run_copy_none (P := Try.prog) W 37 37 3 5 (some ⟨g, 0, none⟩) A 0 0 0 c Try.underlying37 (by kernel_rfl) (by simp)
    go_wp2_with fail
    go_ret
    exact hfin.out
  · have hl3 := hlB
    obtain ⟨w4, hrun, r4, x4⟩ := r3.copy 37 Try.underlying37 8 (L - 8) (L - 8) c (U := A) (xs := bs) (by rw [← hN.out]; exact hv3) (by rw [hl3, ← hN.out]; omega) (by rw [← hN.out]; omega) (by rw [← hN.out]; omega)
    rw [← hN.out] at hrun
    have hfin : EntPost (M.ent bs) L w' (.returned (.slice (some ⟨g, 0, none⟩) L L)) w4 := ⟨g, rfl, by rw [← hel']; exact r4, hgl, B3.trans (x4.below (fun k e => by rw [e]; exact hgl) B3.size)⟩
    replace hfin := Lib.hid hfin
    have q1 : (8 : Int) < (L : Int) := by omega
    have q2 : 8 < L := by omega
    have q3 : ¬ L = 8 := by omega
    clear hel hel' hv3 B3 r3 x3 l1 v1 d1 r4 x4 hl3 hlA hlB
    go_wp2_with fail
    go_ret
    exact hfin.out
/-- The bytes behind the first k. -/
theorem BS.cut {w : World} {B n c : Nat} {ad : Addr} {bs : List Nat} (h : BS w B (.slice (some ad) n c) bs) (k : Nat) (h0 : 0 < k) (hk : k ≤ bs.length) : BS w B (.slice (some ⟨ad.block, ad.off + k, none⟩) (n - k) (c - k)) (bs.drop k) := by
  obtain ⟨A, c', e, h1, h2, h3⟩ := h
  injection e with e1 e2 e3
  subst e1 e3
  refine ⟨some ⟨ad.block, ad.off + k, none⟩, _, by rw [List.length_drop, e2], by rw [List.length_drop]; omega, by omega, ?_⟩
  rw [List.length_drop]
  have e : (⟨ad.block, ad.off + k, none⟩ : Addr) = ad.add k := by unfold Addr.add; rw [if_neg (by omega)]
  rw [e]
  exact Bytes.drop (n := k) h3 (fun i => getD_drop bs k i)
theorem BS.front {w : World} {B n c : Nat} {ad : Addr} {bs : List Nat} (h : BS w B (.slice (some ad) n c) bs) (k : Nat) (hk : k ≤ bs.length) : BS w B (.slice (some ad) k c) (bs.take k) := by
  obtain ⟨A, c', e, h1, h2, h3⟩ := h
  cases e
  refine ⟨some ad, c, by rw [List.length_take, Nat.min_eq_left hk], by rw [List.length_take, Nat.min_eq_left hk]; omega, h2, fun i hi => ?_⟩
  rw [List.length_take, Nat.min_eq_left hk] at hi
  obtain ⟨ad', e, q1, q2, q3⟩ := h3 i (by omega)
  have et : (bs.take k).getD i 0 = bs.getD i 0 := by rw [List.getD_eq_getElem?_getD, List.getElem?_take_of_lt hi, List.getD_eq_getElem?_getD]
  refine ⟨ad', e, q1, ?_, ?_⟩
  · show (bs.take k).getD i 0 < 256
    rw [et]; exact q2
  · rw [q3]
    show some (Value.int IntKind.u8 ((bs.getD i 0 : Nat) : Int)) = some (Value.int IntKind.u8 (((bs.take k).getD i 0 : Nat) : Int))
    rw [et]
theorem chooserOf_any (w : World) (h : Nat) (hh : h < 256) : Calls Try.prog 49 #[.int .i64 (h : Int)] w fun e w' => ∃ r, e = .returned (.slice (some ⟨r, 0, none⟩) 64 64) ∧ RowAt w' r 64 (h :: List.replicate 63 0) ∧ w.heap.size ≤ r ∧ Below w.heap.size w w' := by
  have hmk := make_run 64 64 64 64 rfl rfl (Nat.le_refl _) (by omega) w
  have h0 := zrow_at w 64 (by omega)
  obtain ⟨W0, hW0⟩ : ∃ W0, W0 = w.alloc (.cells (zrow 64) 5) := ⟨_, rfl⟩
  have b0 : Below w.heap.size w W0 := by rw [hW0]; exact (Below.refl _ _).alloc (Nat.le_refl _) _
  rw [← hW0] at h0 hmk
  obtain ⟨g, hg⟩ : ∃ g, g = w.heap.size := ⟨_, rfl⟩
  have hgl : w.heap.size ≤ g := by omega
  rw [← hg] at h0 hmk
  have q1 := h0.cell 0 (by simp)
  have q2 := h0.f 0
  have h1 := Lib.hid (h0.set 0 h (by simp) hh)
  have e0 : (List.replicate 64 0).set 0 h = h :: List.replicate 63 0 := rfl
  rw [e0] at h1
  have hw : IntKind.u8.wrap (h : Int) = (h : Int) := by rw [IntKind.wrap_u8]; omega
  replace hg := Lib.hid hg
  replace hW0 := Lib.hid hW0
  replace b0 := Lib.hid b0
  clear h0
  go_enter Try.func49, Try.ntmps49
  go_wp2_with fail
  go_ret
  exact ⟨g, rfl, h1.out, hgl, b0.out.setCell (p := ⟨g, 0, none⟩) hgl _⟩
end Go.Proofs.Ytncafkifebannaa
