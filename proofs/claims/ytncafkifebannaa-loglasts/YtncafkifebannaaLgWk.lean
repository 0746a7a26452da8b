/-
  The statements' record that wakes; no condition.
-/
import Derived.Test.YtncafkifebannaaLgZ
namespace Go.Proofs.Ytncafkifebannaa
open Go.RowKit
set_option maxRecDepth 100000 in
set_option maxHeartbeats 4000000 in
theorem wakes12_any (w : World) : Calls Try.prog 25 #[] w fun e w' => e = .returned (.bool true) ∧ Below w.heap.size w w' := by
  have hdk := Lib.hid (Disk_of w 64 (.slice none 0 0) [] (by omega) (nil_NS _ _) (by simp))
  have hcn : M.cnt 64 * 64 = 1984 := by decide
  have hgood : M.Good (List.replicate (64 * 64) 0) 64 0 [] 0 := (M.Holds.start 64 (by omega)).good (fun r hr => by simp at hr)
  replace hgood := Lib.hid hgood
  have hcv : ∀ W : World, (convert 37 37 (.slice (some ⟨W.heap.size, 0, none⟩) 1 1)).run Try.prog (W.alloc (.cells #[.int .u8 120] 5)) = .ok (.slice (some ⟨W.heap.size, 0, none⟩) 1 1) (W.alloc (.cells #[.int .u8 120] 5 (1, 2))) := fun W => (const_bs W #[.int .u8 120] [120] 1 2 ⟨rfl, rfl⟩ rfl (by decide) (by decide)).1
  have hcb := Lib.hid (fun W : World => (const_bs W #[.int .u8 120] [120] 1 2 ⟨rfl, rfl⟩ rfl (by decide) (by decide)).2)
  go_enter Try.func25, Try.ntmps25
  go_wp2_with fail
  refine hdk.out.mono ?_
  rintro e1 w1 ⟨g, r, q, cS, cE, rfl, d1, b1⟩
  have hop := Lib.hid (open_on w1 d1 b1.size hgood.out (by rw [hcn]; omega) (by rw [hcn, M.least_none]; omega))
  have hD := Lib.hid d1.ft
  clear hdk d1
  replace b1 := Lib.hid b1
  go_wp2_with fail
  refine hop.out.mono ?_
  rintro e2 w2 ⟨j', G, b0, v, us, Z, k', E2, rfl, _, hj, hk1, hk2, hL, hH, hR, hZb, hb0, hZ, x2⟩
  rw [hcn] at hk2
  simp only [List.length_nil, Nat.le_zero] at hj
  subst hj
  rw [List.take_nil] at hL hH hR
  obtain ⟨A1, c1, rfl, _⟩ := own_form hR.own
  have hZw : ∀ b, Z b → w.heap.size ≤ b := fun b hb => by
    have := b1.out.size
    rcases hZ b hb with h | h
    · exact hD.out b h
    · omega
  have b2 : Below w.heap.size w w2 := b1.out.trans (x2.below hD.out b1.out.size)
  have s2 := b2.size
  obtain ⟨W3, hW3⟩ : ∃ W3, W3 = w2.alloc (.cells #[.int .u8 120] 5 (1, 2)) := ⟨_, rfl⟩
  have b3 : Below w2.heap.size w2 W3 := by rw [hW3]; exact (Below.refl _ _).alloc (Nat.le_refl _) _
  have hap := append_ok W3 (.slice (some ⟨w2.heap.size, 0, none⟩) 1 1) [120] (hL.later b3) hH (by
    have := hcb.out w2
    rw [← show W3 = w2.alloc (.cells #[.int .u8 120] 5 (1, 2)) from hW3] at this
    exact this.to (fun _ _ => rfl) (fun b hb => by
      subst hb
      exact ⟨by rw [hW3]; simp, fun e => by have := hL.zl _ e; omega⟩)) (by decide) (by decide) (by rw [hcn]; omega) (by rw [hcn, M.least_none]; omega) (by decide)
  rw [hW3] at hap
  have b23 : Below w.heap.size w (w2.alloc (.cells #[.int .u8 120] 5 (1, 2))) := by rw [← hW3]; exact b2.trans (b3.mono s2)
  replace hap := Lib.hid hap
  replace hZw := Lib.hid hZw
  clear hop hL hH hR hZ hW3 b3 b2 x2
  go_wp2_with (first
    | (go_at_call 10; refine (num12_any _ _).mono ?_; rintro e wn ⟨rfl, rfl⟩)
    | (go_at_call 21; refine hap.out.mono ?_; rintro e4 w4 ⟨rfl, h4, x4⟩; replace h4 := Lib.hid h4; replace x4 := Lib.hid x4))
  obtain ⟨k4, E4, h41, h42, hL4, hH4⟩ := h4.out
  rw [hcn] at h42
  have b4 : Below w.heap.size w w4 := b23.trans (x4.out.below hZw.out b23.size)
  have s4 := b4.size
  have hZ4 : ∀ b, Grow Z (w2.alloc (.cells #[.int .u8 120] 5 (1, 2))) w4 b → w.heap.size ≤ b := fun b hb => by
    rcases hb with hb | hb
    · exact hZw.out b hb
    · have := b23.size; omega
  have hrc := Lib.hid (records_on w4 hL4 hH4.fit)
  have hL4' := Lib.hid hL4
  replace hZ4 := Lib.hid hZ4
  replace b4 := Lib.hid b4
  clear hL4 hH4 h4
  refine hrc.out.mono ?_
  rintro e5 w5 ⟨v5, us5, rfl, r5, b5⟩
  obtain ⟨A5, c5, rfl, _⟩ := own_form r5.own
  obtain ⟨W6, hW6⟩ : ∃ W6, W6 = w5.alloc (.cells #[.int .u8 120] 5 (1, 2)) := ⟨_, rfl⟩
  obtain ⟨W7, hW7⟩ : ∃ W7, W7 = W6.alloc (.cells #[.slice (some ⟨w5.heap.size, 0, none⟩) 1 1] 37) := ⟨_, rfl⟩
  have s67 : W6.heap.size = w5.heap.size + 1 := by rw [hW6]; simp
  have s77 : W7.heap.size = w5.heap.size + 2 := by rw [hW7]; simp [s67]
  have b56 : Below w5.heap.size w5 W6 := by rw [hW6]; exact (Below.refl _ _).alloc (Nat.le_refl _) _
  have b67 : Below W6.heap.size W6 W7 := by rw [hW7]; exact (Below.refl _ _).alloc (Nat.le_refl _) _
  have b57 : Below w5.heap.size w5 W7 := b56.trans (b67.mono b56.size)
  have hbp := hcb.out w5
  rw [← show W6 = w5.alloc (.cells #[.int .u8 120] 5 (1, 2)) from hW6] at hbp
  have hlit : Recs W7 (fun b => b < W7.heap.size) (.slice (some ⟨w5.heap.size + 1, 0, none⟩) 1 1) [[120]] := ⟨_, _, rfl, ⟨by simp, by unfold maxLen; omega⟩, fun i x hx => by
    cases i with
    | zero =>
      cases hx
      refine ⟨_, .slice (some ⟨w5.heap.size, 0, none⟩) 1 1, rfl, by show w5.heap.size + 1 < _; omega, ?_, hbp.to (fun b hb => ?_) (fun b hb => ?_)⟩
      · rw [add_none, ← s67, hW7]
        exact cell_of_row _ W6.heap.size 0 _ _ (0, 0) (heap_alloc_new W6 _)
      · exact b67.block b (by subst hb; omega)
      · subst hb; omega
    | succ i => simp at hx⟩
  have heq := EqCells_any W7 (fun b => w4.heap.size ≤ b ∧ b < w5.heap.size) (fun b => b < W7.heap.size) (.slice A5 1 c5) (.slice (some ⟨w5.heap.size + 1, 0, none⟩) 1 1) [[120]] [[120]] true ((r5.recs (by decide)).to (fun b hb => b57.block b hb.2) (fun _ h => h)) hlit (fun b hb => by omega) (fun _ h => h) (by simp)
  rw [hW7, hW6] at heq
  have b47 : Below w4.heap.size w4 W7 := b5.trans (b57.mono b5.size)
  have s47 := b47.size
  have hsy := Lib.hid (fun W (hW : Below W7.heap.size W7 W) => sync_on W (hL4'.out.later (b47.trans (hW.mono s47))) (by omega) (by rw [M.least_none]; omega))
  have b57' := Lib.hid b57
  have b47' := Lib.hid b47
  rw [hW7, hW6] at hsy b47'
  replace heq := Lib.hid heq
  clear hW6 hW7 s67 s77 b56 b67 b57 b47 hbp hlit r5 b5
  go_wp2_with (first
    | (go_at_call 10; refine (num12_any _ _).mono ?_; rintro e wn ⟨rfl, rfl⟩)
    | (go_at_call 24; refine heq.out.mono ?_; rintro e8 w8 ⟨rfl, b8⟩)
    | (go_at_call 15; refine (hsy.out w8 b8).mono ?_; rintro e9 w9 ⟨rfl, _, x9⟩))
  go_ret
  refine ⟨rfl, ?_⟩
  have b48 := b47'.out.trans (b8.mono b47'.out.size)
  exact (b4.out.trans (b48.mono s4)).trans (x9.below hZ4.out (Nat.le_trans s4 b48.size))
end Go.Proofs.Ytncafkifebannaa
