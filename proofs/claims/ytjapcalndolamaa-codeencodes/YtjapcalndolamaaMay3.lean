/-
  Whether instructions may be, as the page's May tells it; condition: the instructions lie in memory that was there at the call.
-/
import Derived.Test.YtjapcalndolamaaMay
namespace Go.Proofs.Ytjapcalndolamaa
open Go.RowKit
set_option maxRecDepth 100000 in
theorem May_of (N : Nat) : MayOk N := by
  induction N with
  | zero => intro l v d w h; omega
  | succ N ih =>
    intro l v d w hN hl hd
    obtain ⟨A, c, rfl, hc1, hc2, hc3⟩ := hl.form
    unfold maxLen at hc3
    replace hl := Lib.hid hl
    replace ih := Lib.hid ih
    go_enter Try.func18, Try.ntmps18
    go_wp2_with fail
    go_loopw [5] (fun i w' => ∃ k : Nat, k ≤ l.len ∧ i = .int .i64 k ∧ (∀ j h b e, j < k → l.nth j = some (h, b, e) → okI d h b e) ∧ Below w.heap.size w w') (fun i _ => l.len - (intOf i).toNat)
    case atStart => exact ⟨0, by omega, rfl, fun j _ _ _ hj => by omega, Below.refl _ _⟩
    case round =>
      obtain ⟨k, hk, rfl, hall, hbw⟩ := hrel
      replace hall := Lib.hid hall
      by_cases hlt : k < l.len
      · obtain ⟨h, b, e, hn⟩ := M.nth_of hlt
        obtain ⟨g, o, vL, vB, vE, rfl, hg, hi, hR, hL, hB, hE⟩ := (hl.out.later hbw).nth' hn
        have hsz := (M.nth_some hn).2
        obtain ⟨c0, c1, c2, c3, c4, c5, c6, c7, c8⟩ := hi
        replace hn := Lib.hid hn
        replace hR := Lib.hid hR
        replace hL := Lib.hid hL
        replace hB := Lib.hid hB
        replace hE := Lib.hid hE
        replace hbw := Lib.hid hbw
        go_wp2_with fail
        refine (may_any N ih.out h b e vL vB vE d _ (by omega) (by omega) hR.out hL.out hB.out hE.out hd).mono ?_
        rintro e1 w1 ⟨r, rfl, hr, b1⟩
        have d1 := Lib.hid (hbw.out.trans (b1.mono hbw.out.size))
        clear b1
        replace hr := Lib.hid hr
        cases r with
        | false =>
          go_wp2_with fail
          go_ret
          refine .no rfl (fun hp => ?_) d1.out
          have h9 := hr.out.2 (ok_of_nth hp k h b e hn.out)
          cases h9
        | true =>
          go_wp2_with fail
          refine ⟨⟨k + 1, by omega, by go_num, fun j h' b' e' hj hn' => ?_, d1.out⟩, by simp [intOf]; omega⟩
          by_cases ej : j = k
          · subst ej
            rw [hn.out] at hn'
            simp only [Option.some.injEq, Prod.mk.injEq] at hn'
            obtain ⟨rfl, rfl, rfl⟩ := hn'
            exact hr.out.1 (by simp)
          · exact hall.out j h' b' e' (by omega) hn'
      · go_wp2_with fail
        go_ret
        exact .yes rfl (ok_nth fun j h b e hn => hall.out j h b e (by have := (M.nth_some hn).1; omega) hn) hbw
theorem May_yes (l : M.L) (v : Value) (w : World) (hl : LB w v l) (h : M.ok 40 l) : Calls Try.prog 18 #[v, .int .i64 40] w fun e w' => e = .returned (.bool true) ∧ Below w.heap.size w w' :=
  (May_of (l.sz + 1) l v 40 w (Nat.lt_succ_self _) hl (by omega)).mono fun _ _ ⟨r, a, b, c⟩ => ⟨by rw [a, b.2 h], c⟩
theorem May_no (l : M.L) (v : Value) (w : World) (hl : LB w v l) (h : ¬ M.ok 40 l) : Calls Try.prog 18 #[v, .int .i64 40] w fun e w' => e = .returned (.bool false) ∧ Below w.heap.size w w' :=
  (May_of (l.sz + 1) l v 40 w (Nat.lt_succ_self _) hl (by omega)).mono fun _ _ ⟨r, a, b, c⟩ => ⟨by rw [a]; cases r with | false => rfl | true => exact absurd (b.1 rfl) h, c⟩
end Go.Proofs.Ytjapcalndolamaa
