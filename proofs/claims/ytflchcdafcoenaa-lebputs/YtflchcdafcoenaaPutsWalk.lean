/-
  The law on the Put functions, walked: for every list of questions it returns true and writes nothing that was there; condition: the list lies in memory as 'Asks' says.
-/
import Derived.Test.YtflchcdafcoenaaOpen
namespace Go.Proofs.Ytflchcdafcoenaa
open Go.RowKit
theorem LebPuts_walk (A : Option Addr) (n c : Nat) (w : World) (h : Asks w A n) :
    Calls Try.prog 5 #[.slice A n c] w fun e w' => e = .returned (.bool true) ∧ Below w.heap.size w w' := by
  obtain ⟨hn, h⟩ := h
  unfold maxLen at hn
  have h := Lib.hid h
  go_enter Try.func5, Try.ntmps5
  go_wp2
  go_loopw [3] (fun i w' => ∃ k : Nat, k ≤ n ∧ i = .int .i64 k ∧ Below w.heap.size w w') (fun i _ => n - (intOf i).toNat)
  case atStart => exact ⟨0, by omega, rfl, Below.refl _ _⟩
  case round =>
    obtain ⟨k, hk, rfl, hbw⟩ := hrel
    by_cases hlt : k < n
    · obtain ⟨g, o, B, l, cB, f, b, u, s, rfl, hl, q0, q1, q2, q3, hB, hlm, hb, hu, hs⟩ := h.out k hlt
      have t0 : (0 : Int) ≤ (k : Int) := by omega
      have t1 : (k : Int) < (n : Int) := by omega
      by_cases h30 : k < 30
      · have hlU := M.putU_length 10 u
        have hlS := M.putS_length 10 s
        go_wp2_with fail
        go_region_held3 (fun w' => w'.cell? ⟨g, o + k * 4 + 2, none⟩ = some (.int .u64 u) ∧ w'.cell? ⟨g, o + k * 4 + 3, none⟩ = some (.int .i64 s) ∧ Below w.heap.size w w')
          (first | exact keep2 hl q2 q3 hbw.drew | exact keep2 hl q2 q3 c1 | exact keep2 hl q2 q3 c2 | exact keep2 hl q2 q3 c3 | exact keep2 hl q2 q3 c4 | exact keep2 hl q2 q3 c5 | exact keep2 hl q2 q3 c6)
          (first
            | (go_at_call 16; refine (PutUint_any u _ hu).mono ?_; rintro e w1 ⟨v1, rfl, hown1, hb1⟩; have c1 : Below w.heap.size w w1 := hbw.drew.trans (hb1.mono hbw.size))
            | (go_at_call 17; refine (rPutUint_any u _ hu).mono ?_; rintro e w2 ⟨v2, rfl, hown2, hb2⟩; have c2 : Below w.heap.size w w2 := c1.trans (hb2.mono c1.size))
            | (go_at_call 15; (with_reducible refine (EqBytes_owned (own_later hown1 hb2) hown2 (M.putU_lt 10 u) (by unfold maxLen; omega)).mono ?_); rintro e w3 ⟨rfl, hb3⟩; have c3 : Below w.heap.size w w3 := c2.trans (hb3.mono c2.size))
            | (go_at_call 18; refine (PutSint_any s _ hs).mono ?_; rintro e w4 ⟨v4, rfl, hown4, hb4⟩; have c4 : Below w.heap.size w w4 := c3.trans (hb4.mono c3.size))
            | (go_at_call 19; refine (rPutSint_any s _ hs).mono ?_; rintro e w5 ⟨v5, rfl, hown5, hb5⟩; have c5 : Below w.heap.size w w5 := c4.trans (hb5.mono c4.size))
            | (go_at_call 15; (with_reducible refine (EqBytes_owned (own_later hown4 hb5) hown5 (M.putS_lt 10 s) (by unfold maxLen; omega)).mono ?_); rintro e w6 ⟨rfl, hb6⟩; have c6 : Below w.heap.size w w6 := c5.trans (hb6.mono c5.size)))
        go_wp2
        exact ⟨⟨k + 1, by omega, by go_num, c6⟩, by simp [intOf]; omega⟩
      · go_wp2_with fail
        refine (wakes_any _).mono ?_
        rintro e w7 ⟨rfl, hb7⟩
        go_wp2
        go_ret
        exact ⟨rfl, hbw.trans (hb7.mono hbw.size)⟩
    · go_wp2_with fail
      refine (wakes_any _).mono ?_
      rintro e w7 ⟨rfl, hb7⟩
      go_wp2
      go_ret
      exact ⟨rfl, hbw.trans (hb7.mono hbw.size)⟩
end Go.Proofs.Ytflchcdafcoenaa
