/-
  The law on reading numbers, walked: for every list of questions it returns true and writes nothing that was there; condition: the list lies in memory as 'Asks' says.
-/
import Derived.Test.YtflchcdafcoenaaOpen
import Derived.Test.YtflchcdafcoenaaRef
namespace Go.Proofs.Ytflchcdafcoenaa
open Go.RowKit
set_option maxRecDepth 100000 in
theorem LebUints_walk (A : Option Addr) (n c : Nat) (w : World) (h : Asks w A n) :
    Calls Try.prog 3 #[.slice A n c] w fun e w' => e = .returned (.bool true) ∧ Below w.heap.size w w' := by
  obtain ⟨hn, h⟩ := h
  unfold maxLen at hn
  have h := Lib.hid h
  go_enter Try.func3, Try.ntmps3
  go_wp2
  go_loopw [3] (fun i w' => ∃ k : Nat, k ≤ n ∧ i = .int .i64 k ∧ Below w.heap.size w w') (fun i _ => n - (intOf i).toNat)
  case atStart => exact ⟨0, by omega, rfl, Below.refl _ _⟩
  case round =>
    obtain ⟨k, hk, rfl, hbw⟩ := hrel
    by_cases hlt : k < n
    · obtain ⟨g, o, B, l, cB, f, b, u, s, rfl, hl, q0, q1, q2, q3, hB, hlm, hb, hu, hs⟩ := h.out k hlt
      have t0 : (0 : Int) ≤ (k : Int) := by omega
      have t1 : (k : Int) < (n : Int) := by omega
      have p0 : wr.cell? ⟨g, o + k * 4, none⟩ = some (.slice B l cB) := by rw [hbw.cell (by exact hl)]; exact q0
      have p1 : wr.cell? ⟨g, o + k * 4 + 1, none⟩ = some (.int .i64 b) := by rw [hbw.cell (by exact hl)]; exact q1
      have p2 : wr.cell? ⟨g, o + k * 4 + 2, none⟩ = some (.int .u64 u) := by rw [hbw.cell (by exact hl)]; exact q2
      have p3 : wr.cell? ⟨g, o + k * 4 + 3, none⟩ = some (.int .i64 s) := by rw [hbw.cell (by exact hl)]; exact q3
      have HB := Lib.hid (hB.later (hbw.alloc hbw.size (.cells #[.slice B l cB, .int .i64 b, .int .u64 u, .int .i64 s] 26)))
      clear q0 q1 q2 q3 hB
      by_cases h30 : k < 30
      · by_cases hin : 1 ≤ b ∧ b ≤ 64
        · obtain ⟨hin1, hin2⟩ := hin
          obtain ⟨m, rfl⟩ := Int.eq_ofNat_of_zero_le (show 0 ≤ b by omega)
          by_cases hok : ∃ j, UOk f l m j
          · obtain ⟨j, hok⟩ := hok
            have hj0 : 0 < j := Nat.pos_of_ne_zero hok.2.1
            have hjl : j ≤ 64 := by rw [← hok.1]; have := M.lenOf_le f (min l ((m + 6) / 7)); omega
            have HO := Lib.hid hok
            clear hok
            go_wp2_with fail
            refine (Uint_yes B l cB f m j _ HB.out hlm (by omega) (by omega) HO.out).mono ?_
            rintro e w1 ⟨rfl, hw1⟩
            have c1 : Below w.heap.size w w1 := (hbw.alloc hbw.size _).trans (hw1.mono (by have := hbw.size; simp; omega))
            have z0 : w1.cell? ⟨wr.heap.size, 0, none⟩ = some (.slice B l cB) := by rw [hw1.cell (p := ⟨wr.heap.size, 0, none⟩) (by simp)]; simp
            have z1 : w1.cell? ⟨wr.heap.size, 1, none⟩ = some (.int .i64 m) := by rw [hw1.cell (p := ⟨wr.heap.size, 1, none⟩) (by simp)]; simp
            have HB1 := Lib.hid (HB.out.later hw1)
            clear hw1
            go_wp2_with fail
            refine (rUint_yes B l cB f m j _ HB1.out hlm (by omega) (by omega) HO.out).mono ?_
            rintro e w2 ⟨rfl, rfl⟩
            have e1 : (((M.low f j : Nat) : Int) != ((M.low f j : Nat) : Int)) = false := by simp
            have e2 : ((j : Int) != (j : Int)) = false := by simp
            have e3 : ((j : Int) == 0) = false := by simp; omega
            go_wp2_with (go_at_call 11; refine (num_any _ _).mono ?_; rintro e w3 ⟨rfl, rfl⟩)
            exact ⟨⟨k + 1, by omega, by go_num, c1⟩, by simp [intOf]; omega⟩
          · have HO := Lib.hid (fun j hh => hok ⟨j, hh⟩ : ∀ j, ¬ UOk f l m j)
            clear hok
            go_wp2_with fail
            refine (Uint_no B l cB f m _ HB.out hlm (by omega) (by omega) HO.out).mono ?_
            rintro e w1 ⟨rfl, hw1⟩
            have c1 : Below w.heap.size w w1 := (hbw.alloc hbw.size _).trans (hw1.mono (by have := hbw.size; simp; omega))
            have z0 : w1.cell? ⟨wr.heap.size, 0, none⟩ = some (.slice B l cB) := by rw [hw1.cell (p := ⟨wr.heap.size, 0, none⟩) (by simp)]; simp
            have z1 : w1.cell? ⟨wr.heap.size, 1, none⟩ = some (.int .i64 m) := by rw [hw1.cell (p := ⟨wr.heap.size, 1, none⟩) (by simp)]; simp
            have HB1 := Lib.hid (HB.out.later hw1)
            clear hw1
            go_wp2_with fail
            refine (rUint_no B l cB f m _ HB1.out hlm (by omega) (by omega) HO.out).mono ?_
            rintro e w2 ⟨rfl, rfl⟩
            go_wp2_with (go_at_call 11; refine (num_any _ _).mono ?_; rintro e w3 ⟨rfl, rfl⟩)
            exact ⟨⟨k + 1, by omega, by go_num, c1⟩, by simp [intOf]; omega⟩
        · go_wp2_with fail
          refine (Uint_bad B l cB b _ (by omega)).mono ?_
          rintro e w1 ⟨rfl, hw1⟩
          have c1 : Below w.heap.size w w1 := (hbw.alloc hbw.size _).trans (hw1.mono (by have := hbw.size; simp; omega))
          have z0 : w1.cell? ⟨wr.heap.size, 0, none⟩ = some (.slice B l cB) := by rw [hw1.cell (p := ⟨wr.heap.size, 0, none⟩) (by simp)]; simp
          have z1 : w1.cell? ⟨wr.heap.size, 1, none⟩ = some (.int .i64 b) := by rw [hw1.cell (p := ⟨wr.heap.size, 1, none⟩) (by simp)]; simp
          clear hw1
          by_cases hlo : 1 ≤ b
          all_goals
            go_wp2_with (go_at_call 11; refine (num_any _ _).mono ?_; rintro e w3 ⟨rfl, rfl⟩)
            exact ⟨⟨k + 1, by omega, by go_num, c1⟩, by simp [intOf]; omega⟩
      · go_wp2_with fail
        refine (wakes_any _).mono ?_
        rintro e w7 ⟨rfl, hb7⟩
        go_wp2
        go_ret
        exact ⟨rfl, hbw.trans (hb7.mono hbw.size)⟩
    · go_wp2_with fail
      refine (wakes_any _).mono ?_
      rintro e w7 ⟨rfl, hb7⟩
      go_wp2
      go_ret
      exact ⟨rfl, hbw.trans (hb7.mono hbw.size)⟩
end Go.Proofs.Ytflchcdafcoenaa
