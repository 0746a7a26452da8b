/-
  The ground of the proofs of this seat, put together: LebS, Place, CatB, UBase, UTake, UWalk, UWalkC, UUse. No condition beyond what each text names.
-/
import Derived.Laws.EntriesVeiled
import Derived.WalkKit
import Derived.Deep.RegionHeld3
import Derived.Deep.QuietTactic
import Derived.BigQuiet
import Derived.Outline
import Derived.WalkSmall
import Derived.Lib.Hide
import Derived.Lib.BitFns
import Derived.Deep.Onto
import Derived.Test.YtilaheifccjjeaaGreatXGB
import Derived.Test.YtilaheifccjjeaaGreatXGA
namespace Go.Proofs.YtilaheifccjjeaaGreat
open Go.RowKit
theorem signed_yes_lo (A : Option Addr) (len cap : Nat) (f : Nat → Nat) (b n : Nat) (w : World) (hc : Bytes w w.heap.size A len f)
    (h1 : 1 ≤ n) (h2 : n ≤ 10) (h3 : n ≤ len) (hl : f (n - 1) < 128) (hb1 : (n - 1) * 7 < b) (hb2 : b ≤ 64) (hok : -2 ^ (b - 1) ≤ M.sval f n ∧ M.sval f n < 2 ^ (b - 1)) (hs : f (n - 1) < 64) :
    Calls Tryz.prog 269 #[.agg #[.slice A len cap, .int .i64 b], .int .i64 n] w fun e w' => e = .returned (.tuple #[.int .i64 (M.sval f n), .bool true]) ∧ Below w.heap.size w w' := by
  obtain ⟨ad, rfl, hb, hfk, hck⟩ := hc (n - 1) (by omega)
  have hck : ∀ o, (w.alloc o).cell? (ad.add (n - 1)) = some (.int .u8 (f (n - 1) : Int)) := fun o => by
    rw [World.cell?_alloc_lt w o _ (by rw [addr_block]; exact hb)]; exact hck
  have ha := M.and64_lo (f (n - 1)) hs
  have hD : M.dig f n = (f (n - 1) : Int) := by unfold M.dig; rw [if_pos hs]
  have hq : ((f (n - 1) : Int) / 2 ^ (b - (n - 1) * 7 - 1) != 0) = false := by
    have := (M.fits_s f n b hb1).1 hok; rw [hD] at this
    rw [M.ediv_zero _ _ (by omega) this.2]; rfl
  have HJ := Lib.hid (M.s_join f n b h2 (by omega) hb2 hok)
  rw [hD, ← show (((n : Int) - 1) * 7).toNat = (n - 1) * 7 by omega] at HJ
  have hc := Lib.hid hc
  clear hok hD
  go_enter Tryz.func269, Tryz.ntmps269
  go_wp2_with fail
  refine (room_any _ _ _ _ (by omega) (by omega) (by omega) (by omega)).mono ?_
  rintro e w1 ⟨rfl, hw1⟩
  have q0 : w1.cell? ⟨w.heap.size, 0, none⟩ = some (.slice (some ad) len cap) := by rw [hw1.cell (p := ⟨w.heap.size, 0, none⟩) (by simp)]; simp
  have q1 : w1.cell? ⟨w.heap.size, 1, none⟩ = some (.int .i64 b) := by rw [hw1.cell (p := ⟨w.heap.size, 1, none⟩) (by simp)]; simp
  have hz : w.heap.size < w1.heap.size := by have := hw1.size; simp at this; omega
  have hbw : Below w.heap.size w w1 := ((Below.refl _ _).alloc (Nat.le_refl _) _).trans (hw1.mono (by simp))
  clear hck hw1
  go_wp2_with fail
  go_region_held3 (fun w' => w'.cell? ⟨w.heap.size, 0, none⟩ = some (.slice (some ad) len cap) ∧ w'.cell? ⟨w.heap.size, 1, none⟩ = some (.int .i64 b) ∧ Below w.heap.size w w' ∧ w.heap.size < w'.heap.size)
    (first | exact ⟨q0, q1, hbw.drew, hz⟩ | assumption | (go_split_ands; refine ⟨?_, ?_, ?_, ?_⟩; (rw [hw2.cell (p := ⟨w.heap.size, 0, none⟩) (by assumption)]; assumption); (rw [hw2.cell (p := ⟨w.heap.size, 1, none⟩) (by assumption)]; assumption); exact Below.trans (by assumption) (hw2.mono (by omega)); (have := hw2.size; omega)))
    (first
      | (go_at_call 232; refine (start_any _ _ (by omega) (by omega)).mono ?_; rintro e w2 ⟨rfl, rfl⟩)
      | (go_at_call 233; refine (below_any _ _ _ f _ _ _ ?_ (by omega) (by omega) (by omega)).mono ?_; (exact hc.out.later hbw.drew); rintro e w2 ⟨rfl, hw2⟩))
  go_wp2
  go_ret2
  refine ⟨?_, hbw.drew.trans (hw2.mono (Nat.le_of_lt hz))⟩
  have h := HJ.out
  exact congrArg (fun x => Ending.returned (.tuple #[.int .i64 x, .bool true])) h
theorem signed_yes_hi (A : Option Addr) (len cap : Nat) (f : Nat → Nat) (b n : Nat) (w : World) (hc : Bytes w w.heap.size A len f)
    (h1 : 1 ≤ n) (h2 : n ≤ 10) (h3 : n ≤ len) (hl : f (n - 1) < 128) (hb1 : (n - 1) * 7 < b) (hb2 : b ≤ 64) (hok : -2 ^ (b - 1) ≤ M.sval f n ∧ M.sval f n < 2 ^ (b - 1)) (hs : ¬ f (n - 1) < 64) :
    Calls Tryz.prog 269 #[.agg #[.slice A len cap, .int .i64 b], .int .i64 n] w fun e w' => e = .returned (.tuple #[.int .i64 (M.sval f n), .bool true]) ∧ Below w.heap.size w w' := by
  obtain ⟨ad, rfl, hb, hfk, hck⟩ := hc (n - 1) (by omega)
  have hck : ∀ o, (w.alloc o).cell? (ad.add (n - 1)) = some (.int .u8 (f (n - 1) : Int)) := fun o => by
    rw [World.cell?_alloc_lt w o _ (by rw [addr_block]; exact hb)]; exact hck
  have ha := M.and64_hi (f (n - 1)) hl hs
  have hD : M.dig f n = (f (n - 1) : Int) - 128 := by unfold M.dig; rw [if_neg hs]
  have hq1 : (((f (n - 1) : Int) - 128) / 2 ^ (b - (n - 1) * 7 - 1) != 0) = true := by
    have := (M.fits_s f n b hb1).1 hok; rw [hD] at this
    rw [M.ediv_neg_one _ _ (by omega) this.1]; rfl
  have hq2 : (((f (n - 1) : Int) - 128) / 2 ^ (b - (n - 1) * 7 - 1) != -1) = false := by
    have := (M.fits_s f n b hb1).1 hok; rw [hD] at this
    rw [M.ediv_neg_one _ _ (by omega) this.1]; rfl
  have HJ := Lib.hid (M.s_join f n b h2 (by omega) hb2 hok)
  rw [hD, ← show (((n : Int) - 1) * 7).toNat = (n - 1) * 7 by omega] at HJ
  have hc := Lib.hid hc
  clear hok hD
  go_enter Tryz.func269, Tryz.ntmps269
  go_wp2_with fail
  refine (room_any _ _ _ _ (by omega) (by omega) (by omega) (by omega)).mono ?_
  rintro e w1 ⟨rfl, hw1⟩
  have q0 : w1.cell? ⟨w.heap.size, 0, none⟩ = some (.slice (some ad) len cap) := by rw [hw1.cell (p := ⟨w.heap.size, 0, none⟩) (by simp)]; simp
  have q1 : w1.cell? ⟨w.heap.size, 1, none⟩ = some (.int .i64 b) := by rw [hw1.cell (p := ⟨w.heap.size, 1, none⟩) (by simp)]; simp
  have hz : w.heap.size < w1.heap.size := by have := hw1.size; simp at this; omega
  have hbw : Below w.heap.size w w1 := ((Below.refl _ _).alloc (Nat.le_refl _) _).trans (hw1.mono (by simp))
  clear hck hw1
  go_wp2_with fail
  go_region_held3 (fun w' => w'.cell? ⟨w.heap.size, 0, none⟩ = some (.slice (some ad) len cap) ∧ w'.cell? ⟨w.heap.size, 1, none⟩ = some (.int .i64 b) ∧ Below w.heap.size w w' ∧ w.heap.size < w'.heap.size)
    (first | exact ⟨q0, q1, hbw.drew, hz⟩ | assumption | (go_split_ands; refine ⟨?_, ?_, ?_, ?_⟩; (rw [hw2.cell (p := ⟨w.heap.size, 0, none⟩) (by assumption)]; assumption); (rw [hw2.cell (p := ⟨w.heap.size, 1, none⟩) (by assumption)]; assumption); exact Below.trans (by assumption) (hw2.mono (by omega)); (have := hw2.size; omega)))
    (first
      | (go_at_call 232; refine (start_any _ _ (by omega) (by omega)).mono ?_; rintro e w2 ⟨rfl, rfl⟩)
      | (go_at_call 233; refine (below_any _ _ _ f _ _ _ ?_ (by omega) (by omega) (by omega)).mono ?_; (exact hc.out.later hbw.drew); rintro e w2 ⟨rfl, hw2⟩))
  go_wp2
  go_ret2
  refine ⟨?_, hbw.drew.trans (hw2.mono (Nat.le_of_lt hz))⟩
  have h := HJ.out
  exact congrArg (fun x => Ending.returned (.tuple #[.int .i64 x, .bool true])) h
theorem signed_no_lo (A : Option Addr) (len cap : Nat) (f : Nat → Nat) (b n : Nat) (w : World) (hc : Bytes w w.heap.size A len f)
    (h1 : 1 ≤ n) (h2 : n ≤ 10) (h3 : n ≤ len) (hl : f (n - 1) < 128) (hb1 : (n - 1) * 7 < b) (hb2 : b ≤ 64) (hok : ¬ (-2 ^ (b - 1) ≤ M.sval f n ∧ M.sval f n < 2 ^ (b - 1))) (hs : f (n - 1) < 64) :
    Calls Tryz.prog 269 #[.agg #[.slice A len cap, .int .i64 b], .int .i64 n] w fun e w' => e = .returned (.tuple #[.int .i64 0, .bool false]) ∧ Below w.heap.size w w' := by
  obtain ⟨ad, rfl, hb, hfk, hck⟩ := hc (n - 1) (by omega)
  have hck : ∀ o, (w.alloc o).cell? (ad.add (n - 1)) = some (.int .u8 (f (n - 1) : Int)) := fun o => by
    rw [World.cell?_alloc_lt w o _ (by rw [addr_block]; exact hb)]; exact hck
  have ha := M.and64_lo (f (n - 1)) hs
  have hD : M.dig f n = (f (n - 1) : Int) := by unfold M.dig; rw [if_pos hs]
  have hp := M.pow_pos_int (b - (n - 1) * 7 - 1)
  have hge : 2 ^ (b - (n - 1) * 7 - 1) ≤ (f (n - 1) : Int) := by
    rw [M.fits_s f n b hb1, hD] at hok
    omega
  have hdv : 1 ≤ (f (n - 1) : Int) / 2 ^ (b - (n - 1) * 7 - 1) := Int.le_ediv_of_mul_le hp (by omega)
  have hq1 : ((f (n - 1) : Int) / 2 ^ (b - (n - 1) * 7 - 1) != 0) = true := by rw [bne_iff_ne]; omega
  have hq2 : ((f (n - 1) : Int) / 2 ^ (b - (n - 1) * 7 - 1) != -1) = true := by rw [bne_iff_ne]; omega
  clear hok hD hc hp hge hdv
  go_enter Tryz.func269, Tryz.ntmps269
  go_wp2_with fail
  refine (room_any _ _ _ _ (by omega) (by omega) (by omega) (by omega)).mono ?_
  rintro e w1 ⟨rfl, hw1⟩
  have hbw : Below w.heap.size w w1 := ((Below.refl _ _).alloc (Nat.le_refl _) _).trans (hw1.mono (by simp))
  clear hck hw1
  go_wp2
  go_ret2
  exact ⟨rfl, hbw⟩
theorem signed_no_hi (A : Option Addr) (len cap : Nat) (f : Nat → Nat) (b n : Nat) (w : World) (hc : Bytes w w.heap.size A len f)
    (h1 : 1 ≤ n) (h2 : n ≤ 10) (h3 : n ≤ len) (hl : f (n - 1) < 128) (hb1 : (n - 1) * 7 < b) (hb2 : b ≤ 64) (hok : ¬ (-2 ^ (b - 1) ≤ M.sval f n ∧ M.sval f n < 2 ^ (b - 1))) (hs : ¬ f (n - 1) < 64) :
    Calls Tryz.prog 269 #[.agg #[.slice A len cap, .int .i64 b], .int .i64 n] w fun e w' => e = .returned (.tuple #[.int .i64 0, .bool false]) ∧ Below w.heap.size w w' := by
  obtain ⟨ad, rfl, hb, hfk, hck⟩ := hc (n - 1) (by omega)
  have hck : ∀ o, (w.alloc o).cell? (ad.add (n - 1)) = some (.int .u8 (f (n - 1) : Int)) := fun o => by
    rw [World.cell?_alloc_lt w o _ (by rw [addr_block]; exact hb)]; exact hck
  have ha := M.and64_hi (f (n - 1)) hl hs
  have hD : M.dig f n = (f (n - 1) : Int) - 128 := by unfold M.dig; rw [if_neg hs]
  have hp := M.pow_pos_int (b - (n - 1) * 7 - 1)
  have hge : (f (n - 1) : Int) - 128 < -2 ^ (b - (n - 1) * 7 - 1) := by
    rw [M.fits_s f n b hb1, hD] at hok
    omega
  have hdv : ((f (n - 1) : Int) - 128) / 2 ^ (b - (n - 1) * 7 - 1) < -1 := Int.ediv_lt_of_lt_mul hp (by omega)
  have hq1 : (((f (n - 1) : Int) - 128) / 2 ^ (b - (n - 1) * 7 - 1) != 0) = true := by rw [bne_iff_ne]; omega
  have hq2 : (((f (n - 1) : Int) - 128) / 2 ^ (b - (n - 1) * 7 - 1) != -1) = true := by rw [bne_iff_ne]; omega
  clear hok hD hc hp hge hdv
  go_enter Tryz.func269, Tryz.ntmps269
  go_wp2_with fail
  refine (room_any _ _ _ _ (by omega) (by omega) (by omega) (by omega)).mono ?_
  rintro e w1 ⟨rfl, hw1⟩
  have hbw : Below w.heap.size w w1 := ((Below.refl _ _).alloc (Nat.le_refl _) _).trans (hw1.mono (by simp))
  clear hck hw1
  go_wp2
  go_ret2
  exact ⟨rfl, hbw⟩
theorem signed_any (A : Option Addr) (len cap : Nat) (f : Nat → Nat) (b n : Nat) (w : World) (hc : Bytes w w.heap.size A len f)
    (h1 : 1 ≤ n) (h2 : n ≤ 10) (h3 : n ≤ len) (hl : f (n - 1) < 128) (hb1 : (n - 1) * 7 < b) (hb2 : b ≤ 64) (hok : -2 ^ (b - 1) ≤ M.sval f n ∧ M.sval f n < 2 ^ (b - 1)) :
    Calls Tryz.prog 269 #[.agg #[.slice A len cap, .int .i64 b], .int .i64 n] w fun e w' => e = .returned (.tuple #[.int .i64 (M.sval f n), .bool true]) ∧ Below w.heap.size w w' := by
  by_cases hs : f (n - 1) < 64
  · exact signed_yes_lo A len cap f b n w hc h1 h2 h3 hl hb1 hb2 hok hs
  · exact signed_yes_hi A len cap f b n w hc h1 h2 h3 hl hb1 hb2 hok hs
theorem signed_no (A : Option Addr) (len cap : Nat) (f : Nat → Nat) (b n : Nat) (w : World) (hc : Bytes w w.heap.size A len f)
    (h1 : 1 ≤ n) (h2 : n ≤ 10) (h3 : n ≤ len) (hl : f (n - 1) < 128) (hb1 : (n - 1) * 7 < b) (hb2 : b ≤ 64) (hok : ¬ (-2 ^ (b - 1) ≤ M.sval f n ∧ M.sval f n < 2 ^ (b - 1))) :
    Calls Tryz.prog 269 #[.agg #[.slice A len cap, .int .i64 b], .int .i64 n] w fun e w' => e = .returned (.tuple #[.int .i64 0, .bool false]) ∧ Below w.heap.size w w' := by
  by_cases hs : f (n - 1) < 64
  · exact signed_no_lo A len cap f b n w hc h1 h2 h3 hl hb1 hb2 hok hs
  · exact signed_no_hi A len cap f b n w hc h1 h2 h3 hl hb1 hb2 hok hs
/-- The bytes are those of a signed number of b bits, n bytes long. -/
def SOk (f : Nat → Nat) (len b n : Nat) : Prop := M.lenOf f (min len ((b + 6) / 7)) = n ∧ n ≠ 0 ∧ (-2 ^ (b - 1) ≤ M.sval f n ∧ M.sval f n < 2 ^ (b - 1))
theorem read_s_yes (A : Option Addr) (len cap : Nat) (f : Nat → Nat) (b n : Nat) (w : World) (hc : Bytes w w.heap.size A len f) (hl : len ≤ maxLen) (hb1 : 1 ≤ b) (hb2 : b ≤ 64) (h : SOk f len b n) :
    Calls Tryz.prog 268 #[.agg #[.slice A len cap, .int .i64 b], .func (.func 269) #[.agg #[.slice A len cap, .int .i64 b]] #[]] w
      fun e w' => e = .returned (.tuple #[.int .i64 (M.sval f n), .int .i64 n, .int .i64 0]) ∧ Below w.heap.size w w' := by
  obtain ⟨rfl, hn, hlt⟩ := h
  obtain ⟨g1, g2, g3, _⟩ := M.lenOf_spec f _ hn
  have hne : (((M.lenOf f (min len ((b + 6) / 7)) : Nat) : Int) == 0) = false := by simpa using hn
  generalize hG : M.lenOf f (min len ((b + 6) / 7)) = n at *
  have HG := Lib.hid hG
  have HC := Lib.hid hc
  have HL := Lib.hid hlt
  clear hG hc hlt
  go_enter Tryz.func268, Tryz.ntmps268
  go_wp2_with fail
  refine (length_any A len cap f b _ (HC.out.later ((Below.refl _ _).alloc (Nat.le_refl _) _)) hl (by omega) (by omega)).mono ?_
  rintro e w1 ⟨rfl, hw1⟩
  rw [Int.toNat_natCast, HG.out]
  have hbw : Below w.heap.size w w1 := ((Below.refl _ _).alloc (Nat.le_refl _) _).trans (hw1.mono (by simp))
  clear hw1
  go_wp2_with fail
  refine (signed_any A len cap f b n _ (HC.out.later hbw) (by omega) (by omega) (by omega) g3 (by omega) hb2 HL.out).mono ?_
  rintro e w2 ⟨rfl, hw2⟩
  go_wp2
  go_ret3
  exact ⟨rfl, hbw.trans (hw2.mono hbw.size)⟩
theorem read_s_no (A : Option Addr) (len cap : Nat) (f : Nat → Nat) (b : Nat) (w : World) (hc : Bytes w w.heap.size A len f) (hl : len ≤ maxLen) (hb1 : 1 ≤ b) (hb2 : b ≤ 64) (h : ∀ n, ¬ SOk f len b n) :
    Calls Tryz.prog 268 #[.agg #[.slice A len cap, .int .i64 b], .func (.func 269) #[.agg #[.slice A len cap, .int .i64 b]] #[]] w
      fun e w' => e = .returned (.tuple #[.int .i64 0, .int .i64 0, .int .i64 100]) ∧ Below w.heap.size w w' := by
  by_cases hn : M.lenOf f (min len ((b + 6) / 7)) = 0
  · have HG := Lib.hid hn
    have HC := Lib.hid hc
    clear hn hc h
    go_enter Tryz.func268, Tryz.ntmps268
    go_wp2_with fail
    refine (length_any A len cap f b _ (HC.out.later ((Below.refl _ _).alloc (Nat.le_refl _) _)) hl (by omega) (by omega)).mono ?_
    rintro e w1 ⟨rfl, hw1⟩
    rw [Int.toNat_natCast, HG.out]
    have hbw : Below w.heap.size w w1 := ((Below.refl _ _).alloc (Nat.le_refl _) _).trans (hw1.mono (by simp))
    clear hw1
    go_wp2
    go_ret3
    exact ⟨rfl, hbw⟩
  · obtain ⟨g1, g2, g3, _⟩ := M.lenOf_spec f _ hn
    have hne : (((M.lenOf f (min len ((b + 6) / 7)) : Nat) : Int) == 0) = false := by simpa using hn
    have hlt : ¬ (-2 ^ (b - 1) ≤ M.sval f (M.lenOf f (min len ((b + 6) / 7))) ∧ M.sval f (M.lenOf f (min len ((b + 6) / 7))) < 2 ^ (b - 1)) := fun hh => h _ ⟨rfl, hn, hh⟩
    clear h
    generalize hG : M.lenOf f (min len ((b + 6) / 7)) = n at *
    have HG := Lib.hid hG
    have HC := Lib.hid hc
    have HL := Lib.hid hlt
    clear hG hc hlt
    go_enter Tryz.func268, Tryz.ntmps268
    go_wp2_with fail
    refine (length_any A len cap f b _ (HC.out.later ((Below.refl _ _).alloc (Nat.le_refl _) _)) hl (by omega) (by omega)).mono ?_
    rintro e w1 ⟨rfl, hw1⟩
    rw [Int.toNat_natCast, HG.out]
    have hbw : Below w.heap.size w w1 := ((Below.refl _ _).alloc (Nat.le_refl _) _).trans (hw1.mono (by simp))
    clear hw1
    go_wp2_with fail
    refine (signed_no A len cap f b n _ (HC.out.later hbw) (by omega) (by omega) (by omega) g3 (by omega) hb2 HL.out).mono ?_
    rintro e w2 ⟨rfl, hw2⟩
    go_wp2
    go_ret3
    exact ⟨rfl, hbw.trans (hw2.mono hbw.size)⟩
theorem Sint_yes (A : Option Addr) (len cap : Nat) (f : Nat → Nat) (b n : Nat) (w : World) (hc : Bytes w w.heap.size A len f) (hl : len ≤ maxLen) (hb1 : 1 ≤ b) (hb2 : b ≤ 64) (h : SOk f len b n) :
    Calls Tryz.prog 266 #[.slice A len cap, .int .i64 b] w fun e w' => e = .returned (.tuple #[.int .i64 (M.sval f n), .int .i64 n, .int .i64 0]) ∧ Below w.heap.size w w' := by
  have h := Lib.hid h
  have hc := Lib.hid hc
  go_enter Tryz.func266, Tryz.ntmps266
  go_wp2_with fail
  refine (read_s_yes A len cap f b n _ (hc.out.later ((Below.refl _ _).alloc (Nat.le_refl _) _)) hl hb1 hb2 h.out).mono ?_
  rintro e w1 ⟨rfl, hw1⟩
  have hbw : Below w.heap.size w w1 := ((Below.refl _ _).alloc (Nat.le_refl _) _).trans (hw1.mono (by simp))
  clear hw1
  go_wp2
  go_ret3
  exact ⟨rfl, hbw⟩
theorem Sint_no (A : Option Addr) (len cap : Nat) (f : Nat → Nat) (b : Nat) (w : World) (hc : Bytes w w.heap.size A len f) (hl : len ≤ maxLen) (hb1 : 1 ≤ b) (hb2 : b ≤ 64) (h : ∀ n, ¬ SOk f len b n) :
    Calls Tryz.prog 266 #[.slice A len cap, .int .i64 b] w fun e w' => e = .returned (.tuple #[.int .i64 0, .int .i64 0, .int .i64 100]) ∧ Below w.heap.size w w' := by
  have h := Lib.hid h
  have hc := Lib.hid hc
  go_enter Tryz.func266, Tryz.ntmps266
  go_wp2_with fail
  refine (read_s_no A len cap f b _ (hc.out.later ((Below.refl _ _).alloc (Nat.le_refl _) _)) hl hb1 hb2 h.out).mono ?_
  rintro e w1 ⟨rfl, hw1⟩
  have hbw : Below w.heap.size w w1 := ((Below.refl _ _).alloc (Nat.le_refl _) _).trans (hw1.mono (by simp))
  clear hw1
  go_wp2
  go_ret3
  exact ⟨rfl, hbw⟩
end Go.Proofs.YtilaheifccjjeaaGreat
namespace Go.Proofs.YtilaheifccjjeaaGreat
open Go.RowKit
/-- Where reading has come to: the bytes bs, of which 'at' have been read, with 'deep' blocks around; the readers stand in their places. -/
structure PlaceAt (w : World) (P : Nat) (A : Option Addr) (c : Nat) (bs : List Nat) (p d : Nat) : Prop where
  c0 : w.cell? ⟨P, 0, none⟩ = some (.slice A bs.length c)
  c1 : w.cell? ⟨P, 1, none⟩ = some (.int .i64 (p : Nat))
  c2 : w.cell? ⟨P, 2, none⟩ = some (.int .i64 (d : Nat))
  c3 : w.cell? ⟨P, 3, none⟩ = some (.func (.func 246) #[.pointer (some ⟨P, 0, none⟩)] #[])
  c4 : w.cell? ⟨P, 4, none⟩ = some (.func (.func 247) #[.pointer (some ⟨P, 0, none⟩)] #[])
  c5 : w.cell? ⟨P, 5, none⟩ = some (.func (.func 248) #[.pointer (some ⟨P, 0, none⟩)] #[])
  c6 : w.cell? ⟨P, 6, none⟩ = some (.func (.func 249) #[.pointer (some ⟨P, 0, none⟩)] #[])
  c7 : w.cell? ⟨P, 7, none⟩ = some (.func (.func 250) #[.pointer (some ⟨P, 0, none⟩)] #[])
  c8 : w.cell? ⟨P, 8, none⟩ = some (.func (.func 251) #[.pointer (some ⟨P, 0, none⟩)] #[])
  c9 : w.cell? ⟨P, 9, none⟩ = some (.func (.func 252) #[.pointer (some ⟨P, 0, none⟩)] #[])
  c10 : w.cell? ⟨P, 10, none⟩ = some (.func (.func 253) #[.pointer (some ⟨P, 0, none⟩)] #[])
  c11 : w.cell? ⟨P, 11, none⟩ = some (.func (.func 254) #[.pointer (some ⟨P, 0, none⟩)] #[])
  c12 : w.cell? ⟨P, 12, none⟩ = some (.func (.func 255) #[.pointer (some ⟨P, 0, none⟩)] #[])
  f1 : w.frozen? ⟨P, 1, none⟩ = false
  f2 : w.frozen? ⟨P, 2, none⟩ = false
  le : p ≤ bs.length
  cap : bs.length ≤ c ∧ c ≤ maxLen
  small : bs.length ≤ 100000
  deep : d ≤ 40
  bytes : Bytes w P A bs.length (M.bf bs)
  size : P < w.heap.size
theorem PlaceAt.agree {w w' : World} {P : Nat} {A : Option Addr} {c : Nat} {bs : List Nat} {p d : Nat} (h : PlaceAt w P A c bs p d) (hb : ∀ k, k ≤ P → w'.heap[k]? = w.heap[k]?) (hs : w.heap.size ≤ w'.heap.size) : PlaceAt w' P A c bs p d := by
  have e : ∀ j, w'.cell? ⟨P, j, none⟩ = w.cell? ⟨P, j, none⟩ := fun j => World.cell?_of_block (w := w) (hb P (Nat.le_refl _))
  have f : ∀ j, w'.frozen? ⟨P, j, none⟩ = w.frozen? ⟨P, j, none⟩ := fun j => World.frozen?_of_block (w := w) (hb P (Nat.le_refl _))
  obtain ⟨c0, c1, c2, c3, c4, c5, c6, c7, c8, c9, c10, c11, c12, f1, f2, le, cap, small, deep, bytes, size⟩ := h
  refine ⟨?_, ?_, ?_, ?_, ?_, ?_, ?_, ?_, ?_, ?_, ?_, ?_, ?_, ?_, ?_, le, cap, small, deep, ?_, Nat.lt_of_lt_of_le size hs⟩
  all_goals first | (rw [e]; assumption) | (rw [f]; assumption) | skip
  intro i hi
  obtain ⟨ad, e1, h1, h2, h3⟩ := bytes i hi
  exact ⟨ad, e1, h1, h2, by rw [World.cell?_of_block (w := w) (hb _ (by rw [addr_block]; omega))]; exact h3⟩
/-- The place goes on. -/
theorem PlaceAt.move {w : World} {P : Nat} {A : Option Addr} {c : Nat} {bs : List Nat} {p d : Nat} (h : PlaceAt w P A c bs p d) (q : Nat) (hq : q ≤ bs.length) : PlaceAt (w.setCell ⟨P, 1, none⟩ (.int .i64 (q : Nat))) P A c bs q d := by
  obtain ⟨c0, c1, c2, c3, c4, c5, c6, c7, c8, c9, c10, c11, c12, f1, f2, le, cap, small, deep, bytes, size⟩ := h
  have o : ∀ j, j ≠ 1 → (w.setCell ⟨P, 1, none⟩ (.int .i64 (q : Nat))).cell? ⟨P, j, none⟩ = w.cell? ⟨P, j, none⟩ := fun j hj => World.cell?_setCell_other _ _ _ _ (by intro e; cases e; exact hj rfl)
  refine ⟨?_, World.cell?_setCell_same _ _ _ c1, ?_, ?_, ?_, ?_, ?_, ?_, ?_, ?_, ?_, ?_, ?_, by simpa using f1, by simpa using f2, hq, cap, small, deep, ?_, by simpa using size⟩
  all_goals first | (rw [o _ (by decide)]; assumption) | skip
  intro i hi
  obtain ⟨ad, e1, h1, h2, h3⟩ := bytes i hi
  exact ⟨ad, e1, h1, h2, by rw [World.cell?_of_block (w := w) (Below.heap_setCell _ _ _ _ (by rw [addr_block]; show ad.block ≠ P; omega))]; exact h3⟩
theorem PlaceAt.depth {w : World} {P : Nat} {A : Option Addr} {c : Nat} {bs : List Nat} {p d : Nat} (h : PlaceAt w P A c bs p d) (q : Nat) (hq : q ≤ 40) : PlaceAt (w.setCell ⟨P, 2, none⟩ (.int .i64 (q : Nat))) P A c bs p q := by
  obtain ⟨c0, c1, c2, c3, c4, c5, c6, c7, c8, c9, c10, c11, c12, f1, f2, le, cap, small, deep, bytes, size⟩ := h
  have o : ∀ j, j ≠ 2 → (w.setCell ⟨P, 2, none⟩ (.int .i64 (q : Nat))).cell? ⟨P, j, none⟩ = w.cell? ⟨P, j, none⟩ := fun j hj => World.cell?_setCell_other _ _ _ _ (by intro e; cases e; exact hj rfl)
  refine ⟨?_, ?_, World.cell?_setCell_same _ _ _ c2, ?_, ?_, ?_, ?_, ?_, ?_, ?_, ?_, ?_, ?_, by simpa using f1, by simpa using f2, le, cap, small, hq, ?_, by simpa using size⟩
  all_goals first | (rw [o _ (by decide)]; assumption) | skip
  intro i hi
  obtain ⟨ad, e1, h1, h2, h3⟩ := bytes i hi
  exact ⟨ad, e1, h1, h2, by rw [World.cell?_of_block (w := w) (Below.heap_setCell _ _ _ _ (by rw [addr_block]; show ad.block ≠ P; omega))]; exact h3⟩
/-- All old blocks but those of T are as they were. -/
structure Kb (T : Nat → Prop) (w w' : World) : Prop where
  os : w'.os = w.os
  tape : w'.tape = w.tape
  output : w'.output = w.output
  size : w.heap.size ≤ w'.heap.size
  block : ∀ k, k < w.heap.size → ¬ T k → w'.heap[k]? = w.heap[k]?
theorem Kb.refl (T : Nat → Prop) (w : World) : Kb T w w := ⟨rfl, rfl, rfl, Nat.le_refl _, fun _ _ _ => rfl⟩
theorem Kb.trans {T : Nat → Prop} {a b c : World} (h : Kb T a b) (k : Kb T b c) : Kb T a c :=
  ⟨k.os.trans h.os, k.tape.trans h.tape, k.output.trans h.output, Nat.le_trans h.size k.size, fun i hi ht => (k.block i (Nat.lt_of_lt_of_le hi h.size) ht).trans (h.block i hi ht)⟩
theorem Kb.mono {T U : Nat → Prop} {a b : World} (h : Kb T a b) (hu : ∀ k, T k → U k) : Kb U a b := ⟨h.os, h.tape, h.output, h.size, fun i hi ht => h.block i hi fun h' => ht (hu i h')⟩
theorem Kb.of_below {T : Nat → Prop} {a b : World} (h : Below a.heap.size a b) : Kb T a b := ⟨h.os, h.tape, h.output, h.size, fun i hi _ => h.block i hi⟩
theorem Kb.drew {T : Nat → Prop} {a b : World} (h : Kb T a b) : Kb T a b.drew := ⟨h.os, h.tape, h.output, h.size, h.block⟩
theorem Kb.setCell {T : Nat → Prop} {a b : World} (h : Kb T a b) {p : Addr} (hp : T p.block) (u : Value) : Kb T a (b.setCell p u) :=
  ⟨h.os, h.tape, h.output, by simpa using h.size, fun i hi ht => by rw [Below.heap_setCell _ _ _ _ (fun e => ht (by rw [e]; exact hp))]; exact h.block i hi ht⟩
theorem drewN_place {w : World} {P : Nat} {A : Option Addr} {c : Nat} {bs : List Nat} {p d : Nat} (h : PlaceAt w P A c bs p d) (n : Nat) : PlaceAt (w.drewN n) P A c bs p d := h.agree (fun _ _ => rfl) (Nat.le_refl _)
/-- The byte that is read next. -/
theorem PlaceAt.byte {w : World} {P : Nat} {A : Option Addr} {c : Nat} {bs : List Nat} {p d : Nat} (h : PlaceAt w P A c bs p d) (hp : p < bs.length) : ∃ ad x, A = some ad ∧ bs.drop p = x :: bs.drop (p + 1) ∧ x < 256 ∧ w.cell? (ad.add p) = some (.int .u8 (x : Nat)) := by
  obtain ⟨ad, e1, h1, h2, h3⟩ := h.bytes p hp
  refine ⟨ad, M.bf bs p, e1, ?_, h2, h3⟩
  rw [List.drop_eq_getElem_cons hp]
  simp [M.bf, List.getD_eq_getElem?_getD, hp]
/-- Whether the next byte is x. -/
def nextB (bs : List Nat) (p x : Nat) : Bool := (bs.drop p).head? == some x
theorem next_any (w : World) (P : Nat) (A : Option Addr) (c : Nat) (bs : List Nat) (p d x : Nat) (h : PlaceAt w P A c bs p d) (hx : x < 256) :
    Calls Tryz.prog 256 #[.pointer (some ⟨P, 0, none⟩), .int .u8 (x : Nat)] w fun e w' => e = .returned (.bool (nextB bs p x)) ∧ ∃ n, w' = w.drewN n := by
  have h0 := Lib.hid h
  obtain ⟨c0, c1, c2, c3, c4, c5, c6, c7, c8, c9, c10, c11, c12, f1, f2, le, cap, small, deep, bytes, size⟩ := h
  clear c2 c3 c4 c5 c6 c7 c8 c9 c10 c11 c12 f1 f2
  obtain ⟨cap1, cap2⟩ := cap
  unfold maxLen at cap2
  replace bytes := Lib.hid bytes
  by_cases hp : p < bs.length
  · obtain ⟨ad, y, rfl, hd, hy, q⟩ := h0.out.byte hp
    have hn := Lib.hid (show ((y : Int) == (x : Int)) = nextB bs p x by
      unfold nextB
      rw [hd]
      by_cases e : y = x
      · subst e; simp
      · have e1 : ((y : Int) == (x : Int)) = false := by rw [beq_eq_false_iff_ne]; omega
        have e2 : (some y == some x) = false := by rw [beq_eq_false_iff_ne]; intro h; injection h with h; exact e h
        rw [e1, List.head?_cons, e2])
    clear hd
    have t0 : (0 : Int) ≤ (p : Int) := by omega
    have t1 : (p : Int) < (bs.length : Int) := by omega
    go_enter Tryz.func256, Tryz.ntmps256
    go_wp2_with fail
    go_quiet (fail)
    go_wp2
    go_ret
    exact ⟨ret_bool hn.out, nq, rfl⟩
  · have hn := Lib.hid (show nextB bs p x = false by unfold nextB; rw [List.drop_eq_nil_of_le (by omega)]; rfl)
    have t1 : decide ((p : Int) < (bs.length : Int)) = false := by simp; omega
    have t2 : decide (p < bs.length) = false := by simpa using hp
    go_enter Tryz.func256, Tryz.ntmps256
    go_wp2_with fail
    go_quiet (fail)
    go_wp2
    go_ret
    exact ⟨by rw [hn.out]; rfl, nq, rfl⟩
theorem next_yes (w : World) (P : Nat) (A : Option Addr) (c : Nat) (bs : List Nat) (p d x : Nat) (t : Bool) (h : PlaceAt w P A c bs p d) (hx : x < 256) (ht : nextB bs p x = t) :
    Calls Tryz.prog 256 #[.pointer (some ⟨P, 0, none⟩), .int .u8 (x : Nat)] w fun e w' => e = .returned (.bool t) ∧ (PlaceAt w' P A c bs p d ∧ Below w.heap.size w w') :=
  (next_any w P A c bs p d x h hx).mono fun _ _ ⟨a, n, b⟩ => ⟨by rw [a, ht], by rw [b]; exact ⟨drewN_place h n, below_drewN (Below.refl _ _) _⟩⟩
theorem nextB_lt {bs : List Nat} {p x : Nat} (h : nextB bs p x = true) : p < bs.length ∧ bs.drop p = x :: bs.drop (p + 1) := by
  unfold nextB at h
  have hp : p < bs.length := by
    refine Nat.lt_of_not_le fun hle => ?_
    rw [List.drop_eq_nil_of_le hle] at h
    cases h
  refine ⟨hp, ?_⟩
  rw [List.drop_eq_getElem_cons hp] at h ⊢
  simp only [List.head?_cons, beq_iff_eq, Option.some.injEq] at h
  rw [h]
def FixPost (P : Nat) (A : Option Addr) (c : Nat) (bs : List Nat) (p d x : Nat) (w : World) (e : Ending) (w' : World) : Prop :=
  (nextB bs p x = true ∧ e = .returned (.bool true) ∧ PlaceAt w' P A c bs (p + 1) d ∧ Kb (· = P) w w') ∨ (nextB bs p x = false ∧ e = .returned (.bool false) ∧ PlaceAt w' P A c bs p d ∧ Kb (· = P) w w')
theorem fixed_any (w : World) (P : Nat) (A : Option Addr) (c : Nat) (bs : List Nat) (p d x : Nat) (h : PlaceAt w P A c bs p d) (hx : x < 256) :
    Calls Tryz.prog 236 #[.pointer (some ⟨P, 0, none⟩), .int .u8 (x : Nat)] w (FixPost P A c bs p d x w) := by
  have h0 := Lib.hid h
  clear h
  obtain ⟨t, ht⟩ : ∃ t, nextB bs p x = t := ⟨_, rfl⟩
  cases t with
  | false =>
    replace ht := Lib.hid ht
    go_enter Tryz.func236, Tryz.ntmps236
    go_wp2_with fail
    refine (next_yes _ P A c bs p d x false h0.out hx ht.out).mono ?_
    rintro e1 w1 ⟨rfl, h1, b1⟩
    replace h1 := Lib.hid h1
    replace b1 := Lib.hid b1
    go_wp2_with fail
    go_ret
    exact .inr ⟨ht.out, rfl, h1.out, .of_below b1.out⟩
  | true =>
    have hlt := (nextB_lt ht).1
    replace ht := Lib.hid ht
    go_enter Tryz.func236, Tryz.ntmps236
    go_wp2_with fail
    refine (next_yes _ P A c bs p d x true h0.out hx ht.out).mono ?_
    rintro e1 w1 ⟨rfl, h1, b1⟩
    have c1 := h1.c1
    have f1 := h1.f1
    have sm := h1.small
    replace h1 := Lib.hid h1
    replace b1 := Lib.hid b1
    go_wp2_with fail
    go_ret
    refine .inl ⟨ht.out, rfl, ?_, ?_⟩
    · exact h1.out.move (p + 1) (by omega)
    · exact Kb.setCell (T := (· = P)) (.of_below b1.out) (p := ⟨P, 1, none⟩) rfl _
theorem num_of {bs : List Nat} {v : Int} {r : List Nat} (h : M.num bs = some (v, r)) : ∃ n, UOk (M.bf bs) bs.length 32 n ∧ v = (M.low (M.bf bs) n : Nat) ∧ r = bs.drop n ∧ 1 ≤ n ∧ n ≤ bs.length ∧ n ≤ 5 ∧ 0 ≤ v ∧ v < 4294967296 := by
  have hs := M.num_short h
  unfold M.num at h
  split at h
  case isFalse => cases h
  case isTrue hc =>
    simp only [Option.some.injEq, Prod.mk.injEq] at h
    have hl := M.lenOf_le (M.bf bs) (min bs.length 5)
    have hm1 : min bs.length 5 ≤ bs.length := Nat.min_le_left _ _
    have hm2 : min bs.length 5 ≤ 5 := Nat.min_le_right _ _
    exact ⟨M.lenOf (M.bf bs) (min bs.length 5), ⟨rfl, hc.1, by simpa using hc.2⟩, h.1.symm, h.2.symm, Nat.one_le_iff_ne_zero.2 hc.1, Nat.le_trans hl hm1, Nat.le_trans hl hm2, hs.1.1, hs.1.2⟩
theorem num_none {bs : List Nat} (h : M.num bs = none) : ∀ n, ¬ UOk (M.bf bs) bs.length 32 n := by
  intro n ⟨h1, h2, h3⟩
  unfold M.num at h
  split at h
  case isTrue => cases h
  case isFalse hc =>
    subst h1
    exact hc ⟨h2, by simpa using h3⟩
theorem sgn_of {b : Nat} {bs : List Nat} {v : Int} {r : List Nat} (h : M.sgn b bs = some (v, r)) : ∃ n, SOk (M.bf bs) bs.length b n ∧ v = M.sval (M.bf bs) n ∧ r = bs.drop n ∧ 1 ≤ n ∧ n ≤ bs.length := by
  unfold M.sgn at h
  split at h
  case isFalse => cases h
  case isTrue hc =>
    simp only [Option.some.injEq, Prod.mk.injEq] at h
    have hl := M.lenOf_le (M.bf bs) (min bs.length ((b + 6) / 7))
    have hm1 : min bs.length ((b + 6) / 7) ≤ bs.length := Nat.min_le_left _ _
    exact ⟨M.lenOf (M.bf bs) (min bs.length ((b + 6) / 7)), ⟨rfl, hc.1, hc.2⟩, h.1.symm, h.2.symm, Nat.one_le_iff_ne_zero.2 hc.1, Nat.le_trans hl hm1⟩
theorem sgn_none {b : Nat} {bs : List Nat} (h : M.sgn b bs = none) : ∀ n, ¬ SOk (M.bf bs) bs.length b n := by
  intro n ⟨h1, h2, h3⟩
  unfold M.sgn at h
  split at h
  case isTrue => cases h
  case isFalse hc =>
    subst h1
    exact hc ⟨h2, h3⟩
/-- What is left of the bytes, as a slice. -/
theorem rest_bytes {w : World} {B : Nat} {ad : Addr} {bs : List Nat} (p : Nat) (h : Bytes w B (some ad) bs.length (M.bf bs)) : Bytes w B (some (ad.add p)) (bs.drop p).length (M.bf (bs.drop p)) := by
  rw [List.length_drop]
  exact h.drop (n := p) (g := M.bf (bs.drop p)) (fun i => getD_drop bs p i)
set_option maxRecDepth 100000 in
theorem number_yes (w : World) (P : Nat) (A : Option Addr) (c : Nat) (bs : List Nat) (p d : Nat) (g j : Nat) (u : Value) (v : Int) (r : List Nat) (h : PlaceAt w P A c bs p d) (hg : g ≠ P) (hu : w.cell? ⟨g, j, none⟩ = some u) (hf : w.frozen? ⟨g, j, none⟩ = false) (hn : M.num (bs.drop p) = some (v, r)) :
    Calls Tryz.prog 265 #[.pointer (some ⟨P, 0, none⟩), .pointer (some ⟨g, j, none⟩)] w fun e w' => e = .returned (.bool true) ∧ ∃ q w1, q ≤ bs.length ∧ r = bs.drop q ∧ Below w.heap.size w w1 ∧ w' = (w1.setCell ⟨g, j, none⟩ (.int .i64 v)).setCell ⟨P, 1, none⟩ (.int .i64 (q : Nat)) := by
  obtain ⟨n, hU, hv, hr, n1, n2, n5, v0, v1⟩ := num_of hn
  have h0 := Lib.hid h
  rw [List.length_drop] at n2
  obtain ⟨c0, c1, c2, c3, c4, c5, c6, c7, c8, c9, c10, c11, c12, f1, f2, le, cap, small, deep, bytes, size⟩ := h
  clear c2 c3 c4 c5 c6 c7 c8 c9 c10 c11 c12 f2
  obtain ⟨cap1, cap2⟩ := cap
  unfold maxLen at cap2
  obtain ⟨ad, rfl, _⟩ := bytes p (by omega)
  replace bytes := Lib.hid bytes
  replace hU := Lib.hid hU
  replace hv := Lib.hid hv
  replace hr := Lib.hid hr
  replace hn := Lib.hid hn
  have t0 : (0 : Int) ≤ (p : Int) := by omega
  have t1 : (p : Int) ≤ (bs.length : Int) := by omega
  have t2 : ¬ c = p := by omega
  go_enter Tryz.func265, Tryz.ntmps265
  go_wp2_with fail
  go_region_held3 (fun w' => w'.cell? ⟨P, 0, none⟩ = some (.slice (some ad) bs.length c) ∧ w'.cell? ⟨P, 1, none⟩ = some (.int .i64 (p : Nat)) ∧ Below w.heap.size w w')
    (first | exact ⟨c0, c1, (Below.refl _ _).drew⟩ | assumption | (go_split_ands; exact ⟨by rw [hw2.cell (p := ⟨P, 0, none⟩) (by exact size)]; exact c0, by rw [hw2.cell (p := ⟨P, 1, none⟩) (by exact size)]; exact c1, (Below.drew (Below.refl _ _)).trans hw2⟩))
    (first | (go_at_call 197; refine (Uint_yes (some (ad.add p)) (bs.length - p) (c - p) (M.bf (bs.drop p)) 32 n _ ?_ (by unfold maxLen; omega) (by omega) (by omega) (by rw [← List.length_drop]; exact hU.out)).mono ?_; (rw [← List.length_drop]; exact (rest_bytes p bytes.out).below (Below.drew (Below.refl _ _)) (Nat.le_of_lt size)); rintro e w2 ⟨rfl, hw2⟩))
  have d2 : Below w.heap.size w w2 := (Below.drew (Below.refl _ _)).trans hw2
  have hu2 : w2.cell? ⟨g, j, none⟩ = some u := by rw [d2.cell (by exact World.block_lt_of_cell? w ⟨g, j, none⟩ hu)]; exact hu
  have hf2 : w2.frozen? ⟨g, j, none⟩ = false := by rw [d2.frozen (by exact World.block_lt_of_cell? w ⟨g, j, none⟩ hu)]; exact hf
  have c12 : w2.cell? ⟨P, 1, none⟩ = some (.int .i64 (p : Nat)) := by rw [d2.cell (by exact size)]; exact c1
  have f12 : w2.frozen? ⟨P, 1, none⟩ = false := by rw [d2.frozen (by exact size)]; exact f1
  obtain ⟨m, hm⟩ : ∃ m, m = M.low (M.bf (bs.drop p)) n := ⟨_, rfl⟩
  rw [← hm]
  have hmv : v = (m : Int) := by rw [hm]; exact hv.out
  subst hmv
  replace hm := Lib.hid hm
  clear hv hU hw2 c0 c1 f1 hu hf
  replace d2 := Lib.hid d2
  go_wp2_with fail
  go_ret
  exact ⟨rfl, p + n, w2, by omega, by rw [hr.out, List.drop_drop], d2.out, by rw [Int.natCast_add]⟩
set_option maxRecDepth 100000 in
theorem number_no (w : World) (P : Nat) (ad : Addr) (c : Nat) (bs : List Nat) (p d : Nat) (q : Value) (h : PlaceAt w P (some ad) c bs p d) (hn : M.num (bs.drop p) = none) :
    Calls Tryz.prog 265 #[.pointer (some ⟨P, 0, none⟩), q] w fun e w' => e = .returned (.bool false) ∧ Below w.heap.size w w' := by
  have hU := Lib.hid (num_none hn)
  obtain ⟨c0, c1, c2, c3, c4, c5, c6, c7, c8, c9, c10, c11, c12, f1, f2, le, cap, small, deep, bytes, size⟩ := h
  clear c2 c3 c4 c5 c6 c7 c8 c9 c10 c11 c12 f1 f2
  obtain ⟨cap1, cap2⟩ := cap
  unfold maxLen at cap2
  replace bytes := Lib.hid bytes
  replace hn := Lib.hid hn
  have t0 : (0 : Int) ≤ (p : Int) := by omega
  have t1 : (p : Int) ≤ (bs.length : Int) := by omega
  by_cases t2 : c = p
  · have hl0 : bs.length = p := by omega
    have h0 : bs.length - p = 0 := by omega
    go_enter Tryz.func265, Tryz.ntmps265
    go_wp2_with fail
    go_region_held3 (fun w' => w'.cell? ⟨P, 0, none⟩ = some (.slice (some ad) bs.length c) ∧ w'.cell? ⟨P, 1, none⟩ = some (.int .i64 (p : Nat)) ∧ Below w.heap.size w w')
      (first | exact ⟨c0, c1, (Below.refl _ _).drew⟩ | assumption | (go_split_ands; exact ⟨by rw [hw2.cell (p := ⟨P, 0, none⟩) (by exact size)]; exact c0, by rw [hw2.cell (p := ⟨P, 1, none⟩) (by exact size)]; exact c1, (Below.drew (Below.refl _ _)).trans hw2⟩))
      (first | (go_at_call 197; refine (Uint_no (some ad) 0 _ (M.bf (bs.drop p)) 32 _ (fun i hi => absurd hi (Nat.not_lt_zero _)) (by unfold maxLen; omega) (by omega) (by omega) (fun n hn => hn.2.1 (by rw [← hn.1]; rfl))).mono ?_; rintro e w2 ⟨rfl, hw2⟩))
    have d2 := Lib.hid ((Below.drew (Below.refl w.heap.size w)).trans hw2)
    clear hw2
    go_wp2_with fail
    go_ret
    exact ⟨rfl, d2.out⟩
  · go_enter Tryz.func265, Tryz.ntmps265
    go_wp2_with fail
    go_region_held3 (fun w' => w'.cell? ⟨P, 0, none⟩ = some (.slice (some ad) bs.length c) ∧ w'.cell? ⟨P, 1, none⟩ = some (.int .i64 (p : Nat)) ∧ Below w.heap.size w w')
      (first | exact ⟨c0, c1, (Below.refl _ _).drew⟩ | assumption | (go_split_ands; exact ⟨by rw [hw2.cell (p := ⟨P, 0, none⟩) (by exact size)]; exact c0, by rw [hw2.cell (p := ⟨P, 1, none⟩) (by exact size)]; exact c1, (Below.drew (Below.refl _ _)).trans hw2⟩))
      (first | (go_at_call 197; refine (Uint_no (some (ad.add p)) (bs.length - p) (c - p) (M.bf (bs.drop p)) 32 _ ?_ (by unfold maxLen; omega) (by omega) (by omega) (by rw [← List.length_drop]; exact hU.out)).mono ?_; (rw [← List.length_drop]; exact (rest_bytes p bytes.out).below (Below.drew (Below.refl _ _)) (Nat.le_of_lt size)); rintro e w2 ⟨rfl, hw2⟩))
    have d2 := Lib.hid ((Below.drew (Below.refl w.heap.size w)).trans hw2)
    clear hw2
    go_wp2_with fail
    go_ret
    exact ⟨rfl, d2.out⟩
end Go.Proofs.YtilaheifccjjeaaGreat
namespace Go.Proofs.YtilaheifccjjeaaGreat
open Go.RowKit
theorem vals_one (ts : List Nat) : ∀ u ∈ vals ts, u.oneCell' = true := by
  intro u hu
  obtain ⟨b, _, rfl⟩ := List.mem_map.1 hu
  rfl
/-- A byte, and an end behind it, in new memory. -/
theorem vals_append (a b : List Nat) : vals (a ++ b) = vals a ++ vals b := by simp [vals]
theorem vals_length (a : List Nat) : (vals a).length = a.length := by simp [vals]
theorem run_nil_source {P : Program} (w : World) (base : Nat) (t ty e : TypeId) (i : TypeInfo) (size : Nat) (ht : P.underlying t = some (.slice e)) (hi : P.info? e = some i)
    (v : Value) (n : Nat) (xs : List Value) (hown : w.ownsRow base e size v n xs) (c : Nat) : (Builtin.append_ #[t, t] ty #[v, .slice none 0 c]).run P w = .ok v w := by
  rcases hown.2 with ⟨rfl, rfl⟩ | ⟨g, cap, cur, rfl, _, _, hnc, _⟩
  · simp [Builtin.append_, run_underlying ht, sizeOf, typeInfo, hi, Builtin.lenOf, Builtin.firstCells]
  · simp [Builtin.append_, run_underlying ht, sizeOf, typeInfo, hi, Builtin.lenOf, Builtin.firstCells, hnc, storeCells]
set_option maxRecDepth 100000 in
theorem run_cat (w : World) (base ty : Nat) (v vs : Value) (bs cs : List Nat) (hown : w.ownsRow base 5 1 v bs.length (vals bs)) (hA : BS w w.heap.size vs cs)
    (h63 : bs.length + cs.length ≤ 140737488355328) (hbase : base ≤ w.heap.size) :
    ∃ v' w', (Builtin.append_ #[33, 33] ty #[v, vs]).run Tryz.prog w = .ok v' w' ∧ w'.ownsRow base 5 1 v' (bs ++ cs).length (vals (bs ++ cs)) ∧ w.grownBy w' v.ownBlock := by
  obtain ⟨i0, hi0, hz0, hz1, hz2⟩ := info_parts u8_info
  obtain ⟨A, c, rfl, _, _, hB⟩ := hA
  rw [List.length_append, vals_append]
  rcases A with _ | ad
  · have hm : cs = [] := by
      cases cs with
      | nil => rfl
      | cons y r =>
        obtain ⟨ad, h, _⟩ := hB 0 (by simp)
        cases h
    subst hm
    exact ⟨v, w, run_nil_source w base 33 ty 5 i0 1 Tryz.underlying33 hi0 v _ _ hown c, by simpa [vals] using hown, World.grownBy.refl w _⟩
  · obtain ⟨v', w', h1, h2, h3, _⟩ := run_append_own_at (P := Tryz.prog) w base 33 ty 5 i0 _ 1 1 Tryz.underlying33 hi0 hz0 hz1 hz2 rfl (by omega) v bs.length (vals bs) hown ad cs.length c (vals cs)
      (by rw [vals_length]; omega) (fun j u hu => by
        have hj : j < cs.length := by
          have := (List.getElem?_eq_some_iff.1 hu).1
          rwa [vals_length] at this
        obtain ⟨ad', e, _, _, hc⟩ := hB j hj
        injection e with e
        subst e
        rw [hc, ← hu, getD_vals _ _ hj]) (vals_one _) (by unfold maxLen; omega) (by omega) hbase
    exact ⟨v', w', h1, h2, h3⟩
theorem step_cat {ops : Array Oper} {o : Oper} {a : Act} {w : World} {K : Act → World → Prop} {Q : Exit → Act → World → Prop} {E : Prop} (hgd : o.guard = none) (s x : Operand)
    (ho : o.op = .call { callee := .builtin .append, args := #[s, x], argTypes := #[33, 33] }) (base : Nat) (v vs : Value) (bs cs : List Nat) (hs : a.eval s = v) (hown : w.ownsRow base 5 1 v bs.length (vals bs))
    (hx : a.eval x = vs) (hA : BS w w.heap.size vs cs) (h63 : bs.length + cs.length ≤ 140737488355328) (hbase : base ≤ w.heap.size)
    (h : ∀ v' w', w'.ownsRow base 5 1 v' (bs ++ cs).length (vals (bs ++ cs)) → w.grownBy w' v.ownBlock → K (a.put o.dst v') w') :
    if Region.wanted o (yielded ops a.tmps) = true then Oper.wp Tryz.prog o a w K Q else E := by
  have hw : Region.wanted o (yielded ops a.tmps) = true := by simp [Region.wanted, hgd]
  rw [if_pos hw]
  obtain ⟨v', w', hr, h2, h3⟩ := run_cat w base o.type v vs bs cs hown hA h63 hbase
  unfold Oper.wp execOp
  simp only [ho, resolve, invoke, builtin, Sem.run_bind, Sem.run_pure, Result.andThen_ok, List.map_toArray, List.map_cons, List.map_nil, hs, hx, hr]
  exact h v' w' h2 h3
theorem wpList_cat {ops : Array Oper} {o : Oper} {rest : List Oper} {a : Act} {w : World} {Q : Exit → Act → World → Prop} (hgd : o.guard = none) (s x : Operand)
    (ho : o.op = .call { callee := .builtin .append, args := #[s, x], argTypes := #[33, 33] }) (base : Nat) (v vs : Value) (bs cs : List Nat) (hs : a.eval s = v) (hown : w.ownsRow base 5 1 v bs.length (vals bs))
    (hx : a.eval x = vs) (hA : BS w w.heap.size vs cs) (h63 : bs.length + cs.length ≤ 140737488355328) (hbase : base ≤ w.heap.size)
    (h : ∀ v' w', w'.ownsRow base 5 1 v' (bs ++ cs).length (vals (bs ++ cs)) → w.grownBy w' v.ownBlock → wpList Tryz.prog ops Q rest (a.put o.dst v') w') :
    wpList Tryz.prog ops Q (o :: rest) a w :=
  wpList_plain hgd fun K hK => by
    have := step_cat (ops := ops) (K := K) (Q := Q) (E := True) hgd s x ho base v vs bs cs hs hown hx hA h63 hbase (fun v' w' h2 h3 => hK _ _ (h v' w' h2 h3))
    have hw : Region.wanted o (yielded ops a.tmps) = true := by simp [Region.wanted, hgd]
    rwa [if_pos hw] at this
/-- The first bytes of bytes. -/
theorem BS.take {w : World} {B : Nat} {ad : Addr} {n c : Nat} {bs : List Nat} (h : BS w B (.slice (some ad) n c) bs) (k : Nat) (hk : k ≤ bs.length) : BS w B (.slice (some ad) k c) (bs.take k) := by
  obtain ⟨A, c', e, h1, h2, h3⟩ := h
  cases e
  refine ⟨some ad, c, by rw [List.length_take, Nat.min_eq_left hk], by rw [List.length_take, Nat.min_eq_left hk]; omega, h2, fun i hi => ?_⟩
  rw [List.length_take, Nat.min_eq_left hk] at hi
  obtain ⟨ad', e, q1, q2, q3⟩ := h3 i (by omega)
  have et : (bs.take k).getD i 0 = bs.getD i 0 := by rw [List.getD_eq_getElem?_getD, List.getElem?_take_of_lt hi, List.getD_eq_getElem?_getD]
  refine ⟨ad', e, q1, ?_, ?_⟩
  · show (bs.take k).getD i 0 < 256
    rw [et]; exact q2
  · show w.cell? _ = some (.int .u8 (((bs.take k).getD i 0 : Nat) : Int))
    rw [et]; exact q3
end Go.Proofs.YtilaheifccjjeaaGreat
namespace Go.Proofs.YtilaheifccjjeaaGreat.Utf
open Go.RowKit
/-- A number that is a point. -/
def PI (p : Int) : Prop := 0 ≤ p ∧ p ≤ 1114111 ∧ (p < 55296 ∨ 57343 < p)
theorem isPoint_yes (p : Int) (w : World) (h : PI p) : Calls Tryz.prog 259 #[.int .i32 p] w fun e w' => e = .returned (.bool true) ∧ w = w' := by
  obtain ⟨h1, h2, h3⟩ := h
  rcases h3 with h3 | h3
  all_goals
    go_enter Tryz.func259, Tryz.ntmps259
    go_wp2
    go_ret
    exact ⟨rfl, rfl⟩
theorem isPoint_no (p : Int) (w : World) (h : ¬ PI p) : Calls Tryz.prog 259 #[.int .i32 p] w fun e w' => e = .returned (.bool false) ∧ w = w' := by
  have h' : p < 0 ∨ 1114111 < p ∨ (0 ≤ p ∧ p ≤ 1114111 ∧ 55296 ≤ p ∧ p ≤ 57343) := by unfold PI at h; omega
  clear h
  rcases h' with h1 | h1 | ⟨h1, h2, h3, h4⟩
  case inr.inr =>
    have t1 : decide (p < 55296) = false := by simp; omega
    have t2 : decide (57343 < p) = false := by simp; omega
    go_enter Tryz.func259, Tryz.ntmps259
    go_wp2
    go_ret
    exact ⟨rfl, rfl⟩
  all_goals
    go_enter Tryz.func259, Tryz.ntmps259
    go_wp2
    go_ret
    exact ⟨rfl, rfl⟩
/-- The mask of the first of n bytes. -/
def maskOf (n : Nat) : Int := if n = 1 then 127 else if n = 2 then 31 else if n = 3 then 15 else 7
theorem n_cases {n : Nat} (h1 : 1 ≤ n) (h2 : n ≤ 4) : n = 1 ∨ n = 2 ∨ n = 3 ∨ n = 4 := by omega
theorem firstMask_any (n : Nat) (w : World) (h1 : 1 ≤ n) (h2 : n ≤ 4) : Calls Tryz.prog 258 #[.int .i64 n] w fun e w' => e = .returned (.int .u8 (maskOf n)) ∧ w = w' := by
  rcases n_cases h1 h2 with rfl | rfl | rfl | rfl
  all_goals
    go_enter Tryz.func258, Tryz.ntmps258
    go_wp2
    go_ret
    exact ⟨by first | rfl | decide, rfl⟩
set_option maxRecDepth 100000 in
theorem len8_any (x : Int) (w : World) (h0 : 0 ≤ x) (h1 : x ≤ 255) :
    Calls Tryz.prog 260 #[.int .u8 x] w fun e w' => e = .returned (.int .i64 (Lib.bitLen x.toNat)) ∧ w = w' := by
  have H := Lib.hid (show wrap64 (Lib.len8 x) = (Lib.bitLen x.toNat : Int) by unfold wrap64; exact Lib.len8_int x h0 h1)
  go_enter Tryz.func260, Tryz.ntmps260
  go_wp2
  go_ret
  refine ⟨?_, rfl⟩
  exact ret_int H.out
theorem zeros8_any (x : Int) (w : World) (h0 : 0 ≤ x) (h1 : x ≤ 255) :
    Calls Tryz.prog 238 #[.int .u8 x] w fun e w' => e = .returned (.int .i64 (8 - (Lib.bitLen x.toNat : Int))) ∧ w = w' := by
  have l := Lib.bitLen_le8 ⟨x.toNat, by omega⟩
  simp only at l
  go_enter Tryz.func238, Tryz.ntmps238
  go_wp2_with (go_at_call 260; refine (len8_any _ _ (by omega) (by omega)).mono ?_; rintro e w' ⟨rfl, rfl⟩)
  go_ret
  exact ⟨rfl, rfl⟩
/-- How many of a byte's highest bits are 1. -/
def ones (b : Nat) : Nat := 8 - Lib.bitLen (255 - b)
theorem ones_tab : ∀ b : Fin 256, ones b.val ≤ 8 ∧ (ones b.val = 0 ↔ b.val < 128) ∧ (ones b.val = 1 ↔ 128 ≤ b.val ∧ b.val < 192) ∧ (ones b.val = 2 ↔ 192 ≤ b.val ∧ b.val < 224) ∧ (ones b.val = 3 ↔ 224 ≤ b.val ∧ b.val < 240) ∧ (ones b.val = 4 ↔ 240 ≤ b.val ∧ b.val < 248) := by decide +kernel
theorem ones_spec (b : Nat) (h : b < 256) : ones b ≤ 8 ∧ (ones b = 0 ↔ b < 128) ∧ (ones b = 1 ↔ 128 ≤ b ∧ b < 192) ∧ (ones b = 2 ↔ 192 ≤ b ∧ b < 224) ∧ (ones b = 3 ↔ 224 ≤ b ∧ b < 240) ∧ (ones b = 4 ↔ 240 ≤ b ∧ b < 248) := ones_tab ⟨b, h⟩
theorem ones_int (b : Nat) (h : b < 256) : 8 - (Lib.bitLen (255 - (b : Int)).toNat : Int) = (ones b : Nat) := by
  have e : (255 - (b : Int)).toNat = 255 - b := by omega
  have l := Lib.bitLen_le8 ⟨255 - b, by omega⟩
  simp only at l
  rw [e]
  unfold ones
  omega
theorem not8_tab : ∀ b : Fin 256, bits .xor .u8 IntKind.u8.max (b.val : Int) = 255 - (b.val : Int) := by decide +kernel
theorem not8 (b : Nat) (h : b < 256) : bits .xor .u8 IntKind.u8.max (b : Int) = 255 - (b : Int) := not8_tab ⟨b, h⟩
theorem leadingOnes_any (b : Nat) (w : World) (h : b < 256) :
    Calls Tryz.prog 217 #[.int .u8 b] w fun e w' => e = .returned (.int .i64 (ones b : Nat)) ∧ w = w' := by
  have ho : 8 - ((Lib.bitLen (255 - b) : Nat) : Int) = ((ones b : Nat) : Int) := by
    have := ones_int b h
    rwa [show (255 - (b : Int)).toNat = 255 - b by omega] at this
  have HO := Lib.hid ho
  clear ho
  have hx := not8 b h
  go_enter Tryz.func217, Tryz.ntmps217
  go_wp2_with fail
  refine (zeros8_any _ _ (by omega) (by omega)).mono ?_
  rintro e w' ⟨rfl, rfl⟩
  go_wp2
  go_ret
  exact ⟨ret_int HO.out, rfl⟩
theorem none_any (v : Value) (w : World) : Calls Tryz.prog 213 #[v] w fun e w' => e = .returned (.tuple #[.int .i32 0, .bool false]) ∧ w = w' := by
  go_enter Tryz.func213, Tryz.ntmps213
  go_wp2
  go_ret2
  exact ⟨rfl, rfl⟩
end Go.Proofs.YtilaheifccjjeaaGreat.Utf
namespace Go.Proofs.YtilaheifccjjeaaGreat.Utf
open Go.RowKit
theorem lead_int (n b : Nat) (h1 : 1 ≤ n) (h2 : n ≤ 4) (hb : b < 256) : bits .and .u8 (b : Int) (maskOf n) = ((M.lead n b : Nat) : Int) := by
  rcases n_cases h1 h2 with rfl | rfl | rfl | rfl
  · show bits .and .u8 (b : Int) ((127 : Nat) : Int) = _
    rw [u8_and_nat _ _ hb (by omega), nat_mask7]; rfl
  · show bits .and .u8 (b : Int) ((31 : Nat) : Int) = _
    rw [u8_and_nat _ _ hb (by omega), nat_mask5]; rfl
  · show bits .and .u8 (b : Int) ((15 : Nat) : Int) = _
    rw [u8_and_nat _ _ hb (by omega), nat_mask4]; rfl
  · show bits .and .u8 (b : Int) ((7 : Nat) : Int) = _
    rw [u8_and_nat _ _ hb (by omega), nat_mask3]; rfl
/-- What reading n bytes leaves: a point and the rest, or nothing changed. -/
def TakePost (B P : Nat) (f : Nat → Nat) (l n : Nat) (w : World) (e : Ending) (w' : World) : Prop :=
  (∃ (p : Nat) (A' : Option Addr) (c' : Nat), M.TakeOk f l n p ∧ e = .returned (.tuple #[.int .i32 p, .bool true]) ∧ Below w.heap.size (w.setCell ⟨P, 0, none⟩ (.slice A' (l - n) c')) w' ∧ l - n ≤ c' ∧ c' ≤ maxLen ∧ Bytes w B A' (l - n) (fun i => f (n + i))) ∨
  ((∀ p, ¬ M.TakeOk f l n p) ∧ e = .returned (.tuple #[.int .i32 0, .bool false]) ∧ Below w.heap.size w w')
theorem TakePost.no {B P : Nat} {f : Nat → Nat} {l n : Nat} {w w' : World} {e : Ending} (h : ∀ p, ¬ M.TakeOk f l n p) (he : e = .returned (.tuple #[.int .i32 0, .bool false])) (hb : Below w.heap.size w w') : TakePost B P f l n w e w' := .inr ⟨h, he, hb⟩
theorem acc_step (f : Nat → Nat) (n k : Nat) (h1 : 1 ≤ n) (hk : k ≤ 2) :
    bits .or .i32 (wrap32 (((M.acc f n k : Nat) : Int) * 64)) ((f (k + 1) : Int) % 64) = ((M.acc f n (k + 1) : Nat) : Int) := by
  have h2 := (M.acc_lt f n k h1 (by omega)).2 hk
  have e3 : wrap32 (((M.acc f n k : Nat) : Int) * 64) = ((M.acc f n k : Nat) : Int) * 64 := by unfold wrap32; omega
  rw [e3, i32_or6 _ _ (by omega) (by omega) (by omega) (by omega) (by omega)]
  simp only [M.acc]
  omega
theorem tail_no (x : Nat) (hx : x < 256) (h : ¬ x / 64 = 2) : (bits .andNot .u8 (x : Int) 63 != 128) = true := by
  rw [show (63 : Int) = ((63 : Nat) : Int) from rfl, u8_andNot_nat _ _ hx (by omega)]
  have : ∀ x : Fin 256, ¬ x.val / 64 = 2 → x.val &&& (255 - 63) ≠ 128 := by decide +kernel
  have := this ⟨x, hx⟩ h
  simp only at this
  simp only [bne_iff_ne, ne_eq]
  omega
theorem tail_yes (x : Nat) (hx : x < 256) (h : x / 64 = 2) : (bits .andNot .u8 (x : Int) 63 != 128) = false := by
  rw [show (63 : Int) = ((63 : Nat) : Int) from rfl, u8_andNot_nat _ _ hx (by omega)]
  have : ∀ x : Fin 256, x.val / 64 = 2 → x.val &&& (255 - 63) = 128 := by decide +kernel
  have := this ⟨x, hx⟩ h
  simp only at this
  rw [this]; rfl
theorem PI_of (p : Nat) : PI (p : Int) ↔ M.IsP p := by unfold PI M.IsP; omega
theorem set_drewN (w : World) (p : Addr) (v : Value) (n : Nat) : (w.drewN n).setCell p v = (w.setCell p v).drewN n := rfl
set_option maxRecDepth 100000 in
theorem take_any (B P : Nat) (ad : Addr) (l c : Nat) (f : Nat → Nat) (n : Nat) (w : World) (hz : w.frozen? ⟨P, 0, none⟩ = false) (hc : w.cell? ⟨P, 0, none⟩ = some (.slice (some ad) l c)) (hlc : l ≤ c) (hcm : c ≤ maxLen)
    (hb : Bytes w B (some ad) l f) (h1 : 1 ≤ n) (h2 : n ≤ 4) (hl0 : 1 ≤ l) :
    Calls Tryz.prog 237 #[.pointer (some ⟨P, 0, none⟩), .int .i64 n, .int .i32 (M.least n : Nat)] w (TakePost B P f l n w) := by
  unfold maxLen at hcm
  obtain ⟨_, e, _, hf0, q0⟩ := hb 0 (by omega)
  injection e with e
  subst e
  replace q0 : w.cell? ad = some (.int .u8 (f 0 : Int)) := by simpa [Addr.add] using q0
  have hL := lead_int n (f 0) (by omega) h2 hf0
  replace hb := Lib.hid hb
  replace hL := Lib.hid hL
  by_cases hln : l < n
  · go_enter Tryz.func237, Tryz.ntmps237
    go_wp2
    go_ret2
    exact .no (fun p hp => by have := hp.1; omega) rfl (Below.refl _ _)
  · have t0 : decide (l < n) = false := by simpa using hln
    have hc' : c = 1 ∨ (c ≠ 1 ∧ c = n) ∨ (c ≠ 1 ∧ c ≠ n) := by omega
    rcases hc' with h3 | ⟨h3, h4⟩ | ⟨h3, h4⟩
    · obtain rfl : n = 1 := by omega
      obtain rfl : l = 1 := by omega
      subst h3
      go_enter Tryz.func237, Tryz.ntmps237
      go_wp2
      go_quiet ((go_at_call 258; exact Calls.quiet_of_same ((firstMask_any 1 _ (by omega) (by omega)).mono fun _ _ ⟨a, b⟩ => ⟨a, b.symm⟩)))
      go_wp2
      go_loop [8, 10, 35] (fun pt _ i => i = .int .i64 0 ∧ pt = .int .i32 (M.acc f 1 0 : Nat)) (fun _ _ i => 1 - (intOf i).toNat)
      case atStart =>
        refine ⟨rfl, ?_⟩
        rw [hL.out]
        have := M.lead_lt 1 (f 0) h1
        have e : wrap32 ((M.lead 1 (f 0) : Nat) : Int) = ((M.lead 1 (f 0) : Nat) : Int) := by unfold wrap32; omega
        rw [e]
        rfl
      case round =>
        obtain ⟨rfl, rfl⟩ := hrel
        have HP := Lib.hid (PI_of (M.acc f 1 0))
        by_cases hq1 : M.acc f 1 0 < M.least 1
        · go_wp2_with fail
          go_ret2
          exact .no (fun p hp => by have h5 := hp.2.2.1; have h6 := hp.2.2.2.1; subst h5; simp at h6; omega) rfl (below_drewN (Below.refl _ _) _)
        · by_cases hq2 : M.IsP (M.acc f 1 0)
          · go_wp2_with (go_at_call 259; refine (isPoint_yes _ _ (HP.out.2 hq2)).mono ?_; rintro e w1 ⟨rfl, rfl⟩)
            go_ret2
            refine .inl ⟨M.acc f 1 0, some ad, 0, ⟨by omega, fun i h5 h6 => by omega, rfl, by omega, hq2⟩, rfl, ?_, by omega, by unfold maxLen; omega, ?_⟩
            · rw [set_drewN]; exact below_drewN (Below.refl _ _) _
            · intro i hi; omega
          · go_wp2_with (go_at_call 259; refine (isPoint_no _ _ (fun h => hq2 (HP.out.1 h))).mono ?_; rintro e w1 ⟨rfl, rfl⟩)
            go_ret2
            exact .no (fun p hp => hq2 (by have h5 := hp.2.2.1; subst h5; exact hp.2.2.2.2)) rfl (below_drewN (Below.refl _ _) _)
    · replace h4 := h4.symm
      subst h4
      go_enter Tryz.func237, Tryz.ntmps237
      go_wp2
      go_quiet ((go_at_call 258; exact Calls.quiet_of_same ((firstMask_any _ _ (by omega) (by omega)).mono fun _ _ ⟨a, b⟩ => ⟨a, b.symm⟩)))
      go_wp2
      go_loop [8, 10, 35] (fun pt _ i => ∃ k : Nat, k ≤ n - 1 ∧ (∀ j, 1 ≤ j → j ≤ k → f j / 64 = 2) ∧ i = .int .i64 k ∧ pt = .int .i32 (M.acc f n k : Nat)) (fun _ _ i => n - (intOf i).toNat)
      case atStart =>
        refine ⟨0, by omega, fun j _ _ => by omega, rfl, ?_⟩
        rw [hL.out]
        have := M.lead_lt n (f 0) h1
        have e : wrap32 ((M.lead n (f 0) : Nat) : Int) = ((M.lead n (f 0) : Nat) : Int) := by unfold wrap32; omega
        rw [e]
        rfl
      case round =>
        obtain ⟨k, hk, ht, rfl, rfl⟩ := hrel
        have ht := Lib.hid ht
        by_cases hlt : k < n - 1
        · obtain ⟨_, e, _, hfk, qk⟩ := hb.out (k + 1) (by omega)
          injection e with e
          subst e
          have qk : w.cell? ⟨ad.block, ad.off + 1 + k, none⟩ = some (.int .u8 (f (k + 1) : Int)) := by
            have : ad.add (k + 1) = ⟨ad.block, ad.off + 1 + k, none⟩ := by unfold Addr.add; rw [if_neg (by omega)]; congr 1; omega
            rw [this] at qk; exact qk
          by_cases htl : f (k + 1) / 64 = 2
          · have t1 := tail_yes _ hfk htl
            have hs := Lib.hid (acc_step f n k h1 (by omega))
            go_wp2
            refine ⟨⟨k + 1, by omega, fun j h5 h6 => ?_, by go_num, by rw [hs.out]⟩, by simp [intOf]; omega⟩
            by_cases e : j = k + 1
            · subst e; exact htl
            · exact ht.out j h5 (by omega)
          · have t1 := tail_no _ hfk htl
            go_wp2
            go_ret2
            exact .no (fun p hp => htl (hp.2.1 (k + 1) (by omega) (by omega))) rfl (below_drewN (Below.refl _ _) _)
        · obtain rfl : k = n - 1 := by omega
          have HP := Lib.hid (PI_of (M.acc f n (n - 1)))
          by_cases hq1 : M.acc f n (n - 1) < M.least n
          · go_wp2_with fail
            go_ret2
            exact .no (fun p hp => by have h5 := hp.2.2.1; have h6 := hp.2.2.2.1; subst h5; omega) rfl (below_drewN (Below.refl _ _) _)
          · by_cases hq2 : M.IsP (M.acc f n (n - 1))
            · go_wp2_with (go_at_call 259; refine (isPoint_yes _ _ (HP.out.2 hq2)).mono ?_; rintro e w1 ⟨rfl, rfl⟩)
              go_ret2
              refine .inl ⟨M.acc f n (n - 1), some ad, 0, ⟨by omega, fun i h5 h6 => ht.out i h5 (by omega), rfl, by omega, hq2⟩, rfl, ?_, by omega, by unfold maxLen; omega, ?_⟩
              · rw [set_drewN, show l - n = 0 by omega]; exact below_drewN (Below.refl _ _) _
              · intro i hi; omega
            · go_wp2_with (go_at_call 259; refine (isPoint_no _ _ (fun h => hq2 (HP.out.1 h))).mono ?_; rintro e w1 ⟨rfl, rfl⟩)
              go_ret2
              exact .no (fun p hp => hq2 (by have h5 := hp.2.2.1; subst h5; exact hp.2.2.2.2)) rfl (below_drewN (Below.refl _ _) _)
    · go_enter Tryz.func237, Tryz.ntmps237
      go_wp2
      go_quiet ((go_at_call 258; exact Calls.quiet_of_same ((firstMask_any _ _ (by omega) (by omega)).mono fun _ _ ⟨a, b⟩ => ⟨a, b.symm⟩)))
      go_wp2
      go_loop [8, 10, 35] (fun pt _ i => ∃ k : Nat, k ≤ n - 1 ∧ (∀ j, 1 ≤ j → j ≤ k → f j / 64 = 2) ∧ i = .int .i64 k ∧ pt = .int .i32 (M.acc f n k : Nat)) (fun _ _ i => n - (intOf i).toNat)
      case atStart =>
        refine ⟨0, by omega, fun j _ _ => by omega, rfl, ?_⟩
        rw [hL.out]
        have := M.lead_lt n (f 0) h1
        have e : wrap32 ((M.lead n (f 0) : Nat) : Int) = ((M.lead n (f 0) : Nat) : Int) := by unfold wrap32; omega
        rw [e]
        rfl
      case round =>
        obtain ⟨k, hk, ht, rfl, rfl⟩ := hrel
        have ht := Lib.hid ht
        by_cases hlt : k < n - 1
        · obtain ⟨_, e, _, hfk, qk⟩ := hb.out (k + 1) (by omega)
          injection e with e
          subst e
          have qk : w.cell? ⟨ad.block, ad.off + 1 + k, none⟩ = some (.int .u8 (f (k + 1) : Int)) := by
            have : ad.add (k + 1) = ⟨ad.block, ad.off + 1 + k, none⟩ := by unfold Addr.add; rw [if_neg (by omega)]; congr 1; omega
            rw [this] at qk; exact qk
          by_cases htl : f (k + 1) / 64 = 2
          · have t1 := tail_yes _ hfk htl
            have hs := Lib.hid (acc_step f n k h1 (by omega))
            go_wp2
            refine ⟨⟨k + 1, by omega, fun j h5 h6 => ?_, by go_num, by rw [hs.out]⟩, by simp [intOf]; omega⟩
            by_cases e : j = k + 1
            · subst e; exact htl
            · exact ht.out j h5 (by omega)
          · have t1 := tail_no _ hfk htl
            go_wp2
            go_ret2
            exact .no (fun p hp => htl (hp.2.1 (k + 1) (by omega) (by omega))) rfl (below_drewN (Below.refl _ _) _)
        · obtain rfl : k = n - 1 := by omega
          have HP := Lib.hid (PI_of (M.acc f n (n - 1)))
          by_cases hq1 : M.acc f n (n - 1) < M.least n
          · go_wp2_with fail
            go_ret2
            exact .no (fun p hp => by have h5 := hp.2.2.1; have h6 := hp.2.2.2.1; subst h5; omega) rfl (below_drewN (Below.refl _ _) _)
          · by_cases hq2 : M.IsP (M.acc f n (n - 1))
            · go_wp2_with (go_at_call 259; refine (isPoint_yes _ _ (HP.out.2 hq2)).mono ?_; rintro e w1 ⟨rfl, rfl⟩)
              go_ret2
              refine .inl ⟨M.acc f n (n - 1), some (ad.add n), c - n, ⟨by omega, fun i h5 h6 => ht.out i h5 (by omega), rfl, by omega, hq2⟩, rfl, ?_, by omega, by unfold maxLen; omega, ?_⟩
              · rw [set_drewN]; exact below_drewN (Below.refl _ _) _
              · exact hb.out.drop (n := n) (g := fun i => f (n + i)) (fun _ => rfl)
            · go_wp2_with (go_at_call 259; refine (isPoint_no _ _ (fun h => hq2 (HP.out.1 h))).mono ?_; rintro e w1 ⟨rfl, rfl⟩)
              go_ret2
              exact .no (fun p hp => hq2 (by have h5 := hp.2.2.1; subst h5; exact hp.2.2.2.2)) rfl (below_drewN (Below.refl _ _) _)
end Go.Proofs.YtilaheifccjjeaaGreat.Utf
namespace Go.Proofs.YtilaheifccjjeaaGreat.Utf
open Go.RowKit
set_option maxRecDepth 100000 in
theorem one_any (B P : Nat) (ad : Addr) (l c : Nat) (f : Nat → Nat) (w : World) (hz : w.frozen? ⟨P, 0, none⟩ = false) (hc : w.cell? ⟨P, 0, none⟩ = some (.slice (some ad) l c)) (hlc : l ≤ c) (hcm : c ≤ maxLen)
    (hb : Bytes w B (some ad) l f) (hl0 : 1 ≤ l) :
    Calls Tryz.prog 212 #[.pointer (some ⟨P, 0, none⟩)] w (TakePost B P f l 1 w) := by
  replace hb := Lib.hid hb
  go_enter Tryz.func212, Tryz.ntmps212
  go_wp2_with fail
  refine (take_any B P ad l c f 1 _ hz hc hlc hcm hb.out (by omega) (by omega) hl0).mono ?_
  rintro e w1 (⟨p, A', c', h1, rfl, h2⟩ | ⟨h1, rfl, h2⟩)
  · replace h1 := Lib.hid h1
    replace h2 := Lib.hid h2
    go_wp2
    go_ret2
    exact .inl ⟨p, A', c', h1.out, rfl, h2.out⟩
  · replace h1 := Lib.hid h1
    replace h2 := Lib.hid h2
    go_wp2
    go_ret2
    exact .inr ⟨h1.out, rfl, h2.out⟩
set_option maxRecDepth 100000 in
theorem two_any (B P : Nat) (ad : Addr) (l c : Nat) (f : Nat → Nat) (w : World) (hz : w.frozen? ⟨P, 0, none⟩ = false) (hc : w.cell? ⟨P, 0, none⟩ = some (.slice (some ad) l c)) (hlc : l ≤ c) (hcm : c ≤ maxLen)
    (hb : Bytes w B (some ad) l f) (hl0 : 1 ≤ l) :
    Calls Tryz.prog 214 #[.pointer (some ⟨P, 0, none⟩)] w (TakePost B P f l 2 w) := by
  replace hb := Lib.hid hb
  go_enter Tryz.func214, Tryz.ntmps214
  go_wp2_with fail
  refine (take_any B P ad l c f 2 _ hz hc hlc hcm hb.out (by omega) (by omega) hl0).mono ?_
  rintro e w1 (⟨p, A', c', h1, rfl, h2⟩ | ⟨h1, rfl, h2⟩)
  · replace h1 := Lib.hid h1
    replace h2 := Lib.hid h2
    go_wp2
    go_ret2
    exact .inl ⟨p, A', c', h1.out, rfl, h2.out⟩
  · replace h1 := Lib.hid h1
    replace h2 := Lib.hid h2
    go_wp2
    go_ret2
    exact .inr ⟨h1.out, rfl, h2.out⟩
set_option maxRecDepth 100000 in
theorem three_any (B P : Nat) (ad : Addr) (l c : Nat) (f : Nat → Nat) (w : World) (hz : w.frozen? ⟨P, 0, none⟩ = false) (hc : w.cell? ⟨P, 0, none⟩ = some (.slice (some ad) l c)) (hlc : l ≤ c) (hcm : c ≤ maxLen)
    (hb : Bytes w B (some ad) l f) (hl0 : 1 ≤ l) :
    Calls Tryz.prog 215 #[.pointer (some ⟨P, 0, none⟩)] w (TakePost B P f l 3 w) := by
  replace hb := Lib.hid hb
  go_enter Tryz.func215, Tryz.ntmps215
  go_wp2_with fail
  refine (take_any B P ad l c f 3 _ hz hc hlc hcm hb.out (by omega) (by omega) hl0).mono ?_
  rintro e w1 (⟨p, A', c', h1, rfl, h2⟩ | ⟨h1, rfl, h2⟩)
  · replace h1 := Lib.hid h1
    replace h2 := Lib.hid h2
    go_wp2
    go_ret2
    exact .inl ⟨p, A', c', h1.out, rfl, h2.out⟩
  · replace h1 := Lib.hid h1
    replace h2 := Lib.hid h2
    go_wp2
    go_ret2
    exact .inr ⟨h1.out, rfl, h2.out⟩
set_option maxRecDepth 100000 in
theorem four_any (B P : Nat) (ad : Addr) (l c : Nat) (f : Nat → Nat) (w : World) (hz : w.frozen? ⟨P, 0, none⟩ = false) (hc : w.cell? ⟨P, 0, none⟩ = some (.slice (some ad) l c)) (hlc : l ≤ c) (hcm : c ≤ maxLen)
    (hb : Bytes w B (some ad) l f) (hl0 : 1 ≤ l) :
    Calls Tryz.prog 216 #[.pointer (some ⟨P, 0, none⟩)] w (TakePost B P f l 4 w) := by
  replace hb := Lib.hid hb
  go_enter Tryz.func216, Tryz.ntmps216
  go_wp2_with fail
  refine (take_any B P ad l c f 4 _ hz hc hlc hcm hb.out (by omega) (by omega) hl0).mono ?_
  rintro e w1 (⟨p, A', c', h1, rfl, h2⟩ | ⟨h1, rfl, h2⟩)
  · replace h1 := Lib.hid h1
    replace h2 := Lib.hid h2
    go_wp2
    go_ret2
    exact .inl ⟨p, A', c', h1.out, rfl, h2.out⟩
  · replace h1 := Lib.hid h1
    replace h2 := Lib.hid h2
    go_wp2
    go_ret2
    exact .inr ⟨h1.out, rfl, h2.out⟩
def lenAt (w : World) (P : Nat) : Nat := match w.cell? ⟨P, 0, none⟩ with | some (.slice _ l _) => l | _ => 0
theorem check1_any (p : Int) (w : World) : Calls Tryz.prog 203 #[.int .i32 p] w fun e w' => e = .returned (.tuple #[]) ∧ w = w' := by
  go_enter Tryz.func203, Tryz.ntmps203
  go_wp2
  go_end0
  exact ⟨rfl, rfl⟩
/-- Nothing but the block of a row of one's own, and one cell L, has turned. -/
def Turned (L base : Nat) (w w' : World) : Prop := w'.os = w.os ∧ w'.tape = w.tape ∧ w'.output = w.output ∧ w.heap.size ≤ w'.heap.size ∧ ∀ k, k < base → k ≠ L → w'.heap[k]? = w.heap[k]?
/-- The table of readers of the place P, as it lies in memory. -/
def Readers (w : World) (P : Nat) : Prop :=
  P + 1 < w.heap.size ∧ w.frozen? ⟨P, 0, none⟩ = false ∧ w.cell? ⟨P + 1, 0, none⟩ = some (.func (.func 212) #[.pointer (some ⟨P, 0, none⟩)] #[]) ∧ w.cell? ⟨P + 1, 1, none⟩ = some (.func (.func 213) #[.pointer (some ⟨P, 0, none⟩)] #[]) ∧
  w.cell? ⟨P + 1, 2, none⟩ = some (.func (.func 214) #[.pointer (some ⟨P, 0, none⟩)] #[]) ∧ w.cell? ⟨P + 1, 3, none⟩ = some (.func (.func 215) #[.pointer (some ⟨P, 0, none⟩)] #[]) ∧ w.cell? ⟨P + 1, 4, none⟩ = some (.func (.func 216) #[.pointer (some ⟨P, 0, none⟩)] #[])
theorem Readers.keep {w w' : World} {P : Nat} (h : Readers w P) (hs : w.heap.size ≤ w'.heap.size) (h0 : w'.frozen? ⟨P, 0, none⟩ = w.frozen? ⟨P, 0, none⟩) (h1 : w'.heap[P + 1]? = w.heap[P + 1]?) : Readers w' P := by
  obtain ⟨a, b, c0, c1, c2, c3, c4⟩ := h
  refine ⟨by omega, by rw [h0]; exact b, ?_, ?_, ?_, ?_, ?_⟩
  all_goals rw [World.cell?_of_block (w := w) h1]; assumption
/-- A place and its readers behind one that was taken. -/
theorem Readers.took {w w' : World} {P : Nat} {v : Value} (h : Readers w P) (hb : Below w.heap.size (w.setCell ⟨P, 0, none⟩ v) w') : Readers w' P := by
  have hP := h.1
  refine h.keep (by have := hb.size; simpa using this) ?_ ?_
  · rw [hb.frozen (p := ⟨P, 0, none⟩) (by show P < _; omega)]; simp
  · rw [hb.block _ hP, Below.heap_setCell _ _ _ _ (by show P + 1 ≠ P; omega)]
theorem _root_.Go.Proofs.YtilaheifccjjeaaGreat.Bytes.took {w w' : World} {P B l : Nat} {v : Value} {A : Option Addr} {f : Nat → Nat} (h : Bytes w B A l f) (hB : B ≤ P) (hP : P < w.heap.size) (hb : Below w.heap.size (w.setCell ⟨P, 0, none⟩ v) w') : Bytes w' B A l f := by
  intro i hi
  obtain ⟨ad, e, h1, h2, h3⟩ := h i hi
  refine ⟨ad, e, h1, h2, ?_⟩
  rw [hb.cell (p := ad.add i) (by rw [addr_block]; omega), World.cell?_of_block (w := w) (Below.heap_setCell _ _ _ _ (by rw [addr_block]; show ad.block ≠ P; omega))]
  exact h3
theorem below_took {B P : Nat} {w0 w w' : World} {v : Value} (h : Below B w0 w) (hB : B ≤ P) (hP : P < w.heap.size) (hb : Below w.heap.size (w.setCell ⟨P, 0, none⟩ v) w') : Below B w0 w' :=
  (h.setCell (p := ⟨P, 0, none⟩) hB v).trans (hb.mono (by omega))
/-- What the walk over a text keeps up: some points are read, the rest stands at the place. -/
def WRel (X : List Nat → World → Prop) (L : Nat) (bs : List Nat) (w w' : World) : Prop :=
  ∃ (done rest : List Nat) (A' : Option Addr) (l c' : Nat), (∀ p ∈ done, M.IsP p) ∧ bs = M.encs done ++ rest ∧ l = rest.length ∧ w'.cell? ⟨w.heap.size, 0, none⟩ = some (.slice A' l c') ∧ l ≤ c' ∧ c' ≤ maxLen ∧
    Bytes w' L A' l (fun i => rest.getD i 0) ∧ Readers w' w.heap.size ∧ Below L w w' ∧ X done w'
/-- How it ends. -/
def WPost (X : List Nat → World → Prop) (L : Nat) (bs : List Nat) (w : World) (e : Ending) (w' : World) : Prop :=
  ((∃ ps, M.Text bs ps ∧ e = .returned (.int .i64 0) ∧ X ps w') ∨ ((∀ ps, ¬ M.Text bs ps) ∧ e = .returned (.int .i64 100))) ∧ Below L w w'
theorem stuck_by {n : Nat} {rest : List Nat} (hk : M.Kind n (rest.getD 0 0)) (h : ∀ p, ¬ M.TakeOk (fun i => rest.getD i 0) rest.length n p) : ∀ p r, ¬ M.Head rest p r :=
  fun p _ hh => h p (M.take_of_head hk hh).1
theorem stuck_kind {rest : List Nat} (h : (128 ≤ rest.getD 0 0 ∧ rest.getD 0 0 < 192) ∨ 248 ≤ rest.getD 0 0) : ∀ p r, ¬ M.Head rest p r := fun p r hh => by
  have := M.head_kind hh
  unfold M.Kind at this
  omega
theorem lenAt_eq {w : World} {P : Nat} {A : Option Addr} {l c : Nat} (h : w.cell? ⟨P, 0, none⟩ = some (.slice A l c)) : lenAt w P = l := by unfold lenAt; rw [h]
/-- One point further. -/
theorem wrel_step {X : List Nat → World → Prop} {L n p c' : Nat} {bs done rest : List Nat} {A' : Option Addr} {w w1 w2 w3 : World} (hL : L ≤ w.heap.size) (hd : ∀ p ∈ done, M.IsP p) (he : bs = M.encs done ++ rest) (hk : M.Kind n (rest.getD 0 0)) (hlt : ∀ b ∈ rest, b < 256)
    (ht : M.TakeOk (fun i => rest.getD i 0) rest.length n p) (hb : Below w1.heap.size (w1.setCell ⟨w.heap.size, 0, none⟩ (.slice A' (rest.length - n) c')) w2) (h4 : rest.length - n ≤ c') (h5 : c' ≤ maxLen)
    (hA : Bytes w1 L A' (rest.length - n) (fun i => rest.getD (n + i) 0)) (hR : Readers w1 w.heap.size) (hbel : Below L w w1) (hc : (w1.cell? ⟨w.heap.size, 0, none⟩).isSome = true)
    (h3 : Turned L (w.heap.size + 2) w2 w3) (hX : X (done ++ [p]) w3) (hL2 : L < w.heap.size ∨ w2 = w3) : WRel X L bs w w3 ∧ lenAt w3 w.heap.size < rest.length := by
  have hP := hR.1
  obtain ⟨⟨hp, hrest⟩, _⟩ := M.head_of_take hlt hk ht
  have hR2 := hR.took hb
  have hB2 : Below L w w2 := below_took hbel hL (by omega) hb
  have hA2 := hA.took hL (by omega) hb
  have c2 : w2.cell? ⟨w.heap.size, 0, none⟩ = some (.slice A' (rest.length - n) c') := by
    rw [hb.cell (p := ⟨w.heap.size, 0, none⟩) (by show w.heap.size < _; omega)]
    exact World.cell?_setCell_same' _ _ _ hc
  have hn : 1 ≤ n := by unfold M.Kind at hk; omega
  have hl := ht.1
  have key : Readers w3 w.heap.size ∧ w3.cell? ⟨w.heap.size, 0, none⟩ = some (.slice A' (rest.length - n) c') ∧ Bytes w3 L A' (rest.length - n) (fun i => rest.getD (n + i) 0) ∧ Below L w w3 := by
    rcases hL2 with hL2 | rfl
    · obtain ⟨t1, t2, t3, t4, t5⟩ := h3
      refine ⟨hR2.keep t4 ?_ ?_, ?_, ?_, ?_⟩
      · exact World.frozen?_of_block (w := w2) (t5 w.heap.size (by omega) (by omega))
      · exact t5 _ (by omega) (by omega)
      · rw [World.cell?_of_block (w := w2) (t5 w.heap.size (by omega) (by omega))]; exact c2
      · exact hA2.below ⟨t1, t2, t3, t4, fun k hk => t5 k (by omega) (by omega)⟩ (Nat.le_refl _)
      · exact hB2.trans ⟨t1, t2, t3, t4, fun k hk => t5 k (by omega) (by omega)⟩
    · exact ⟨hR2, c2, hA2, hB2⟩
  obtain ⟨k1, k2, k3, k4⟩ := key
  refine ⟨⟨done ++ [p], rest.drop n, A', rest.length - n, c', ?_, ?_, by simp, k2, h4, h5, ?_, k1, k4, hX⟩, by rw [lenAt_eq k2]; omega⟩
  · intro q hq
    rcases List.mem_append.1 hq with h | h
    · exact hd q h
    · simp at h; subst h; exact hp
  · rw [M.encs_snoc, he, List.append_assoc, ← hrest]
  · intro i hi
    have := k3 i hi
    simpa only [getD_drop] using this
theorem bytes_lt {w : World} {B : Nat} {A : Option Addr} {rest : List Nat} (h : Bytes w B A rest.length (fun i => rest.getD i 0)) : ∀ b ∈ rest, b < 256 := by
  intro b hb
  obtain ⟨i, hi, rfl⟩ := List.getElem_of_mem hb
  obtain ⟨_, _, _, h4, _⟩ := h i hi
  simpa [List.getD_eq_getElem?_getD, List.getElem?_eq_getElem hi] using h4
theorem wrel_start {X : List Nat → World → Prop} {L c : Nat} {bs : List Nat} {A : Option Addr} {w : World} {W : World}
    (hL : L ≤ w.heap.size) (h1 : bs.length ≤ c) (h2 : c ≤ maxLen) (h3 : Bytes w L A bs.length (fun i => bs.getD i 0)) (hX : X [] W)
    (hW : W = (w.alloc (.cells #[.slice A bs.length c] 269)).alloc (.cells #[.func (.func 212) #[.pointer (some ⟨w.heap.size, 0, none⟩)] #[], .func (.func 213) #[.pointer (some ⟨w.heap.size, 0, none⟩)] #[], .func (.func 214) #[.pointer (some ⟨w.heap.size, 0, none⟩)] #[], .func (.func 215) #[.pointer (some ⟨w.heap.size, 0, none⟩)] #[], .func (.func 216) #[.pointer (some ⟨w.heap.size, 0, none⟩)] #[]] 272)) :
    WRel X L bs w W := by
  subst hW
  have hb : Below L w ((w.alloc (.cells #[.slice A bs.length c] 269)).alloc (.cells #[.func (.func 212) #[.pointer (some ⟨w.heap.size, 0, none⟩)] #[], .func (.func 213) #[.pointer (some ⟨w.heap.size, 0, none⟩)] #[], .func (.func 214) #[.pointer (some ⟨w.heap.size, 0, none⟩)] #[], .func (.func 215) #[.pointer (some ⟨w.heap.size, 0, none⟩)] #[], .func (.func 216) #[.pointer (some ⟨w.heap.size, 0, none⟩)] #[]] 272)) :=
    ((Below.refl _ _).alloc hL _).alloc (by simp; omega) _
  refine ⟨[], bs, A, bs.length, c, by simp, by simp [M.encs], rfl, ?_, h1, h2, h3.below hb (Nat.le_refl _), ⟨?_, ?_, ?_, ?_, ?_, ?_, ?_⟩, hb, hX⟩
  all_goals simp [go_sem]
def XT (_ : List Nat) (_ : World) : Prop := True
end Go.Proofs.YtilaheifccjjeaaGreat.Utf
namespace Go.Proofs.YtilaheifccjjeaaGreat.Utf
open Go.RowKit
set_option maxRecDepth 100000 in
set_option maxHeartbeats 1000000 in
theorem walk_check (v : Value) (bs : List Nat) (w : World) (h : BS w w.heap.size v bs) :
    Calls Tryz.prog 202 #[v, .func (.func 203) #[] #[]] w (WPost XT w.heap.size bs w) := by
  obtain ⟨A, c, rfl, h1, h2, h3⟩ := h
  replace h3 := Lib.hid h3
  go_enter Tryz.func202, Tryz.ntmps202
  go_wp2
  go_loopw [7] (fun _ w' => WRel XT w.heap.size bs w w') (fun _ w' => lenAt w' w.heap.size)
  case atStart => exact wrel_start (Nat.le_refl _) h1 h2 h3.out trivial rfl
  case round =>
    obtain ⟨done, rest, A', l, c', hd, he, rfl, hcP, h4, h5, hB, hR, hbel, hX⟩ := hrel
    have hlt := Lib.hid (bytes_lt hB)
    replace hd := Lib.hid hd
    replace he := Lib.hid he
    replace hB := Lib.hid hB
    replace hbel := Lib.hid hbel
    replace hX := Lib.hid hX
    unfold maxLen at h5
    by_cases hr : rest.length = 0
    · have HR := Lib.hid hR
      rw [hr] at hcP
      clear hR
      replace hr := Lib.hid hr
      go_wp2
      go_ret
      refine ⟨.inl ⟨done, ⟨hd.out, ?_⟩, rfl, hX.out⟩, hbel.out⟩
      rw [he.out, List.eq_nil_of_length_eq_zero hr.out, List.append_nil]
    · have hne : Hid (rest ≠ []) := Lib.hid (fun h => hr (by rw [h]; rfl))
      obtain ⟨ad, rfl, hadL, hf0, q0⟩ := hB.out 0 (by omega)
      obtain ⟨b0, hb0⟩ : ∃ b0, b0 = rest.getD 0 0 := ⟨_, rfl⟩
      replace hf0 : b0 < 256 := by rw [hb0]; exact hf0
      replace q0 : wr.cell? ad = some (.int .u8 (b0 : Int)) := by rw [hb0]; simpa only [Addr.add, if_true] using q0
      replace hb0 := Lib.hid hb0
      have HR := Lib.hid hR
      obtain ⟨r00, r0, r1, r2, r3, r4, r5⟩ := hR
      have hkinds : b0 < 128 ∨ (128 ≤ b0 ∧ b0 < 192) ∨ (192 ≤ b0 ∧ b0 < 224) ∨ (224 ≤ b0 ∧ b0 < 240) ∨ (240 ≤ b0 ∧ b0 < 248) ∨ 248 ≤ b0 := by omega
      rcases hkinds with kd | ⟨kd, kd'⟩ | ⟨kd, kd'⟩ | ⟨kd, kd'⟩ | ⟨kd, kd'⟩ | kd
      · -- one
        have hK := Lib.hid (show M.Kind 1 (rest.getD 0 0) by rw [← hb0.out]; exact .inl ⟨rfl, by omega⟩)
        have hone := (ones_spec b0 hf0).2.1.2 (by omega)
        go_wp2_with fail
        refine (leadingOnes_any _ _ hf0).mono ?_
        rintro e wx ⟨rfl, rfl⟩
        go_wp2_with fail
        refine (one_any w.heap.size w.heap.size ad rest.length c' (fun i => rest.getD i 0) _ r0 hcP h4 h5 hB.out (by omega)).mono ?_
        rintro e w2 (⟨p, A', c2, ht, rfl, hbT, h4', h5', hA0⟩ | ⟨ht, rfl, hbT⟩)
        · have hA' := Lib.hid hA0
          replace ht := Lib.hid ht
          replace hbT := Lib.hid hbT
          clear hA0 hone
          go_wp2_with fail
          refine (check1_any _ _).mono ?_
          rintro e w3 ⟨rfl, rfl⟩
          go_wp2
          have hst := wrel_step (X := XT) (w3 := w2) (Nat.le_refl _) hd.out he.out hK.out hlt.out ht.out hbT.out h4' h5' hA'.out HR.out hbel.out (by rw [hcP]; rfl) ⟨rfl, rfl, rfl, Nat.le_refl _, fun _ _ _ => rfl⟩ trivial (.inr rfl)
          exact ⟨hst.1, by rw [lenAt_eq hcP]; exact hst.2⟩
        · have hno := Lib.hid (stuck_by hK.out ht)
          replace hbT := Lib.hid hbT
          clear ht hone
          go_wp2
          go_ret
          refine ⟨.inr ⟨fun ps => ?_, rfl⟩, hbel.out.trans (hbT.out.mono (by have := hbel.out.size; omega))⟩
          rw [he.out]
          exact M.text_stuck hd.out hne.out hno.out
      · have hno := Lib.hid (stuck_kind (rest := rest) (.inl (by rw [← hb0.out]; exact ⟨kd, kd'⟩)))
        have hone := (ones_spec b0 hf0).2.2.1.2 (by omega)
        go_wp2_with fail
        refine (leadingOnes_any _ _ hf0).mono ?_
        rintro e wx ⟨rfl, rfl⟩
        go_wp2_with fail
        refine (none_any _ _).mono ?_
        rintro e wx ⟨rfl, rfl⟩
        go_wp2
        go_ret
        refine ⟨.inr ⟨fun ps => ?_, rfl⟩, hbel.out⟩
        rw [he.out]
        exact M.text_stuck hd.out hne.out hno.out
      · -- two
        have hK := Lib.hid (show M.Kind 2 (rest.getD 0 0) by rw [← hb0.out]; exact .inr (.inl ⟨rfl, by omega, by omega⟩))
        have hone := (ones_spec b0 hf0).2.2.2.1.2 (by omega)
        go_wp2_with fail
        refine (leadingOnes_any _ _ hf0).mono ?_
        rintro e wx ⟨rfl, rfl⟩
        go_wp2_with fail
        refine (two_any w.heap.size w.heap.size ad rest.length c' (fun i => rest.getD i 0) _ r0 hcP h4 h5 hB.out (by omega)).mono ?_
        rintro e w2 (⟨p, A', c2, ht, rfl, hbT, h4', h5', hA0⟩ | ⟨ht, rfl, hbT⟩)
        · have hA' := Lib.hid hA0
          replace ht := Lib.hid ht
          replace hbT := Lib.hid hbT
          clear hA0 hone
          go_wp2_with fail
          refine (check1_any _ _).mono ?_
          rintro e w3 ⟨rfl, rfl⟩
          go_wp2
          have hst := wrel_step (X := XT) (w3 := w2) (Nat.le_refl _) hd.out he.out hK.out hlt.out ht.out hbT.out h4' h5' hA'.out HR.out hbel.out (by rw [hcP]; rfl) ⟨rfl, rfl, rfl, Nat.le_refl _, fun _ _ _ => rfl⟩ trivial (.inr rfl)
          exact ⟨hst.1, by rw [lenAt_eq hcP]; exact hst.2⟩
        · have hno := Lib.hid (stuck_by hK.out ht)
          replace hbT := Lib.hid hbT
          clear ht hone
          go_wp2
          go_ret
          refine ⟨.inr ⟨fun ps => ?_, rfl⟩, hbel.out.trans (hbT.out.mono (by have := hbel.out.size; omega))⟩
          rw [he.out]
          exact M.text_stuck hd.out hne.out hno.out
      · -- three
        have hK := Lib.hid (show M.Kind 3 (rest.getD 0 0) by rw [← hb0.out]; exact .inr (.inr (.inl ⟨rfl, by omega, by omega⟩)))
        have hone := (ones_spec b0 hf0).2.2.2.2.1.2 (by omega)
        go_wp2_with fail
        refine (leadingOnes_any _ _ hf0).mono ?_
        rintro e wx ⟨rfl, rfl⟩
        go_wp2_with fail
        refine (three_any w.heap.size w.heap.size ad rest.length c' (fun i => rest.getD i 0) _ r0 hcP h4 h5 hB.out (by omega)).mono ?_
        rintro e w2 (⟨p, A', c2, ht, rfl, hbT, h4', h5', hA0⟩ | ⟨ht, rfl, hbT⟩)
        · have hA' := Lib.hid hA0
          replace ht := Lib.hid ht
          replace hbT := Lib.hid hbT
          clear hA0 hone
          go_wp2_with fail
          refine (check1_any _ _).mono ?_
          rintro e w3 ⟨rfl, rfl⟩
          go_wp2
          have hst := wrel_step (X := XT) (w3 := w2) (Nat.le_refl _) hd.out he.out hK.out hlt.out ht.out hbT.out h4' h5' hA'.out HR.out hbel.out (by rw [hcP]; rfl) ⟨rfl, rfl, rfl, Nat.le_refl _, fun _ _ _ => rfl⟩ trivial (.inr rfl)
          exact ⟨hst.1, by rw [lenAt_eq hcP]; exact hst.2⟩
        · have hno := Lib.hid (stuck_by hK.out ht)
          replace hbT := Lib.hid hbT
          clear ht hone
          go_wp2
          go_ret
          refine ⟨.inr ⟨fun ps => ?_, rfl⟩, hbel.out.trans (hbT.out.mono (by have := hbel.out.size; omega))⟩
          rw [he.out]
          exact M.text_stuck hd.out hne.out hno.out
      · -- four
        have hK := Lib.hid (show M.Kind 4 (rest.getD 0 0) by rw [← hb0.out]; exact .inr (.inr (.inr ⟨rfl, by omega, by omega⟩)))
        have hone := (ones_spec b0 hf0).2.2.2.2.2.2 (by omega)
        go_wp2_with fail
        refine (leadingOnes_any _ _ hf0).mono ?_
        rintro e wx ⟨rfl, rfl⟩
        go_wp2_with fail
        refine (four_any w.heap.size w.heap.size ad rest.length c' (fun i => rest.getD i 0) _ r0 hcP h4 h5 hB.out (by omega)).mono ?_
        rintro e w2 (⟨p, A', c2, ht, rfl, hbT, h4', h5', hA0⟩ | ⟨ht, rfl, hbT⟩)
        · have hA' := Lib.hid hA0
          replace ht := Lib.hid ht
          replace hbT := Lib.hid hbT
          clear hA0 hone
          go_wp2_with fail
          refine (check1_any _ _).mono ?_
          rintro e w3 ⟨rfl, rfl⟩
          go_wp2
          have hst := wrel_step (X := XT) (w3 := w2) (Nat.le_refl _) hd.out he.out hK.out hlt.out ht.out hbT.out h4' h5' hA'.out HR.out hbel.out (by rw [hcP]; rfl) ⟨rfl, rfl, rfl, Nat.le_refl _, fun _ _ _ => rfl⟩ trivial (.inr rfl)
          exact ⟨hst.1, by rw [lenAt_eq hcP]; exact hst.2⟩
        · have hno := Lib.hid (stuck_by hK.out ht)
          replace hbT := Lib.hid hbT
          clear ht hone
          go_wp2
          go_ret
          refine ⟨.inr ⟨fun ps => ?_, rfl⟩, hbel.out.trans (hbT.out.mono (by have := hbel.out.size; omega))⟩
          rw [he.out]
          exact M.text_stuck hd.out hne.out hno.out
      · have hno := Lib.hid (stuck_kind (rest := rest) (.inr (by rw [← hb0.out]; exact kd)))
        have hone : 5 ≤ ones b0 := by
          have := ones_spec b0 hf0
          omega
        go_wp2_with fail
        refine (leadingOnes_any _ _ hf0).mono ?_
        rintro e wx ⟨rfl, rfl⟩
        go_wp2
        go_ret
        refine ⟨.inr ⟨fun ps => ?_, rfl⟩, hbel.out⟩
        rw [he.out]
        exact M.text_stuck hd.out hne.out hno.out
end Go.Proofs.YtilaheifccjjeaaGreat.Utf
namespace Go.Proofs.YtilaheifccjjeaaGreat.Utf
open Go.RowKit
theorem Check_post (v : Value) (bs : List Nat) (w : World) (h : BS w w.heap.size v bs) : Calls Tryz.prog 180 #[v] w (WPost XT w.heap.size bs w) := by
  replace h := Lib.hid h
  go_enter Tryz.func180, Tryz.ntmps180
  go_wp2_with fail
  refine (walk_check v bs _ h.out).mono ?_
  rintro e w1 ⟨⟨ps, h1, rfl, h2⟩ | ⟨h1, rfl⟩, h3⟩
  · replace h1 := Lib.hid h1
    replace h3 := Lib.hid h3
    go_wp2
    go_ret
    exact ⟨.inl ⟨ps, h1.out, rfl, trivial⟩, h3.out⟩
  · replace h1 := Lib.hid h1
    replace h3 := Lib.hid h3
    go_wp2
    go_ret
    exact ⟨.inr ⟨h1.out, rfl⟩, h3.out⟩
theorem Check_yes (v : Value) (bs ps : List Nat) (w : World) (h : BS w w.heap.size v bs) (ht : M.Text bs ps) : Calls Tryz.prog 180 #[v] w fun e w' => e = .returned (.int .i64 0) ∧ Below w.heap.size w w' :=
  (Check_post v bs w h).mono fun _ _ ⟨h1, h2⟩ => by
    rcases h1 with ⟨_, _, he, _⟩ | ⟨hn, _⟩
    · exact ⟨he, h2⟩
    · exact absurd ht (hn ps)
theorem Check_no (v : Value) (bs : List Nat) (w : World) (h : BS w w.heap.size v bs) (ht : ∀ ps, ¬ M.Text bs ps) : Calls Tryz.prog 180 #[v] w fun e w' => e = .returned (.int .i64 100) ∧ Below w.heap.size w w' :=
  (Check_post v bs w h).mono fun _ _ ⟨h1, h2⟩ => by
    rcases h1 with ⟨ps, hp, _, _⟩ | ⟨_, he⟩
    · exact absurd hp (ht ps)
    · exact ⟨he, h2⟩
end Go.Proofs.YtilaheifccjjeaaGreat.Utf
