/-
  What the functions of package leb that read a signed number answer, for every slice of bytes and every number of bits; condition: the bytes lie in memory that was there at the call.
-/
import Derived.Test.YtmejgbbdehndaaaGreatLebU
namespace Go.Proofs.YtmejgbbdehndaaaGreat
open Go.RowKit
theorem signed_yes_lo (A : Option Addr) (len cap : Nat) (f : Nat → Nat) (b n : Nat) (w : World) (hc : Bytes w w.heap.size A len f)
    (h1 : 1 ≤ n) (h2 : n ≤ 10) (h3 : n ≤ len) (hl : f (n - 1) < 128) (hb1 : (n - 1) * 7 < b) (hb2 : b ≤ 64) (hok : -2 ^ (b - 1) ≤ M.sval f n ∧ M.sval f n < 2 ^ (b - 1)) (hs : f (n - 1) < 64) :
    Calls Tryz.prog 270 #[.agg #[.slice A len cap, .int .i64 b], .int .i64 n] w fun e w' => e = .returned (.tuple #[.int .i64 (M.sval f n), .bool true]) ∧ Below w.heap.size w w' := by
  obtain ⟨ad, rfl, hb, hfk, hck⟩ := hc (n - 1) (by omega)
  have hck : ∀ o, (w.alloc o).cell? (ad.add (n - 1)) = some (.int .u8 (f (n - 1) : Int)) := fun o => by
    rw [World.cell?_alloc_lt w o _ (by rw [addr_block]; exact hb)]; exact hck
  have ha := M.and64_lo (f (n - 1)) hs
  have hD : M.dig f n = (f (n - 1) : Int) := by unfold M.dig; rw [if_pos hs]
  have hq : ((f (n - 1) : Int) / 2 ^ (b - (n - 1) * 7 - 1) != 0) = false := by
    have := (M.fits_s f n b hb1).1 hok; rw [hD] at this
    rw [M.ediv_zero _ _ (by omega) this.2]; rfl
  have HJ := Lib.hid (M.s_join f n b h2 (by omega) hb2 hok)
  rw [hD, ← show (((n : Int) - 1) * 7).toNat = (n - 1) * 7 by omega] at HJ
  have hc := Lib.hid hc
  clear hok hD
  go_enter Tryz.func270, Tryz.ntmps270
  go_wp2_with fail
  refine (room_any _ _ _ _ (by omega) (by omega) (by omega) (by omega)).mono ?_
  rintro e w1 ⟨rfl, hw1⟩
  have q0 : w1.cell? ⟨w.heap.size, 0, none⟩ = some (.slice (some ad) len cap) := by rw [hw1.cell (p := ⟨w.heap.size, 0, none⟩) (by simp)]; simp
  have q1 : w1.cell? ⟨w.heap.size, 1, none⟩ = some (.int .i64 b) := by rw [hw1.cell (p := ⟨w.heap.size, 1, none⟩) (by simp)]; simp
  have hz : w.heap.size < w1.heap.size := by have := hw1.size; simp at this; omega
  have hbw : Below w.heap.size w w1 := ((Below.refl _ _).alloc (Nat.le_refl _) _).trans (hw1.mono (by simp))
  clear hck hw1
  go_wp2_with fail
  go_region_held3 (fun w' => w'.cell? ⟨w.heap.size, 0, none⟩ = some (.slice (some ad) len cap) ∧ w'.cell? ⟨w.heap.size, 1, none⟩ = some (.int .i64 b) ∧ Below w.heap.size w w' ∧ w.heap.size < w'.heap.size)
    (first | exact ⟨q0, q1, hbw.drew, hz⟩ | assumption | (go_split_ands; refine ⟨?_, ?_, ?_, ?_⟩; (rw [hw2.cell (p := ⟨w.heap.size, 0, none⟩) (by assumption)]; assumption); (rw [hw2.cell (p := ⟨w.heap.size, 1, none⟩) (by assumption)]; assumption); exact Below.trans (by assumption) (hw2.mono (by omega)); (have := hw2.size; omega)))
    (first
      | (go_at_call 233; refine (start_any _ _ (by omega) (by omega)).mono ?_; rintro e w2 ⟨rfl, rfl⟩)
      | (go_at_call 234; refine (below_any _ _ _ f _ _ _ ?_ (by omega) (by omega) (by omega)).mono ?_; (exact hc.out.later hbw.drew); rintro e w2 ⟨rfl, hw2⟩))
  go_wp2
  go_ret2
  refine ⟨?_, hbw.drew.trans (hw2.mono (Nat.le_of_lt hz))⟩
  have h := HJ.out
  exact congrArg (fun x => Ending.returned (.tuple #[.int .i64 x, .bool true])) h
theorem signed_yes_hi (A : Option Addr) (len cap : Nat) (f : Nat → Nat) (b n : Nat) (w : World) (hc : Bytes w w.heap.size A len f)
    (h1 : 1 ≤ n) (h2 : n ≤ 10) (h3 : n ≤ len) (hl : f (n - 1) < 128) (hb1 : (n - 1) * 7 < b) (hb2 : b ≤ 64) (hok : -2 ^ (b - 1) ≤ M.sval f n ∧ M.sval f n < 2 ^ (b - 1)) (hs : ¬ f (n - 1) < 64) :
    Calls Tryz.prog 270 #[.agg #[.slice A len cap, .int .i64 b], .int .i64 n] w fun e w' => e = .returned (.tuple #[.int .i64 (M.sval f n), .bool true]) ∧ Below w.heap.size w w' := by
  obtain ⟨ad, rfl, hb, hfk, hck⟩ := hc (n - 1) (by omega)
  have hck : ∀ o, (w.alloc o).cell? (ad.add (n - 1)) = some (.int .u8 (f (n - 1) : Int)) := fun o => by
    rw [World.cell?_alloc_lt w o _ (by rw [addr_block]; exact hb)]; exact hck
  have ha := M.and64_hi (f (n - 1)) hl hs
  have hD : M.dig f n = (f (n - 1) : Int) - 128 := by unfold M.dig; rw [if_neg hs]
  have hq1 : (((f (n - 1) : Int) - 128) / 2 ^ (b - (n - 1) * 7 - 1) != 0) = true := by
    have := (M.fits_s f n b hb1).1 hok; rw [hD] at this
    rw [M.ediv_neg_one _ _ (by omega) this.1]; rfl
  have hq2 : (((f (n - 1) : Int) - 128) / 2 ^ (b - (n - 1) * 7 - 1) != -1) = false := by
    have := (M.fits_s f n b hb1).1 hok; rw [hD] at this
    rw [M.ediv_neg_one _ _ (by omega) this.1]; rfl
  have HJ := Lib.hid (M.s_join f n b h2 (by omega) hb2 hok)
  rw [hD, ← show (((n : Int) - 1) * 7).toNat = (n - 1) * 7 by omega] at HJ
  have hc := Lib.hid hc
  clear hok hD
  go_enter Tryz.func270, Tryz.ntmps270
  go_wp2_with fail
  refine (room_any _ _ _ _ (by omega) (by omega) (by omega) (by omega)).mono ?_
  rintro e w1 ⟨rfl, hw1⟩
  have q0 : w1.cell? ⟨w.heap.size, 0, none⟩ = some (.slice (some ad) len cap) := by rw [hw1.cell (p := ⟨w.heap.size, 0, none⟩) (by simp)]; simp
  have q1 : w1.cell? ⟨w.heap.size, 1, none⟩ = some (.int .i64 b) := by rw [hw1.cell (p := ⟨w.heap.size, 1, none⟩) (by simp)]; simp
  have hz : w.heap.size < w1.heap.size := by have := hw1.size; simp at this; omega
  have hbw : Below w.heap.size w w1 := ((Below.refl _ _).alloc (Nat.le_refl _) _).trans (hw1.mono (by simp))
  clear hck hw1
  go_wp2_with fail
  go_region_held3 (fun w' => w'.cell? ⟨w.heap.size, 0, none⟩ = some (.slice (some ad) len cap) ∧ w'.cell? ⟨w.heap.size, 1, none⟩ = some (.int .i64 b) ∧ Below w.heap.size w w' ∧ w.heap.size < w'.heap.size)
    (first | exact ⟨q0, q1, hbw.drew, hz⟩ | assumption | (go_split_ands; refine ⟨?_, ?_, ?_, ?_⟩; (rw [hw2.cell (p := ⟨w.heap.size, 0, none⟩) (by assumption)]; assumption); (rw [hw2.cell (p := ⟨w.heap.size, 1, none⟩) (by assumption)]; assumption); exact Below.trans (by assumption) (hw2.mono (by omega)); (have := hw2.size; omega)))
    (first
      | (go_at_call 233; refine (start_any _ _ (by omega) (by omega)).mono ?_; rintro e w2 ⟨rfl, rfl⟩)
      | (go_at_call 234; refine (below_any _ _ _ f _ _ _ ?_ (by omega) (by omega) (by omega)).mono ?_; (exact hc.out.later hbw.drew); rintro e w2 ⟨rfl, hw2⟩))
  go_wp2
  go_ret2
  refine ⟨?_, hbw.drew.trans (hw2.mono (Nat.le_of_lt hz))⟩
  have h := HJ.out
  exact congrArg (fun x => Ending.returned (.tuple #[.int .i64 x, .bool true])) h
theorem signed_no_lo (A : Option Addr) (len cap : Nat) (f : Nat → Nat) (b n : Nat) (w : World) (hc : Bytes w w.heap.size A len f)
    (h1 : 1 ≤ n) (h2 : n ≤ 10) (h3 : n ≤ len) (hl : f (n - 1) < 128) (hb1 : (n - 1) * 7 < b) (hb2 : b ≤ 64) (hok : ¬ (-2 ^ (b - 1) ≤ M.sval f n ∧ M.sval f n < 2 ^ (b - 1))) (hs : f (n - 1) < 64) :
    Calls Tryz.prog 270 #[.agg #[.slice A len cap, .int .i64 b], .int .i64 n] w fun e w' => e = .returned (.tuple #[.int .i64 0, .bool false]) ∧ Below w.heap.size w w' := by
  obtain ⟨ad, rfl, hb, hfk, hck⟩ := hc (n - 1) (by omega)
  have hck : ∀ o, (w.alloc o).cell? (ad.add (n - 1)) = some (.int .u8 (f (n - 1) : Int)) := fun o => by
    rw [World.cell?_alloc_lt w o _ (by rw [addr_block]; exact hb)]; exact hck
  have ha := M.and64_lo (f (n - 1)) hs
  have hD : M.dig f n = (f (n - 1) : Int) := by unfold M.dig; rw [if_pos hs]
  have hp := M.pow_pos_int (b - (n - 1) * 7 - 1)
  have hge : 2 ^ (b - (n - 1) * 7 - 1) ≤ (f (n - 1) : Int) := by
    rw [M.fits_s f n b hb1, hD] at hok
    omega
  have hdv : 1 ≤ (f (n - 1) : Int) / 2 ^ (b - (n - 1) * 7 - 1) := Int.le_ediv_of_mul_le hp (by omega)
  have hq1 : ((f (n - 1) : Int) / 2 ^ (b - (n - 1) * 7 - 1) != 0) = true := by rw [bne_iff_ne]; omega
  have hq2 : ((f (n - 1) : Int) / 2 ^ (b - (n - 1) * 7 - 1) != -1) = true := by rw [bne_iff_ne]; omega
  clear hok hD hc hp hge hdv
  go_enter Tryz.func270, Tryz.ntmps270
  go_wp2_with fail
  refine (room_any _ _ _ _ (by omega) (by omega) (by omega) (by omega)).mono ?_
  rintro e w1 ⟨rfl, hw1⟩
  have hbw : Below w.heap.size w w1 := ((Below.refl _ _).alloc (Nat.le_refl _) _).trans (hw1.mono (by simp))
  clear hck hw1
  go_wp2
  go_ret2
  exact ⟨rfl, hbw⟩
theorem signed_no_hi (A : Option Addr) (len cap : Nat) (f : Nat → Nat) (b n : Nat) (w : World) (hc : Bytes w w.heap.size A len f)
    (h1 : 1 ≤ n) (h2 : n ≤ 10) (h3 : n ≤ len) (hl : f (n - 1) < 128) (hb1 : (n - 1) * 7 < b) (hb2 : b ≤ 64) (hok : ¬ (-2 ^ (b - 1) ≤ M.sval f n ∧ M.sval f n < 2 ^ (b - 1))) (hs : ¬ f (n - 1) < 64) :
    Calls Tryz.prog 270 #[.agg #[.slice A len cap, .int .i64 b], .int .i64 n] w fun e w' => e = .returned (.tuple #[.int .i64 0, .bool false]) ∧ Below w.heap.size w w' := by
  obtain ⟨ad, rfl, hb, hfk, hck⟩ := hc (n - 1) (by omega)
  have hck : ∀ o, (w.alloc o).cell? (ad.add (n - 1)) = some (.int .u8 (f (n - 1) : Int)) := fun o => by
    rw [World.cell?_alloc_lt w o _ (by rw [addr_block]; exact hb)]; exact hck
  have ha := M.and64_hi (f (n - 1)) hl hs
  have hD : M.dig f n = (f (n - 1) : Int) - 128 := by unfold M.dig; rw [if_neg hs]
  have hp := M.pow_pos_int (b - (n - 1) * 7 - 1)
  have hge : (f (n - 1) : Int) - 128 < -2 ^ (b - (n - 1) * 7 - 1) := by
    rw [M.fits_s f n b hb1, hD] at hok
    omega
  have hdv : ((f (n - 1) : Int) - 128) / 2 ^ (b - (n - 1) * 7 - 1) < -1 := Int.ediv_lt_of_lt_mul hp (by omega)
  have hq1 : (((f (n - 1) : Int) - 128) / 2 ^ (b - (n - 1) * 7 - 1) != 0) = true := by rw [bne_iff_ne]; omega
  have hq2 : (((f (n - 1) : Int) - 128) / 2 ^ (b - (n - 1) * 7 - 1) != -1) = true := by rw [bne_iff_ne]; omega
  clear hok hD hc hp hge hdv
  go_enter Tryz.func270, Tryz.ntmps270
  go_wp2_with fail
  refine (room_any _ _ _ _ (by omega) (by omega) (by omega) (by omega)).mono ?_
  rintro e w1 ⟨rfl, hw1⟩
  have hbw : Below w.heap.size w w1 := ((Below.refl _ _).alloc (Nat.le_refl _) _).trans (hw1.mono (by simp))
  clear hck hw1
  go_wp2
  go_ret2
  exact ⟨rfl, hbw⟩
theorem signed_any (A : Option Addr) (len cap : Nat) (f : Nat → Nat) (b n : Nat) (w : World) (hc : Bytes w w.heap.size A len f)
    (h1 : 1 ≤ n) (h2 : n ≤ 10) (h3 : n ≤ len) (hl : f (n - 1) < 128) (hb1 : (n - 1) * 7 < b) (hb2 : b ≤ 64) (hok : -2 ^ (b - 1) ≤ M.sval f n ∧ M.sval f n < 2 ^ (b - 1)) :
    Calls Tryz.prog 270 #[.agg #[.slice A len cap, .int .i64 b], .int .i64 n] w fun e w' => e = .returned (.tuple #[.int .i64 (M.sval f n), .bool true]) ∧ Below w.heap.size w w' := by
  by_cases hs : f (n - 1) < 64
  · exact signed_yes_lo A len cap f b n w hc h1 h2 h3 hl hb1 hb2 hok hs
  · exact signed_yes_hi A len cap f b n w hc h1 h2 h3 hl hb1 hb2 hok hs
theorem signed_no (A : Option Addr) (len cap : Nat) (f : Nat → Nat) (b n : Nat) (w : World) (hc : Bytes w w.heap.size A len f)
    (h1 : 1 ≤ n) (h2 : n ≤ 10) (h3 : n ≤ len) (hl : f (n - 1) < 128) (hb1 : (n - 1) * 7 < b) (hb2 : b ≤ 64) (hok : ¬ (-2 ^ (b - 1) ≤ M.sval f n ∧ M.sval f n < 2 ^ (b - 1))) :
    Calls Tryz.prog 270 #[.agg #[.slice A len cap, .int .i64 b], .int .i64 n] w fun e w' => e = .returned (.tuple #[.int .i64 0, .bool false]) ∧ Below w.heap.size w w' := by
  by_cases hs : f (n - 1) < 64
  · exact signed_no_lo A len cap f b n w hc h1 h2 h3 hl hb1 hb2 hok hs
  · exact signed_no_hi A len cap f b n w hc h1 h2 h3 hl hb1 hb2 hok hs
/-- The bytes are those of a signed number of b bits, n bytes long. -/
def SOk (f : Nat → Nat) (len b n : Nat) : Prop := M.lenOf f (min len ((b + 6) / 7)) = n ∧ n ≠ 0 ∧ (-2 ^ (b - 1) ≤ M.sval f n ∧ M.sval f n < 2 ^ (b - 1))
theorem read_s_yes (A : Option Addr) (len cap : Nat) (f : Nat → Nat) (b n : Nat) (w : World) (hc : Bytes w w.heap.size A len f) (hl : len ≤ maxLen) (hb1 : 1 ≤ b) (hb2 : b ≤ 64) (h : SOk f len b n) :
    Calls Tryz.prog 269 #[.agg #[.slice A len cap, .int .i64 b], .func (.func 270) #[.agg #[.slice A len cap, .int .i64 b]] #[]] w
      fun e w' => e = .returned (.tuple #[.int .i64 (M.sval f n), .int .i64 n, .int .i64 0]) ∧ Below w.heap.size w w' := by
  obtain ⟨rfl, hn, hlt⟩ := h
  obtain ⟨g1, g2, g3, _⟩ := M.lenOf_spec f _ hn
  have hne : (((M.lenOf f (min len ((b + 6) / 7)) : Nat) : Int) == 0) = false := by simpa using hn
  generalize hG : M.lenOf f (min len ((b + 6) / 7)) = n at *
  have HG := Lib.hid hG
  have HC := Lib.hid hc
  have HL := Lib.hid hlt
  clear hG hc hlt
  go_enter Tryz.func269, Tryz.ntmps269
  go_wp2_with fail
  refine (length_any A len cap f b _ (HC.out.later ((Below.refl _ _).alloc (Nat.le_refl _) _)) hl (by omega) (by omega)).mono ?_
  rintro e w1 ⟨rfl, hw1⟩
  rw [Int.toNat_natCast, HG.out]
  have hbw : Below w.heap.size w w1 := ((Below.refl _ _).alloc (Nat.le_refl _) _).trans (hw1.mono (by simp))
  clear hw1
  go_wp2_with fail
  refine (signed_any A len cap f b n _ (HC.out.later hbw) (by omega) (by omega) (by omega) g3 (by omega) hb2 HL.out).mono ?_
  rintro e w2 ⟨rfl, hw2⟩
  go_wp2
  go_ret3
  exact ⟨rfl, hbw.trans (hw2.mono hbw.size)⟩
theorem read_s_no (A : Option Addr) (len cap : Nat) (f : Nat → Nat) (b : Nat) (w : World) (hc : Bytes w w.heap.size A len f) (hl : len ≤ maxLen) (hb1 : 1 ≤ b) (hb2 : b ≤ 64) (h : ∀ n, ¬ SOk f len b n) :
    Calls Tryz.prog 269 #[.agg #[.slice A len cap, .int .i64 b], .func (.func 270) #[.agg #[.slice A len cap, .int .i64 b]] #[]] w
      fun e w' => e = .returned (.tuple #[.int .i64 0, .int .i64 0, .int .i64 100]) ∧ Below w.heap.size w w' := by
  by_cases hn : M.lenOf f (min len ((b + 6) / 7)) = 0
  · have HG := Lib.hid hn
    have HC := Lib.hid hc
    clear hn hc h
    go_enter Tryz.func269, Tryz.ntmps269
    go_wp2_with fail
    refine (length_any A len cap f b _ (HC.out.later ((Below.refl _ _).alloc (Nat.le_refl _) _)) hl (by omega) (by omega)).mono ?_
    rintro e w1 ⟨rfl, hw1⟩
    rw [Int.toNat_natCast, HG.out]
    have hbw : Below w.heap.size w w1 := ((Below.refl _ _).alloc (Nat.le_refl _) _).trans (hw1.mono (by simp))
    clear hw1
    go_wp2
    go_ret3
    exact ⟨rfl, hbw⟩
  · obtain ⟨g1, g2, g3, _⟩ := M.lenOf_spec f _ hn
    have hne : (((M.lenOf f (min len ((b + 6) / 7)) : Nat) : Int) == 0) = false := by simpa using hn
    have hlt : ¬ (-2 ^ (b - 1) ≤ M.sval f (M.lenOf f (min len ((b + 6) / 7))) ∧ M.sval f (M.lenOf f (min len ((b + 6) / 7))) < 2 ^ (b - 1)) := fun hh => h _ ⟨rfl, hn, hh⟩
    clear h
    generalize hG : M.lenOf f (min len ((b + 6) / 7)) = n at *
    have HG := Lib.hid hG
    have HC := Lib.hid hc
    have HL := Lib.hid hlt
    clear hG hc hlt
    go_enter Tryz.func269, Tryz.ntmps269
    go_wp2_with fail
    refine (length_any A len cap f b _ (HC.out.later ((Below.refl _ _).alloc (Nat.le_refl _) _)) hl (by omega) (by omega)).mono ?_
    rintro e w1 ⟨rfl, hw1⟩
    rw [Int.toNat_natCast, HG.out]
    have hbw : Below w.heap.size w w1 := ((Below.refl _ _).alloc (Nat.le_refl _) _).trans (hw1.mono (by simp))
    clear hw1
    go_wp2_with fail
    refine (signed_no A len cap f b n _ (HC.out.later hbw) (by omega) (by omega) (by omega) g3 (by omega) hb2 HL.out).mono ?_
    rintro e w2 ⟨rfl, hw2⟩
    go_wp2
    go_ret3
    exact ⟨rfl, hbw.trans (hw2.mono hbw.size)⟩
theorem read_s_bad (A : Option Addr) (len cap : Nat) (b : Int) (F : Value) (w : World) (h : b < 1 ∨ 64 < b) :
    Calls Tryz.prog 269 #[.agg #[.slice A len cap, .int .i64 b], F] w
      fun e w' => e = .returned (.tuple #[.int .i64 0, .int .i64 0, .int .i64 100]) ∧ Below w.heap.size w w' := by
  go_enter Tryz.func269, Tryz.ntmps269
  go_wp2_with fail
  refine (length_no A len cap b _ h).mono ?_
  rintro e w1 ⟨rfl, hw1⟩
  have hbw : Below w.heap.size w w1 := ((Below.refl _ _).alloc (Nat.le_refl _) _).trans (hw1.mono (by simp))
  clear hw1
  go_wp2
  go_ret3
  exact ⟨rfl, hbw⟩
theorem Sint_yes (A : Option Addr) (len cap : Nat) (f : Nat → Nat) (b n : Nat) (w : World) (hc : Bytes w w.heap.size A len f) (hl : len ≤ maxLen) (hb1 : 1 ≤ b) (hb2 : b ≤ 64) (h : SOk f len b n) :
    Calls Tryz.prog 267 #[.slice A len cap, .int .i64 b] w fun e w' => e = .returned (.tuple #[.int .i64 (M.sval f n), .int .i64 n, .int .i64 0]) ∧ Below w.heap.size w w' := by
  have h := Lib.hid h
  have hc := Lib.hid hc
  go_enter Tryz.func267, Tryz.ntmps267
  go_wp2_with fail
  refine (read_s_yes A len cap f b n _ (hc.out.later ((Below.refl _ _).alloc (Nat.le_refl _) _)) hl hb1 hb2 h.out).mono ?_
  rintro e w1 ⟨rfl, hw1⟩
  have hbw : Below w.heap.size w w1 := ((Below.refl _ _).alloc (Nat.le_refl _) _).trans (hw1.mono (by simp))
  clear hw1
  go_wp2
  go_ret3
  exact ⟨rfl, hbw⟩
theorem Sint_no (A : Option Addr) (len cap : Nat) (f : Nat → Nat) (b : Nat) (w : World) (hc : Bytes w w.heap.size A len f) (hl : len ≤ maxLen) (hb1 : 1 ≤ b) (hb2 : b ≤ 64) (h : ∀ n, ¬ SOk f len b n) :
    Calls Tryz.prog 267 #[.slice A len cap, .int .i64 b] w fun e w' => e = .returned (.tuple #[.int .i64 0, .int .i64 0, .int .i64 100]) ∧ Below w.heap.size w w' := by
  have h := Lib.hid h
  have hc := Lib.hid hc
  go_enter Tryz.func267, Tryz.ntmps267
  go_wp2_with fail
  refine (read_s_no A len cap f b _ (hc.out.later ((Below.refl _ _).alloc (Nat.le_refl _) _)) hl hb1 hb2 h.out).mono ?_
  rintro e w1 ⟨rfl, hw1⟩
  have hbw : Below w.heap.size w w1 := ((Below.refl _ _).alloc (Nat.le_refl _) _).trans (hw1.mono (by simp))
  clear hw1
  go_wp2
  go_ret3
  exact ⟨rfl, hbw⟩
theorem Sint_bad (A : Option Addr) (len cap : Nat) (b : Int) (w : World) (h : b < 1 ∨ 64 < b) :
    Calls Tryz.prog 267 #[.slice A len cap, .int .i64 b] w fun e w' => e = .returned (.tuple #[.int .i64 0, .int .i64 0, .int .i64 100]) ∧ Below w.heap.size w w' := by
  go_enter Tryz.func267, Tryz.ntmps267
  go_wp2_with fail
  refine (read_s_bad A len cap b _ _ h).mono ?_
  rintro e w1 ⟨rfl, hw1⟩
  have hbw : Below w.heap.size w w1 := ((Below.refl _ _).alloc (Nat.le_refl _) _).trans (hw1.mono (by simp))
  clear hw1
  go_wp2
  go_ret3
  exact ⟨rfl, hbw⟩
end Go.Proofs.YtmejgbbdehndaaaGreat
