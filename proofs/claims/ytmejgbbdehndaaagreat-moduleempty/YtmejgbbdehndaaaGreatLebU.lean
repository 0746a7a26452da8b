/-
  What the functions of package leb that read an unsigned number answer, for every slice of bytes and every number of bits; condition: the bytes lie in memory that was there at the call.
-/
import Derived.Test.YtmejgbbdehndaaaGreatMem
import Derived.Test.YtmejgbbdehndaaaGreatLMath
import Derived.WalkKit
import Derived.Deep.RegionHeld3
import Derived.Deep.QuietTactic
import Derived.BigQuiet
import Derived.Outline
import Derived.WalkSmall
import Derived.Lib.Hide
namespace Go.Proofs.YtmejgbbdehndaaaGreat
open Go.RowKit
theorem start_any (n : Int) (w : World) (h1 : 1 ≤ n) (h2 : n ≤ 10) :
    Calls Tryz.prog 233 #[.int .i64 n] w fun e w' => e = .returned (.int .i64 ((n - 1) * 7)) ∧ w = w' := by
  go_enter Tryz.func233, Tryz.ntmps233
  go_wp2
  go_ret
  exact ⟨rfl, rfl⟩
theorem num_any (n : Int) (w : World) :
    Calls Tryz.prog 12 #[.int .i64 n] w fun e w' => e = .returned (.int .i64 n) ∧ w = w' := by
  go_enter Tryz.func12, Tryz.ntmps12
  go_wp2
  go_ret
  exact ⟨rfl, rfl⟩
theorem room_any (A : Value) (bits n : Int) (w : World) (h1 : 1 ≤ n) (h2 : n ≤ 10) (h3 : 1 ≤ bits) (h4 : bits ≤ 64) :
    Calls Tryz.prog 232 #[.agg #[A, .int .i64 bits], .int .i64 n] w fun e w' => e = .returned (.int .i64 (bits - (n - 1) * 7)) ∧ Below w.heap.size w w' := by
  go_enter Tryz.func232, Tryz.ntmps232
  go_wp2
  go_quiet ((go_at_call 233; exact Calls.quiet_of_same ((start_any _ _ h1 h2).mono fun _ _ ⟨a, b⟩ => ⟨a, b.symm⟩)))
  go_wp2
  go_ret
  exact ⟨rfl, below_drewN ((Below.refl _ _).alloc (Nat.le_refl _) _) _⟩
theorem below_any (A : Option Addr) (len cap : Nat) (f : Nat → Nat) (bits : Int) (n : Nat) (w : World) (hc : Bytes w w.heap.size A len f)
    (h1 : 1 ≤ n) (h2 : n ≤ 10) (h3 : n ≤ len) :
    Calls Tryz.prog 234 #[.agg #[.slice A len cap, .int .i64 bits], .int .i64 n] w fun e w' => e = .returned (.int .u64 (M.low f (n - 1) : Nat)) ∧ Below w.heap.size w w' := by
  go_enter Tryz.func234, Tryz.ntmps234
  go_wp2
  go_loop [5, 6] (fun v i => ∃ k : Nat, k + 1 ≤ n ∧ i = .int .i64 k ∧ v = .int .u64 (M.low f k : Nat)) (fun _ i => n - (intOf i).toNat)
  case atStart => exact ⟨0, by omega, rfl, rfl⟩
  case round =>
    obtain ⟨k, hk, rfl, rfl⟩ := hrel
    by_cases hlt : k + 1 < n
    · obtain ⟨ad, rfl, hb, hfk, hck⟩ := hc k (by omega)
      have hck : ∀ o, (w.alloc o).cell? (ad.add k) = some (.int .u8 (f k : Int)) := fun o => by
        rw [World.cell?_alloc_lt w o _ (by rw [addr_block]; exact hb)]; exact hck
      have hs := Lib.hid (M.low_step f k (by omega) hfk)
      clear hc
      go_wp2
      exact ⟨⟨k + 1, by omega, by go_num, by rw [hs.out]⟩, by simp [intOf]; omega⟩
    · go_wp2
      go_ret
      have e : n - 1 = k := by omega
      rw [e]
      exact ⟨rfl, (Below.refl _ _).alloc (Nat.le_refl _) _⟩
theorem length_any (A : Option Addr) (len cap : Nat) (f : Nat → Nat) (bits : Int) (w : World) (hc : Bytes w w.heap.size A len f) (hl : len ≤ maxLen)
    (h1 : 1 ≤ bits) (h2 : bits ≤ 64) :
    Calls Tryz.prog 231 #[.agg #[.slice A len cap, .int .i64 bits]] w fun e w' => e = .returned (.int .i64 (M.lenOf f (min len ((bits.toNat + 6) / 7)) : Nat)) ∧ Below w.heap.size w w' := by
  unfold maxLen at hl
  obtain ⟨b, rfl⟩ := Int.eq_ofNat_of_zero_le (show 0 ≤ bits by omega)
  rw [Int.toNat_natCast]
  go_enter Tryz.func231, Tryz.ntmps231
  go_wp2
  go_loop [2, 4] (fun r i => ∃ k : Nat, k ≤ min len ((b + 6) / 7) ∧ M.lenOf f k = 0 ∧ i = .int .i64 k ∧ r = .int .i64 0) (fun _ i => len - (intOf i).toNat)
  case atStart => exact ⟨0, by omega, rfl, rfl, rfl⟩
  case round =>
    obtain ⟨k, hk, hz, rfl, rfl⟩ := hrel
    have hz := Lib.hid hz
    by_cases hlt : k < min len ((b + 6) / 7)
    · obtain ⟨ad, rfl, hb, hfk, hck⟩ := hc k (by omega)
      have hck : ∀ o, (w.alloc o).cell? (ad.add k) = some (.int .u8 (f k : Int)) := fun o => by
        rw [World.cell?_alloc_lt w o _ (by rw [addr_block]; exact hb)]; exact hck
      clear hc
      by_cases hs : f k < 128
      · have ha := M.and128_lo (f k) hs
        have HR := Lib.hid (M.lenOf_stopped hz.out hs hlt)
        go_wp2
        go_ret
        exact ⟨by rw [HR.out]; rfl, (Below.refl _ _).alloc (Nat.le_refl _) _⟩
      · have ha := M.and128_hi (f k) hfk hs
        go_wp2
        exact ⟨⟨k + 1, by omega, M.lenOf_go hz.out hs, by go_num, rfl⟩, by simp [intOf]; omega⟩
    · have e : min len ((b + 6) / 7) = k := by omega
      have HE := Lib.hid (show M.lenOf f (min len ((b + 6) / 7)) = 0 by rw [e]; exact hz.out)
      clear e
      by_cases h7 : k < (b + 6) / 7
      all_goals
        go_wp2
        go_ret
        exact ⟨by rw [HE.out]; rfl, (Below.refl _ _).alloc (Nat.le_refl _) _⟩
theorem length_no (A : Option Addr) (len cap : Nat) (bits : Int) (w : World) (h : bits < 1 ∨ 64 < bits) :
    Calls Tryz.prog 231 #[.agg #[.slice A len cap, .int .i64 bits]] w fun e w' => e = .returned (.int .i64 0) ∧ Below w.heap.size w w' := by
  rcases h with h | h
  all_goals
    go_enter Tryz.func231, Tryz.ntmps231
    go_wp2
    go_ret
    exact ⟨rfl, (Below.refl _ _).alloc (Nat.le_refl _) _⟩
theorem unsigned_any (A : Option Addr) (len cap : Nat) (f : Nat → Nat) (b n : Nat) (w : World) (hc : Bytes w w.heap.size A len f)
    (h1 : 1 ≤ n) (h2 : n ≤ 10) (h3 : n ≤ len) (hl : f (n - 1) < 128) (hb1 : (n - 1) * 7 < b) (hb2 : b ≤ 64) (hlt : M.low f n < 2 ^ b) :
    Calls Tryz.prog 210 #[.agg #[.slice A len cap, .int .i64 b], .int .i64 n] w fun e w' => e = .returned (.tuple #[.int .u64 (M.low f n : Nat), .bool true]) ∧ Below w.heap.size w w' := by
  obtain ⟨ad, rfl, hb, hfk, hck⟩ := hc (n - 1) (by omega)
  have hck : ∀ o, (w.alloc o).cell? (ad.add (n - 1)) = some (.int .u8 (f (n - 1) : Int)) := fun o => by
    rw [World.cell?_alloc_lt w o _ (by rw [addr_block]; exact hb)]; exact hck
  have ht : ((f (n - 1) : Int) / 2 ^ (b - (n - 1) * 7) != 0) = false := by
    rw [M.div_zero_iff]; have := (M.fits f n b h1 hl hb1).1 hlt; simpa using this
  have HJ := Lib.hid (M.u_join f n b h1 hl hb2 hlt)
  rw [← show (((n : Int) - 1) * 7).toNat = (n - 1) * 7 by omega] at HJ
  have hc := Lib.hid hc
  clear hlt
  go_enter Tryz.func210, Tryz.ntmps210
  go_wp2_with fail
  refine (room_any _ _ _ _ (by omega) (by omega) (by omega) (by omega)).mono ?_
  rintro e w1 ⟨rfl, hw1⟩
  have q0 : w1.cell? ⟨w.heap.size, 0, none⟩ = some (.slice (some ad) len cap) := by rw [hw1.cell (p := ⟨w.heap.size, 0, none⟩) (by simp)]; simp
  have q1 : w1.cell? ⟨w.heap.size, 1, none⟩ = some (.int .i64 b) := by rw [hw1.cell (p := ⟨w.heap.size, 1, none⟩) (by simp)]; simp
  have hz : w.heap.size < w1.heap.size := by have := hw1.size; simp at this; omega
  have hbw : Below w.heap.size w w1 := ((Below.refl _ _).alloc (Nat.le_refl _) _).trans (hw1.mono (by simp))
  clear hck hw1
  go_wp2_with fail
  go_region_held3 (fun w' => w'.cell? ⟨w.heap.size, 0, none⟩ = some (.slice (some ad) len cap) ∧ w'.cell? ⟨w.heap.size, 1, none⟩ = some (.int .i64 b) ∧ Below w.heap.size w w' ∧ w.heap.size < w'.heap.size)
    (first | exact ⟨q0, q1, hbw.drew, hz⟩ | assumption | (go_split_ands; refine ⟨?_, ?_, ?_, ?_⟩; (rw [hw2.cell (p := ⟨w.heap.size, 0, none⟩) (by assumption)]; assumption); (rw [hw2.cell (p := ⟨w.heap.size, 1, none⟩) (by assumption)]; assumption); exact Below.trans (by assumption) (hw2.mono (by omega)); (have := hw2.size; omega)))
    (first
      | (go_at_call 233; refine (start_any _ _ (by omega) (by omega)).mono ?_; rintro e w2 ⟨rfl, rfl⟩)
      | (go_at_call 234; refine (below_any _ _ _ f _ _ _ ?_ (by omega) (by omega) (by omega)).mono ?_; (exact hc.out.later hbw.drew); rintro e w2 ⟨rfl, hw2⟩))
  go_wp2
  go_ret2
  refine ⟨?_, hbw.drew.trans (hw2.mono (Nat.le_of_lt hz))⟩
  have h := HJ.out
  exact congrArg (fun x => Ending.returned (.tuple #[.int .u64 x, .bool true])) h
theorem unsigned_no (A : Option Addr) (len cap : Nat) (f : Nat → Nat) (b n : Nat) (w : World) (hc : Bytes w w.heap.size A len f)
    (h1 : 1 ≤ n) (h2 : n ≤ 10) (h3 : n ≤ len) (hl : f (n - 1) < 128) (hb1 : (n - 1) * 7 < b) (hb2 : b ≤ 64) (hlt : ¬ M.low f n < 2 ^ b) :
    Calls Tryz.prog 210 #[.agg #[.slice A len cap, .int .i64 b], .int .i64 n] w fun e w' => e = .returned (.tuple #[.int .u64 0, .bool false]) ∧ Below w.heap.size w w' := by
  obtain ⟨ad, rfl, hb, hfk, hck⟩ := hc (n - 1) (by omega)
  have hck : ∀ o, (w.alloc o).cell? (ad.add (n - 1)) = some (.int .u8 (f (n - 1) : Int)) := fun o => by
    rw [World.cell?_alloc_lt w o _ (by rw [addr_block]; exact hb)]; exact hck
  have ht : ((f (n - 1) : Int) / 2 ^ (b - (n - 1) * 7) != 0) = true := by
    rw [M.div_zero_iff]; rw [M.fits f n b h1 hl hb1] at hlt; simpa using hlt
  clear hlt hc
  go_enter Tryz.func210, Tryz.ntmps210
  go_wp2_with fail
  refine (room_any _ _ _ _ (by omega) (by omega) (by omega) (by omega)).mono ?_
  rintro e w1 ⟨rfl, hw1⟩
  have hbw : Below w.heap.size w w1 := ((Below.refl _ _).alloc (Nat.le_refl _) _).trans (hw1.mono (by simp))
  clear hck hw1
  go_wp2
  go_ret2
  exact ⟨rfl, hbw⟩
/-- The bytes are those of an unsigned number of b bits, n bytes long. -/
def UOk (f : Nat → Nat) (len b n : Nat) : Prop := M.lenOf f (min len ((b + 6) / 7)) = n ∧ n ≠ 0 ∧ M.low f n < 2 ^ b
theorem read_u_yes (A : Option Addr) (len cap : Nat) (f : Nat → Nat) (b n : Nat) (w : World) (hc : Bytes w w.heap.size A len f) (hl : len ≤ maxLen) (hb1 : 1 ≤ b) (hb2 : b ≤ 64) (h : UOk f len b n) :
    Calls Tryz.prog 209 #[.agg #[.slice A len cap, .int .i64 b], .func (.func 210) #[.agg #[.slice A len cap, .int .i64 b]] #[]] w
      fun e w' => e = .returned (.tuple #[.int .u64 (M.low f n : Nat), .int .i64 n, .int .i64 0]) ∧ Below w.heap.size w w' := by
  obtain ⟨rfl, hn, hlt⟩ := h
  obtain ⟨g1, g2, g3, _⟩ := M.lenOf_spec f _ hn
  have hne : (((M.lenOf f (min len ((b + 6) / 7)) : Nat) : Int) == 0) = false := by simpa using hn
  generalize hG : M.lenOf f (min len ((b + 6) / 7)) = n at *
  have HG := Lib.hid hG
  have HC := Lib.hid hc
  have HL := Lib.hid hlt
  clear hG hc hlt
  go_enter Tryz.func209, Tryz.ntmps209
  go_wp2_with fail
  refine (length_any A len cap f b _ (HC.out.later ((Below.refl _ _).alloc (Nat.le_refl _) _)) hl (by omega) (by omega)).mono ?_
  rintro e w1 ⟨rfl, hw1⟩
  rw [Int.toNat_natCast, HG.out]
  have hbw : Below w.heap.size w w1 := ((Below.refl _ _).alloc (Nat.le_refl _) _).trans (hw1.mono (by simp))
  clear hw1
  go_wp2_with fail
  refine (unsigned_any A len cap f b n _ (HC.out.later hbw) (by omega) (by omega) (by omega) g3 (by omega) hb2 HL.out).mono ?_
  rintro e w2 ⟨rfl, hw2⟩
  go_wp2
  go_ret3
  exact ⟨rfl, hbw.trans (hw2.mono hbw.size)⟩
theorem read_u_no (A : Option Addr) (len cap : Nat) (f : Nat → Nat) (b : Nat) (w : World) (hc : Bytes w w.heap.size A len f) (hl : len ≤ maxLen) (hb1 : 1 ≤ b) (hb2 : b ≤ 64) (h : ∀ n, ¬ UOk f len b n) :
    Calls Tryz.prog 209 #[.agg #[.slice A len cap, .int .i64 b], .func (.func 210) #[.agg #[.slice A len cap, .int .i64 b]] #[]] w
      fun e w' => e = .returned (.tuple #[.int .u64 0, .int .i64 0, .int .i64 100]) ∧ Below w.heap.size w w' := by
  by_cases hn : M.lenOf f (min len ((b + 6) / 7)) = 0
  · have HG := Lib.hid hn
    have HC := Lib.hid hc
    clear hn hc h
    go_enter Tryz.func209, Tryz.ntmps209
    go_wp2_with fail
    refine (length_any A len cap f b _ (HC.out.later ((Below.refl _ _).alloc (Nat.le_refl _) _)) hl (by omega) (by omega)).mono ?_
    rintro e w1 ⟨rfl, hw1⟩
    rw [Int.toNat_natCast, HG.out]
    have hbw : Below w.heap.size w w1 := ((Below.refl _ _).alloc (Nat.le_refl _) _).trans (hw1.mono (by simp))
    clear hw1
    go_wp2
    go_ret3
    exact ⟨rfl, hbw⟩
  · obtain ⟨g1, g2, g3, _⟩ := M.lenOf_spec f _ hn
    have hne : (((M.lenOf f (min len ((b + 6) / 7)) : Nat) : Int) == 0) = false := by simpa using hn
    have hlt : ¬ M.low f (M.lenOf f (min len ((b + 6) / 7))) < 2 ^ b := fun hh => h _ ⟨rfl, hn, hh⟩
    clear h
    generalize hG : M.lenOf f (min len ((b + 6) / 7)) = n at *
    have HG := Lib.hid hG
    have HC := Lib.hid hc
    have HL := Lib.hid hlt
    clear hG hc hlt
    go_enter Tryz.func209, Tryz.ntmps209
    go_wp2_with fail
    refine (length_any A len cap f b _ (HC.out.later ((Below.refl _ _).alloc (Nat.le_refl _) _)) hl (by omega) (by omega)).mono ?_
    rintro e w1 ⟨rfl, hw1⟩
    rw [Int.toNat_natCast, HG.out]
    have hbw : Below w.heap.size w w1 := ((Below.refl _ _).alloc (Nat.le_refl _) _).trans (hw1.mono (by simp))
    clear hw1
    go_wp2_with fail
    refine (unsigned_no A len cap f b n _ (HC.out.later hbw) (by omega) (by omega) (by omega) g3 (by omega) hb2 HL.out).mono ?_
    rintro e w2 ⟨rfl, hw2⟩
    go_wp2
    go_ret3
    exact ⟨rfl, hbw.trans (hw2.mono hbw.size)⟩
theorem read_u_bad (A : Option Addr) (len cap : Nat) (b : Int) (F : Value) (w : World) (h : b < 1 ∨ 64 < b) :
    Calls Tryz.prog 209 #[.agg #[.slice A len cap, .int .i64 b], F] w
      fun e w' => e = .returned (.tuple #[.int .u64 0, .int .i64 0, .int .i64 100]) ∧ Below w.heap.size w w' := by
  go_enter Tryz.func209, Tryz.ntmps209
  go_wp2_with fail
  refine (length_no A len cap b _ h).mono ?_
  rintro e w1 ⟨rfl, hw1⟩
  have hbw : Below w.heap.size w w1 := ((Below.refl _ _).alloc (Nat.le_refl _) _).trans (hw1.mono (by simp))
  clear hw1
  go_wp2
  go_ret3
  exact ⟨rfl, hbw⟩
theorem Uint_yes (A : Option Addr) (len cap : Nat) (f : Nat → Nat) (b n : Nat) (w : World) (hc : Bytes w w.heap.size A len f) (hl : len ≤ maxLen) (hb1 : 1 ≤ b) (hb2 : b ≤ 64) (h : UOk f len b n) :
    Calls Tryz.prog 198 #[.slice A len cap, .int .i64 b] w fun e w' => e = .returned (.tuple #[.int .u64 (M.low f n : Nat), .int .i64 n, .int .i64 0]) ∧ Below w.heap.size w w' := by
  have h := Lib.hid h
  have hc := Lib.hid hc
  go_enter Tryz.func198, Tryz.ntmps198
  go_wp2_with fail
  refine (read_u_yes A len cap f b n _ (hc.out.later ((Below.refl _ _).alloc (Nat.le_refl _) _)) hl hb1 hb2 h.out).mono ?_
  rintro e w1 ⟨rfl, hw1⟩
  have hbw : Below w.heap.size w w1 := ((Below.refl _ _).alloc (Nat.le_refl _) _).trans (hw1.mono (by simp))
  clear hw1
  go_wp2
  go_ret3
  exact ⟨rfl, hbw⟩
theorem Uint_no (A : Option Addr) (len cap : Nat) (f : Nat → Nat) (b : Nat) (w : World) (hc : Bytes w w.heap.size A len f) (hl : len ≤ maxLen) (hb1 : 1 ≤ b) (hb2 : b ≤ 64) (h : ∀ n, ¬ UOk f len b n) :
    Calls Tryz.prog 198 #[.slice A len cap, .int .i64 b] w fun e w' => e = .returned (.tuple #[.int .u64 0, .int .i64 0, .int .i64 100]) ∧ Below w.heap.size w w' := by
  have h := Lib.hid h
  have hc := Lib.hid hc
  go_enter Tryz.func198, Tryz.ntmps198
  go_wp2_with fail
  refine (read_u_no A len cap f b _ (hc.out.later ((Below.refl _ _).alloc (Nat.le_refl _) _)) hl hb1 hb2 h.out).mono ?_
  rintro e w1 ⟨rfl, hw1⟩
  have hbw : Below w.heap.size w w1 := ((Below.refl _ _).alloc (Nat.le_refl _) _).trans (hw1.mono (by simp))
  clear hw1
  go_wp2
  go_ret3
  exact ⟨rfl, hbw⟩
theorem Uint_bad (A : Option Addr) (len cap : Nat) (b : Int) (w : World) (h : b < 1 ∨ 64 < b) :
    Calls Tryz.prog 198 #[.slice A len cap, .int .i64 b] w fun e w' => e = .returned (.tuple #[.int .u64 0, .int .i64 0, .int .i64 100]) ∧ Below w.heap.size w w' := by
  go_enter Tryz.func198, Tryz.ntmps198
  go_wp2_with fail
  refine (read_u_bad A len cap b _ _ h).mono ?_
  rintro e w1 ⟨rfl, hw1⟩
  have hbw : Below w.heap.size w w1 := ((Below.refl _ _).alloc (Nat.le_refl _) _).trans (hw1.mono (by simp))
  clear hw1
  go_wp2
  go_ret3
  exact ⟨rfl, hbw⟩
end Go.Proofs.YtmejgbbdehndaaaGreat
