/-
  How many bits are 1, as the library counts them (neighbours summed up in parallel), is their number; plain mathematics, no program.
-/
import Derived.Test.YtpnimgecfmpipaaDoorMathU
namespace Go.Proofs.YtpnimgecfmpipaaDoor.M
/-- Bytes, the lowest first, as a number. -/
def byt : List Nat → Nat
  | [] => 0
  | l :: t => 256 * byt t + l
def msk (m : Nat) : Nat → Nat
  | 0 => 0
  | n + 1 => 256 * msk m n + m
def b1 (l : Nat) : Nat := (l / 2 &&& 85) + (l &&& 85)
def b2 (l : Nat) : Nat := (l / 4 &&& 51) + (l &&& 51)
def b3 (l : Nat) : Nat := (l / 16 + l) &&& 15
theorem and_split (h l mh ml : Nat) (hl : l < 256) (hm : ml < 256) : (256 * h + l) &&& (256 * mh + ml) = 256 * (h &&& mh) + (l &&& ml) := by
  have e1 : ((256 * h + l) &&& (256 * mh + ml)) / 2 ^ 8 = h &&& mh := by
    rw [Nat.and_div_two_pow, show (256 * h + l) / 2 ^ 8 = h by omega, show (256 * mh + ml) / 2 ^ 8 = mh by omega]
  have e2 : ((256 * h + l) &&& (256 * mh + ml)) % 2 ^ 8 = l &&& ml := by
    rw [Nat.and_mod_two_pow, show (256 * h + l) % 2 ^ 8 = l by omega, show (256 * mh + ml) % 2 ^ 8 = ml by omega]
  generalize (256 * h + l) &&& (256 * mh + ml) = z at e1 e2
  generalize h &&& mh = p at e1
  generalize l &&& ml = q at e2
  omega
theorem t1 : ∀ (c : Fin 2) (r : Fin 128), (128 * c.val + r.val) &&& 85 = r.val &&& 85 := by decide +kernel
theorem t2 : ∀ (c : Fin 4) (r : Fin 64), (64 * c.val + r.val) &&& 51 = r.val &&& 51 := by decide +kernel
theorem t3 : ∀ (c : Fin 5) (r : Fin 69), (16 * c.val + (r.val / 16 + r.val)) &&& 15 = (r.val / 16 + r.val) &&& 15 := by decide +kernel
theorem step1 : ∀ ls : List Nat, (∀ l ∈ ls, l < 256) → (byt ls / 2 &&& msk 85 ls.length) + (byt ls &&& msk 85 ls.length) = byt (ls.map b1)
  | [], _ => by simp [byt, msk]
  | l :: t, h => by
    have hl : l < 256 := h l (by simp)
    have ih := step1 t (fun x hx => h x (by simp [hx]))
    have e : (256 * byt t + l) / 2 = 256 * (byt t / 2) + (128 * (byt t % 2) + l / 2) := by omega
    have a := t1 ⟨byt t % 2, by omega⟩ ⟨l / 2, by omega⟩
    simp only at a
    simp only [byt, msk, List.length_cons, List.map_cons]
    rw [e, and_split _ _ _ _ (by omega) (by decide), and_split _ _ _ _ hl (by decide), a, ← ih]
    unfold b1
    omega
theorem step2 : ∀ ls : List Nat, (∀ l ∈ ls, l < 256) → (byt ls / 4 &&& msk 51 ls.length) + (byt ls &&& msk 51 ls.length) = byt (ls.map b2)
  | [], _ => by simp [byt, msk]
  | l :: t, h => by
    have hl : l < 256 := h l (by simp)
    have ih := step2 t (fun x hx => h x (by simp [hx]))
    have e : (256 * byt t + l) / 4 = 256 * (byt t / 4) + (64 * (byt t % 4) + l / 4) := by omega
    have a := t2 ⟨byt t % 4, by omega⟩ ⟨l / 4, by omega⟩
    simp only at a
    simp only [byt, msk, List.length_cons, List.map_cons]
    rw [e, and_split _ _ _ _ (by omega) (by decide), and_split _ _ _ _ hl (by decide), a, ← ih]
    unfold b2
    omega
theorem low16 : ∀ ls : List Nat, (∀ l ∈ ls, l ≤ 68 ∧ l % 16 ≤ 4) → byt ls % 16 ≤ 4
  | [], _ => by simp [byt]
  | l :: t, h => by
    have hl := h l (by simp)
    simp only [byt]
    omega
theorem step3 : ∀ ls : List Nat, (∀ l ∈ ls, l ≤ 68 ∧ l % 16 ≤ 4) → (byt ls / 16 + byt ls) &&& msk 15 ls.length = byt (ls.map b3)
  | [], _ => by simp [byt, msk]
  | l :: t, h => by
    have hl := h l (by simp)
    have ht : ∀ x ∈ t, x ≤ 68 ∧ x % 16 ≤ 4 := fun x hx => h x (by simp [hx])
    have ih := step3 t ht
    have h4 := low16 t ht
    have e : (256 * byt t + l) / 16 + (256 * byt t + l) = 256 * (byt t / 16 + byt t) + (16 * (byt t % 16) + (l / 16 + l)) := by omega
    have a := t3 ⟨byt t % 16, by omega⟩ ⟨l, by omega⟩
    simp only at a
    simp only [byt, msk, List.length_cons, List.map_cons]
    rw [e, and_split _ _ _ _ (by omega) (by decide), a, ih]
    rfl
theorem byt_lt : ∀ ls : List Nat, (∀ l ∈ ls, l < 256) → byt ls < 256 ^ ls.length
  | [], _ => by simp [byt]
  | l :: t, h => by
    have hl : l < 256 := h l (by simp)
    have ih := byt_lt t (fun x hx => h x (by simp [hx]))
    simp only [byt, List.length_cons, Nat.pow_succ]
    omega
theorem per_byte : ∀ l : Fin 256, b1 l.val < 256 ∧ b2 (b1 l.val) ≤ 68 ∧ b2 (b1 l.val) % 16 ≤ 4 ∧ b3 (b2 (b1 l.val)) = onesTo l.val 8 := by decide +kernel
/-- The eight bytes of a number. -/
def digs (X : Nat) : List Nat := [X % 256, X / 256 % 256, X / 65536 % 256, X / 16777216 % 256, X / 4294967296 % 256, X / 1099511627776 % 256, X / 281474976710656 % 256, X / 72057594037927936 % 256]
theorem byt_digs (X : Nat) (h : X < 18446744073709551616) : byt (digs X) = X := by
  simp only [byt, digs]
  omega
theorem digs_lt (X : Nat) : ∀ l ∈ digs X, l < 256 := by
  intro l hl
  simp only [digs, List.mem_cons, List.not_mem_nil, or_false] at hl
  rcases hl with rfl | rfl | rfl | rfl | rfl | rfl | rfl | rfl <;> exact Nat.mod_lt _ (by decide)
theorem msk_85 : msk 85 8 = 6148914691236517205 := by decide
theorem msk_51 : msk 51 8 = 3689348814741910323 := by decide
theorem msk_15 : msk 15 8 = 1085102592571150095 := by decide
theorem sums (p0 p1 p2 p3 p4 p5 p6 p7 : Nat) (h0 : p0 ≤ 8) (h1 : p1 ≤ 8) (h2 : p2 ≤ 8) (h3 : p3 ≤ 8) (h4 : p4 ≤ 8) (h5 : p5 ≤ 8) (h6 : p6 ≤ 8) (h7 : p7 ≤ 8) (x y z : Nat)
    (hx : x = byt [p0, p1, p2, p3, p4, p5, p6, p7] + byt [p0, p1, p2, p3, p4, p5, p6, p7] / 256) (hy : y = x + x / 65536) (hz : z = y + y / 4294967296) :
    x < 18446744073709551616 ∧ y < 18446744073709551616 ∧ z < 18446744073709551616 ∧ z % 128 = p0 + p1 + p2 + p3 + p4 + p5 + p6 + p7 := by
  simp only [byt] at hx
  have ex : x = (p0 + p1) + 256 * (p1 + p2) + 65536 * (p2 + p3) + 16777216 * (p3 + p4) + 4294967296 * (p4 + p5) + 1099511627776 * (p5 + p6) + 281474976710656 * (p6 + p7) + 72057594037927936 * p7 := by omega
  clear hx
  obtain ⟨q0, e0⟩ : ∃ q, p0 + p1 = q := ⟨_, rfl⟩
  obtain ⟨q1, e1⟩ : ∃ q, p1 + p2 = q := ⟨_, rfl⟩
  obtain ⟨q2, e2⟩ : ∃ q, p2 + p3 = q := ⟨_, rfl⟩
  obtain ⟨q3, e3⟩ : ∃ q, p3 + p4 = q := ⟨_, rfl⟩
  obtain ⟨q4, e4⟩ : ∃ q, p4 + p5 = q := ⟨_, rfl⟩
  obtain ⟨q5, e5⟩ : ∃ q, p5 + p6 = q := ⟨_, rfl⟩
  obtain ⟨q6, e6⟩ : ∃ q, p6 + p7 = q := ⟨_, rfl⟩
  rw [e0, e1, e2, e3, e4, e5, e6] at ex
  have ey : y = (q0 + q2) + 256 * (q1 + q3) + 65536 * (q2 + q4) + 16777216 * (q3 + q5) + 4294967296 * (q4 + q6) + 1099511627776 * (q5 + p7) + 281474976710656 * q6 + 72057594037927936 * p7 := by omega
  have b0 : q0 ≤ 16 ∧ q1 ≤ 16 ∧ q2 ≤ 16 ∧ q3 ≤ 16 ∧ q4 ≤ 16 ∧ q5 ≤ 16 ∧ q6 ≤ 16 := by omega
  have hs : q0 + q2 + (q4 + q6) = p0 + p1 + p2 + p3 + p4 + p5 + p6 + p7 := by omega
  have hx1 : x < 18446744073709551616 := by omega
  rw [← hs]
  clear hs e0 e1 e2 e3 e4 e5 e6 h0 h1 h2 h3 h4 h5 h6 ex hy
  refine ⟨hx1, ?_⟩
  clear hx1
  obtain ⟨r0, f0⟩ : ∃ q, q0 + q2 = q := ⟨_, rfl⟩
  obtain ⟨r4, f4⟩ : ∃ q, q4 + q6 = q := ⟨_, rfl⟩
  obtain ⟨lo, hlo⟩ : ∃ t, (q1 + q3) + 256 * (q2 + q4) + 65536 * (q3 + q5) = t := ⟨_, rfl⟩
  obtain ⟨hi, hhi⟩ : ∃ t, (q5 + p7) + 256 * q6 + 65536 * p7 = t := ⟨_, rfl⟩
  have g1 : lo ≤ 2105376 := by omega
  have g2 : hi ≤ 1000000 := by omega
  have g3 : r0 ≤ 32 ∧ r4 ≤ 32 := by omega
  have ey2 : y = r0 + 256 * lo + 4294967296 * (r4 + 256 * hi) := by omega
  rw [f0, f4]
  clear ey hlo hhi f0 f4 b0 h7
  have ez : y / 4294967296 = r4 + 256 * hi := by omega
  rw [ez] at hz
  omega
/-- The library's count of the bits that are 1. -/
theorem swar (X : Nat) (h : X < 18446744073709551616) : ∃ x1 x2 x3 y1 y2 y3 : Nat,
    (X / 2 &&& 6148914691236517205) + (X &&& 6148914691236517205) = x1 ∧ (x1 / 4 &&& 3689348814741910323) + (x1 &&& 3689348814741910323) = x2 ∧
    (x2 / 16 + x2) &&& 1085102592571150095 = x3 ∧ x3 + x3 / 256 = y1 ∧ y1 + y1 / 65536 = y2 ∧ y2 + y2 / 4294967296 = y3 ∧
    x1 < 18446744073709551616 ∧ x2 < 18446744073709551616 ∧ x2 / 16 + x2 < 18446744073709551616 ∧ x3 < 18446744073709551616 ∧ y1 < 18446744073709551616 ∧ y2 < 18446744073709551616 ∧ y3 < 18446744073709551616 ∧ y3 % 128 = onesTo X 64 := by
  have hd := digs_lt X
  have hb := byt_digs X h
  have hl : (digs X).length = 8 := rfl
  have hP : ∀ l ∈ digs X, b1 l < 256 ∧ b2 (b1 l) ≤ 68 ∧ b2 (b1 l) % 16 ≤ 4 ∧ b3 (b2 (b1 l)) = onesTo l 8 := fun l hl => per_byte ⟨l, hd l hl⟩
  have s1 := step1 (digs X) hd
  rw [hl, msk_85, hb] at s1
  have h1 : ∀ l ∈ (digs X).map b1, l < 256 := by
    intro l hl
    obtain ⟨x, hx, rfl⟩ := List.mem_map.1 hl
    exact (hP x hx).1
  have s2 := step2 ((digs X).map b1) h1
  rw [List.length_map, hl, msk_51] at s2
  have h2 : ∀ l ∈ ((digs X).map b1).map b2, l ≤ 68 ∧ l % 16 ≤ 4 := by
    intro l hl
    obtain ⟨y, hy, rfl⟩ := List.mem_map.1 hl
    obtain ⟨x, hx, rfl⟩ := List.mem_map.1 hy
    exact ⟨(hP x hx).2.1, (hP x hx).2.2.1⟩
  have s3 := step3 (((digs X).map b1).map b2) h2
  rw [List.length_map, List.length_map, hl, msk_15] at s3
  have k1 : byt ((digs X).map b1) < 18446744073709551616 := by
    have := byt_lt _ h1
    rw [List.length_map, hl] at this
    exact this
  have k2 : byt (((digs X).map b1).map b2) < 4919131752989213765 := by
    have c := h2
    simp only [digs, List.map_cons, List.map_nil, List.mem_cons, List.not_mem_nil, or_false, forall_eq_or_imp, forall_eq] at c
    simp only [digs, List.map_cons, List.map_nil, byt]
    omega
  have e3 : (((digs X).map b1).map b2).map b3 = (digs X).map fun l => onesTo l 8 := by
    rw [List.map_map, List.map_map]
    exact List.map_congr_left fun l hl => (hP l hl).2.2.2
  rw [e3] at s3
  have o (Y : Nat) : onesTo (Y % 256) 8 ≤ 8 := ones_le _ _
  obtain ⟨g1, g2, g3, g4⟩ := sums (onesTo (X % 256) 8) (onesTo (X / 256 % 256) 8) (onesTo (X / 65536 % 256) 8) (onesTo (X / 16777216 % 256) 8) (onesTo (X / 4294967296 % 256) 8) (onesTo (X / 1099511627776 % 256) 8) (onesTo (X / 281474976710656 % 256) 8) (onesTo (X / 72057594037927936 % 256) 8)
    (o _) (o _) (o _) (o _) (o _) (o _) (o _) (o _) _ _ _ rfl rfl rfl
  refine ⟨_, _, _, _, _, _, s1, s2, s3, rfl, rfl, rfl, k1, by omega, by omega, ?_, g1, g2, g3, ?_⟩
  · exact Nat.lt_of_le_of_lt (Nat.le_add_right _ _) g1
  · refine g4.trans ?_
    rw [ones_unroll, ones8_mod X, ones8_mod (X / 256), ones8_mod (X / 65536), ones8_mod (X / 16777216), ones8_mod (X / 4294967296), ones8_mod (X / 1099511627776), ones8_mod (X / 281474976710656), ones8_mod (X / 72057594037927936)]
end Go.Proofs.YtpnimgecfmpipaaDoor.M
