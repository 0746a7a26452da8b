/-
  What the program's writers of an instruction's parts, of an instruction and of a list write; condition: the text lies in memory from B on, the instructions below B, and they may be.
-/
import Derived.Test.YtjapcalndolamaaText
namespace Go.Proofs.Ytjapcalndolamaa
open Go.RowKit
namespace M
/-- One part, written. -/
def wr (k : Nat) (h : Hd) (b e : L) : List Nat :=
  match k with
  | 0 => [h.ty.toNat]
  | 1 => U h.labels.length ++ Us h.labels
  | 2 => U h.ix
  | 3 => U h.al
  | 4 => U h.ofs
  | 5 => [0]
  | 6 => S h.val
  | 7 => enc b
  | 8 => (match e with | .nil => [] | .cons .. => 5 :: enc e)
  | 9 => [11]
  | _ => []
def wrAll (m : Nat) (h : Hd) (b e : L) : Nat → List Nat
  | 0 => []
  | n + 1 => (if hasB m (9 - n) then wr (9 - n) h b e else []) ++ wrAll m h b e n
theorem wr_at (m k : Nat) (h : Hd) (b e : L) (hk : k < 10) : wrAll m h b e (10 - k) = (if hasB m k then wr k h b e else []) ++ wrAll m h b e (10 - (k + 1)) := by
  obtain ⟨n, hn⟩ : ∃ n, 10 - k = n + 1 := ⟨9 - k, by omega⟩
  rw [hn, wrAll, show 9 - n = k by omega, show 10 - (k + 1) = n by omega]
theorem wr_all (h : Hd) (b e : L) (hk : kind h.op ≠ 0) (he : h.op ≠ 4 → e = .nil) : wrAll (mask h.op) h b e 10 = tailOf h b e := by
  rcases kind_cases h.op with k | k | k | k | k | k | k | k | k | k
  · exact absurd k hk
  all_goals rw [mask_of k, tail_of k]
  case inr.inr.inl =>
    by_cases h4 : h.op = 4
    · simp only [maskK, if_pos h4, tailK]
      cases e <;> simp [wrAll, hasB, wr]
    · have := he h4
      subst this
      simp only [maskK, if_neg h4, tailK]
      simp [wrAll, hasB, wr]
  all_goals simp [maskK, tailK, wrAll, hasB, wr]
/-- What a part that is written asks of the numbers. -/
def partOk (k : Nat) (h : Hd) : Prop :=
  match k with
  | 0 => tyOk h.ty
  | 1 => ∀ x ∈ h.labels, inR x
  | 2 => inR h.ix
  | 3 => inR h.al
  | 4 => inR h.ofs
  | _ => True
theorem part_ok {h : Hd} (hf : flat h) (k : Nat) (hk : hasB (mask h.op) k = true) (hk10 : k < 10) : partOk k h := by
  have hks : k = 0 ∨ k = 1 ∨ k = 2 ∨ k = 3 ∨ k = 4 ∨ 5 ≤ k := by omega
  rcases kind_cases h.op with q | q | q | q | q | q | q | q | q | q
  all_goals have hf' := flat_to q hf
  all_goals rw [mask_of q] at hk
  · exact absurd hf' (by simp [flatK])
  all_goals rcases hks with rfl | rfl | rfl | rfl | rfl | h5
  all_goals first
    | (simp only [partOk]; trivial)
    | (have : ∃ j, k = j + 5 := ⟨k - 5, by omega⟩; obtain ⟨j, rfl⟩ := this; simp only [partOk])
    | (exfalso; revert hk; simp [maskK, hasB]; done)
    | (exfalso; revert hk; simp only [maskK]; split <;> simp [hasB]; done)
    | exact hf'.2
    | exact hf'.2.1
    | exact hf'.2.2
theorem take_drop (l : L) : ∀ k, (L.take k l).app (L.drop k l) = l := by
  induction l with
  | nil => intro k; cases k <;> rfl
  | cons h b e r _ _ ih =>
    intro k
    cases k with
    | zero => rfl
    | succ k => show L.cons h b e ((L.take k r).app (L.drop k r)) = _; rw [ih]
theorem enc_take (l : L) (k : Nat) : (enc (L.take k l)).length ≤ (enc l).length := by
  have := congrArg enc (take_drop l k)
  rw [enc_app] at this
  rw [← this, List.length_append]
  omega
theorem U_nat (n : Nat) : U (n : Int) = putU 10 n := by unfold U; rw [Int.toNat_natCast]
end M
theorem TextAt.later {B : Nat} {w w' : World} {P : Nat} {out : List Nat} (h : TextAt B w P out) (hb : Below w.heap.size w w') : TextAt B w' P out := h.imp fun _ h => h.later hb
theorem TextAt.hB {B : Nat} {w : World} {P : Nat} {out : List Nat} (h : TextAt B w P out) : B ≤ P ∧ P < w.heap.size := by obtain ⟨vb, h⟩ := h; exact ⟨TextV.hB h, h.lt⟩
set_option maxRecDepth 100000 in
theorem tindex_any (B : Nat) (w : World) (P : Nat) (out : List Nat) (h : M.Hd) (b e : M.L) (vL vB vE : Value) (g o : Nat) (ht : TextAt B w P out) (hi : ItemAt w g o h vL vB vE) (hp : M.partOk 2 h) (hl : out.length + (M.wr 2 h b e).length ≤ 1000000) :
    Calls Try.prog 60 #[.pointer (some ⟨P, 0, none⟩), .pointer (some ⟨g, o, none⟩)] w (WPostT B P (out ++ M.wr 2 h b e) w) := by
  have hc := hi.c2
  obtain ⟨x, hx⟩ := Int.eq_ofNat_of_zero_le (show 0 ≤ h.ix from (show M.inR h.ix from hp).1)
  have hx2 : x < 4294967296 := by have := (show M.inR h.ix from hp).2; omega
  have hw : M.wr 2 h b e = M.putU 10 x := by show M.U h.ix = _; rw [hx, M.U_nat]
  rw [hw] at hl ⊢
  rw [hx] at hc
  replace hx := Lib.hid hx
  replace ht := Lib.hid ht
  replace hw := Lib.hid hw
  go_enter Try.func60, Try.ntmps60
  go_wp2_with fail
  refine (tnumber_any B _ P out x ht.out (by omega) hl).mono ?_
  rintro e1 w1 ⟨rfl, t1, b1⟩
  replace t1 := Lib.hid t1
  replace b1 := Lib.hid b1
  go_wp2_with fail
  go_end0
  exact ⟨rfl, t1.out, b1.out⟩
set_option maxRecDepth 100000 in
theorem talign_any (B : Nat) (w : World) (P : Nat) (out : List Nat) (h : M.Hd) (b e : M.L) (vL vB vE : Value) (g o : Nat) (ht : TextAt B w P out) (hi : ItemAt w g o h vL vB vE) (hp : M.partOk 3 h) (hl : out.length + (M.wr 3 h b e).length ≤ 1000000) :
    Calls Try.prog 61 #[.pointer (some ⟨P, 0, none⟩), .pointer (some ⟨g, o, none⟩)] w (WPostT B P (out ++ M.wr 3 h b e) w) := by
  have hc := hi.c3
  obtain ⟨x, hx⟩ := Int.eq_ofNat_of_zero_le (show 0 ≤ h.al from (show M.inR h.al from hp).1)
  have hx2 : x < 4294967296 := by have := (show M.inR h.al from hp).2; omega
  have hw : M.wr 3 h b e = M.putU 10 x := by show M.U h.al = _; rw [hx, M.U_nat]
  rw [hw] at hl ⊢
  rw [hx] at hc
  replace hx := Lib.hid hx
  replace ht := Lib.hid ht
  replace hw := Lib.hid hw
  go_enter Try.func61, Try.ntmps61
  go_wp2_with fail
  refine (tnumber_any B _ P out x ht.out (by omega) hl).mono ?_
  rintro e1 w1 ⟨rfl, t1, b1⟩
  replace t1 := Lib.hid t1
  replace b1 := Lib.hid b1
  go_wp2_with fail
  go_end0
  exact ⟨rfl, t1.out, b1.out⟩
set_option maxRecDepth 100000 in
theorem toffset_any (B : Nat) (w : World) (P : Nat) (out : List Nat) (h : M.Hd) (b e : M.L) (vL vB vE : Value) (g o : Nat) (ht : TextAt B w P out) (hi : ItemAt w g o h vL vB vE) (hp : M.partOk 4 h) (hl : out.length + (M.wr 4 h b e).length ≤ 1000000) :
    Calls Try.prog 62 #[.pointer (some ⟨P, 0, none⟩), .pointer (some ⟨g, o, none⟩)] w (WPostT B P (out ++ M.wr 4 h b e) w) := by
  have hc := hi.c4
  obtain ⟨x, hx⟩ := Int.eq_ofNat_of_zero_le (show 0 ≤ h.ofs from (show M.inR h.ofs from hp).1)
  have hx2 : x < 4294967296 := by have := (show M.inR h.ofs from hp).2; omega
  have hw : M.wr 4 h b e = M.putU 10 x := by show M.U h.ofs = _; rw [hx, M.U_nat]
  rw [hw] at hl ⊢
  rw [hx] at hc
  replace hx := Lib.hid hx
  replace ht := Lib.hid ht
  replace hw := Lib.hid hw
  go_enter Try.func62, Try.ntmps62
  go_wp2_with fail
  refine (tnumber_any B _ P out x ht.out (by omega) hl).mono ?_
  rintro e1 w1 ⟨rfl, t1, b1⟩
  replace t1 := Lib.hid t1
  replace b1 := Lib.hid b1
  go_wp2_with fail
  go_end0
  exact ⟨rfl, t1.out, b1.out⟩
set_option maxRecDepth 100000 in
theorem tblockType_any (B : Nat) (w : World) (P : Nat) (out : List Nat) (h : M.Hd) (b e : M.L) (vL vB vE : Value) (g o : Nat) (ht : TextAt B w P out) (hi : ItemAt w g o h vL vB vE) (hp : M.partOk 0 h) (hl : out.length + (M.wr 0 h b e).length ≤ 1000000) :
    Calls Try.prog 58 #[.pointer (some ⟨P, 0, none⟩), .pointer (some ⟨g, o, none⟩)] w (WPostT B P (out ++ M.wr 0 h b e) w) := by
  have hc := hi.c1
  have hp : M.tyOk h.ty := hp
  unfold M.tyOk at hp
  obtain ⟨x, hx⟩ := Int.eq_ofNat_of_zero_le (show 0 ≤ h.ty by omega)
  have hx2 : x < 256 := by omega
  have hw : M.wr 0 h b e = [x] := by show [h.ty.toNat] = _; rw [hx, Int.toNat_natCast]
  rw [hw] at hl ⊢
  rw [hx] at hc
  replace hx := Lib.hid hx
  replace ht := Lib.hid ht
  replace hp := Lib.hid hp
  replace hw := Lib.hid hw
  go_enter Try.func58, Try.ntmps58
  go_wp2_with fail
  refine (tfixed_any B _ P out x ht.out hx2 (by simpa using hl)).mono ?_
  rintro e1 w1 ⟨rfl, t1, b1⟩
  replace t1 := Lib.hid t1
  replace b1 := Lib.hid b1
  go_wp2_with fail
  go_end0
  exact ⟨rfl, t1.out, b1.out⟩
set_option maxRecDepth 100000 in
theorem tnought_any (B : Nat) (w : World) (P : Nat) (out : List Nat) (h : M.Hd) (b e : M.L) (q : Value) (ht : TextAt B w P out) (hl : out.length + (M.wr 5 h b e).length ≤ 1000000) :
    Calls Try.prog 63 #[.pointer (some ⟨P, 0, none⟩), q] w (WPostT B P (out ++ M.wr 5 h b e) w) := by
  have hw : M.wr 5 h b e = [0] := rfl
  rw [hw] at hl ⊢
  replace ht := Lib.hid ht
  replace hw := Lib.hid hw
  go_enter Try.func63, Try.ntmps63
  go_wp2_with fail
  refine (tfixed_any B _ P out 0 ht.out (by omega) (by simpa using hl)).mono ?_
  rintro e1 w1 ⟨rfl, t1, b1⟩
  replace t1 := Lib.hid t1
  replace b1 := Lib.hid b1
  go_wp2_with fail
  go_end0
  exact ⟨rfl, t1.out, b1.out⟩
set_option maxRecDepth 100000 in
theorem tend_any (B : Nat) (w : World) (P : Nat) (out : List Nat) (h : M.Hd) (b e : M.L) (q : Value) (ht : TextAt B w P out) (hl : out.length + (M.wr 9 h b e).length ≤ 1000000) :
    Calls Try.prog 67 #[.pointer (some ⟨P, 0, none⟩), q] w (WPostT B P (out ++ M.wr 9 h b e) w) := by
  have hw : M.wr 9 h b e = [11] := rfl
  rw [hw] at hl ⊢
  replace ht := Lib.hid ht
  replace hw := Lib.hid hw
  go_enter Try.func67, Try.ntmps67
  go_wp2_with fail
  refine (tfixed_any B _ P out 11 ht.out (by omega) (by simpa using hl)).mono ?_
  rintro e1 w1 ⟨rfl, t1, b1⟩
  replace t1 := Lib.hid t1
  replace b1 := Lib.hid b1
  go_wp2_with fail
  go_end0
  exact ⟨rfl, t1.out, b1.out⟩
namespace M
theorem Us_take (xs : List Int) (k : Nat) (hk : k < xs.length) : Us (xs.take (k + 1)) = Us (xs.take k) ++ U (xs.getD k 0) := by
  induction xs generalizing k with
  | nil => simp at hk
  | cons x t ih =>
    cases k with
    | zero => simp [Us]
    | succ k =>
      simp only [List.take_succ_cons, Us, List.append_assoc]
      rw [ih k (by simpa using hk)]
      simp
theorem Us_le (xs : List Int) (k : Nat) : (Us (xs.take k)).length ≤ (Us xs).length := by
  induction xs generalizing k with
  | nil => simp
  | cons x t ih =>
    cases k with
    | zero => simp [Us]
    | succ k => simp only [List.take_succ_cons, Us, List.length_append]; have := ih k; omega
end M
set_option maxRecDepth 100000 in
set_option maxHeartbeats 4000000 in
theorem tlabels_any (B : Nat) (w : World) (P : Nat) (out : List Nat) (h : M.Hd) (b e : M.L) (vL vB vE : Value) (g o : Nat) (ht : TextAt B w P out) (hi : ItemAt w g o h vL vB vE) (hg : g < B) (hL : NS w (· < B) vL h.labels) (hp : M.partOk 1 h) (hl : out.length + (M.wr 1 h b e).length ≤ 1000000) :
    Calls Try.prog 59 #[.pointer (some ⟨P, 0, none⟩), .pointer (some ⟨g, o, none⟩)] w (WPostT B P (out ++ M.wr 1 h b e) w) := by
  have hc := hi.c6
  have hBP := ht.hB
  obtain ⟨A, c, rfl, hL1, hL2⟩ := hL
  obtain ⟨xs, hxs⟩ : ∃ xs, xs = h.labels := ⟨_, rfl⟩
  have hp : ∀ x ∈ xs, M.inR x := by rw [hxs]; exact hp
  have hw : M.wr 1 h b e = M.putU 10 xs.length ++ M.Us xs := by rw [hxs]; show M.U (h.labels.length : Int) ++ _ = _; rw [M.U_nat]
  rw [hw] at hl ⊢
  rw [← hxs] at hc hL1 hL2
  simp only [List.length_append] at hl
  obtain ⟨n, hn⟩ : ∃ n, n = xs.length := ⟨_, rfl⟩
  rw [← hn] at hc hL1 hL2 hl ⊢
  replace hxs := Lib.hid hxs
  replace hw := Lib.hid hw
  replace hL2 := Lib.hid hL2
  replace hp := Lib.hid hp
  replace hn := Lib.hid hn
  replace ht := Lib.hid ht
  obtain ⟨hL1, hL3, hL4⟩ := hL1
  unfold maxLen at hL4
  go_enter Try.func59, Try.ntmps59
  go_wp2_with fail
  refine (tnumber_any B _ P out n ht.out (by omega) (by omega)).mono ?_
  rintro e1 w1 ⟨rfl, t1, b1⟩
  have hc1 : w1.cell? ⟨g, o + 6, none⟩ = some (.slice A n c) := by rw [b1.cell (by exact hg)]; exact hc
  replace t1 := Lib.hid t1
  replace b1 := Lib.hid b1
  go_wp2_with fail
  go_loopw [18] (fun i w' => ∃ k : Nat, k ≤ n ∧ i = .int .i64 k ∧ TextAt B w' P ((out ++ M.putU 10 n) ++ M.Us (xs.take k)) ∧ Below B w w') (fun i _ => n - (intOf i).toNat)
  case atStart => exact ⟨0, by omega, rfl, by simpa [M.Us] using t1.out, b1.out⟩
  case round =>
    obtain ⟨k, hk, rfl, hT, hb⟩ := hrel
    by_cases hlt : k < n
    · obtain ⟨ad, rfl, hS, hr, hcell⟩ := hL2.out k hlt
      have hx := hp.out (xs.getD k 0) (getD_mem (by rw [← hn.out]; exact hlt))
      obtain ⟨x, hxe⟩ := Int.eq_ofNat_of_zero_le hx.1
      have hx2 : x < 4294967296 := by have := hx.2; omega
      have hU : M.U (xs.getD k 0) = M.putU 10 x := by rw [hxe, M.U_nat]
      have hst := M.Us_take xs k (by rw [← hn.out]; exact hlt)
      have hle := M.Us_le xs (k + 1)
      rw [hst, hU, List.length_append] at hle
      rw [hU] at hst
      rw [hxe] at hcell
      have hc2 : wr.cell? (ad.add k) = some (.int .i64 (x : Nat)) := by rw [hb.cell (by rw [addr_block]; exact hS)]; exact hcell
      have t0 : (0 : Int) ≤ (k : Int) := by omega
      have tt1 : (k : Int) < (n : Int) := by omega
      replace hst := Lib.hid hst
      replace hU := Lib.hid hU
      replace hxe := Lib.hid hxe
      replace hT := Lib.hid hT
      replace hb := Lib.hid hb
      clear hcell
      go_wp2_with fail
      refine (tnumber_any B _ P _ x hT.out (by omega) (by simp only [List.length_append]; omega)).mono ?_
      rintro e2 w2 ⟨rfl, t2, b2⟩
      have b3 := Lib.hid (hb.out.trans b2)
      replace t2 := Lib.hid t2
      clear b2
      go_wp2_with fail
      exact ⟨⟨k + 1, by omega, by go_num, by rw [hst.out, ← List.append_assoc]; exact t2.out, b3.out⟩, by simp [intOf]; omega⟩
    · have hkn : k = n := by omega
      have htk : xs.take k = xs := by rw [hkn, hn.out]; exact List.take_length
      rw [htk, List.append_assoc] at hT
      have tlt : decide ((k : Int) < (n : Int)) = false := by simp; omega
      replace hT := Lib.hid hT
      replace hb := Lib.hid hb
      replace htk := Lib.hid htk
      replace hkn := Lib.hid hkn
      go_wp2_with fail
      go_end0
      exact ⟨rfl, hT.out, hb.out⟩
/-- What is known of one instruction that is to be written. -/
structure Wr1 (B N d : Nat) (w : World) (h : M.Hd) (b e : M.L) (vL vB vE : Value) (g o : Nat) : Prop where
  item : ItemAt w g o h vL vB vE
  hg : g < B
  rng : Rng h
  lab : NS w (· < B) vL h.labels
  body : LS w (· < B) vB b
  els : LS w (· < B) vE e
  ok : okI d h b e
  sb : b.sz < N
  se : e.sz < N
theorem Wr1.later {B N d : Nat} {w w' : World} {h : M.Hd} {b e : M.L} {vL vB vE : Value} {g o : Nat} (q : Wr1 B N d w h b e vL vB vE g o) (hb : Below B w w') : Wr1 B N d w' h b e vL vB vE g o :=
  ⟨q.item.agree (hb.block g q.hg), q.hg, q.rng, q.lab.agree (below_agree hb) (fun _ hk => hk), LS.agree q.body (below_agree hb) (fun _ hk => hk), LS.agree q.els (below_agree hb) (fun _ hk => hk), q.ok, q.sb, q.se⟩
def TListOk (N : Nat) : Prop := ∀ (B : Nat) (w : World) (P : Nat) (out : List Nat) (l : M.L) (v : Value) (d : Nat), l.sz < N → TextAt B w P out → LS w (· < B) v l → M.ok d l → out.length + (M.enc l).length ≤ 1000000 →
  Calls Try.prog 35 #[.pointer (some ⟨P, 0, none⟩), v] w (WPostT B P (out ++ M.enc l) w)
theorem okI_subs {d : Nat} {h : M.Hd} {b e : M.L} (q : okI d h b e) : M.flat h ∧ (∃ d', M.ok d' b) ∧ (∃ d', M.ok d' e) ∧ (h.op ≠ 4 → e = .nil) ∧ M.kind h.op ≠ 0 := by
  obtain ⟨hf, h2, hb, he⟩ := q
  have hk : M.kind h.op ≠ 0 := fun k0 => absurd (M.flat_to k0 hf) (by simp [M.flatK])
  by_cases k2 : M.kind h.op = 2
  · exact ⟨hf, ⟨_, (h2 k2).2.1⟩, ⟨_, (h2 k2).2.2⟩, he, hk⟩
  · have h4 : h.op ≠ 4 := fun e4 => k2 ((M.kind_block h.op).2 (by omega))
    have e1 := hb k2
    have e2 := he h4
    subst e1 e2
    exact ⟨hf, ⟨0, trivial⟩, ⟨0, trivial⟩, he, hk⟩
set_option maxRecDepth 100000 in
theorem tbody_any (N : Nat) (ih : TListOk N) (B d : Nat) (w : World) (P : Nat) (out : List Nat) (h : M.Hd) (b e : M.L) (vL vB vE : Value) (g o : Nat) (ht : TextAt B w P out) (q : Wr1 B N d w h b e vL vB vE g o) (hl : out.length + (M.wr 7 h b e).length ≤ 1000000) :
    Calls Try.prog 65 #[.pointer (some ⟨P, 0, none⟩), .pointer (some ⟨g, o, none⟩)] w (WPostT B P (out ++ M.wr 7 h b e) w) := by
  have hc := q.item.c7
  obtain ⟨d', hok⟩ := (okI_subs q.ok).2.1
  replace q := Lib.hid q
  replace ht := Lib.hid ht
  replace ih := Lib.hid ih
  have hw : M.wr 7 h b e = M.enc b := rfl
  rw [hw] at hl ⊢
  replace hw := Lib.hid hw
  replace hok := Lib.hid hok
  obtain ⟨A, c, rfl, _⟩ := LS.form q.out.body
  go_enter Try.func65, Try.ntmps65
  go_wp2_with fail
  refine (ih.out B _ P out b _ d' q.out.sb ht.out q.out.body hok.out hl).mono ?_
  rintro e1 w1 ⟨rfl, t1, b1⟩
  replace t1 := Lib.hid t1
  replace b1 := Lib.hid b1
  go_wp2_with fail
  go_end0
  exact ⟨rfl, t1.out, b1.out⟩
set_option maxRecDepth 100000 in
theorem totherwise_any (N : Nat) (ih : TListOk N) (B d : Nat) (w : World) (P : Nat) (out : List Nat) (h : M.Hd) (b e : M.L) (vL vB vE : Value) (g o : Nat) (ht : TextAt B w P out) (q : Wr1 B N d w h b e vL vB vE g o) (hl : out.length + (M.wr 8 h b e).length ≤ 1000000) :
    Calls Try.prog 66 #[.pointer (some ⟨P, 0, none⟩), .pointer (some ⟨g, o, none⟩)] w (WPostT B P (out ++ M.wr 8 h b e) w) := by
  have hc := q.item.c8
  have hg := q.hg
  obtain ⟨d', hok⟩ := (okI_subs q.ok).2.2.1
  replace q := Lib.hid q
  replace ht := Lib.hid ht
  replace ih := Lib.hid ih
  replace hok := Lib.hid hok
  obtain ⟨A, c, rfl, hbd⟩ := LS.form q.out.els
  obtain ⟨hb1, hb2, hb3⟩ := hbd
  unfold maxLen at hb3
  by_cases h0 : e.len = 0
  · have he := M.len_zero h0
    have hw := Lib.hid (show M.wr 8 h b e = [] by rw [he]; rfl)
    have tz3 : decide (0 < e.len) = false := by simp; omega
    replace he := Lib.hid he
    replace h0 := Lib.hid h0
    go_enter Try.func66, Try.ntmps66
    go_wp2_with fail
    go_end0
    exact ⟨rfl, by rw [hw.out, List.append_nil]; exact ht.out, Below.refl _ _⟩
  · have hw : M.wr 8 h b e = 5 :: M.enc e := by
      cases e with
      | nil => exact absurd rfl h0
      | cons => rfl
    rw [hw] at hl ⊢
    simp only [List.length_cons] at hl
    have tz3 : decide (0 < e.len) = true := by simp; omega
    replace hw := Lib.hid hw
    replace h0 := Lib.hid h0
    go_enter Try.func66, Try.ntmps66
    go_wp2_with fail
    refine (tfixed_any B _ P out 5 ht.out (by omega) (by omega)).mono ?_
    rintro e1 w1 ⟨rfl, t1, b1⟩
    have hc1 : w1.cell? ⟨g, o + 8, none⟩ = some (.slice A e.len c) := by rw [b1.cell (by exact hg)]; exact hc
    have q1 := Lib.hid (q.out.later b1)
    replace t1 := Lib.hid t1
    replace b1 := Lib.hid b1
    go_wp2_with fail
    refine (ih.out B _ P (out ++ [5]) e _ d' q1.out.se t1.out q1.out.els hok.out (by simp only [List.length_append, List.length_cons, List.length_nil]; omega)).mono ?_
    rintro e2 w2 ⟨rfl, t2, b2⟩
    have b3 := Lib.hid (b1.out.trans b2)
    replace t2 := Lib.hid t2
    clear b2
    go_wp2_with fail
    go_end0
    exact ⟨rfl, by have := t2.out; rw [List.append_assoc] at this; exact this, b3.out⟩
end Go.Proofs.Ytjapcalndolamaa
