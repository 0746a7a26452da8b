/-
  The program's place of reading: how it lies in memory, what its smallest functions answer (the next byte, a fixed byte), and what they leave alone; condition: the place and its bytes lie in memory that was there at the call.
-/
import Derived.Test.YtmejgbbdehndaaaGreatTools
import Derived.Test.YtmejgbbdehndaaaGreatLebS
import Derived.Laws.EntriesVeiled
namespace Go.Proofs.YtmejgbbdehndaaaGreat
open Go.RowKit
/-- Where reading has come to: the bytes bs, of which 'at' have been read, with 'deep' blocks around; the readers stand in their places. -/
structure PlaceAt (w : World) (P : Nat) (A : Option Addr) (c : Nat) (bs : List Nat) (p d : Nat) : Prop where
  c0 : w.cell? ⟨P, 0, none⟩ = some (.slice A bs.length c)
  c1 : w.cell? ⟨P, 1, none⟩ = some (.int .i64 (p : Nat))
  c2 : w.cell? ⟨P, 2, none⟩ = some (.int .i64 (d : Nat))
  c3 : w.cell? ⟨P, 3, none⟩ = some (.func (.func 247) #[.pointer (some ⟨P, 0, none⟩)] #[])
  c4 : w.cell? ⟨P, 4, none⟩ = some (.func (.func 248) #[.pointer (some ⟨P, 0, none⟩)] #[])
  c5 : w.cell? ⟨P, 5, none⟩ = some (.func (.func 249) #[.pointer (some ⟨P, 0, none⟩)] #[])
  c6 : w.cell? ⟨P, 6, none⟩ = some (.func (.func 250) #[.pointer (some ⟨P, 0, none⟩)] #[])
  c7 : w.cell? ⟨P, 7, none⟩ = some (.func (.func 251) #[.pointer (some ⟨P, 0, none⟩)] #[])
  c8 : w.cell? ⟨P, 8, none⟩ = some (.func (.func 252) #[.pointer (some ⟨P, 0, none⟩)] #[])
  c9 : w.cell? ⟨P, 9, none⟩ = some (.func (.func 253) #[.pointer (some ⟨P, 0, none⟩)] #[])
  c10 : w.cell? ⟨P, 10, none⟩ = some (.func (.func 254) #[.pointer (some ⟨P, 0, none⟩)] #[])
  c11 : w.cell? ⟨P, 11, none⟩ = some (.func (.func 255) #[.pointer (some ⟨P, 0, none⟩)] #[])
  c12 : w.cell? ⟨P, 12, none⟩ = some (.func (.func 256) #[.pointer (some ⟨P, 0, none⟩)] #[])
  f1 : w.frozen? ⟨P, 1, none⟩ = false
  f2 : w.frozen? ⟨P, 2, none⟩ = false
  le : p ≤ bs.length
  cap : bs.length ≤ c ∧ c ≤ maxLen
  small : bs.length ≤ 100000
  deep : d ≤ 40
  bytes : Bytes w P A bs.length (M.bf bs)
  size : P < w.heap.size
theorem PlaceAt.agree {w w' : World} {P : Nat} {A : Option Addr} {c : Nat} {bs : List Nat} {p d : Nat} (h : PlaceAt w P A c bs p d) (hb : ∀ k, k ≤ P → w'.heap[k]? = w.heap[k]?) (hs : w.heap.size ≤ w'.heap.size) : PlaceAt w' P A c bs p d := by
  have e : ∀ j, w'.cell? ⟨P, j, none⟩ = w.cell? ⟨P, j, none⟩ := fun j => World.cell?_of_block (w := w) (hb P (Nat.le_refl _))
  have f : ∀ j, w'.frozen? ⟨P, j, none⟩ = w.frozen? ⟨P, j, none⟩ := fun j => World.frozen?_of_block (w := w) (hb P (Nat.le_refl _))
  obtain ⟨c0, c1, c2, c3, c4, c5, c6, c7, c8, c9, c10, c11, c12, f1, f2, le, cap, small, deep, bytes, size⟩ := h
  refine ⟨?_, ?_, ?_, ?_, ?_, ?_, ?_, ?_, ?_, ?_, ?_, ?_, ?_, ?_, ?_, le, cap, small, deep, ?_, Nat.lt_of_lt_of_le size hs⟩
  all_goals first | (rw [e]; assumption) | (rw [f]; assumption) | skip
  intro i hi
  obtain ⟨ad, e1, h1, h2, h3⟩ := bytes i hi
  exact ⟨ad, e1, h1, h2, by rw [World.cell?_of_block (w := w) (hb _ (by rw [addr_block]; omega))]; exact h3⟩
/-- The place goes on. -/
theorem PlaceAt.move {w : World} {P : Nat} {A : Option Addr} {c : Nat} {bs : List Nat} {p d : Nat} (h : PlaceAt w P A c bs p d) (q : Nat) (hq : q ≤ bs.length) : PlaceAt (w.setCell ⟨P, 1, none⟩ (.int .i64 (q : Nat))) P A c bs q d := by
  obtain ⟨c0, c1, c2, c3, c4, c5, c6, c7, c8, c9, c10, c11, c12, f1, f2, le, cap, small, deep, bytes, size⟩ := h
  have o : ∀ j, j ≠ 1 → (w.setCell ⟨P, 1, none⟩ (.int .i64 (q : Nat))).cell? ⟨P, j, none⟩ = w.cell? ⟨P, j, none⟩ := fun j hj => World.cell?_setCell_other _ _ _ _ (by intro e; cases e; exact hj rfl)
  refine ⟨?_, World.cell?_setCell_same _ _ _ c1, ?_, ?_, ?_, ?_, ?_, ?_, ?_, ?_, ?_, ?_, ?_, by simpa using f1, by simpa using f2, hq, cap, small, deep, ?_, by simpa using size⟩
  all_goals first | (rw [o _ (by decide)]; assumption) | skip
  intro i hi
  obtain ⟨ad, e1, h1, h2, h3⟩ := bytes i hi
  exact ⟨ad, e1, h1, h2, by rw [World.cell?_of_block (w := w) (Below.heap_setCell _ _ _ _ (by rw [addr_block]; show ad.block ≠ P; omega))]; exact h3⟩
theorem PlaceAt.depth {w : World} {P : Nat} {A : Option Addr} {c : Nat} {bs : List Nat} {p d : Nat} (h : PlaceAt w P A c bs p d) (q : Nat) (hq : q ≤ 40) : PlaceAt (w.setCell ⟨P, 2, none⟩ (.int .i64 (q : Nat))) P A c bs p q := by
  obtain ⟨c0, c1, c2, c3, c4, c5, c6, c7, c8, c9, c10, c11, c12, f1, f2, le, cap, small, deep, bytes, size⟩ := h
  have o : ∀ j, j ≠ 2 → (w.setCell ⟨P, 2, none⟩ (.int .i64 (q : Nat))).cell? ⟨P, j, none⟩ = w.cell? ⟨P, j, none⟩ := fun j hj => World.cell?_setCell_other _ _ _ _ (by intro e; cases e; exact hj rfl)
  refine ⟨?_, ?_, World.cell?_setCell_same _ _ _ c2, ?_, ?_, ?_, ?_, ?_, ?_, ?_, ?_, ?_, ?_, by simpa using f1, by simpa using f2, le, cap, small, hq, ?_, by simpa using size⟩
  all_goals first | (rw [o _ (by decide)]; assumption) | skip
  intro i hi
  obtain ⟨ad, e1, h1, h2, h3⟩ := bytes i hi
  exact ⟨ad, e1, h1, h2, by rw [World.cell?_of_block (w := w) (Below.heap_setCell _ _ _ _ (by rw [addr_block]; show ad.block ≠ P; omega))]; exact h3⟩
/-- All old blocks but those of T are as they were. -/
structure Kb (T : Nat → Prop) (w w' : World) : Prop where
  os : w'.os = w.os
  tape : w'.tape = w.tape
  output : w'.output = w.output
  size : w.heap.size ≤ w'.heap.size
  block : ∀ k, k < w.heap.size → ¬ T k → w'.heap[k]? = w.heap[k]?
theorem Kb.refl (T : Nat → Prop) (w : World) : Kb T w w := ⟨rfl, rfl, rfl, Nat.le_refl _, fun _ _ _ => rfl⟩
theorem Kb.trans {T : Nat → Prop} {a b c : World} (h : Kb T a b) (k : Kb T b c) : Kb T a c :=
  ⟨k.os.trans h.os, k.tape.trans h.tape, k.output.trans h.output, Nat.le_trans h.size k.size, fun i hi ht => (k.block i (Nat.lt_of_lt_of_le hi h.size) ht).trans (h.block i hi ht)⟩
theorem Kb.mono {T U : Nat → Prop} {a b : World} (h : Kb T a b) (hu : ∀ k, T k → U k) : Kb U a b := ⟨h.os, h.tape, h.output, h.size, fun i hi ht => h.block i hi fun h' => ht (hu i h')⟩
theorem Kb.of_below {T : Nat → Prop} {a b : World} (h : Below a.heap.size a b) : Kb T a b := ⟨h.os, h.tape, h.output, h.size, fun i hi _ => h.block i hi⟩
theorem Kb.drew {T : Nat → Prop} {a b : World} (h : Kb T a b) : Kb T a b.drew := ⟨h.os, h.tape, h.output, h.size, h.block⟩
theorem Kb.setCell {T : Nat → Prop} {a b : World} (h : Kb T a b) {p : Addr} (hp : T p.block) (u : Value) : Kb T a (b.setCell p u) :=
  ⟨h.os, h.tape, h.output, by simpa using h.size, fun i hi ht => by rw [Below.heap_setCell _ _ _ _ (fun e => ht (by rw [e]; exact hp))]; exact h.block i hi ht⟩
theorem drewN_place {w : World} {P : Nat} {A : Option Addr} {c : Nat} {bs : List Nat} {p d : Nat} (h : PlaceAt w P A c bs p d) (n : Nat) : PlaceAt (w.drewN n) P A c bs p d := h.agree (fun _ _ => rfl) (Nat.le_refl _)
/-- The byte that is read next. -/
theorem PlaceAt.byte {w : World} {P : Nat} {A : Option Addr} {c : Nat} {bs : List Nat} {p d : Nat} (h : PlaceAt w P A c bs p d) (hp : p < bs.length) : ∃ ad x, A = some ad ∧ bs.drop p = x :: bs.drop (p + 1) ∧ x < 256 ∧ w.cell? (ad.add p) = some (.int .u8 (x : Nat)) := by
  obtain ⟨ad, e1, h1, h2, h3⟩ := h.bytes p hp
  refine ⟨ad, M.bf bs p, e1, ?_, h2, h3⟩
  rw [List.drop_eq_getElem_cons hp]
  simp [M.bf, List.getD_eq_getElem?_getD, hp]
/-- Whether the next byte is x. -/
def nextB (bs : List Nat) (p x : Nat) : Bool := (bs.drop p).head? == some x
theorem next_any (w : World) (P : Nat) (A : Option Addr) (c : Nat) (bs : List Nat) (p d x : Nat) (h : PlaceAt w P A c bs p d) (hx : x < 256) :
    Calls Tryz.prog 257 #[.pointer (some ⟨P, 0, none⟩), .int .u8 (x : Nat)] w fun e w' => e = .returned (.bool (nextB bs p x)) ∧ ∃ n, w' = w.drewN n := by
  have h0 := Lib.hid h
  obtain ⟨c0, c1, c2, c3, c4, c5, c6, c7, c8, c9, c10, c11, c12, f1, f2, le, cap, small, deep, bytes, size⟩ := h
  clear c2 c3 c4 c5 c6 c7 c8 c9 c10 c11 c12 f1 f2
  obtain ⟨cap1, cap2⟩ := cap
  unfold maxLen at cap2
  replace bytes := Lib.hid bytes
  by_cases hp : p < bs.length
  · obtain ⟨ad, y, rfl, hd, hy, q⟩ := h0.out.byte hp
    have hn := Lib.hid (show ((y : Int) == (x : Int)) = nextB bs p x by
      unfold nextB
      rw [hd]
      by_cases e : y = x
      · subst e; simp
      · have e1 : ((y : Int) == (x : Int)) = false := by rw [beq_eq_false_iff_ne]; omega
        have e2 : (some y == some x) = false := by rw [beq_eq_false_iff_ne]; intro h; injection h with h; exact e h
        rw [e1, List.head?_cons, e2])
    clear hd
    have t0 : (0 : Int) ≤ (p : Int) := by omega
    have t1 : (p : Int) < (bs.length : Int) := by omega
    go_enter Tryz.func257, Tryz.ntmps257
    go_wp2_with fail
    go_quiet (fail)
    go_wp2
    go_ret
    exact ⟨ret_bool hn.out, nq, rfl⟩
  · have hn := Lib.hid (show nextB bs p x = false by unfold nextB; rw [List.drop_eq_nil_of_le (by omega)]; rfl)
    have t1 : decide ((p : Int) < (bs.length : Int)) = false := by simp; omega
    have t2 : decide (p < bs.length) = false := by simpa using hp
    go_enter Tryz.func257, Tryz.ntmps257
    go_wp2_with fail
    go_quiet (fail)
    go_wp2
    go_ret
    exact ⟨by rw [hn.out]; rfl, nq, rfl⟩
theorem next_yes (w : World) (P : Nat) (A : Option Addr) (c : Nat) (bs : List Nat) (p d x : Nat) (t : Bool) (h : PlaceAt w P A c bs p d) (hx : x < 256) (ht : nextB bs p x = t) :
    Calls Tryz.prog 257 #[.pointer (some ⟨P, 0, none⟩), .int .u8 (x : Nat)] w fun e w' => e = .returned (.bool t) ∧ (PlaceAt w' P A c bs p d ∧ Below w.heap.size w w') :=
  (next_any w P A c bs p d x h hx).mono fun _ _ ⟨a, n, b⟩ => ⟨by rw [a, ht], by rw [b]; exact ⟨drewN_place h n, below_drewN (Below.refl _ _) _⟩⟩
theorem nextB_lt {bs : List Nat} {p x : Nat} (h : nextB bs p x = true) : p < bs.length ∧ bs.drop p = x :: bs.drop (p + 1) := by
  unfold nextB at h
  have hp : p < bs.length := by
    refine Nat.lt_of_not_le fun hle => ?_
    rw [List.drop_eq_nil_of_le hle] at h
    cases h
  refine ⟨hp, ?_⟩
  rw [List.drop_eq_getElem_cons hp] at h ⊢
  simp only [List.head?_cons, beq_iff_eq, Option.some.injEq] at h
  rw [h]
def FixPost (P : Nat) (A : Option Addr) (c : Nat) (bs : List Nat) (p d x : Nat) (w : World) (e : Ending) (w' : World) : Prop :=
  (nextB bs p x = true ∧ e = .returned (.bool true) ∧ PlaceAt w' P A c bs (p + 1) d ∧ Kb (· = P) w w') ∨ (nextB bs p x = false ∧ e = .returned (.bool false) ∧ PlaceAt w' P A c bs p d ∧ Kb (· = P) w w')
theorem fixed_any (w : World) (P : Nat) (A : Option Addr) (c : Nat) (bs : List Nat) (p d x : Nat) (h : PlaceAt w P A c bs p d) (hx : x < 256) :
    Calls Tryz.prog 237 #[.pointer (some ⟨P, 0, none⟩), .int .u8 (x : Nat)] w (FixPost P A c bs p d x w) := by
  have h0 := Lib.hid h
  clear h
  obtain ⟨t, ht⟩ : ∃ t, nextB bs p x = t := ⟨_, rfl⟩
  cases t with
  | false =>
    replace ht := Lib.hid ht
    go_enter Tryz.func237, Tryz.ntmps237
    go_wp2_with fail
    refine (next_yes _ P A c bs p d x false h0.out hx ht.out).mono ?_
    rintro e1 w1 ⟨rfl, h1, b1⟩
    replace h1 := Lib.hid h1
    replace b1 := Lib.hid b1
    go_wp2_with fail
    go_ret
    exact .inr ⟨ht.out, rfl, h1.out, .of_below b1.out⟩
  | true =>
    have hlt := (nextB_lt ht).1
    replace ht := Lib.hid ht
    go_enter Tryz.func237, Tryz.ntmps237
    go_wp2_with fail
    refine (next_yes _ P A c bs p d x true h0.out hx ht.out).mono ?_
    rintro e1 w1 ⟨rfl, h1, b1⟩
    have c1 := h1.c1
    have f1 := h1.f1
    have sm := h1.small
    replace h1 := Lib.hid h1
    replace b1 := Lib.hid b1
    go_wp2_with fail
    go_ret
    refine .inl ⟨ht.out, rfl, ?_, ?_⟩
    · exact h1.out.move (p + 1) (by omega)
    · exact Kb.setCell (T := (· = P)) (.of_below b1.out) (p := ⟨P, 1, none⟩) rfl _
theorem num_of {bs : List Nat} {v : Int} {r : List Nat} (h : M.num bs = some (v, r)) : ∃ n, UOk (M.bf bs) bs.length 32 n ∧ v = (M.low (M.bf bs) n : Nat) ∧ r = bs.drop n ∧ 1 ≤ n ∧ n ≤ bs.length ∧ n ≤ 5 ∧ 0 ≤ v ∧ v < 4294967296 := by
  have hs := M.num_short h
  unfold M.num at h
  split at h
  case isFalse => cases h
  case isTrue hc =>
    simp only [Option.some.injEq, Prod.mk.injEq] at h
    have hl := M.lenOf_le (M.bf bs) (min bs.length 5)
    have hm1 : min bs.length 5 ≤ bs.length := Nat.min_le_left _ _
    have hm2 : min bs.length 5 ≤ 5 := Nat.min_le_right _ _
    exact ⟨M.lenOf (M.bf bs) (min bs.length 5), ⟨rfl, hc.1, by simpa using hc.2⟩, h.1.symm, h.2.symm, Nat.one_le_iff_ne_zero.2 hc.1, Nat.le_trans hl hm1, Nat.le_trans hl hm2, hs.1.1, hs.1.2⟩
theorem num_none {bs : List Nat} (h : M.num bs = none) : ∀ n, ¬ UOk (M.bf bs) bs.length 32 n := by
  intro n ⟨h1, h2, h3⟩
  unfold M.num at h
  split at h
  case isTrue => cases h
  case isFalse hc =>
    subst h1
    exact hc ⟨h2, by simpa using h3⟩
theorem sgn_of {b : Nat} {bs : List Nat} {v : Int} {r : List Nat} (h : M.sgn b bs = some (v, r)) : ∃ n, SOk (M.bf bs) bs.length b n ∧ v = M.sval (M.bf bs) n ∧ r = bs.drop n ∧ 1 ≤ n ∧ n ≤ bs.length := by
  unfold M.sgn at h
  split at h
  case isFalse => cases h
  case isTrue hc =>
    simp only [Option.some.injEq, Prod.mk.injEq] at h
    have hl := M.lenOf_le (M.bf bs) (min bs.length ((b + 6) / 7))
    have hm1 : min bs.length ((b + 6) / 7) ≤ bs.length := Nat.min_le_left _ _
    exact ⟨M.lenOf (M.bf bs) (min bs.length ((b + 6) / 7)), ⟨rfl, hc.1, hc.2⟩, h.1.symm, h.2.symm, Nat.one_le_iff_ne_zero.2 hc.1, Nat.le_trans hl hm1⟩
theorem sgn_none {b : Nat} {bs : List Nat} (h : M.sgn b bs = none) : ∀ n, ¬ SOk (M.bf bs) bs.length b n := by
  intro n ⟨h1, h2, h3⟩
  unfold M.sgn at h
  split at h
  case isTrue => cases h
  case isFalse hc =>
    subst h1
    exact hc ⟨h2, h3⟩
/-- What is left of the bytes, as a slice. -/
theorem rest_bytes {w : World} {B : Nat} {ad : Addr} {bs : List Nat} (p : Nat) (h : Bytes w B (some ad) bs.length (M.bf bs)) : Bytes w B (some (ad.add p)) (bs.drop p).length (M.bf (bs.drop p)) := by
  rw [List.length_drop]
  exact h.drop (n := p) (g := M.bf (bs.drop p)) (fun i => getD_drop bs p i)
set_option maxRecDepth 100000 in
theorem number_yes (w : World) (P : Nat) (A : Option Addr) (c : Nat) (bs : List Nat) (p d : Nat) (g j : Nat) (u : Value) (v : Int) (r : List Nat) (h : PlaceAt w P A c bs p d) (hg : g ≠ P) (hu : w.cell? ⟨g, j, none⟩ = some u) (hf : w.frozen? ⟨g, j, none⟩ = false) (hn : M.num (bs.drop p) = some (v, r)) :
    Calls Tryz.prog 266 #[.pointer (some ⟨P, 0, none⟩), .pointer (some ⟨g, j, none⟩)] w fun e w' => e = .returned (.bool true) ∧ ∃ q w1, q ≤ bs.length ∧ r = bs.drop q ∧ Below w.heap.size w w1 ∧ w' = (w1.setCell ⟨g, j, none⟩ (.int .i64 v)).setCell ⟨P, 1, none⟩ (.int .i64 (q : Nat)) := by
  obtain ⟨n, hU, hv, hr, n1, n2, n5, v0, v1⟩ := num_of hn
  have h0 := Lib.hid h
  rw [List.length_drop] at n2
  obtain ⟨c0, c1, c2, c3, c4, c5, c6, c7, c8, c9, c10, c11, c12, f1, f2, le, cap, small, deep, bytes, size⟩ := h
  clear c2 c3 c4 c5 c6 c7 c8 c9 c10 c11 c12 f2
  obtain ⟨cap1, cap2⟩ := cap
  unfold maxLen at cap2
  obtain ⟨ad, rfl, _⟩ := bytes p (by omega)
  replace bytes := Lib.hid bytes
  replace hU := Lib.hid hU
  replace hv := Lib.hid hv
  replace hr := Lib.hid hr
  replace hn := Lib.hid hn
  have t0 : (0 : Int) ≤ (p : Int) := by omega
  have t1 : (p : Int) ≤ (bs.length : Int) := by omega
  have t2 : ¬ c = p := by omega
  go_enter Tryz.func266, Tryz.ntmps266
  go_wp2_with fail
  go_region_held3 (fun w' => w'.cell? ⟨P, 0, none⟩ = some (.slice (some ad) bs.length c) ∧ w'.cell? ⟨P, 1, none⟩ = some (.int .i64 (p : Nat)) ∧ Below w.heap.size w w')
    (first | exact ⟨c0, c1, (Below.refl _ _).drew⟩ | assumption | (go_split_ands; exact ⟨by rw [hw2.cell (p := ⟨P, 0, none⟩) (by exact size)]; exact c0, by rw [hw2.cell (p := ⟨P, 1, none⟩) (by exact size)]; exact c1, (Below.drew (Below.refl _ _)).trans hw2⟩))
    (first | (go_at_call 198; refine (Uint_yes (some (ad.add p)) (bs.length - p) (c - p) (M.bf (bs.drop p)) 32 n _ ?_ (by unfold maxLen; omega) (by omega) (by omega) (by rw [← List.length_drop]; exact hU.out)).mono ?_; (rw [← List.length_drop]; exact (rest_bytes p bytes.out).below (Below.drew (Below.refl _ _)) (Nat.le_of_lt size)); rintro e w2 ⟨rfl, hw2⟩))
  have d2 : Below w.heap.size w w2 := (Below.drew (Below.refl _ _)).trans hw2
  have hu2 : w2.cell? ⟨g, j, none⟩ = some u := by rw [d2.cell (by exact World.block_lt_of_cell? w ⟨g, j, none⟩ hu)]; exact hu
  have hf2 : w2.frozen? ⟨g, j, none⟩ = false := by rw [d2.frozen (by exact World.block_lt_of_cell? w ⟨g, j, none⟩ hu)]; exact hf
  have c12 : w2.cell? ⟨P, 1, none⟩ = some (.int .i64 (p : Nat)) := by rw [d2.cell (by exact size)]; exact c1
  have f12 : w2.frozen? ⟨P, 1, none⟩ = false := by rw [d2.frozen (by exact size)]; exact f1
  obtain ⟨m, hm⟩ : ∃ m, m = M.low (M.bf (bs.drop p)) n := ⟨_, rfl⟩
  rw [← hm]
  have hmv : v = (m : Int) := by rw [hm]; exact hv.out
  subst hmv
  replace hm := Lib.hid hm
  clear hv hU hw2 c0 c1 f1 hu hf
  replace d2 := Lib.hid d2
  go_wp2_with fail
  go_ret
  exact ⟨rfl, p + n, w2, by omega, by rw [hr.out, List.drop_drop], d2.out, by rw [Int.natCast_add]⟩
set_option maxRecDepth 100000 in
theorem number_no (w : World) (P : Nat) (ad : Addr) (c : Nat) (bs : List Nat) (p d : Nat) (q : Value) (h : PlaceAt w P (some ad) c bs p d) (hn : M.num (bs.drop p) = none) :
    Calls Tryz.prog 266 #[.pointer (some ⟨P, 0, none⟩), q] w fun e w' => e = .returned (.bool false) ∧ Below w.heap.size w w' := by
  have hU := Lib.hid (num_none hn)
  obtain ⟨c0, c1, c2, c3, c4, c5, c6, c7, c8, c9, c10, c11, c12, f1, f2, le, cap, small, deep, bytes, size⟩ := h
  clear c2 c3 c4 c5 c6 c7 c8 c9 c10 c11 c12 f1 f2
  obtain ⟨cap1, cap2⟩ := cap
  unfold maxLen at cap2
  replace bytes := Lib.hid bytes
  replace hn := Lib.hid hn
  have t0 : (0 : Int) ≤ (p : Int) := by omega
  have t1 : (p : Int) ≤ (bs.length : Int) := by omega
  by_cases t2 : c = p
  · have hl0 : bs.length = p := by omega
    have h0 : bs.length - p = 0 := by omega
    go_enter Tryz.func266, Tryz.ntmps266
    go_wp2_with fail
    go_region_held3 (fun w' => w'.cell? ⟨P, 0, none⟩ = some (.slice (some ad) bs.length c) ∧ w'.cell? ⟨P, 1, none⟩ = some (.int .i64 (p : Nat)) ∧ Below w.heap.size w w')
      (first | exact ⟨c0, c1, (Below.refl _ _).drew⟩ | assumption | (go_split_ands; exact ⟨by rw [hw2.cell (p := ⟨P, 0, none⟩) (by exact size)]; exact c0, by rw [hw2.cell (p := ⟨P, 1, none⟩) (by exact size)]; exact c1, (Below.drew (Below.refl _ _)).trans hw2⟩))
      (first | (go_at_call 198; refine (Uint_no (some ad) 0 _ (M.bf (bs.drop p)) 32 _ (fun i hi => absurd hi (Nat.not_lt_zero _)) (by unfold maxLen; omega) (by omega) (by omega) (fun n hn => hn.2.1 (by rw [← hn.1]; rfl))).mono ?_; rintro e w2 ⟨rfl, hw2⟩))
    have d2 := Lib.hid ((Below.drew (Below.refl w.heap.size w)).trans hw2)
    clear hw2
    go_wp2_with fail
    go_ret
    exact ⟨rfl, d2.out⟩
  · go_enter Tryz.func266, Tryz.ntmps266
    go_wp2_with fail
    go_region_held3 (fun w' => w'.cell? ⟨P, 0, none⟩ = some (.slice (some ad) bs.length c) ∧ w'.cell? ⟨P, 1, none⟩ = some (.int .i64 (p : Nat)) ∧ Below w.heap.size w w')
      (first | exact ⟨c0, c1, (Below.refl _ _).drew⟩ | assumption | (go_split_ands; exact ⟨by rw [hw2.cell (p := ⟨P, 0, none⟩) (by exact size)]; exact c0, by rw [hw2.cell (p := ⟨P, 1, none⟩) (by exact size)]; exact c1, (Below.drew (Below.refl _ _)).trans hw2⟩))
      (first | (go_at_call 198; refine (Uint_no (some (ad.add p)) (bs.length - p) (c - p) (M.bf (bs.drop p)) 32 _ ?_ (by unfold maxLen; omega) (by omega) (by omega) (by rw [← List.length_drop]; exact hU.out)).mono ?_; (rw [← List.length_drop]; exact (rest_bytes p bytes.out).below (Below.drew (Below.refl _ _)) (Nat.le_of_lt size)); rintro e w2 ⟨rfl, hw2⟩))
    have d2 := Lib.hid ((Below.drew (Below.refl w.heap.size w)).trans hw2)
    clear hw2
    go_wp2_with fail
    go_ret
    exact ⟨rfl, d2.out⟩
end Go.Proofs.YtmejgbbdehndaaaGreat
