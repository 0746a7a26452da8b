/-
  The page's place of reading: how it lies in memory, and what its smallest functions answer (a byte, a byte that must be 0, a number, a signed number), whether reading went wrong before or not; condition: the place and its bytes lie in memory that was there at the call.
-/
import Derived.Test.YtjapcalndolamaaPlace
import Derived.Test.YtjapcalndolamaaLRef
namespace Go.Proofs.Ytjapcalndolamaa
open Go.RowKit
/-- Where the page's reading has come to. -/
structure RAt (w : World) (P : Nat) (A : Option Addr) (c : Nat) (bs : List Nat) (p : Nat) (bad : Bool) : Prop where
  c0 : w.cell? ⟨P, 0, none⟩ = some (.slice A bs.length c)
  c1 : w.cell? ⟨P, 1, none⟩ = some (.int .i64 (p : Nat))
  c2 : w.cell? ⟨P, 2, none⟩ = some (.bool bad)
  f1 : w.frozen? ⟨P, 1, none⟩ = false
  f2 : w.frozen? ⟨P, 2, none⟩ = false
  le : p ≤ bs.length
  cap : bs.length ≤ c ∧ c ≤ maxLen
  small : bs.length ≤ 100000
  bytes : Bytes w P A bs.length (M.bf bs)
  size : P < w.heap.size
theorem RAt.agree {w w' : World} {P : Nat} {A : Option Addr} {c : Nat} {bs : List Nat} {p : Nat} {bad : Bool} (h : RAt w P A c bs p bad) (hb : ∀ k, k ≤ P → w'.heap[k]? = w.heap[k]?) (hs : w.heap.size ≤ w'.heap.size) : RAt w' P A c bs p bad := by
  have e : ∀ j, w'.cell? ⟨P, j, none⟩ = w.cell? ⟨P, j, none⟩ := fun j => World.cell?_of_block (w := w) (hb P (Nat.le_refl _))
  have f : ∀ j, w'.frozen? ⟨P, j, none⟩ = w.frozen? ⟨P, j, none⟩ := fun j => World.frozen?_of_block (w := w) (hb P (Nat.le_refl _))
  obtain ⟨c0, c1, c2, f1, f2, le, cap, small, bytes, size⟩ := h
  refine ⟨by rw [e]; exact c0, by rw [e]; exact c1, by rw [e]; exact c2, by rw [f]; exact f1, by rw [f]; exact f2, le, cap, small, ?_, Nat.lt_of_lt_of_le size hs⟩
  intro i hi
  obtain ⟨ad, e1, h1, h2, h3⟩ := bytes i hi
  exact ⟨ad, e1, h1, h2, by rw [World.cell?_of_block (w := w) (hb _ (by rw [addr_block]; omega))]; exact h3⟩
theorem bytes_set {w : World} {P j : Nat} {u : Value} {A : Option Addr} {bs : List Nat} (h : Bytes w P A bs.length (M.bf bs)) : Bytes (w.setCell ⟨P, j, none⟩ u) P A bs.length (M.bf bs) := by
  intro i hi
  obtain ⟨ad, e1, h1, h2, h3⟩ := h i hi
  exact ⟨ad, e1, h1, h2, by rw [World.cell?_of_block (w := w) (Below.heap_setCell _ _ _ _ (by rw [addr_block]; show ad.block ≠ P; omega))]; exact h3⟩
theorem RAt.move {w : World} {P : Nat} {A : Option Addr} {c : Nat} {bs : List Nat} {p : Nat} {bad : Bool} (h : RAt w P A c bs p bad) (q : Nat) (hq : q ≤ bs.length) : RAt (w.setCell ⟨P, 1, none⟩ (.int .i64 (q : Nat))) P A c bs q bad := by
  obtain ⟨c0, c1, c2, f1, f2, le, cap, small, bytes, size⟩ := h
  have o : ∀ j, j ≠ 1 → (w.setCell ⟨P, 1, none⟩ (.int .i64 (q : Nat))).cell? ⟨P, j, none⟩ = w.cell? ⟨P, j, none⟩ := fun j hj => World.cell?_setCell_other _ _ _ _ (by intro e; cases e; exact hj rfl)
  exact ⟨by rw [o _ (by decide)]; exact c0, World.cell?_setCell_same _ _ _ c1, by rw [o _ (by decide)]; exact c2, by simpa using f1, by simpa using f2, hq, cap, small, bytes_set bytes, by simpa using size⟩
theorem RAt.fail {w : World} {P : Nat} {A : Option Addr} {c : Nat} {bs : List Nat} {p : Nat} {bad : Bool} (h : RAt w P A c bs p bad) : RAt (w.setCell ⟨P, 2, none⟩ (.bool true)) P A c bs p true := by
  obtain ⟨c0, c1, c2, f1, f2, le, cap, small, bytes, size⟩ := h
  have o : ∀ j, j ≠ 2 → (w.setCell ⟨P, 2, none⟩ (.bool true)).cell? ⟨P, j, none⟩ = w.cell? ⟨P, j, none⟩ := fun j hj => World.cell?_setCell_other _ _ _ _ (by intro e; cases e; exact hj rfl)
  exact ⟨by rw [o _ (by decide)]; exact c0, by rw [o _ (by decide)]; exact c1, World.cell?_setCell_same _ _ _ c2, by simpa using f1, by simpa using f2, le, cap, small, bytes_set bytes, by simpa using size⟩
theorem RAt.drewN {w : World} {P : Nat} {A : Option Addr} {c : Nat} {bs : List Nat} {p : Nat} {bad : Bool} (h : RAt w P A c bs p bad) (n : Nat) : RAt (w.drewN n) P A c bs p bad := h.agree (fun _ _ => rfl) (Nat.le_refl _)
theorem Kb.drewN {T : Nat → Prop} {a b : World} (h : Kb T a b) (n : Nat) : Kb T a (b.drewN n) := ⟨h.os, h.tape, h.output, h.size, h.block⟩
/-- What is left to read, or that reading has gone wrong. -/
def St (w : World) (P : Nat) (A : Option Addr) (c : Nat) (bs : List Nat) : Option (List Nat) → Prop
  | some r => ∃ q, RAt w P A c bs q false ∧ r = bs.drop q
  | none => ∃ q, RAt w P A c bs q true
theorem St.some_of {w : World} {P : Nat} {A : Option Addr} {c : Nat} {bs : List Nat} {q : Nat} (h : RAt w P A c bs q false) : St w P A c bs (some (bs.drop q)) := ⟨q, h, rfl⟩
theorem St.agree {w w' : World} {P : Nat} {A : Option Addr} {c : Nat} {bs : List Nat} {o : Option (List Nat)} (h : St w P A c bs o) (hb : ∀ k, k ≤ P → w'.heap[k]? = w.heap[k]?) (hs : w.heap.size ≤ w'.heap.size) : St w' P A c bs o := by
  cases o with
  | none => obtain ⟨q, hq⟩ := h; exact ⟨q, hq.agree hb hs⟩
  | some r => obtain ⟨q, hq, e⟩ := h; exact ⟨q, hq.agree hb hs, e⟩
theorem St.lt {w : World} {P : Nat} {A : Option Addr} {c : Nat} {bs : List Nat} {o : Option (List Nat)} (h : St w P A c bs o) : P < w.heap.size := by
  cases o with
  | none => obtain ⟨q, hq⟩ := h; exact hq.size
  | some r => obtain ⟨q, hq, e⟩ := h; exact hq.size
/-- Whether reading has gone wrong. -/
theorem St.bad {w : World} {P : Nat} {A : Option Addr} {c : Nat} {bs : List Nat} {o : Option (List Nat)} (h : St w P A c bs o) : w.cell? ⟨P, 2, none⟩ = some (.bool o.isNone) ∧ w.frozen? ⟨P, 2, none⟩ = false := by
  cases o with
  | none => obtain ⟨q, hq⟩ := h; exact ⟨hq.c2, hq.f2⟩
  | some r => obtain ⟨q, hq, e⟩ := h; exact ⟨hq.c2, hq.f2⟩
theorem St.fail {w : World} {P : Nat} {A : Option Addr} {c : Nat} {bs : List Nat} {o : Option (List Nat)} (h : St w P A c bs o) : St (w.setCell ⟨P, 2, none⟩ (.bool true)) P A c bs none := by
  cases o with
  | none => obtain ⟨q, hq⟩ := h; exact ⟨q, hq.fail⟩
  | some r => obtain ⟨q, hq, e⟩ := h; exact ⟨q, hq.fail⟩
namespace M
def bV : Option (List Nat) → Nat
  | some (x :: _) => x
  | _ => 0
def bR : Option (List Nat) → Option (List Nat)
  | some (_ :: t) => some t
  | _ => none
def nV (o : Option (List Nat)) : Int := match o.bind num with | some p => p.1 | none => 0
def nR (o : Option (List Nat)) : Option (List Nat) := (o.bind num).map (·.2)
def sV (b : Nat) (o : Option (List Nat)) : Int := match o.bind (sgn b) with | some p => p.1 | none => 0
def sR (b : Nat) (o : Option (List Nat)) : Option (List Nat) := (o.bind (sgn b)).map (·.2)
theorem nV_rng (o : Option (List Nat)) : 0 ≤ nV o ∧ nV o < 4294967296 := by
  unfold nV
  cases h : o.bind num with
  | none => simp
  | some p =>
    obtain ⟨r, _, hr⟩ := Option.bind_eq_some_iff.1 h
    obtain ⟨v, t⟩ := p
    exact (num_short hr).1
end M
set_option maxRecDepth 100000 in
theorem pbyte_any (w : World) (P : Nat) (A : Option Addr) (c : Nat) (bs : List Nat) (o : Option (List Nat)) (h : St w P A c bs o) :
    Calls Try.prog 49 #[.pointer (some ⟨P, 0, none⟩)] w fun e w' => e = .returned (.int .i64 (M.bV o : Nat)) ∧ St w' P A c bs (M.bR o) ∧ Kb (· = P) w w' ∧ M.bV o < 256 := by
  cases o with
  | none =>
    obtain ⟨q, h⟩ := h
    have h0 := Lib.hid h
    have c2 := h.c2
    have f2 := h.f2
    clear h
    go_enter Try.func49, Try.ntmps49
    go_wp2_with fail
    go_quiet (fail)
    go_wp2_with fail
    go_ret
    exact ⟨rfl, ⟨q, (h0.out.drewN nq).fail⟩, Kb.setCell (T := (· = P)) ((Kb.refl _ _).drewN nq) (p := ⟨P, 2, none⟩) rfl _, by decide⟩
  | some r =>
    obtain ⟨q, h, hr⟩ := h
    have h0 := Lib.hid h
    obtain ⟨c0, c1, c2, f1, f2, le, cap, small, bytes, size⟩ := h
    obtain ⟨cap1, cap2⟩ := cap
    unfold maxLen at cap2
    by_cases hq : q < bs.length
    · obtain ⟨ad, e1, hb1, hb2, hb3⟩ := bytes q hq
      subst e1
      have hd : bs.drop q = M.bf bs q :: bs.drop (q + 1) := by
        rw [List.drop_eq_getElem_cons hq]
        simp [M.bf, List.getD_eq_getElem?_getD, hq]
      obtain ⟨y, hy⟩ : ∃ y, y = M.bf bs q := ⟨_, rfl⟩
      rw [← hy] at hb2 hb3 hd
      have hres := Lib.hid (show M.bV (some r) = y ∧ M.bR (some r) = some (bs.drop (q + 1)) by rw [hr, hd]; exact ⟨rfl, rfl⟩)
      have t0 : (0 : Int) ≤ (q : Int) := by omega
      have t1 : (q : Int) < (bs.length : Int) := by omega
      have t2 : decide ((q : Int) ≥ (bs.length : Int)) = false := by simp; omega
      have t3 : decide ((bs.length : Int) ≤ (q : Int)) = false := by simp; omega
      have t4 : decide (bs.length ≤ q) = false := by simp; omega
      have hadP : ad.block ≠ P := by omega
      replace bytes := Lib.hid bytes
      replace hy := Lib.hid hy
      replace hr := Lib.hid hr
      replace hd := Lib.hid hd
      go_enter Try.func49, Try.ntmps49
      go_wp2_with fail
      go_quiet (fail)
      go_wp2_with fail
      have r3 := (h0.out.drewN nq).move (q + 1) (by omega)
      have k3 : Kb (· = P) w ((w.drewN nq).setCell ⟨P, 1, none⟩ (.int .i64 ((q + 1 : Nat) : Int))) := Kb.setCell (T := (· = P)) ((Kb.refl _ _).drewN nq) (p := ⟨P, 1, none⟩) rfl _
      have hq3 : ((w.drewN nq).setCell ⟨P, 1, none⟩ (.int .i64 ((q + 1 : Nat) : Int))).cell? (ad.add q) = some (.int .u8 (y : Nat)) := by
        rw [World.cell?_of_block (w := w.drewN nq) (Below.heap_setCell _ _ _ _ (by rw [addr_block]; exact hadP))]; exact hb3
      rw [Int.natCast_add] at r3 k3 hq3
      generalize (w.drewN nq).setCell ⟨P, 1, none⟩ (.int .i64 ((q : Int) + ((1 : Nat) : Int))) = w3 at r3 k3 hq3 ⊢
      have c03 := r3.c0
      have c13 := r3.c1
      rw [Int.natCast_add] at c13
      replace r3 := Lib.hid r3
      replace k3 := Lib.hid k3
      go_quiet (fail)
      go_wp2_with fail
      go_ret
      exact ⟨by rw [hres.out.1]; rfl, by rw [hres.out.2]; exact ⟨q + 1, r3.out.drewN _, rfl⟩, k3.out.drewN _, by rw [hres.out.1]; exact hb2⟩
    · have hres := Lib.hid (show M.bV (some r) = 0 ∧ M.bR (some r) = none by rw [hr, List.drop_eq_nil_of_le (by omega)]; exact ⟨rfl, rfl⟩)
      have t2 : decide ((q : Int) ≥ (bs.length : Int)) = true := by simp; omega
      have t3 : decide ((bs.length : Int) ≤ (q : Int)) = true := by simp; omega
      have t4 : decide (bs.length ≤ q) = true := by simp; omega
      replace bytes := Lib.hid bytes
      replace hr := Lib.hid hr
      go_enter Try.func49, Try.ntmps49
      go_wp2_with fail
      go_quiet (fail)
      go_wp2_with fail
      go_ret
      exact ⟨by rw [hres.out.1]; rfl, by rw [hres.out.2]; exact ⟨q, (h0.out.drewN nq).fail⟩, Kb.setCell (T := (· = P)) ((Kb.refl _ _).drewN nq) (p := ⟨P, 2, none⟩) rfl _, by rw [hres.out.1]; decide⟩
theorem below_eq {w w' : World} (h : w = w') : Below w.heap.size w w' := by subst h; exact Below.refl _ _
set_option maxRecDepth 100000 in
theorem pis_any (w : World) (P : Nat) (A : Option Addr) (c : Nat) (bs : List Nat) (o : Option (List Nat)) (h : St w P A c bs o) :
    Calls Try.prog 77 #[.pointer (some ⟨P, 0, none⟩), .int .i64 0] w fun e w' => e = .returned (.tuple #[]) ∧ St w' P A c bs (o.bind M.zeroB) ∧ Kb (· = P) w w' := by
  replace h := Lib.hid h
  go_enter Try.func77, Try.ntmps77
  go_wp2_with fail
  refine (pbyte_any _ P A c bs o h.out).mono ?_
  rintro e1 w1 ⟨rfl, st, kb, hlt⟩
  have hbad := st.bad
  by_cases hz : M.bV o = 0
  · have hzi : ((M.bV o : Nat) : Int) = 0 := by omega
    have hst : M.bR o = o.bind M.zeroB := by
      cases o with
      | none => rfl
      | some r =>
        cases r with
        | nil => rfl
        | cons x t =>
          have : x = 0 := hz
          subst this; rfl
    rw [hst] at st
    rw [hzi]
    replace st := Lib.hid st
    replace kb := Lib.hid kb
    clear hzi hst hbad
    go_wp2_with fail
    go_end0
    exact ⟨rfl, st.out, kb.out⟩
  · have hne : (((M.bV o : Nat) : Int) != 0) = true := by simp; omega
    have hst : o.bind M.zeroB = none := by
      cases o with
      | none => rfl
      | some r =>
        cases r with
        | nil => rfl
        | cons x t =>
          have : ¬ x = 0 := hz
          simp [M.zeroB, this]
    have c2 := hbad.1
    have f2 := hbad.2
    obtain ⟨B, hB⟩ : ∃ B, B = (M.bR o).isNone := ⟨_, rfl⟩
    rw [← hB] at c2
    obtain ⟨y, hy⟩ : ∃ y, y = M.bV o := ⟨_, rfl⟩
    rw [← hy] at hne hz hlt ⊢
    have k4 := Lib.hid (Kb.setCell (T := (· = P)) kb (p := ⟨P, 2, none⟩) rfl (.bool true))
    have st4 := Lib.hid st.fail
    replace hB := Lib.hid hB
    replace hy := Lib.hid hy
    replace hst := Lib.hid hst
    clear st kb hbad
    go_wp2_with fail
    go_end0
    exact ⟨rfl, by rw [hst.out]; exact st4.out, k4.out⟩
set_option maxRecDepth 100000 in
theorem pnumber_any (w : World) (P : Nat) (ad : Addr) (c : Nat) (bs : List Nat) (o : Option (List Nat)) (h : St w P (some ad) c bs o) :
    Calls Try.prog 76 #[.pointer (some ⟨P, 0, none⟩)] w fun e w' => e = .returned (.int .i64 (M.nV o)) ∧ St w' P (some ad) c bs (M.nR o) ∧ Kb (· = P) w w' := by
  cases o with
  | none =>
    obtain ⟨q, h⟩ := h
    have h0 := Lib.hid h
    have c2 := h.c2
    clear h
    go_enter Try.func76, Try.ntmps76
    go_wp2_with fail
    go_ret
    exact ⟨rfl, ⟨q, h0.out⟩, Kb.refl _ _⟩
  | some r =>
    obtain ⟨p, h, hr⟩ := h
    have h0 := Lib.hid h
    obtain ⟨c0, c1, c2, f1, f2, le, cap, small, bytes, size⟩ := h
    obtain ⟨cap1, cap2⟩ := cap
    unfold maxLen at cap2
    replace bytes := Lib.hid bytes
    have t0 : (0 : Int) ≤ (p : Int) := by omega
    have t1 : (p : Int) ≤ (bs.length : Int) := by omega
    cases hn : M.num (bs.drop p) with
    | some x =>
      obtain ⟨v, r2⟩ := x
      obtain ⟨n, hU, hv, hr2, n1, n2, n5, v0, v1⟩ := num_of hn
      rw [List.length_drop] at n2
      have hres := Lib.hid (show M.nV (some r) = v ∧ M.nR (some r) = some r2 by unfold M.nV M.nR; rw [hr, Option.bind_some, hn]; exact ⟨rfl, rfl⟩)
      have t2 : ¬ c = p := by omega
      have tn : ((n : Int) == 0) = false := by rw [beq_eq_false_iff_ne]; omega
      have tn2 : ¬ n = 0 := by omega
      replace hU := Lib.hid hU
      replace hv := Lib.hid hv
      replace hr2 := Lib.hid hr2
      replace hr := Lib.hid hr
      clear hn
      go_enter Try.func76, Try.ntmps76
      go_wp2_with fail
      go_region_held3 (fun w' => w'.cell? ⟨P, 0, none⟩ = some (.slice (some ad) bs.length c) ∧ w'.cell? ⟨P, 1, none⟩ = some (.int .i64 (p : Nat)) ∧ Below w.heap.size w w')
        (first | exact ⟨c0, c1, (Below.refl _ _).drew⟩ | assumption | (go_split_ands; exact ⟨by rw [hw2.cell (p := ⟨P, 0, none⟩) (by exact size)]; exact c0, by rw [hw2.cell (p := ⟨P, 1, none⟩) (by exact size)]; exact c1, (Below.drew (Below.refl _ _)).trans hw2⟩))
        (first | (go_at_call 88; refine (rUint_yes (some (ad.add p)) (bs.length - p) (c - p) (M.bf (bs.drop p)) 32 n _ ?_ (by unfold maxLen; omega) (by omega) (by omega) (by rw [← List.length_drop]; exact hU.out)).mono ?_; (rw [← List.length_drop]; exact (rest_bytes p bytes.out).below (Below.drew (Below.refl _ _)) (Nat.le_of_lt size)); rintro e w2 ⟨rfl, hw2⟩; replace hw2 := below_eq hw2))
      have d2 : Below w.heap.size w w2 := (Below.drew (Below.refl _ _)).trans hw2
      have r3 := h0.out.agree (fun k hk => d2.block k (by omega)) d2.size
      have c12 := r3.c1
      have f12 := r3.f1
      have r4 := r3.move (p + n) (by omega)
      have k4 : Kb (· = P) w (w2.setCell ⟨P, 1, none⟩ (.int .i64 ((p + n : Nat) : Int))) := Kb.setCell (T := (· = P)) (.of_below d2) (p := ⟨P, 1, none⟩) rfl _
      rw [Int.natCast_add] at r4 k4
      obtain ⟨m, hm⟩ : ∃ m, m = M.low (M.bf (bs.drop p)) n := ⟨_, rfl⟩
      rw [← hm]
      have hmv : v = (m : Int) := by rw [hm]; exact hv.out
      subst hmv
      replace hm := Lib.hid hm
      clear hv
      clear hU hw2 c0 c1 f1 d2
      replace r3 := Lib.hid r3
      replace r4 := Lib.hid r4
      replace k4 := Lib.hid k4
      go_wp2_with fail
      go_ret
      exact ⟨by rw [hres.out.1]; rfl, by rw [hres.out.2]; exact ⟨p + n, r4.out, by rw [hr2.out, List.drop_drop]⟩, k4.out⟩
    | none =>
      have hU := Lib.hid (num_none hn)
      have hres := Lib.hid (show M.nV (some r) = 0 ∧ M.nR (some r) = none by unfold M.nV M.nR; rw [hr, Option.bind_some, hn]; exact ⟨rfl, rfl⟩)
      replace hr := Lib.hid hr
      clear hn
      by_cases t2 : c = p
      · have hl0 : bs.length = p := by omega
        have h00 : bs.length - p = 0 := by omega
        go_enter Try.func76, Try.ntmps76
        go_wp2_with fail
        go_region_held3 (fun w' => w'.cell? ⟨P, 0, none⟩ = some (.slice (some ad) bs.length c) ∧ w'.cell? ⟨P, 1, none⟩ = some (.int .i64 (p : Nat)) ∧ Below w.heap.size w w')
          (first | exact ⟨c0, c1, (Below.refl _ _).drew⟩ | assumption | (go_split_ands; exact ⟨by rw [hw2.cell (p := ⟨P, 0, none⟩) (by exact size)]; exact c0, by rw [hw2.cell (p := ⟨P, 1, none⟩) (by exact size)]; exact c1, (Below.drew (Below.refl _ _)).trans hw2⟩))
          (first | (go_at_call 88; refine (rUint_no (some ad) 0 _ (M.bf (bs.drop p)) 32 _ (fun i hi => absurd hi (Nat.not_lt_zero _)) (by unfold maxLen; omega) (by omega) (by omega) (fun n hn => hn.2.1 (by rw [← hn.1]; rfl))).mono ?_; rintro e w2 ⟨rfl, hw2⟩; replace hw2 := below_eq hw2))
        have d2 : Below w.heap.size w w2 := (Below.drew (Below.refl _ _)).trans hw2
        have r3 := h0.out.agree (fun k hk => d2.block k (by omega)) d2.size
        have c22 := r3.c2
        have f22 := r3.f2
        have k4 := Lib.hid (Kb.setCell (T := (· = P)) (.of_below d2) (p := ⟨P, 2, none⟩) rfl (.bool true))
        clear hw2 d2 c0 c1 c2 f1 f2
        replace r3 := Lib.hid r3
        go_wp2_with fail
        go_ret
        exact ⟨by rw [hres.out.1]; rfl, by rw [hres.out.2]; exact ⟨p, r3.out.fail⟩, k4.out⟩
      · go_enter Try.func76, Try.ntmps76
        go_wp2_with fail
        go_region_held3 (fun w' => w'.cell? ⟨P, 0, none⟩ = some (.slice (some ad) bs.length c) ∧ w'.cell? ⟨P, 1, none⟩ = some (.int .i64 (p : Nat)) ∧ Below w.heap.size w w')
          (first | exact ⟨c0, c1, (Below.refl _ _).drew⟩ | assumption | (go_split_ands; exact ⟨by rw [hw2.cell (p := ⟨P, 0, none⟩) (by exact size)]; exact c0, by rw [hw2.cell (p := ⟨P, 1, none⟩) (by exact size)]; exact c1, (Below.drew (Below.refl _ _)).trans hw2⟩))
          (first | (go_at_call 88; refine (rUint_no (some (ad.add p)) (bs.length - p) (c - p) (M.bf (bs.drop p)) 32 _ ?_ (by unfold maxLen; omega) (by omega) (by omega) (by rw [← List.length_drop]; exact hU.out)).mono ?_; (rw [← List.length_drop]; exact (rest_bytes p bytes.out).below (Below.drew (Below.refl _ _)) (Nat.le_of_lt size)); rintro e w2 ⟨rfl, hw2⟩; replace hw2 := below_eq hw2))
        have d2 : Below w.heap.size w w2 := (Below.drew (Below.refl _ _)).trans hw2
        have r3 := h0.out.agree (fun k hk => d2.block k (by omega)) d2.size
        have c22 := r3.c2
        have f22 := r3.f2
        have k4 := Lib.hid (Kb.setCell (T := (· = P)) (.of_below d2) (p := ⟨P, 2, none⟩) rfl (.bool true))
        clear hw2 d2 c0 c1 c2 f1 f2
        replace r3 := Lib.hid r3
        go_wp2_with fail
        go_ret
        exact ⟨by rw [hres.out.1]; rfl, by rw [hres.out.2]; exact ⟨p, r3.out.fail⟩, k4.out⟩
set_option maxRecDepth 100000 in
theorem psigned32_any (w : World) (P : Nat) (ad : Addr) (c : Nat) (bs : List Nat) (o : Option (List Nat)) (h : St w P (some ad) c bs o) :
    Calls Try.prog 78 #[.pointer (some ⟨P, 0, none⟩), .int .i64 32] w fun e w' => e = .returned (.int .i64 (M.sV 32 o)) ∧ St w' P (some ad) c bs (M.sR 32 o) ∧ Kb (· = P) w w' := by
  cases o with
  | none =>
    obtain ⟨q, h⟩ := h
    have h0 := Lib.hid h
    have c2 := h.c2
    clear h
    go_enter Try.func78, Try.ntmps78
    go_wp2_with fail
    go_ret
    exact ⟨rfl, ⟨q, h0.out⟩, Kb.refl _ _⟩
  | some r =>
    obtain ⟨p, h, hr⟩ := h
    have h0 := Lib.hid h
    obtain ⟨c0, c1, c2, f1, f2, le, cap, small, bytes, size⟩ := h
    obtain ⟨cap1, cap2⟩ := cap
    unfold maxLen at cap2
    replace bytes := Lib.hid bytes
    have t0 : (0 : Int) ≤ (p : Int) := by omega
    have t1 : (p : Int) ≤ (bs.length : Int) := by omega
    cases hn : M.sgn 32 (bs.drop p) with
    | some x =>
      obtain ⟨v, r2⟩ := x
      obtain ⟨n, hU, hv, hr2, n1, n2⟩ := sgn_of hn
      rw [List.length_drop] at n2
      have hres := Lib.hid (show M.sV 32 (some r) = v ∧ M.sR 32 (some r) = some r2 by unfold M.sV M.sR; rw [hr, Option.bind_some, hn]; exact ⟨rfl, rfl⟩)
      have t2 : ¬ c = p := by omega
      have tn : ((n : Int) == 0) = false := by rw [beq_eq_false_iff_ne]; omega
      have tn2 : ¬ n = 0 := by omega
      replace hU := Lib.hid hU
      replace hv := Lib.hid hv
      replace hr2 := Lib.hid hr2
      replace hr := Lib.hid hr
      clear hn
      go_enter Try.func78, Try.ntmps78
      go_wp2_with fail
      go_region_held3 (fun w' => w'.cell? ⟨P, 0, none⟩ = some (.slice (some ad) bs.length c) ∧ w'.cell? ⟨P, 1, none⟩ = some (.int .i64 (p : Nat)) ∧ Below w.heap.size w w')
        (first | exact ⟨c0, c1, (Below.refl _ _).drew⟩ | assumption | (go_split_ands; exact ⟨by rw [hw2.cell (p := ⟨P, 0, none⟩) (by exact size)]; exact c0, by rw [hw2.cell (p := ⟨P, 1, none⟩) (by exact size)]; exact c1, (Below.drew (Below.refl _ _)).trans hw2⟩))
        (first | (go_at_call 89; refine (rSint_yes (some (ad.add p)) (bs.length - p) (c - p) (M.bf (bs.drop p)) 32 n _ ?_ (by unfold maxLen; omega) (by omega) (by omega) (by rw [← List.length_drop]; exact hU.out)).mono ?_; (rw [← List.length_drop]; exact (rest_bytes p bytes.out).below (Below.drew (Below.refl _ _)) (Nat.le_of_lt size)); rintro e w2 ⟨rfl, hw2⟩; replace hw2 := below_eq hw2))
      have d2 : Below w.heap.size w w2 := (Below.drew (Below.refl _ _)).trans hw2
      have r3 := h0.out.agree (fun k hk => d2.block k (by omega)) d2.size
      have c12 := r3.c1
      have f12 := r3.f1
      have r4 := r3.move (p + n) (by omega)
      have k4 : Kb (· = P) w (w2.setCell ⟨P, 1, none⟩ (.int .i64 ((p + n : Nat) : Int))) := Kb.setCell (T := (· = P)) (.of_below d2) (p := ⟨P, 1, none⟩) rfl _
      rw [Int.natCast_add] at r4 k4
      rw [← hv.out]
      clear hU hw2 c0 c1 f1 d2
      replace r3 := Lib.hid r3
      replace r4 := Lib.hid r4
      replace k4 := Lib.hid k4
      go_wp2_with fail
      go_ret
      exact ⟨by rw [hres.out.1]; rfl, by rw [hres.out.2]; exact ⟨p + n, r4.out, by rw [hr2.out, List.drop_drop]⟩, k4.out⟩
    | none =>
      have hU := Lib.hid (sgn_none hn)
      have hres := Lib.hid (show M.sV 32 (some r) = 0 ∧ M.sR 32 (some r) = none by unfold M.sV M.sR; rw [hr, Option.bind_some, hn]; exact ⟨rfl, rfl⟩)
      replace hr := Lib.hid hr
      clear hn
      by_cases t2 : c = p
      · have hl0 : bs.length = p := by omega
        have h00 : bs.length - p = 0 := by omega
        go_enter Try.func78, Try.ntmps78
        go_wp2_with fail
        go_region_held3 (fun w' => w'.cell? ⟨P, 0, none⟩ = some (.slice (some ad) bs.length c) ∧ w'.cell? ⟨P, 1, none⟩ = some (.int .i64 (p : Nat)) ∧ Below w.heap.size w w')
          (first | exact ⟨c0, c1, (Below.refl _ _).drew⟩ | assumption | (go_split_ands; exact ⟨by rw [hw2.cell (p := ⟨P, 0, none⟩) (by exact size)]; exact c0, by rw [hw2.cell (p := ⟨P, 1, none⟩) (by exact size)]; exact c1, (Below.drew (Below.refl _ _)).trans hw2⟩))
          (first | (go_at_call 89; refine (rSint_no (some ad) 0 _ (M.bf (bs.drop p)) 32 _ (fun i hi => absurd hi (Nat.not_lt_zero _)) (by unfold maxLen; omega) (by omega) (by omega) (fun n hn => hn.2.1 (by rw [← hn.1]; rfl))).mono ?_; rintro e w2 ⟨rfl, hw2⟩; replace hw2 := below_eq hw2))
        have d2 : Below w.heap.size w w2 := (Below.drew (Below.refl _ _)).trans hw2
        have r3 := h0.out.agree (fun k hk => d2.block k (by omega)) d2.size
        have c22 := r3.c2
        have f22 := r3.f2
        have k4 := Lib.hid (Kb.setCell (T := (· = P)) (.of_below d2) (p := ⟨P, 2, none⟩) rfl (.bool true))
        clear hw2 d2 c0 c1 c2 f1 f2
        replace r3 := Lib.hid r3
        go_wp2_with fail
        go_ret
        exact ⟨by rw [hres.out.1]; rfl, by rw [hres.out.2]; exact ⟨p, r3.out.fail⟩, k4.out⟩
      · go_enter Try.func78, Try.ntmps78
        go_wp2_with fail
        go_region_held3 (fun w' => w'.cell? ⟨P, 0, none⟩ = some (.slice (some ad) bs.length c) ∧ w'.cell? ⟨P, 1, none⟩ = some (.int .i64 (p : Nat)) ∧ Below w.heap.size w w')
          (first | exact ⟨c0, c1, (Below.refl _ _).drew⟩ | assumption | (go_split_ands; exact ⟨by rw [hw2.cell (p := ⟨P, 0, none⟩) (by exact size)]; exact c0, by rw [hw2.cell (p := ⟨P, 1, none⟩) (by exact size)]; exact c1, (Below.drew (Below.refl _ _)).trans hw2⟩))
          (first | (go_at_call 89; refine (rSint_no (some (ad.add p)) (bs.length - p) (c - p) (M.bf (bs.drop p)) 32 _ ?_ (by unfold maxLen; omega) (by omega) (by omega) (by rw [← List.length_drop]; exact hU.out)).mono ?_; (rw [← List.length_drop]; exact (rest_bytes p bytes.out).below (Below.drew (Below.refl _ _)) (Nat.le_of_lt size)); rintro e w2 ⟨rfl, hw2⟩; replace hw2 := below_eq hw2))
        have d2 : Below w.heap.size w w2 := (Below.drew (Below.refl _ _)).trans hw2
        have r3 := h0.out.agree (fun k hk => d2.block k (by omega)) d2.size
        have c22 := r3.c2
        have f22 := r3.f2
        have k4 := Lib.hid (Kb.setCell (T := (· = P)) (.of_below d2) (p := ⟨P, 2, none⟩) rfl (.bool true))
        clear hw2 d2 c0 c1 c2 f1 f2
        replace r3 := Lib.hid r3
        go_wp2_with fail
        go_ret
        exact ⟨by rw [hres.out.1]; rfl, by rw [hres.out.2]; exact ⟨p, r3.out.fail⟩, k4.out⟩
set_option maxRecDepth 100000 in
theorem psigned64_any (w : World) (P : Nat) (ad : Addr) (c : Nat) (bs : List Nat) (o : Option (List Nat)) (h : St w P (some ad) c bs o) :
    Calls Try.prog 78 #[.pointer (some ⟨P, 0, none⟩), .int .i64 64] w fun e w' => e = .returned (.int .i64 (M.sV 64 o)) ∧ St w' P (some ad) c bs (M.sR 64 o) ∧ Kb (· = P) w w' := by
  cases o with
  | none =>
    obtain ⟨q, h⟩ := h
    have h0 := Lib.hid h
    have c2 := h.c2
    clear h
    go_enter Try.func78, Try.ntmps78
    go_wp2_with fail
    go_ret
    exact ⟨rfl, ⟨q, h0.out⟩, Kb.refl _ _⟩
  | some r =>
    obtain ⟨p, h, hr⟩ := h
    have h0 := Lib.hid h
    obtain ⟨c0, c1, c2, f1, f2, le, cap, small, bytes, size⟩ := h
    obtain ⟨cap1, cap2⟩ := cap
    unfold maxLen at cap2
    replace bytes := Lib.hid bytes
    have t0 : (0 : Int) ≤ (p : Int) := by omega
    have t1 : (p : Int) ≤ (bs.length : Int) := by omega
    cases hn : M.sgn 64 (bs.drop p) with
    | some x =>
      obtain ⟨v, r2⟩ := x
      obtain ⟨n, hU, hv, hr2, n1, n2⟩ := sgn_of hn
      rw [List.length_drop] at n2
      have hres := Lib.hid (show M.sV 64 (some r) = v ∧ M.sR 64 (some r) = some r2 by unfold M.sV M.sR; rw [hr, Option.bind_some, hn]; exact ⟨rfl, rfl⟩)
      have t2 : ¬ c = p := by omega
      have tn : ((n : Int) == 0) = false := by rw [beq_eq_false_iff_ne]; omega
      have tn2 : ¬ n = 0 := by omega
      replace hU := Lib.hid hU
      replace hv := Lib.hid hv
      replace hr2 := Lib.hid hr2
      replace hr := Lib.hid hr
      clear hn
      go_enter Try.func78, Try.ntmps78
      go_wp2_with fail
      go_region_held3 (fun w' => w'.cell? ⟨P, 0, none⟩ = some (.slice (some ad) bs.length c) ∧ w'.cell? ⟨P, 1, none⟩ = some (.int .i64 (p : Nat)) ∧ Below w.heap.size w w')
        (first | exact ⟨c0, c1, (Below.refl _ _).drew⟩ | assumption | (go_split_ands; exact ⟨by rw [hw2.cell (p := ⟨P, 0, none⟩) (by exact size)]; exact c0, by rw [hw2.cell (p := ⟨P, 1, none⟩) (by exact size)]; exact c1, (Below.drew (Below.refl _ _)).trans hw2⟩))
        (first | (go_at_call 89; refine (rSint_yes (some (ad.add p)) (bs.length - p) (c - p) (M.bf (bs.drop p)) 64 n _ ?_ (by unfold maxLen; omega) (by omega) (by omega) (by rw [← List.length_drop]; exact hU.out)).mono ?_; (rw [← List.length_drop]; exact (rest_bytes p bytes.out).below (Below.drew (Below.refl _ _)) (Nat.le_of_lt size)); rintro e w2 ⟨rfl, hw2⟩; replace hw2 := below_eq hw2))
      have d2 : Below w.heap.size w w2 := (Below.drew (Below.refl _ _)).trans hw2
      have r3 := h0.out.agree (fun k hk => d2.block k (by omega)) d2.size
      have c12 := r3.c1
      have f12 := r3.f1
      have r4 := r3.move (p + n) (by omega)
      have k4 : Kb (· = P) w (w2.setCell ⟨P, 1, none⟩ (.int .i64 ((p + n : Nat) : Int))) := Kb.setCell (T := (· = P)) (.of_below d2) (p := ⟨P, 1, none⟩) rfl _
      rw [Int.natCast_add] at r4 k4
      rw [← hv.out]
      clear hU hw2 c0 c1 f1 d2
      replace r3 := Lib.hid r3
      replace r4 := Lib.hid r4
      replace k4 := Lib.hid k4
      go_wp2_with fail
      go_ret
      exact ⟨by rw [hres.out.1]; rfl, by rw [hres.out.2]; exact ⟨p + n, r4.out, by rw [hr2.out, List.drop_drop]⟩, k4.out⟩
    | none =>
      have hU := Lib.hid (sgn_none hn)
      have hres := Lib.hid (show M.sV 64 (some r) = 0 ∧ M.sR 64 (some r) = none by unfold M.sV M.sR; rw [hr, Option.bind_some, hn]; exact ⟨rfl, rfl⟩)
      replace hr := Lib.hid hr
      clear hn
      by_cases t2 : c = p
      · have hl0 : bs.length = p := by omega
        have h00 : bs.length - p = 0 := by omega
        go_enter Try.func78, Try.ntmps78
        go_wp2_with fail
        go_region_held3 (fun w' => w'.cell? ⟨P, 0, none⟩ = some (.slice (some ad) bs.length c) ∧ w'.cell? ⟨P, 1, none⟩ = some (.int .i64 (p : Nat)) ∧ Below w.heap.size w w')
          (first | exact ⟨c0, c1, (Below.refl _ _).drew⟩ | assumption | (go_split_ands; exact ⟨by rw [hw2.cell (p := ⟨P, 0, none⟩) (by exact size)]; exact c0, by rw [hw2.cell (p := ⟨P, 1, none⟩) (by exact size)]; exact c1, (Below.drew (Below.refl _ _)).trans hw2⟩))
          (first | (go_at_call 89; refine (rSint_no (some ad) 0 _ (M.bf (bs.drop p)) 64 _ (fun i hi => absurd hi (Nat.not_lt_zero _)) (by unfold maxLen; omega) (by omega) (by omega) (fun n hn => hn.2.1 (by rw [← hn.1]; rfl))).mono ?_; rintro e w2 ⟨rfl, hw2⟩; replace hw2 := below_eq hw2))
        have d2 : Below w.heap.size w w2 := (Below.drew (Below.refl _ _)).trans hw2
        have r3 := h0.out.agree (fun k hk => d2.block k (by omega)) d2.size
        have c22 := r3.c2
        have f22 := r3.f2
        have k4 := Lib.hid (Kb.setCell (T := (· = P)) (.of_below d2) (p := ⟨P, 2, none⟩) rfl (.bool true))
        clear hw2 d2 c0 c1 c2 f1 f2
        replace r3 := Lib.hid r3
        go_wp2_with fail
        go_ret
        exact ⟨by rw [hres.out.1]; rfl, by rw [hres.out.2]; exact ⟨p, r3.out.fail⟩, k4.out⟩
      · go_enter Try.func78, Try.ntmps78
        go_wp2_with fail
        go_region_held3 (fun w' => w'.cell? ⟨P, 0, none⟩ = some (.slice (some ad) bs.length c) ∧ w'.cell? ⟨P, 1, none⟩ = some (.int .i64 (p : Nat)) ∧ Below w.heap.size w w')
          (first | exact ⟨c0, c1, (Below.refl _ _).drew⟩ | assumption | (go_split_ands; exact ⟨by rw [hw2.cell (p := ⟨P, 0, none⟩) (by exact size)]; exact c0, by rw [hw2.cell (p := ⟨P, 1, none⟩) (by exact size)]; exact c1, (Below.drew (Below.refl _ _)).trans hw2⟩))
          (first | (go_at_call 89; refine (rSint_no (some (ad.add p)) (bs.length - p) (c - p) (M.bf (bs.drop p)) 64 _ ?_ (by unfold maxLen; omega) (by omega) (by omega) (by rw [← List.length_drop]; exact hU.out)).mono ?_; (rw [← List.length_drop]; exact (rest_bytes p bytes.out).below (Below.drew (Below.refl _ _)) (Nat.le_of_lt size)); rintro e w2 ⟨rfl, hw2⟩; replace hw2 := below_eq hw2))
        have d2 : Below w.heap.size w w2 := (Below.drew (Below.refl _ _)).trans hw2
        have r3 := h0.out.agree (fun k hk => d2.block k (by omega)) d2.size
        have c22 := r3.c2
        have f22 := r3.f2
        have k4 := Lib.hid (Kb.setCell (T := (· = P)) (.of_below d2) (p := ⟨P, 2, none⟩) rfl (.bool true))
        clear hw2 d2 c0 c1 c2 f1 f2
        replace r3 := Lib.hid r3
        go_wp2_with fail
        go_ret
        exact ⟨by rw [hres.out.1]; rfl, by rw [hres.out.2]; exact ⟨p, r3.out.fail⟩, k4.out⟩
end Go.Proofs.Ytjapcalndolamaa
