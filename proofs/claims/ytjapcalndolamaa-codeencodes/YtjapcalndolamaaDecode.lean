/-
  What Decode answers: the instructions that the bytes begin with, in new memory, and how many bytes they are, or none; condition: the bytes lie in memory that was there at the call.
-/
import Derived.Test.YtjapcalndolamaaListR
import Derived.Test.YtjapcalndolamaaLabels
import Derived.Test.YtjapcalndolamaaNewPlace
namespace Go.Proofs.Ytjapcalndolamaa
open Go.RowKit
theorem list_any : ∀ (k d : Nat), d + k = 40 → ListOk d := by
  intro k
  induction k with
  | zero => intro d hd; exact list_of labels_any d (fun h => by omega)
  | succ k ih => intro d hd; exact list_of labels_any d (fun h => ih (d + 1) (by omega))
def DecPost (bs : List Nat) (w : World) (e : Ending) (w' : World) : Prop :=
  (∃ l n v, M.expr bs = some (l, n) ∧ e = .returned (.tuple #[v, .int .i64 (n : Nat), .int .i64 0]) ∧ OwnL w' (Since w.heap.size w') v l ∧ Below w.heap.size w w') ∨
  (M.expr bs = none ∧ e = .returned (.tuple #[.slice none 0 0, .int .i64 0, .int .i64 100]) ∧ Below w.heap.size w w')
theorem Kb.below {P : Nat} {w w' : World} (h : Kb (· = P) w w') {B : Nat} (hB : B ≤ P) (hs : B ≤ w.heap.size) : Below B w w' := ⟨h.os, h.tape, h.output, h.size, fun k hk => h.block k (by omega) (by omega)⟩
set_option maxRecDepth 100000 in
set_option maxHeartbeats 4000000 in
theorem Decode_any (v : Value) (bs : List Nat) (w : World) (hb : BS w w.heap.size v bs) (hs : bs.length ≤ 100000) : Calls Try.prog 11 #[v] w (DecPost bs w) := by
  obtain ⟨A, c, rfl, h1, h2, hB⟩ := hb
  replace hB : Bytes w w.heap.size A bs.length (M.bf bs) := hB
  by_cases h0 : bs = []
  · subst h0
    have he := Lib.hid (show M.expr [] = none by unfold M.expr; rw [M.dec_nil]; rfl)
    replace hB := Lib.hid hB
    go_enter Try.func11, Try.ntmps11
    go_wp2_with fail
    refine (newPlace_any A c [] _ hB.out ⟨h1, h2⟩ hs).mono ?_
    rintro e1 w1 ⟨rfl, pl, b1⟩
    replace pl := Lib.hid pl
    replace b1 := Lib.hid b1
    go_wp2_with fail
    refine (list_nil _ A c _ pl.out).mono ?_
    rintro e2 w2 ⟨rfl, n2, hw2⟩
    have pl2 := Lib.hid (show PlaceAt w2 w.heap.size A c [] 0 0 by rw [hw2]; exact drewN_place pl.out n2)
    have b2 := Lib.hid (show Below w.heap.size w w2 by rw [hw2]; exact below_drewN b1.out n2)
    clear hw2
    go_wp2_with fail
    refine (fixed_any _ _ A c [] 0 0 11 pl2.out (by omega)).mono ?_
    rintro e3 w3 (⟨hb, _⟩ | ⟨hb, rfl, pl3, kb⟩)
    · exact absurd hb (by decide)
    · have b3 := Lib.hid (b2.out.trans (kb.below (Nat.le_refl _) b2.out.size))
      clear kb pl3 hb
      go_wp2_with fail
      go_ret3
      exact .inr ⟨he.out, rfl, b3.out⟩
  · obtain ⟨ad, rfl⟩ : ∃ ad, A = some ad := by
      obtain ⟨ad, e, _⟩ := hB 0 (by cases bs with | nil => exact absurd rfl h0 | cons => simp)
      exact ⟨ad, e⟩
    clear h0
    replace hB := Lib.hid hB
    go_enter Try.func11, Try.ntmps11
    go_wp2_with fail
    refine (newPlace_any (some ad) c bs _ hB.out ⟨h1, h2⟩ hs).mono ?_
    rintro e1 w1 ⟨rfl, pl, b1⟩
    have hs1 : w.heap.size < w1.heap.size := pl.size
    replace pl := Lib.hid pl
    replace b1 := Lib.hid b1
    go_wp2_with fail
    refine (list_any 40 0 rfl _ ad c bs 0 _ pl.out).mono ?_
    rintro e2 w2 (⟨l, r, v, q, hdec, rfl, pl2, hr, own2, kb2⟩ | ⟨hdec, rfl, ⟨q, pl2⟩, kb2⟩)
    · simp only [List.drop_zero, Nat.sub_zero] at hdec
      replace pl2 := Lib.hid pl2
      replace own2 := Lib.hid own2
      have b2 := Lib.hid (b1.out.trans (kb2.below (Nat.le_refl _) b1.out.size))
      have hs2 : w1.heap.size ≤ w2.heap.size := kb2.size
      replace hdec := Lib.hid hdec
      replace hr := Lib.hid hr
      clear kb2
      obtain ⟨A3, n3, c3, rfl⟩ := own_slice own2.out
      go_wp2_with fail
      refine (fixed_any _ _ (some ad) c bs q 0 11 pl2.out (by omega)).mono ?_
      rintro e3 w3 (⟨hb, rfl, pl3, kb3⟩ | ⟨hb, rfl, pl3, kb3⟩)
      · obtain ⟨hlt, hd⟩ := nextB_lt hb
        have he := Lib.hid (show M.expr bs = some (l, q + 1) by
          rw [M.expr_of (by rw [hdec.out, hr.out, hd]), List.length_drop]
          congr 2
          omega)
        have b3 := Lib.hid (b2.out.trans (kb3.below (Nat.le_refl _) b2.out.size))
        have own3 := Lib.hid (show OwnL w3 (Since w.heap.size w3) (.slice A3 n3 c3) l from own2.out.agree (fun k hk => kb3.block k hk.2 (by have := hk.1; omega)) (fun k hk => ⟨by have := hk.1; omega, Nat.lt_of_lt_of_le hk.2 kb3.size⟩))
        have c1 := pl3.c1
        replace pl3 := Lib.hid pl3
        clear kb3 hb hd
        go_wp2_with fail
        go_quiet (fail)
        go_wp2_with fail
        go_ret3
        exact .inl ⟨l, q + 1, _, he.out, rfl, own3.out.agree (fun _ _ => rfl) (fun _ hk => hk), below_drewN b3.out nq⟩
      · have he := Lib.hid (show M.expr bs = none by
          unfold M.expr
          rw [hdec.out, hr.out, Option.bind_some]
          have : M.endB (bs.drop q) = none := by
            cases hx : M.endB (bs.drop q) with
            | none => rfl
            | some y =>
              have := M.endB_some hx
              unfold nextB at hb
              rw [this] at hb
              simp at hb
          simp only [this]
          rfl)
        have b3 := Lib.hid (b2.out.trans (kb3.below (Nat.le_refl _) b2.out.size))
        clear kb3 hb pl3
        go_wp2_with fail
        go_ret3
        exact .inr ⟨he.out, rfl, b3.out⟩
    · simp only [List.drop_zero, Nat.sub_zero] at hdec
      have he := Lib.hid (show M.expr bs = none by unfold M.expr; rw [hdec]; rfl)
      have b2 := Lib.hid (b1.out.trans (kb2.below (Nat.le_refl _) b1.out.size))
      clear kb2 hdec pl2
      go_wp2_with fail
      go_ret3
      exact .inr ⟨he.out, rfl, b2.out⟩
theorem Decode_yes (v : Value) (bs : List Nat) (l : M.L) (n : Nat) (w : World) (hb : BS w w.heap.size v bs) (hs : bs.length ≤ 100000) (he : M.expr bs = some (l, n)) :
    Calls Try.prog 11 #[v] w fun e w' => ∃ u, e = .returned (.tuple #[u, .int .i64 (n : Nat), .int .i64 0]) ∧ OwnL w' (Since w.heap.size w') u l ∧ Below w.heap.size w w' :=
  (Decode_any v bs w hb hs).mono fun e w' h => by
    rcases h with ⟨l', n', u, h1, h2, h3, h4⟩ | ⟨h1, _⟩
    · rw [he] at h1
      cases h1
      exact ⟨u, h2, h3, h4⟩
    · rw [he] at h1; cases h1
theorem Decode_no (v : Value) (bs : List Nat) (w : World) (hb : BS w w.heap.size v bs) (hs : bs.length ≤ 100000) (he : M.expr bs = none) :
    Calls Try.prog 11 #[v] w fun e w' => e = .returned (.tuple #[.slice none 0 0, .int .i64 0, .int .i64 100]) ∧ Below w.heap.size w w' :=
  (Decode_any v bs w hb hs).mono fun e w' h => by
    rcases h with ⟨l', n', u, h1, _⟩ | ⟨_, h2, h3⟩
    · rw [he] at h1; cases h1
    · exact ⟨h2, h3⟩
end Go.Proofs.Ytjapcalndolamaa
