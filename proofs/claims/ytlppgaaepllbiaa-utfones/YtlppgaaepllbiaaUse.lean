/-
  What package utf's Check and Points answer, for every slice of at most 100000 bytes: whether they are a text, and its points; condition: the bytes lie in memory that was there at the call.
-/
import Derived.Test.YtlppgaaepllbiaaWalkC
import Derived.Test.YtlppgaaepllbiaaWalkP
import Derived.Deep.Onto
namespace Go.Proofs.Ytlppgaaepllbiaa
open Go.RowKit
theorem Check_post (v : Value) (bs : List Nat) (w : World) (h : BS w w.heap.size v bs) : Calls Try.prog 12 #[v] w (WPost XT w.heap.size bs w) := by
  replace h := Lib.hid h
  go_enter Try.func12, Try.ntmps12
  go_wp2_with fail
  refine (walk_check v bs _ h.out).mono ?_
  rintro e w1 ⟨⟨ps, h1, rfl, h2⟩ | ⟨h1, rfl⟩, h3⟩
  · replace h1 := Lib.hid h1
    replace h3 := Lib.hid h3
    go_wp2
    go_ret
    exact ⟨.inl ⟨ps, h1.out, rfl, trivial⟩, h3.out⟩
  · replace h1 := Lib.hid h1
    replace h3 := Lib.hid h3
    go_wp2
    go_ret
    exact ⟨.inr ⟨h1.out, rfl⟩, h3.out⟩
theorem Check_yes (v : Value) (bs ps : List Nat) (w : World) (h : BS w w.heap.size v bs) (ht : M.Text bs ps) : Calls Try.prog 12 #[v] w fun e w' => e = .returned (.int .i64 0) ∧ Below w.heap.size w w' :=
  (Check_post v bs w h).mono fun _ _ ⟨h1, h2⟩ => by
    rcases h1 with ⟨_, _, he, _⟩ | ⟨hn, _⟩
    · exact ⟨he, h2⟩
    · exact absurd ht (hn ps)
theorem Check_no (v : Value) (bs : List Nat) (w : World) (h : BS w w.heap.size v bs) (ht : ∀ ps, ¬ M.Text bs ps) : Calls Try.prog 12 #[v] w fun e w' => e = .returned (.int .i64 100) ∧ Below w.heap.size w w' :=
  (Check_post v bs w h).mono fun _ _ ⟨h1, h2⟩ => by
    rcases h1 with ⟨ps, hp, _, _⟩ | ⟨_, he⟩
    · exact absurd hp (ht ps)
    · exact ⟨he, h2⟩
/-- What Points hands back. -/
def PPost (bs : List Nat) (w : World) (e : Ending) (w' : World) : Prop :=
  ((∃ ps v, M.Text bs ps ∧ e = .returned (.tuple #[v, .int .i64 0]) ∧ w'.ownsRow w.heap.size 21 1 v ps.length (pvals ps)) ∨ ((∀ ps, ¬ M.Text bs ps) ∧ e = .returned (.tuple #[.slice none 0 0, .int .i64 100]))) ∧ Below w.heap.size w w'
theorem Points_post (v : Value) (bs : List Nat) (w : World) (h : BS w w.heap.size v bs) (hl : bs.length ≤ 100000) : Calls Try.prog 9 #[v] w (PPost bs w) := by
  replace h := Lib.hid h
  go_enter Try.func9, Try.ntmps9
  go_wp2_with fail
  refine (walk_points v bs _ w.heap.size (by simp) (by simp) (by simp) hl (h.out.below ((Below.refl _ _).alloc (Nat.le_refl _) _) (Nat.le_refl _))).mono ?_
  rintro e w1 ⟨⟨ps, h1, rfl, ⟨vl, h4, h5, h6⟩⟩ | ⟨h1, rfl⟩, h3⟩
  · replace h1 := Lib.hid h1
    replace h3 := Lib.hid (((Below.refl w.heap.size w).alloc (Nat.le_refl _) _).trans h3)
    replace h6 := Lib.hid h6
    go_wp2
    go_ret2
    exact ⟨.inl ⟨ps, vl, h1.out, rfl, h6.out.mono (by simp; omega)⟩, h3.out⟩
  · replace h1 := Lib.hid h1
    replace h3 := Lib.hid (((Below.refl w.heap.size w).alloc (Nat.le_refl _) _).trans h3)
    go_wp2
    go_ret2
    exact ⟨.inr ⟨h1.out, rfl⟩, h3.out⟩
theorem Points_yes (v : Value) (bs ps : List Nat) (w : World) (h : BS w w.heap.size v bs) (hl : bs.length ≤ 100000) (ht : M.Text bs ps) :
    Calls Try.prog 9 #[v] w fun e w' => ∃ vl, e = .returned (.tuple #[vl, .int .i64 0]) ∧ w'.ownsRow w.heap.size 21 1 vl ps.length (pvals ps) ∧ Below w.heap.size w w' :=
  (Points_post v bs w h hl).mono fun _ _ ⟨h1, h2⟩ => by
    rcases h1 with ⟨qs, vl, hq, he, ho⟩ | ⟨hn, _⟩
    · obtain rfl := M.text_unique ht hq
      exact ⟨vl, he, ho, h2⟩
    · exact absurd ht (hn ps)
theorem Points_no (v : Value) (bs : List Nat) (w : World) (h : BS w w.heap.size v bs) (hl : bs.length ≤ 100000) (ht : ∀ ps, ¬ M.Text bs ps) :
    Calls Try.prog 9 #[v] w fun e w' => e = .returned (.tuple #[.slice none 0 0, .int .i64 100]) ∧ Below w.heap.size w w' :=
  (Points_post v bs w h hl).mono fun _ _ ⟨h1, h2⟩ => by
    rcases h1 with ⟨qs, vl, hq, he, ho⟩ | ⟨_, he⟩
    · exact absurd hq (ht qs)
    · exact ⟨he, h2⟩
end Go.Proofs.Ytlppgaaepllbiaa
