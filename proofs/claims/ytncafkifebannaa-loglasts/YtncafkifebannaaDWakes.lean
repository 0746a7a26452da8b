/-
  The statements' small helpers: what wakes, a sector or noughts; no condition.
-/
import Derived.Test.YtncafkifebannaaDNew
import Derived.Test.YtncafkifebannaaDCrash
namespace Go.Proofs.Ytncafkifebannaa
open Go.RowKit
theorem nil_NS (w : World) (N : Nat) : NS w N (.slice none 0 0) [] := ⟨none, 0, rfl, by simp, by unfold maxLen; omega, fun i hi => by simp at hi⟩
theorem new_rows {w w1 : World} {bs : List Nat} {ts : List Int} {n : Nat} {e : Ending} (h : NewPost bs ts n w e w1) (ht : ∀ t ∈ ts, 1 ≤ t) : ∃ g r q cS cE, e = .returned (.tuple #[Mp g, .int .i64 0]) ∧ DAt w1 w.heap.size g r q n cS cE bs bs 0 (M.least ts) ∧ Below w.heap.size w w1 := by
  obtain ⟨⟨_, g, r, q, cS, cE, he, hd⟩ | ⟨⟨t, h1, h2⟩, _⟩, hb⟩ := h
  · exact ⟨g, r, q, cS, cE, he, hd, hb⟩
  · have := ht t h1
    omega
theorem DAt.since {w w1 w2 : World} {B g r q n cS cE : Nat} {S E : List Nat} {k last : Int} (h : DAt w1 B g r q n cS cE S E k last) (hb : Below B w w1) (hB : B ≤ w.heap.size) (hx : But (DX g r q) w1 w2) : Below B w w2 :=
  hb.trans (hx.below h.ft (Nat.le_trans hB hb.size))
end Go.Proofs.Ytncafkifebannaa
