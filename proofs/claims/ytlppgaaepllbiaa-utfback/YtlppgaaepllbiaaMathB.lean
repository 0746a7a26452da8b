/-
  Plain facts on texts cut short, turned or put together; no condition; nothing of the program is named here.
-/
import Derived.Test.YtlppgaaepllbiaaMath
namespace Go.Proofs.Ytlppgaaepllbiaa.M
theorem text_cat {a b ps qs : List Nat} (h1 : Text a ps) (h2 : Text b qs) : Text (a ++ b) (ps ++ qs) := by
  refine ⟨fun p hp => ?_, by rw [encs_append, ← h1.2, ← h2.2]⟩
  rcases List.mem_append.1 hp with h | h
  · exact h1.1 p h
  · exact h2.1 p h
theorem kind_unique {m n b : Nat} (h1 : Kind m b) (h2 : Kind n b) : m = n := by
  unfold Kind at h1 h2
  omega
theorem head_self {p : Nat} (h : IsP p) : Head (enc p) p [] := ⟨h, by simp⟩
/-- Bytes of a text whose last one does not stand alone are no text without it. -/
theorem text_cut {bs ps : List Nat} (h : Text bs ps) (hl : 0 < bs.length) (hlast : 128 ≤ bs.getD (bs.length - 1) 0) : ∀ qs, ¬ Text (bs.take (bs.length - 1)) qs := by
  rintro qs ⟨hq, hqe⟩
  obtain ⟨hp, rfl⟩ := h
  rcases List.eq_nil_or_concat ps with rfl | ⟨d, p, rfl⟩
  · simp [encs] at hl
  · rw [List.concat_eq_append] at *
    have hpp : IsP p := hp p (by simp)
    have hel := enc_length p
    have hw := wid_range p
    rw [encs_snoc] at hqe hlast
    have hlen : (encs d ++ enc p).length = (encs d).length + wid p := by rw [List.length_append, hel]
    rw [hlen] at hqe hlast
    have hw2 : 2 ≤ wid p := by
      refine Nat.le_of_not_lt fun hlt => ?_
      have hp1 : p < 128 := by
        unfold wid at hlt
        split at hlt
        · assumption
        · split at hlt
          · omega
          · split at hlt <;> omega
      rw [enc1 hp1] at hlast
      have e : wid p = 1 := by omega
      rw [e, List.getD_eq_getElem?_getD, List.getElem?_append_right (by omega)] at hlast
      simp at hlast
      omega
    have e1 : (encs d ++ enc p).take ((encs d).length + wid p - 1) = encs d ++ (enc p).take (wid p - 1) := by
      rw [List.take_append]
      congr 1
      · exact List.take_of_length_le (by omega)
      · congr 1; omega
    rw [e1] at hqe
    obtain ⟨q', rfl, h3⟩ := encs_front (fun x hx => hp x (by simp [hx])) hq hqe
    cases q' with
    | nil =>
      have := congrArg List.length h3
      rw [List.length_take] at this
      simp only [encs, List.length_nil] at this
      omega
    | cons q s =>
      have hqq : IsP q := hq q (by simp)
      have k1 := head_kind (bs := (enc p).take (wid p - 1)) (p := q) (r := encs s) ⟨hqq, h3⟩
      have k2 := head_kind (head_self hpp)
      have e2 : ((enc p).take (wid p - 1)).getD 0 0 = (enc p).getD 0 0 := by
        rw [List.getD_eq_getElem?_getD, List.getD_eq_getElem?_getD, List.getElem?_take_of_lt (by omega)]
      rw [e2] at k1
      have e3 := kind_unique k1 k2
      have := congrArg List.length h3
      simp only [encs, List.length_append, List.length_take, enc_length] at this
      omega
/-- A point's bytes without the first are no text. -/
theorem text_tail {p : Nat} (h : IsP p) (hw : 2 ≤ wid p) : ∀ qs, ¬ Text ((enc p).drop 1) qs := by
  have hel := enc_length p
  have k := head_kind (head_self h)
  obtain ⟨⟨_, ht, _⟩, _⟩ := take_of_head k (head_self h)
  have h1 := ht 1 (by omega) (by omega)
  simp only at h1
  refine fun qs hq => ?_
  have hs := text_stuck (d := []) (rest := (enc p).drop 1) (ps := qs) (by simp) (by intro e; have := congrArg List.length e; simp at this; omega) (fun q r hh => by
    have k2 := head_kind hh
    have e : ((enc p).drop 1).getD 0 0 = (enc p).getD 1 0 := by simp [List.getD_eq_getElem?_getD]
    rw [e] at k2
    unfold Kind at k2
    omega)
  exact hs (by simpa [encs] using hq)
/-- A point's bytes with one of the further ones turned are no text. -/
theorem text_turned {p j y : Nat} (h : IsP p) (hj : 1 ≤ j) (hjw : j < wid p) (hy : y / 64 ≠ 2) : ∀ qs, ¬ Text ((enc p).set j y) qs := by
  have hel := enc_length p
  have k := head_kind (head_self h)
  refine fun qs hq => ?_
  have e0 : ((enc p).set j y).getD 0 0 = (enc p).getD 0 0 := by
    simp only [List.getD_eq_getElem?_getD]
    rw [List.getElem?_set_ne (by omega)]
  have hs := text_stuck (d := []) (rest := (enc p).set j y) (ps := qs) (by simp) (by intro e; have := congrArg List.length e; rw [List.length_set] at this; simp only [List.length_nil] at this; omega) (fun q r hh => by
    have k2 := head_kind hh
    rw [e0] at k2
    have e1 := kind_unique k2 k
    obtain ⟨⟨_, ht, _⟩, _⟩ := take_of_head (n := wid p) (bs := (enc p).set j y) (by rw [e0]; exact k) hh
    have := ht j hj hjw
    simp only [List.getD_eq_getElem?_getD] at this
    rw [List.getElem?_set_self (by omega)] at this
    exact hy this)
  exact hs (by simpa [encs] using hq)
/-- One byte alone. -/
theorem text_one {b : Nat} (h : b < 128) : Text [b] [b] := ⟨fun p hp => by simp at hp; subst hp; unfold IsP; omega, by simp [encs, enc1 h]⟩
theorem text_one_no {b : Nat} (h : ¬ b < 128) : ∀ qs, ¬ Text [b] qs := fun qs hq => by
  have hs := text_stuck (d := []) (rest := [b]) (ps := qs) (by simp) (by simp) (fun q r hh => by
    have k := head_kind hh
    have hl := congrArg List.length hh.2
    rw [List.length_append, enc_length] at hl
    simp at hl
    have hw := wid_range q
    unfold Kind at k
    simp at k
    omega)
  exact hs (by simpa [encs] using hq)
end Go.Proofs.Ytlppgaaepllbiaa.M
