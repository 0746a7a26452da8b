/-
  The library's Equal and Clone, and what the disk's Read, Write and Flush answer; condition: the disk was made by the call.
-/
import Derived.Test.YtncafkifebannaaDWrite
import Derived.Lib.Bytes
namespace Go.Proofs.Ytncafkifebannaa
open Go.RowKit
theorem strOf_inj {xs ys : List Nat} (hx : ∀ b ∈ xs, b < 256) (hy : ∀ b ∈ ys, b < 256) : strOfNums (xs.map fun b : Nat => (b : Int)) = strOfNums (ys.map fun b : Nat => (b : Int)) ↔ xs = ys := by
  constructor
  · intro h
    have h1 := congrArg (fun s : ByteArray => s.data.toList.map fun u => u.toNat) h
    simp only [strOfNums_data, List.map_map] at h1
    have key : ∀ l : List Nat, (∀ b ∈ l, b < 256) → List.map ((fun u : UInt8 => u.toNat) ∘ (fun n : Int => UInt8.ofNat n.toNat) ∘ fun b : Nat => (b : Int)) l = l := fun l hl => by
      conv => rhs; rw [← List.map_id l]
      refine List.map_congr_left fun b hb => ?_
      have := hl b hb
      simp [Function.comp]
      omega
    simp only [Function.comp_def] at h1 key
    rw [key xs hx, key ys hy] at h1
    exact h1
  · rintro rfl; rfl
theorem conv_BS {w : World} {B : Nat} {A : Option Addr} {n c : Nat} {bs : List Nat} (h : BS w B (.slice A n c) bs) (h0 : 0 < bs.length) : (convert 37 9 (.slice A n c)).run Try.prog w = .ok (.string (strOfNums (bs.map fun b : Nat => (b : Int)))) w := by
  obtain ⟨A', c', e, h1, h2, h3⟩ := h
  cases e
  obtain ⟨⟨b, o, s⟩, rfl, _, _, hc0⟩ := h3 0 h0
  have hs : s = none := by
    have := World.cell?_spot hc0
    simpa [Addr.add] using this
  subst hs
  refine run_convert_bytes_arg (P := Try.prog) w 37 5 Try.underlying37 Try.underlying5 b o bs.length c (bs.map fun b : Nat => (b : Int)) (by simp) (fun i hi => ?_) 9 Try.underlying9
  obtain ⟨ad, e, _, _, hc⟩ := h3 i (by simpa using hi)
  injection e with e
  subst e
  rw [add_none] at hc
  rw [hc]
  simp [List.getD_eq_getElem?_getD]
  rw [List.getElem?_eq_getElem (by simpa using hi)]
  rfl
theorem Equal_any (w : World) (B C : Nat) (v1 v2 : Value) (xs ys : List Nat) (r : Bool) (h1 : BS w B v1 xs) (h2 : BS w C v2 ys) (l1 : 0 < xs.length) (l2 : 0 < ys.length) (hr : r = decide (xs = ys)) :
    Calls Try.prog 48 #[v1, v2] w fun e w' => e = .returned (.bool r) ∧ w' = w := by
  obtain ⟨A1, c1, rfl, _⟩ := id h1
  obtain ⟨A2, c2, rfl, _⟩ := id h2
  have q1 := conv_BS h1 l1
  have q2 := conv_BS h2 l2
  have hi := strOf_inj h1.lt h2.lt
  have hl : strOfNums (xs.map fun b : Nat => (b : Int)) = strOfNums (ys.map fun b : Nat => (b : Int)) ↔ (strOfNums (xs.map fun b : Nat => (b : Int))).toList = (strOfNums (ys.map fun b : Nat => (b : Int))).toList := by
    rw [Lib.strOfNums_toList, Lib.strOfNums_toList]
    constructor
    · intro h
      have := congrArg (fun s : ByteArray => s.data.toList) h
      exact this
    · intro h
      unfold strOfNums
      congr 1
      exact congrArg List.toArray h
  obtain ⟨s1, hs1⟩ : ∃ s, s = strOfNums (xs.map fun b : Nat => (b : Int)) := ⟨_, rfl⟩
  obtain ⟨s2, hs2⟩ : ∃ s, s = strOfNums (ys.map fun b : Nat => (b : Int)) := ⟨_, rfl⟩
  rw [← hs1] at q1 hi hl
  rw [← hs2] at q2 hi hl
  obtain ⟨n1, hn1⟩ : ∃ n, n = xs.length := ⟨_, rfl⟩
  obtain ⟨n2, hn2⟩ : ∃ n, n = ys.length := ⟨_, rfl⟩
  rw [← hn1] at q1 ⊢
  rw [← hn2] at q2 ⊢
  clear hs1 hs2 h1 h2 l1 l2 hn1 hn2
  replace hi := Lib.hid (hl.symm.trans hi)
  clear hl
  replace hr := Lib.hid hr
  go_enter Try.func48, Try.ntmps48
  go_wp2_with fail
  go_ret
  refine ⟨ret_bool ?_, rfl⟩
  rw [hr.out, Bool.eq_iff_iff]
  simp [hi.out]
/-- Bytes in a new row. -/
def ClonePost (bs : List Nat) (w : World) (e : Ending) (w' : World) : Prop := ∃ r c, e = .returned (.slice (some ⟨r, 0, none⟩) bs.length c) ∧ RowAt w' r c bs ∧ w.heap.size ≤ r ∧ Below w.heap.size w w'
set_option maxRecDepth 100000 in
theorem Clone_any (w : World) (v : Value) (bs : List Nat) (h : BS w w.heap.size v bs) (h0 : 0 < bs.length) (hn : bs.length ≤ 1048576) :
    Calls Try.prog 43 #[v] w (ClonePost bs w) := by
  obtain ⟨i0, hi0, hz0, hz1, hz2⟩ := info_parts u8_info
  obtain ⟨A, c, rfl, a1, a2, h3⟩ := id h
  obtain ⟨ad, rfl, _, _, _⟩ := h3 0 h0
  have q22 : ∀ (w : World) (a : Option Addr) (n c n' c' : Nat), (binOp .eql 37 (.slice a n c) (.slice none n' c')).run Try.prog w = .ok (.bool a.isNone) w := fun w a n c n' c' => Lib.run_eql_slice_nil w _ _ a n c n' c' Try.underlying37
  have hsrc : ∀ j u, (vals bs)[j]? = some u → w.cell? (ad.add j) = some u := fun j u hu => by
    have hj : j < bs.length := by
      have := (List.getElem?_eq_some_iff.1 hu).1
      rwa [vals_length] at this
    obtain ⟨ad', e, _, _, hc⟩ := h3 j hj
    injection e with e
    subst e
    rw [hc, ← hu, getD_vals _ _ hj]
  have hlt := Lib.hid h.lt
  obtain ⟨n, hN⟩ : ∃ n, n = bs.length := ⟨_, rfl⟩
  have hv := Lib.hid (show (vals bs).length = n * 1 by rw [vals_length, hN]; omega)
  have hN2 := Lib.hid hN
  rw [← hN] at a1 h0 hn ⊢
  clear hN h h3
  replace hsrc := Lib.hid hsrc
  have hlen : (vals bs).length = n := by have := hv.out; omega
  replace hlen := Lib.hid hlen
  go_enter Try.func43, Try.ntmps43
  go_wp2_with (at_builtin; refine wpList_append_own _ rfl _ _ 37 rfl w.heap.size 5 i0 (.int .u8 0) 1 1 Try.underlying37 hi0 hz0 hz1 hz2 rfl (by decide) _ _ _ rfl (World.ownsRow_made w #[] 0 (Nat.le_refl _) (Nat.zero_le _) rfl) ad n c (vals bs) rfl ?qc1 ?qc2 ?qc3 ?qc4 ?qc5 ?qc6 ?_)
  case qc1 => have := hv.out; omega
  case qc2 =>
    intro j u hj
    exact Lib.cell?_alloc_some _ (hsrc.out j u hj)
  case qc3 => exact vals_one _
  case qc4 => unfold maxLen; omega
  case qc5 => omega
  intro v' w1 hown hgrow hnil
  have hbel := Lib.hid (((Below.refl _ w).alloc (Nat.le_refl _) _).grown hgrow (by simp) (by intro k hk; simp [Value.ownBlock] at hk; omega))
  have hown2 : w1.ownsRow w.heap.size 5 1 v' n (vals bs) := by simpa using hown
  obtain ⟨A', c', rfl, h5, h6⟩ := own_form hown2
  obtain ⟨r, cur, rfl, o1, o2, o3, o4, o5, o6⟩ := own_at hown2 h0
  have hr := Lib.hid (RowAt.of_own hown2 hlt.out)
  clear hown hown2 hgrow hnil o2 o3 o6
  go_wp2_with fail
  go_ret
  rw [hN2.out]
  exact ⟨r, c', rfl, hr.out.1, hr.out.2.1, hbel.out⟩
end Go.Proofs.Ytncafkifebannaa
