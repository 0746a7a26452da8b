/-
  What package utf's Bytes answers: the bytes of the points, or that one is none; conditions: at most 20000 numbers, which lie in memory that was there at the call.
-/
import Derived.Test.YtlppgaaepllbiaaPut
namespace Go.Proofs.Ytlppgaaepllbiaa
open Go.RowKit
theorem width_pi (z : Int) (w : World) (hz : PI z) : Calls Try.prog 26 #[.int .i32 z] w fun e w' => e = .returned (.int .i64 (M.wid z.toNat : Nat)) ∧ w = w' :=
  (width_int z w).mono fun _ _ ⟨⟨n, he, h⟩, hw⟩ => ⟨by rw [he, wid_int z.toNat n (by have := hz.1; omega)], hw⟩
theorem put_pi (v : Value) (pre : List Nat) (z : Int) (base : Nat) (w : World) (hz : PI z) (ho : w.ownsRow base 5 1 v pre.length (vals pre)) (hl : pre.length ≤ 100000) (hb : base ≤ w.heap.size) :
    Calls Try.prog 25 #[v, .int .i32 z, .int .i64 (M.wid z.toNat : Nat)] w (PutPost pre z.toNat base w) := by
  obtain ⟨h0, h1, _⟩ := hz
  by_cases a : z < 128
  · rw [← wid_int z.toNat 1 (by omega)]; exact put_1 v pre z _ base w rfl h0 a ho hl hb
  · by_cases b : z < 2048
    · rw [← wid_int z.toNat 2 (by omega)]; exact put_2 v pre z _ base w rfl (by omega) b ho hl hb
    · by_cases c : z < 65536
      · rw [← wid_int z.toNat 3 (by omega)]; exact put_3 v pre z _ base w rfl (by omega) c ho hl hb
      · rw [← wid_int z.toNat 4 (by omega)]; exact put_4 v pre z _ base w rfl (by omega) (by omega) ho hl hb
/-- All numbers are points. -/
def AllPI (xs : List Int) : Prop := ∀ x ∈ xs, PI x
def nats (xs : List Int) : List Nat := xs.map Int.toNat
theorem nats_isP {xs : List Int} (h : AllPI xs) : ∀ p ∈ nats xs, M.IsP p := by
  intro p hp
  simp only [nats, List.mem_map] at hp
  obtain ⟨x, hx, rfl⟩ := hp
  have hx2 := h x hx
  exact (PI_of _).1 (by have := hx2.1; rwa [Int.toNat_of_nonneg this])
theorem ints_nats {xs : List Int} (h : AllPI xs) : ints (nats xs) = xs := by
  unfold ints nats
  rw [List.map_map]
  conv => rhs; rw [← List.map_id xs]
  apply List.map_congr_left
  intro x hx
  have := (h x hx).1
  simp [Int.toNat_of_nonneg this]
theorem nats_ints (ps : List Nat) : nats (ints ps) = ps := by
  unfold ints nats
  rw [List.map_map]
  conv => rhs; rw [← List.map_id ps]
  apply List.map_congr_left
  intro x hx
  simp
theorem allPI_ints {ps : List Nat} (h : ∀ p ∈ ps, M.IsP p) : AllPI (ints ps) := by
  intro x hx
  simp only [ints, List.mem_map] at hx
  obtain ⟨p, hp, rfl⟩ := hx
  exact (PI_of p).2 (h p hp)
def BPost (xs : List Int) (w : World) (e : Ending) (w' : World) : Prop :=
  ((AllPI xs ∧ ∃ v, e = .returned (.tuple #[v, .int .i64 0]) ∧ w'.ownsRow w.heap.size 5 1 v (M.encs (nats xs)).length (vals (M.encs (nats xs)))) ∨ (¬ AllPI xs ∧ e = .returned (.tuple #[.slice none 0 0, .int .i64 100]))) ∧ Below w.heap.size w w'
def BRel (xs : List Int) (n : Nat) (w : World) (b i : Value) (w' : World) : Prop :=
  ∃ k : Nat, k ≤ n ∧ AllPI (xs.take k) ∧ i = .int .i64 k ∧ w'.ownsRow w.heap.size 5 1 b (M.encs (nats (xs.take k))).length (vals (M.encs (nats (xs.take k)))) ∧ Below w.heap.size w w'
theorem take_succI (xs : List Int) (k : Nat) (h : k < xs.length) : xs.take (k + 1) = xs.take k ++ [xs.getD k 0] := by
  rw [List.take_succ_eq_append_getElem h, List.getD_eq_getElem?_getD, List.getElem?_eq_getElem h]; rfl
set_option maxRecDepth 100000 in
theorem Bytes_post (v : Value) (xs : List Int) (w : World) (h : IS w w.heap.size v xs) (hl : xs.length ≤ 20000) : Calls Try.prog 19 #[v] w (BPost xs w) := by
  obtain ⟨A, c, rfl, a1, a2, ha⟩ := h
  obtain ⟨n, hN⟩ : ∃ n, n = xs.length := ⟨_, rfl⟩
  obtain ⟨f, hf⟩ : ∃ f : Nat → Int, f = fun i => xs.getD i 0 := ⟨_, rfl⟩
  rw [← hN] at a1 ha hl ⊢
  rw [← hf] at ha
  replace hf := Lib.hid hf
  replace hN := Lib.hid hN
  unfold maxLen at a2
  replace ha := Lib.hid ha
  go_enter Try.func19, Try.ntmps19
  go_wp2
  go_loopw [4, 9] (fun b i w' => BRel xs n w b i w') (fun _ i _ => n - (intOf i).toNat)
  case atStart => exact ⟨0, by omega, by intro x hx; simp at hx, rfl, World.ownsRow_nil _ _ _ _, Below.refl _ _⟩
  case round =>
    obtain ⟨k, hk, hall, rfl, hown, hb⟩ := hrel
    replace hall := Lib.hid hall
    have hlen : (M.encs (nats (xs.take k))).length ≤ 80000 := by
      have := (M.encs_length_le (nats (xs.take k))).2
      have h8 : (nats (xs.take k)).length ≤ k := by simp only [nats, List.length_map, List.length_take]; omega
      omega
    obtain ⟨bs, hbs⟩ : ∃ bs, bs = M.encs (nats (xs.take k)) := ⟨_, rfl⟩
    rw [← hbs] at hown hlen
    replace hbs := Lib.hid hbs
    replace hown := Lib.hid hown
    by_cases hlt : k < n
    · obtain ⟨a1, rfl, _, hx, q1⟩ := ha.out.later hb k hlt
      have t0 : (0 : Int) ≤ (k : Int) := by omega
      have t1 : (k : Int) < (n : Int) := by omega
      have hfk := Lib.hid (show f k = xs.getD k 0 by rw [hf.out])
      have hmem : xs.getD k 0 ∈ xs := by
        have h9 : k < xs.length := by rw [← hN.out]; exact hlt
        rw [List.getD_eq_getElem?_getD, List.getElem?_eq_getElem h9]; exact List.getElem_mem h9
      replace hmem := Lib.hid hmem
      by_cases hp : PI (f k)
      · replace hp := Lib.hid hp
        go_wp2_with fail
        refine (isPoint_yes _ _ hp.out).mono ?_
        rintro e w1 ⟨rfl, rfl⟩
        go_wp2_with fail
        refine (width_pi _ _ hp.out).mono ?_
        rintro e w1 ⟨rfl, rfl⟩
        go_wp2_with fail
        refine (put_pi _ bs _ w.heap.size _ hp.out hown.out (by omega) hb.size).mono ?_
        rintro e w2 ⟨v2, rfl, o2, b2⟩
        replace o2 := Lib.hid o2
        replace b2 := Lib.hid b2
        go_wp2
        refine ⟨⟨k + 1, by omega, ?_, by go_num, ?_, hb.trans b2.out⟩, by simp [intOf]; omega⟩
        · rw [take_succI xs k (by rw [← hN.out]; exact hlt)]
          intro y hy
          rcases List.mem_append.1 hy with h | h
          · exact hall.out y h
          · simp only [List.mem_singleton] at h
            rw [h, ← hfk.out]; exact hp.out
        · have e : M.encs (nats (xs.take (k + 1))) = bs ++ M.enc (f k).toNat := by
            rw [take_succI xs k (by rw [← hN.out]; exact hlt), hbs.out, hfk.out]
            simp only [nats, List.map_append, List.map_cons, List.map_nil]
            exact M.encs_snoc _ _
          rw [e]
          exact o2.out
      · replace hp := Lib.hid hp
        go_wp2_with fail
        refine (isPoint_no _ _ hp.out).mono ?_
        rintro e w1 ⟨rfl, rfl⟩
        go_wp2
        go_ret2
        exact ⟨.inr ⟨fun hh => hp.out (by rw [hfk.out]; exact hh _ hmem.out), rfl⟩, hb⟩
    · obtain rfl : k = n := by omega
      go_wp2
      go_ret2
      have e : xs.take k = xs := by rw [hN.out, List.take_length]
      have h1 := hall.out
      have h2 := hown.out
      rw [e] at h1
      rw [hbs.out, e] at h2
      exact ⟨.inl ⟨h1, _, rfl, h2⟩, hb⟩
theorem Bytes_yes (v : Value) (xs : List Int) (w : World) (h : IS w w.heap.size v xs) (hl : xs.length ≤ 20000) (hp : AllPI xs) :
    Calls Try.prog 19 #[v] w fun e w' => ∃ vl, e = .returned (.tuple #[vl, .int .i64 0]) ∧ w'.ownsRow w.heap.size 5 1 vl (M.encs (nats xs)).length (vals (M.encs (nats xs))) ∧ Below w.heap.size w w' :=
  (Bytes_post v xs w h hl).mono fun _ _ ⟨h1, h2⟩ => by
    rcases h1 with ⟨_, vl, he, ho⟩ | ⟨hn, _⟩
    · exact ⟨vl, he, ho, h2⟩
    · exact absurd hp hn
theorem Bytes_no (v : Value) (xs : List Int) (w : World) (h : IS w w.heap.size v xs) (hl : xs.length ≤ 20000) (hp : ¬ AllPI xs) :
    Calls Try.prog 19 #[v] w fun e w' => e = .returned (.tuple #[.slice none 0 0, .int .i64 100]) ∧ Below w.heap.size w w' :=
  (Bytes_post v xs w h hl).mono fun _ _ ⟨h1, h2⟩ => by
    rcases h1 with ⟨hh, _⟩ | ⟨_, he⟩
    · exact absurd hh hp
    · exact ⟨he, h2⟩
end Go.Proofs.Ytlppgaaepllbiaa
