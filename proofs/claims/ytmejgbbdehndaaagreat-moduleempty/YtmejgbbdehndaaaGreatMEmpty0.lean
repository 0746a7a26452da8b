/-
  What the page answers of two modules of which one has nothing in any list; condition: the lists are empty.
-/
import Derived.Test.YtmejgbbdehndaaaGreatMDecode2
import Derived.Test.YtmejgbbdehndaaaGreatMReadF
import Derived.Test.YtmejgbbdehndaaaGreatCatB
namespace Go.Proofs.YtmejgbbdehndaaaGreat
open Go.RowKit
theorem eq0_EqFuncTypes (A B : Option Addr) (c d : Nat) (w : World) : Calls Tryz.prog 39 #[.slice A 0 c, .slice B 0 d] w fun e w' => e = .returned (.bool true) ∧ w = w' := by
  go_enter Tryz.func39, Tryz.ntmps39
  go_wp2_with fail
  go_loopw [5] (fun i w' => i = .int .i64 0 ∧ w' = w) (fun _ _ => 0)
  case atStart => exact ⟨rfl, rfl⟩
  case round =>
    obtain ⟨rfl, rfl⟩ := hrel
    go_wp2_with fail
    go_ret
    exact ⟨rfl, rfl⟩
theorem eq0_EqImports (A B : Option Addr) (c d : Nat) (w : World) : Calls Tryz.prog 40 #[.slice A 0 c, .slice B 0 d] w fun e w' => e = .returned (.bool true) ∧ w = w' := by
  go_enter Tryz.func40, Tryz.ntmps40
  go_wp2_with fail
  go_loopw [5] (fun i w' => i = .int .i64 0 ∧ w' = w) (fun _ _ => 0)
  case atStart => exact ⟨rfl, rfl⟩
  case round =>
    obtain ⟨rfl, rfl⟩ := hrel
    go_wp2_with fail
    go_ret
    exact ⟨rfl, rfl⟩
theorem eq0_EqFuncs (A B : Option Addr) (c d : Nat) (w : World) : Calls Tryz.prog 41 #[.slice A 0 c, .slice B 0 d] w fun e w' => e = .returned (.bool true) ∧ w = w' := by
  go_enter Tryz.func41, Tryz.ntmps41
  go_wp2_with fail
  go_loopw [5] (fun i w' => i = .int .i64 0 ∧ w' = w) (fun _ _ => 0)
  case atStart => exact ⟨rfl, rfl⟩
  case round =>
    obtain ⟨rfl, rfl⟩ := hrel
    go_wp2_with fail
    go_ret
    exact ⟨rfl, rfl⟩
theorem eq0_EqLimits (A B : Option Addr) (c d : Nat) (w : World) : Calls Tryz.prog 42 #[.slice A 0 c, .slice B 0 d] w fun e w' => e = .returned (.bool true) ∧ w = w' := by
  go_enter Tryz.func42, Tryz.ntmps42
  go_wp2_with fail
  go_loopw [5] (fun i w' => i = .int .i64 0 ∧ w' = w) (fun _ _ => 0)
  case atStart => exact ⟨rfl, rfl⟩
  case round =>
    obtain ⟨rfl, rfl⟩ := hrel
    go_wp2_with fail
    go_ret
    exact ⟨rfl, rfl⟩
theorem eq0_EqGlobals (A B : Option Addr) (c d : Nat) (w : World) : Calls Tryz.prog 43 #[.slice A 0 c, .slice B 0 d] w fun e w' => e = .returned (.bool true) ∧ w = w' := by
  go_enter Tryz.func43, Tryz.ntmps43
  go_wp2_with fail
  go_loopw [5] (fun i w' => i = .int .i64 0 ∧ w' = w) (fun _ _ => 0)
  case atStart => exact ⟨rfl, rfl⟩
  case round =>
    obtain ⟨rfl, rfl⟩ := hrel
    go_wp2_with fail
    go_ret
    exact ⟨rfl, rfl⟩
theorem eq0_EqExports (A B : Option Addr) (c d : Nat) (w : World) : Calls Tryz.prog 44 #[.slice A 0 c, .slice B 0 d] w fun e w' => e = .returned (.bool true) ∧ w = w' := by
  go_enter Tryz.func44, Tryz.ntmps44
  go_wp2_with fail
  go_loopw [5] (fun i w' => i = .int .i64 0 ∧ w' = w) (fun _ _ => 0)
  case atStart => exact ⟨rfl, rfl⟩
  case round =>
    obtain ⟨rfl, rfl⟩ := hrel
    go_wp2_with fail
    go_ret
    exact ⟨rfl, rfl⟩
theorem eq0_EqElems (A B : Option Addr) (c d : Nat) (w : World) : Calls Tryz.prog 45 #[.slice A 0 c, .slice B 0 d] w fun e w' => e = .returned (.bool true) ∧ w = w' := by
  go_enter Tryz.func45, Tryz.ntmps45
  go_wp2_with fail
  go_loopw [5] (fun i w' => i = .int .i64 0 ∧ w' = w) (fun _ _ => 0)
  case atStart => exact ⟨rfl, rfl⟩
  case round =>
    obtain ⟨rfl, rfl⟩ := hrel
    go_wp2_with fail
    go_ret
    exact ⟨rfl, rfl⟩
theorem eq0_EqDatas (A B : Option Addr) (c d : Nat) (w : World) : Calls Tryz.prog 46 #[.slice A 0 c, .slice B 0 d] w fun e w' => e = .returned (.bool true) ∧ w = w' := by
  go_enter Tryz.func46, Tryz.ntmps46
  go_wp2_with fail
  go_loopw [5] (fun i w' => i = .int .i64 0 ∧ w' = w) (fun _ _ => 0)
  case atStart => exact ⟨rfl, rfl⟩
  case round =>
    obtain ⟨rfl, rfl⟩ := hrel
    go_wp2_with fail
    go_ret
    exact ⟨rfl, rfl⟩
end Go.Proofs.YtmejgbbdehndaaaGreat

/-
  Plain facts: which of the bytes of the statement on empty sections are a module's. No condition; nothing of the program is named here.
-/
namespace Go.Proofs.YtmejgbbdehndaaaGreat.M
def one (id : Nat) : List Nat := [id, 1, 0]
/-- The module that a section with nothing in it makes. -/
def wantE (id : Nat) : Mod := if id = 8 then ⟨[], [], [], [], [], [], [], 0, [], []⟩ else mod0
theorem empty_one : ∀ id : Nat, 1 ≤ id → id ≤ 11 → rdModule (header ++ one id) = some (wantE id) := by
  intro id h1 h2
  have : id = 1 ∨ id = 2 ∨ id = 3 ∨ id = 4 ∨ id = 5 ∨ id = 6 ∨ id = 7 ∨ id = 8 ∨ id = 9 ∨ id = 10 ∨ id = 11 := by omega
  rcases this with rfl | rfl | rfl | rfl | rfl | rfl | rfl | rfl | rfl | rfl | rfl
  all_goals rfl
def okP (id k : Nat) : Bool := (rdModule (header ++ one id ++ one k)).isNone && (rdModule (header ++ one k ++ one id)).isSome
theorem pairs_tab : ∀ id : Fin 12, ∀ k : Fin 12, 1 ≤ k.val → k.val < id.val → k.val ≠ 8 → okP id.val k.val = true := by decide +kernel
theorem same_tab : ∀ id : Fin 12, 1 ≤ id.val → (rdModule (header ++ one id.val ++ one id.val)).isNone = true := by decide +kernel
theorem twice_none (id : Nat) (h1 : 1 ≤ id) (h2 : id ≤ 11) : rdModule (header ++ one id ++ one id) = none := by
  have := same_tab ⟨id, by omega⟩ h1
  simpa using this
theorem behind_none (id k : Nat) (h1 : 1 ≤ k) (h2 : k < id) (h3 : id ≤ 11) (h8 : k ≠ 8) : rdModule (header ++ one id ++ one k) = none := by
  have := pairs_tab ⟨id, by omega⟩ ⟨k, by omega⟩ h1 h2 h8
  unfold okP at this
  simp only [Bool.and_eq_true] at this
  simpa using this.1
theorem ahead_some (id k : Nat) (h1 : 1 ≤ k) (h2 : k < id) (h3 : id ≤ 11) (h8 : k ≠ 8) : ∃ m, rdModule (header ++ one k ++ one id) = some m := by
  have := pairs_tab ⟨id, by omega⟩ ⟨k, by omega⟩ h1 h2 h8
  unfold okP at this
  simp only [Bool.and_eq_true] at this
  exact Option.isSome_iff_exists.1 this.2
theorem code_none : rdModule (header ++ [3, 2, 1, 0]) = none := rfl
theorem id_none : rdModule (header ++ [12, 1, 0]) = none := rfl
theorem head_some : rdModule header = some mod0 := rfl
end Go.Proofs.YtmejgbbdehndaaaGreat.M

/-
  Bytes copied into new memory; condition: the bytes lie in memory that was there at the call.
-/
namespace Go.Proofs.YtmejgbbdehndaaaGreat
open Go.RowKit
theorem take_succ' (bs : List Nat) (k : Nat) (h : k < bs.length) : bs.take (k + 1) = bs.take k ++ [bs.getD k 0] := by
  rw [List.take_add_one, List.getElem?_eq_getElem h, List.getD_eq_getElem?_getD, List.getElem?_eq_getElem h]
  rfl
theorem CopyBytes_any (v : Value) (bs : List Nat) (w : World) (hn : bs.length ≤ 1000000) (h : BS w w.heap.size v bs) :
    Calls Tryz.prog 17 #[v] w (Gives bs w) := by
  obtain ⟨i0, hi0, hz0, hz1, hz2⟩ := info_parts u8_info
  obtain ⟨A, c, rfl, a1, a2, ha⟩ := h
  obtain ⟨n, hN⟩ : ∃ n, n = bs.length := ⟨_, rfl⟩
  obtain ⟨f, hf⟩ : ∃ f : Nat → Nat, f = fun i => bs.getD i 0 := ⟨_, rfl⟩
  rw [← hN] at a1 ha hn ⊢
  rw [← hf] at ha
  replace hf := Lib.hid hf
  replace hN := Lib.hid hN
  unfold maxLen at a2
  replace ha := Lib.hid ha
  go_enter Tryz.func17, Tryz.ntmps17
  go_wp2
  go_loopw [3, 4] (fun b i w' => ∃ k : Nat, k ≤ n ∧ i = .int .i64 k ∧ w'.ownsRow w.heap.size 5 1 b k (vals (bs.take k)) ∧ Below w.heap.size w w') (fun _ i _ => n - (intOf i).toNat)
  case atStart => exact ⟨0, by omega, rfl, World.ownsRow_nil _ _ _ _, Below.refl _ _⟩
  case round =>
    obtain ⟨k, hk, rfl, hown, hb⟩ := hrel
    replace hown := Lib.hid hown
    by_cases hlt : k < n
    · obtain ⟨a1, rfl, _, hx, q1⟩ := ha.out.later hb k hlt
      have t0 : (0 : Int) ≤ (k : Int) := by omega
      have t1 : (k : Int) < (n : Int) := by omega
      go_wp2_with (first
        | (at_builtin; refine wpList_append_own _ rfl _ _ 33 rfl w.heap.size 5 i0 (.int .u8 0) 1 1 Tryz.underlying33 hi0 hz0 hz1 hz2 rfl (by decide) u3 k (vals (bs.take k)) rfl (hown.out.alloc _) ⟨_, 0, none⟩ 1 1 [_] rfl rfl (cell_one_new _ _ _) (fun x hx => by simp at hx; subst hx; rfl) (by unfold maxLen; omega) (by omega) (by have := hb.size; simp; omega) ?_; intro v' w3 hown' hgrow3 hnil3))
      refine ⟨⟨k + 1, by omega, by go_num, ?_, ?_⟩, by simp [intOf]; omega⟩
      · rw [take_succ' bs k (by rw [← hN.out]; exact hlt), vals_append]
        rw [hf.out] at hown'
        exact hown'
      · exact (hb.alloc hb.size _).grown hgrow3 (by have := hb.size; simp; omega) (fun q hq => (hown.out.lt q hq).1)
    · obtain rfl : k = n := by omega
      go_wp2
      go_ret
      refine ⟨_, rfl, ?_, hb⟩
      have := hown.out
      rw [hN.out, List.take_length] at this
      exact this
end Go.Proofs.YtmejgbbdehndaaaGreat

/-
  What the page answers of two modules of which one has nothing in any list, and that the statements' own first question is answered; condition: the lists are empty.
-/
namespace Go.Proofs.YtmejgbbdehndaaaGreat
open Go.RowKit
set_option maxRecDepth 100000 in
set_option maxHeartbeats 8000000 in
theorem eqMod0 (A0 : Option Addr) (c0 : Nat) (A1 : Option Addr) (c1 : Nat) (A2 : Option Addr) (c2 : Nat) (A3 : Option Addr) (c3 : Nat) (A4 : Option Addr) (c4 : Nat) (A5 : Option Addr) (c5 : Nat) (A6 : Option Addr) (c6 : Nat) (A8 : Option Addr) (c8 : Nat) (A9 : Option Addr) (c9 : Nat) (s : Int) (w : World) : Calls Tryz.prog 14 #[.agg #[.slice A0 0 c0, .slice A1 0 c1, .slice A2 0 c2, .slice A3 0 c3, .slice A4 0 c4, .slice A5 0 c5, .slice A6 0 c6, .int .i64 s, .slice A8 0 c8, .slice A9 0 c9], .agg #[.slice none 0 0, .slice none 0 0, .slice none 0 0, .slice none 0 0, .slice none 0 0, .slice none 0 0, .slice none 0 0, .int .i64 s, .slice none 0 0, .slice none 0 0]] w fun e w' => e = .returned (.bool true) ∧ Below w.heap.size w w' := by
  have ts : (s == s) = true := by simp
  go_enter Tryz.func14, Tryz.ntmps14
  go_wp2_with fail
  refine (eq0_EqFuncTypes _ _ _ _ _).mono ?_
  rintro e w' ⟨rfl, rfl⟩
  go_wp2_with fail
  refine (eq0_EqImports _ _ _ _ _).mono ?_
  rintro e w' ⟨rfl, rfl⟩
  go_wp2_with fail
  refine (eq0_EqFuncs _ _ _ _ _).mono ?_
  rintro e w' ⟨rfl, rfl⟩
  go_wp2_with fail
  refine (eq0_EqLimits _ _ _ _ _).mono ?_
  rintro e w' ⟨rfl, rfl⟩
  go_wp2_with fail
  refine (eq0_EqLimits _ _ _ _ _).mono ?_
  rintro e w' ⟨rfl, rfl⟩
  go_wp2_with fail
  refine (eq0_EqGlobals _ _ _ _ _).mono ?_
  rintro e w' ⟨rfl, rfl⟩
  go_wp2_with fail
  refine (eq0_EqExports _ _ _ _ _).mono ?_
  rintro e w' ⟨rfl, rfl⟩
  go_wp2_with fail
  refine (eq0_EqElems _ _ _ _ _).mono ?_
  rintro e w' ⟨rfl, rfl⟩
  go_wp2_with fail
  refine (eq0_EqDatas _ _ _ _ _).mono ?_
  rintro e w' ⟨rfl, rfl⟩
  go_wp2_with fail
  go_ret
  exact ⟨rfl, ((Below.refl _ _).alloc (Nat.le_refl _) _).alloc (by simp) _⟩
end Go.Proofs.YtmejgbbdehndaaaGreat

/-
  What Decode answers of bytes that are a module with nothing in any list, or none, and that the statements' own first question is answered; condition: the bytes lie in memory.
-/
namespace Go.Proofs.YtmejgbbdehndaaaGreat
open Go.RowKit
theorem lit_BS (w1 : World) (bs : List Nat) (cs : Array Value) (t : TypeId) (g n c : Nat) (hcs : cs = (vals bs).toArray) (hb : ∀ b ∈ bs, b < 256) (hg : w1.heap[g]? = some (.cells cs t)) (hgl : g < w1.heap.size) (hn : n = bs.length) (hc : n ≤ c) (hm : c ≤ maxLen) : BS w1 w1.heap.size (.slice (some ⟨g, 0, none⟩) n c) bs := by
  subst hn
  refine ⟨_, _, rfl, hc, hm, fun i hi => ⟨_, rfl, hgl, ?_, ?_⟩⟩
  · show bs.getD i 0 < 256
    rw [List.getD_eq_getElem?_getD, List.getElem?_eq_getElem hi]
    exact hb _ (List.getElem_mem hi)
  · rw [add_none, cell_of_row w1 g (0 + i) cs t (0, 0) hg, Nat.zero_add, hcs]
    have := getD_vals bs i hi
    simpa using this
theorem LAt.none {α : Type} {w : World} {S : Nat → Prop} {cur : Array Value} {k : Nat} {R : Rep α} {x : List α} (h : LAt w S cur k R x) (hx : x = []) : ∃ A c, cur[k]? = some (.slice A 0 c) := by
  subst hx
  obtain ⟨v, h1, h2⟩ := h
  obtain ⟨A, c, e, _⟩ := h2.form
  subst e
  exact ⟨A, c, h1⟩
def Emp (s : Int) (w : World) (e : Ending) (w' : World) : Prop :=
  ∃ A0 c0 A1 c1 A2 c2 A3 c3 A4 c4 A5 c5 A6 c6 A8 c8 A9 c9, e = .returned (.tuple #[.agg #[.slice A0 0 c0, .slice A1 0 c1, .slice A2 0 c2, .slice A3 0 c3, .slice A4 0 c4, .slice A5 0 c5, .slice A6 0 c6, .int .i64 s, .slice A8 0 c8, .slice A9 0 c9], .int .i64 0]) ∧ Below w.heap.size w w'
theorem dec_empty (v : Value) (bs : List Nat) (s : Int) (w : World) (hb : BS w w.heap.size v bs) (h : M.rdModule bs = some ⟨[], [], [], [], [], [], [], s, [], []⟩) : Calls Tryz.prog 16 #[v] w (Emp s w) := by
  refine (MDecode_any v bs w hb).mono ?_
  rintro e w' (⟨m, cs, h1, rfl, h10, hm, b⟩ | ⟨h1, _⟩)
  · rw [h] at h1
    cases h1
    obtain ⟨A0, c0, e0⟩ := hm.l0.none rfl
    obtain ⟨A1, c1, e1⟩ := hm.l1.none rfl
    obtain ⟨A2, c2, e2⟩ := hm.l2.none rfl
    obtain ⟨A3, c3, e3⟩ := hm.l3.none rfl
    obtain ⟨A4, c4, e4⟩ := hm.l4.none rfl
    obtain ⟨A5, c5, e5⟩ := hm.l5.none rfl
    obtain ⟨A6, c6, e6⟩ := hm.l6.none rfl
    have e7 := hm.l7.1
    obtain ⟨A8, c8, e8⟩ := hm.l8.none rfl
    obtain ⟨A9, c9, e9⟩ := hm.l9.none rfl
    refine ⟨A0, c0, A1, c1, A2, c2, A3, c3, A4, c4, A5, c5, A6, c6, A8, c8, A9, c9, ?_, b⟩
    have : cs = #[.slice A0 0 c0, .slice A1 0 c1, .slice A2 0 c2, .slice A3 0 c3, .slice A4 0 c4, .slice A5 0 c5, .slice A6 0 c6, .int .i64 s, .slice A8 0 c8, .slice A9 0 c9] := by
      apply Array.ext_getElem?
      intro i
      by_cases hi : i < 10
      · have : i = 0 ∨ i = 1 ∨ i = 2 ∨ i = 3 ∨ i = 4 ∨ i = 5 ∨ i = 6 ∨ i = 7 ∨ i = 8 ∨ i = 9 := by omega
        rcases this with rfl | rfl | rfl | rfl | rfl | rfl | rfl | rfl | rfl | rfl
        · rw [e0]; rfl
        · rw [e1]; rfl
        · rw [e2]; rfl
        · rw [e3]; rfl
        · rw [e4]; rfl
        · rw [e5]; rfl
        · rw [e6]; rfl
        · rw [e7]; rfl
        · rw [e8]; rfl
        · rw [e9]; rfl
      · rw [Array.getElem?_eq_none (by omega), Array.getElem?_eq_none (by simp; omega)]
    rw [this]
  · rw [h] at h1
    cases h1
theorem dec_none (v : Value) (bs : List Nat) (w : World) (hb : BS w w.heap.size v bs) (h : M.rdModule bs = none) : Calls Tryz.prog 16 #[v] w fun e w' => e = .returned (.tuple #[.agg mod0V, .int .i64 100]) ∧ Below w.heap.size w w' := by
  refine (MDecode_any v bs w hb).mono ?_
  rintro e w' (⟨m, cs, h1, _⟩ | ⟨_, h2, h3⟩)
  · rw [h] at h1
    cases h1
  · exact ⟨h2, h3⟩
theorem dec_some (v : Value) (bs : List Nat) (w : World) (hb : BS w w.heap.size v bs) (h : ∃ m, M.rdModule bs = some m) : Calls Tryz.prog 16 #[v] w fun e w' => ∃ s A0 n0 c0 A1 n1 c1 A2 n2 c2 A3 n3 c3 A4 n4 c4 A5 n5 c5 A6 n6 c6 A8 n8 c8 A9 n9 c9, e = .returned (.tuple #[.agg #[.slice A0 n0 c0, .slice A1 n1 c1, .slice A2 n2 c2, .slice A3 n3 c3, .slice A4 n4 c4, .slice A5 n5 c5, .slice A6 n6 c6, .int .i64 s, .slice A8 n8 c8, .slice A9 n9 c9], .int .i64 0]) ∧ Below w.heap.size w w' := by
  refine (MDecode_any v bs w hb).mono ?_
  rintro e w' (⟨m, cs, h1, rfl, h10, hm, b⟩ | ⟨h1, _⟩)
  · have e7 := hm.l7.1
    obtain ⟨A0, n0, c0, e0, _⟩ := hm.l0.form
    obtain ⟨A1, n1, c1, e1, _⟩ := hm.l1.form
    obtain ⟨A2, n2, c2, e2, _⟩ := hm.l2.form
    obtain ⟨A3, n3, c3, e3, _⟩ := hm.l3.form
    obtain ⟨A4, n4, c4, e4, _⟩ := hm.l4.form
    obtain ⟨A5, n5, c5, e5, _⟩ := hm.l5.form
    obtain ⟨A6, n6, c6, e6, _⟩ := hm.l6.form
    obtain ⟨A8, n8, c8, e8, _⟩ := hm.l8.form
    obtain ⟨A9, n9, c9, e9, _⟩ := hm.l9.form
    refine ⟨m.start, A0, n0, c0, A1, n1, c1, A2, n2, c2, A3, n3, c3, A4, n4, c4, A5, n5, c5, A6, n6, c6, A8, n8, c8, A9, n9, c9, ?_, b⟩
    have : cs = #[.slice A0 n0 c0, .slice A1 n1 c1, .slice A2 n2 c2, .slice A3 n3 c3, .slice A4 n4 c4, .slice A5 n5 c5, .slice A6 n6 c6, .int .i64 m.start, .slice A8 n8 c8, .slice A9 n9 c9] := by
      apply Array.ext_getElem?
      intro i
      by_cases hi : i < 10
      · have : i = 0 ∨ i = 1 ∨ i = 2 ∨ i = 3 ∨ i = 4 ∨ i = 5 ∨ i = 6 ∨ i = 7 ∨ i = 8 ∨ i = 9 := by omega
        rcases this with rfl | rfl | rfl | rfl | rfl | rfl | rfl | rfl | rfl | rfl
        · rw [e0]; rfl
        · rw [e1]; rfl
        · rw [e2]; rfl
        · rw [e3]; rfl
        · rw [e4]; rfl
        · rw [e5]; rfl
        · rw [e6]; rfl
        · rw [e7]; rfl
        · rw [e8]; rfl
        · rw [e9]; rfl
      · rw [Array.getElem?_eq_none (by omega), Array.getElem?_eq_none (by simp; omega)]
    rw [this]
  · obtain ⟨m, h⟩ := h
    rw [h] at h1
    cases h1
set_option maxRecDepth 100000 in
set_option maxHeartbeats 4000000 in
theorem wakes_any (w : World) : Calls Tryz.prog 15 #[] w fun e w' => e = .returned (.bool true) ∧ Below w.heap.size w w' := by
  go_enter Tryz.func15, Tryz.ntmps15
  go_wp2_with fail
  refine (dec_empty _ M.header _ _ (lit_BS _ _ _ 5 w.heap.size 8 8 rfl (by decide) (heap_alloc_new w _) (by simp) rfl (by omega) (by unfold maxLen; omega)) M.head_some).mono ?_
  rintro e1 w1 ⟨A0, c0, A1, c1, A2, c2, A3, c3, A4, c4, A5, c5, A6, c6, A8, c8, A9, c9, rfl, b1⟩
  have b2 : Below w.heap.size w w1 := ((Below.refl _ _).alloc (Nat.le_refl _) _).trans (b1.mono (by simp))
  replace b2 := Lib.hid b2
  clear b1
  go_wp2_with (go_at_call 12; refine (num_any _ _).mono ?_; rintro e wn ⟨rfl, rfl⟩)
  refine (eqMod0 _ _ _ _ _ _ _ _ _ _ _ _ _ _ _ _ _ _ _ _).mono ?_
  rintro e2 w2 ⟨rfl, b3⟩
  have b4 := Lib.hid (b2.out.trans (((Below.refl w1.heap.size w1).alloc (Nat.le_refl _) _).trans (b3.mono (by simp)) |>.mono b2.out.size))
  clear b3
  go_wp2_with fail
  go_ret
  exact ⟨rfl, b4.out⟩
end Go.Proofs.YtmejgbbdehndaaaGreat
