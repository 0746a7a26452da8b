/-
  A memory grown; condition: the memory was made by the call.
-/
import Derived.Test.YtcdfmldbpmgoiaaGMake
namespace Go.Proofs.Ytcdfmldbpmgoiaa
open Go.RowKit
theorem zeroCells_one (n : Nat) : (Builtin.zeroCells #[.int .u8 0] n).toList = vals (List.replicate n 0) := by
  unfold Builtin.zeroCells vals
  apply List.ext_getElem?
  intro i
  by_cases h : i < n
  · simp [h, Nat.mod_one]
  · simp [h]
theorem room_zeros (w : World) (ty g n c k : Nat) (cur : Array Value) (hg : w.heap[g]? = some (.cells cur 5 (0, 0))) (hroom : n + k ≤ c) (hc : cur.size = c) (hk0 : 0 < k) (hk : k ≤ 4294967296) :
    (Builtin.append_ #[38, 3] ty #[.slice (some ⟨g, 0, none⟩) n c, .int .i64 (k : Int)]).run Try.prog w = .ok (.slice (some ⟨g, 0, none⟩) (n + k) c) (w.setRow g (cur.toList.take n ++ vals (List.replicate k 0) ++ cur.toList.drop (n + k)).toArray) := by
  obtain ⟨i0, hi0, hz0, hz1, hz2⟩ := info_parts u8_info
  have hst := run_storeCells_at Try.prog g n 5 (vals (List.replicate k 0)) 0 cur w hg (by rw [vals_length, List.length_replicate]; omega) (vals_one _)
  rw [vals_length, List.length_replicate, Nat.add_zero] at hst
  have hw : IntKind.i64.wrap (k : Int) = k := by rw [IntKind.wrap_i64]; omega
  have hneg : ¬ ((k : Int) < 0) := by omega
  have h48 : ¬ (281474976710656 < (k : Int)) := by omega
  have hk1 : k ≠ 0 := by omega
  have hzc := zeroCells_one k
  simp [Builtin.append_, run_underlying Try.underlying38, run_underlying Try.underlying3, sizeOf, typeInfo, zeroValue, hi0, hz0, hz1, hz2, asInt, asIntOf, hw, hneg, h48, hroom, hk1, Value.cells, hzc, Addr.add_lit, hst]
set_option maxRecDepth 100000 in
theorem none_zeros (w : World) (base ty : Nat) (v : Value) (bs : List Nat) (hown : w.ownsRow base 5 1 v bs.length (vals bs)) :
    (Builtin.append_ #[38, 3] ty #[v, .int .i64 0]).run Try.prog w = .ok v w := by
  obtain ⟨i0, hi0, hz0, hz1, hz2⟩ := info_parts u8_info
  obtain ⟨A, c, rfl, h1, h2⟩ := own_form hown
  have hw : IntKind.i64.wrap 0 = 0 := by decide
  rcases A with _ | ad
  · simp [Builtin.append_, run_underlying Try.underlying38, run_underlying Try.underlying3, sizeOf, typeInfo, zeroValue, hi0, hz0, hz1, hz2, asInt, asIntOf, hw, h1]
  · simp [Builtin.append_, run_underlying Try.underlying38, run_underlying Try.underlying3, sizeOf, typeInfo, zeroValue, hi0, hz0, hz1, hz2, asInt, asIntOf, hw, h1, storeCells]
theorem run_zeros (w : World) (base ty : Nat) (v : Value) (bs : List Nat) (k : Nat) (hown : w.ownsRow base 5 1 v bs.length (vals bs)) (hk : k ≤ 4294967296) (hl : bs.length ≤ 4294967296) (hbase : base ≤ w.heap.size) :
    ∃ v' w', (Builtin.append_ #[38, 3] ty #[v, .int .i64 (k : Int)]).run Try.prog w = .ok v' w' ∧ w'.ownsRow base 5 1 v' (bs ++ List.replicate k 0).length (vals (bs ++ List.replicate k 0)) ∧ w.grownBy w' v.ownBlock ∧ (v'.ownBlock = v.ownBlock ∨ v'.ownBlock = some w.heap.size) := by
  obtain ⟨i0, hi0, hz0, hz1, hz2⟩ := info_parts u8_info
  by_cases hk0 : k = 0
  · subst hk0
    exact ⟨v, w, none_zeros w base ty v bs hown, by simpa using hown, World.grownBy.refl _ _, .inl rfl⟩
  · have hgrow : ∀ (A : Option Addr) (n c : Nat), v = .slice A n c → n = bs.length → c < n + k → (Builtin.firstCells i0.size n (.slice A n c)).run Try.prog w.drew = .ok (vals bs).toArray w.drew →
        ∃ v' w', (Builtin.append_ #[38, 3] ty #[.slice A n c, .int .i64 (k : Int)]).run Try.prog w = .ok v' w' ∧ w'.ownsRow base 5 1 v' (bs ++ List.replicate k 0).length (vals (bs ++ List.replicate k 0)) ∧ w.grownBy w' v.ownBlock ∧ (v'.ownBlock = v.ownBlock ∨ v'.ownBlock = some w.heap.size) := by
      intro A n c hv hn hlt hold
      have hr := Lib.run_append_grow_zeros (P := Try.prog) w 38 3 ty 5 i0 (.int .u8 0) .i64 .i64 Try.underlying38 Try.underlying3 hi0 hz0 A n c (vals bs) hold k (by omega) (by omega) hlt (by omega) (by rw [hz2]; omega) (by rw [hz2]; exact growslice_fits (by omega) (by omega))
      have hge := grownCap_ge w (n + k) c 5
      have hcm : grownCap w (n + k) c 5 ≤ maxLen := grownCap_le_maxLen w (n + k) c 5 (by unfold maxLen; omega)
      refine ⟨_, _, hr, ⟨by simp [vals], .inr ⟨w.heap.size, _, _, by simp [hn], hbase, heap_alloc_new w.drew _, by simp; omega, hcm, ?_, ?_⟩⟩, ⟨rfl, rfl, rfl, by simp, fun q hq _ => Below.heap_alloc w.drew _ q hq⟩, .inr rfl⟩
      · simp [size_zeroCells, Value.cells, vals_length]
        omega
      · have e : (Builtin.zeroCells (Value.int IntKind.u8 0).cells k).toList = vals (List.replicate k 0) := zeroCells_one k
        rw [Array.toList_append, Array.toList_append, e, vals_append, List.append_assoc, ← List.append_assoc]
        exact List.take_left' (by simp [vals])
    rcases hown.2 with ⟨hv, h0⟩ | ⟨g, cap, cur, hv, hb, hg, hnc, hcm, hcs, htake⟩
    · have hbs : bs = [] := List.eq_nil_of_length_eq_zero h0
      obtain ⟨v', w', r⟩ := hgrow none 0 0 hv (by simp [hbs]) (by omega) (by simp [Builtin.firstCells, hbs, vals])
      exact ⟨v', w', by rw [hv]; exact r.1, r.2⟩
    · by_cases hroom : bs.length + k ≤ cap
      · have hr := room_zeros w ty g bs.length cap k cur hg hroom (by omega) (by omega) hk
        refine ⟨_, _, by rw [hv]; exact hr, ⟨by simp [vals], .inr ⟨g, cap, _, by simp, hb, setRow_heap w g cur _ _ _ hg, by simpa using hroom, hcm, ?_, ?_⟩⟩, ⟨rfl, rfl, rfl, by simp, fun q _ hq => setRow_other w g q _ (fun e => hq (by rw [hv]; simp [Value.ownBlock, e]))⟩, .inl (by rw [hv]; rfl)⟩
        · simp [vals]
          omega
        · rw [Nat.mul_one] at htake
          rw [htake, ← vals_append]
          exact List.take_left' (by simp [vals])
      · obtain ⟨v', w', r⟩ := hgrow _ _ _ hv rfl (by omega) (by
          rw [hz1]
          exact run_firstCells_some (P := Try.prog) w.drew 1 bs.length ⟨g, 0, none⟩ bs.length cap (vals bs) (by simp [vals]) (fun j u hu => hown.cells (g := g) (by rw [hv]; rfl) j u hu))
        exact ⟨v', w', by rw [hv]; exact r.1, r.2⟩
/-- What Grow answers: how many pages there were, or -1. -/
def M.gr (bs : List Nat) (most n : Int) : Bool := decide (0 ≤ n ∧ n ≤ most - ((bs.length / 65536 : Nat) : Int))
def GPost (T : Nat) (w : World) (B g : Nat) (v : Value) (bs : List Nat) (most n : Int) (e : Ending) (w' : World) : Prop :=
  (M.gr bs most n = false ∧ e = .returned (.int .i64 (-1)) ∧ w' = w) ∨
  (M.gr bs most n = true ∧ e = .returned (.int .i64 ((bs.length / 65536 : Nat) : Int)) ∧ ∃ v', MAt T w' B g v' (bs ++ List.replicate (n.toNat * 65536) 0) most ∧ But (Ft g v) w w' ∧ (v'.ownBlock = v.ownBlock ∨ v'.ownBlock = some w.heap.size))
theorem grow_fin {T : Nat} {w w1 : World} {B g : Nat} {v v1 : Value} {bs : List Nat} {most : Int} {k : Nat} (h : MAt T w B g v bs most) (hlen : bs.length + k ≤ 4294967296) (ho : w1.ownsRow B 5 1 v1 (bs ++ List.replicate k 0).length (vals (bs ++ List.replicate k 0))) (hg : w.grownBy w1 v.ownBlock) :
    MAt T (w1.setCell ⟨g, 0, none⟩ v1) B g v1 (bs ++ List.replicate k 0) most ∧ But (Ft g v) w (w1.setCell ⟨g, 0, none⟩ v1) ∧ w1.heap[g]? = some (.cells #[v, .int .i64 most] T (0, 0)) := by
  have hne : ∀ q, v.ownBlock = some q → q ≠ g := fun q hq e => by
    obtain ⟨A, c, hv, _⟩ := h.form
    rcases h.row.2 with ⟨hv, _⟩ | ⟨r, cap, cur, hv, _, hr, _⟩
    · rw [hv] at hq; cases hq
    · rw [hv] at hq
      have hq : r = q := by simpa [Value.ownBlock] using hq
      have ho := h.obj
      rw [← e, ← hq, hr] at ho
      injection ho with ho
      injection ho with _ ho
      exact h.ne ho.symm
  have hobj : w1.heap[g]? = some (.cells #[v, .int .i64 most] T (0, 0)) := by rw [hg.block g h.size (fun e => hne g e.symm rfl)]; exact h.obj
  have hne1 : ∀ q, v1.ownBlock = some q → q ≠ g := fun q hq e => by
    rcases ho.2 with ⟨hv, _⟩ | ⟨r, cap, cur, hv, _, hr, _⟩
    · rw [hv] at hq; cases hq
    · rw [hv] at hq
      have hq : r = q := by simpa [Value.ownBlock] using hq
      have ho := hobj
      rw [← e, ← hq, hr] at ho
      injection ho with ho
      injection ho with _ ho
      exact h.ne ho.symm
  refine ⟨⟨by rw [heap_setCell_same w1 g 0 _ _ v1 hobj]; rfl, h.ge, own_but ho (But.setCell w1 g 0 v1) (fun q hq e => hne1 q hq e), ?_, h.ne, by simpa using hlen⟩, ?_, hobj⟩
  · intro b hb
    rcases List.mem_append.1 hb with hb | hb
    · exact h.lt b hb
    · exact zero_lt _ b hb
  · exact ((But.grown hg).mono fun q _ e => .inr e).trans ((But.setCell w1 g 0 v1).mono fun q _ e => .inl e)
set_option maxRecDepth 100000 in
theorem Grow_any (T : Nat) (w : World) (B g : Nat) (v : Value) (bs : List Nat) (most n : Int) (h : MAt T w B g v bs most) (hB : B ≤ w.heap.size) (hm : -1 ≤ most ∧ most ≤ 16) (hl : bs.length ≤ 1048576) (hn : Rg n) :
    Calls Try.prog 20 #[Mp g, .int .i64 n] w (GPost T w B g v bs most n) := by
  have c0 := h.c0
  have c1 := h.c1
  obtain ⟨s, hs⟩ : ∃ s, s = bs.length / 65536 := ⟨_, rfl⟩
  have hs16 : s ≤ 16 := by omega
  by_cases hb : 0 ≤ n ∧ n ≤ most - ((bs.length / 65536 : Nat) : Int)
  · have hgr : M.gr bs most n = true := by unfold M.gr; simpa using hb
    obtain ⟨m, rfl⟩ : ∃ m : Nat, n = m := ⟨n.toNat, by omega⟩
    rw [← hs] at hb
    obtain ⟨v1, w2, hrun, ho, hgb, hfr⟩ := run_zeros w B 38 v bs (m * 65536) h.row (by omega) (by omega) hB
    obtain ⟨q1, q2, q3⟩ := grow_fin h (by omega) ho hgb
    obtain ⟨cs, hcs⟩ : ∃ cs, cs = bs ++ List.replicate (m * 65536) 0 := ⟨_, rfl⟩
    rw [← hcs] at q1 ho
    replace hcs := Lib.hid hcs
    obtain ⟨A1, c1', rfl, _, _⟩ := own_form ho
    have f0 : w2.frozen? ⟨g, 0, none⟩ = false := frozen_of_row w2 g 0 _ _ q3
    have d0 : w2.cell? ⟨g, 0, none⟩ = some v := by rw [cell_of_row w2 g 0 _ _ (0, 0) q3]; rfl
    replace q1 := Lib.hid q1
    replace q2 := Lib.hid q2
    clear q3
    replace h := Lib.hid h
    replace hgr := Lib.hid hgr
    replace hs := Lib.hid hs
    replace ho := Lib.hid ho
    replace hfr := Lib.hid hfr
    clear hgb
    go_enter Try.func20, Try.ntmps20
    go_wp2_with fail
    refine (size_any T w B g v bs most s h.out hs.out).mono ?_
    rintro e1 w1 ⟨rfl, rfl⟩
    go_wp2_with (first | (at_builtin; refine Lib.wpList_append_run _ rfl _ _ _ _ rfl _ _ rfl rfl _ w2 hrun ?_))
    go_ret
    exact .inr ⟨hgr.out, ret_int (by rw [hs.out]), _, by rw [Int.toNat_natCast, ← hcs.out]; exact q1.out, q2.out, hfr.out⟩
  · have hgr : M.gr bs most n = false := by unfold M.gr; simpa using hb
    rw [← hs] at hb
    replace hs := Lib.hid hs
    replace h := Lib.hid h
    replace hgr := Lib.hid hgr
    by_cases h0 : n < 0
    all_goals
      go_enter Try.func20, Try.ntmps20
      go_wp2_with fail
      refine (size_any T w B g v bs most s h.out hs.out).mono ?_
      rintro e1 w1 ⟨rfl, rfl⟩
    · go_wp2_with fail
      go_ret
      exact .inl ⟨hgr.out, rfl, rfl⟩
    · have h3 : most - (s : Int) < n := by omega
      go_wp2_with fail
      go_ret
      exact .inl ⟨hgr.out, rfl, rfl⟩
end Go.Proofs.Ytcdfmldbpmgoiaa
