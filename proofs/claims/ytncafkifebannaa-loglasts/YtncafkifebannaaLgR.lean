/-
  How the log counts a record among its own; condition: the log's block and its records lie in memory.
-/
import Derived.Test.YtncafkifebannaaLgM
import Derived.Deep.AppendLies
namespace Go.Proofs.Ytncafkifebannaa
open Go.RowKit
theorem step_call1 {ops : Array Oper} {o : Oper} {a : Act} {w : World} {K : Act → World → Prop} {Q : Exit → Act → World → Prop} {E : Prop} (hgd : o.guard = none) (f : FuncId) (x : Operand) (t : TypeId)
    (ho : o.op = .call { callee := .value (.func f), args := #[x], argTypes := #[t] }) (hcall : ∀ (args : Array Value) (w : World), Sem.run Try.prog (callFunc f args) w = Result.ok (Next.enter f args) w) (v : Value) (hx : a.eval x = v) (h : Calls Try.prog f #[v] w fun e w' => ∃ u, e = .returned u ∧ K (a.put o.dst u) w') :
    if Region.wanted o (yielded ops a.tmps) = true then Oper.wp Try.prog o a w K Q else E := by
  have hw : Region.wanted o (yielded ops a.tmps) = true := by simp [Region.wanted, hgd]
  rw [if_pos hw]
  unfold Oper.wp
  have hf : a.eval (.func f) = .func (.func f) #[] #[] := rfl
  simp [execOp, ho, resolve, invoke, hx, hf, Deferred.ofValue, hcall, Oper.upon_enter]
  refine h.mono ?_
  rintro e w' ⟨u, rfl, hK⟩
  exact hK
theorem row_info : (Try.prog.info? 37).map (fun i => (i.zero, i.size, i.bytes)) = some (some (.slice none 0 0), 1, 24) := by kernel_rfl
theorem ownsRow_agree {w w' : World} {b e s n : Nat} {v : Value} {xs : List Value} (h : w.ownsRow b e s v n xs) (ha : ∀ g, v.ownBlock = some g → w'.heap[g]? = w.heap[g]?) : w'.ownsRow b e s v n xs := by
  refine ⟨h.1, ?_⟩
  rcases h.2 with hn | ⟨g, cap, cur, rfl, hb, hgg, rest⟩
  · exact .inl hn
  · exact .inr ⟨g, cap, cur, rfl, hb, by rw [ha g rfl]; exact hgg, rest⟩
/-- What records take of the room: their lengths alone are read. -/
def Lens (w : World) (v : Value) (rs : List (List Nat)) : Prop :=
  ∃ A c, v = .slice A rs.length c ∧ (rs.length ≤ c ∧ c ≤ maxLen) ∧ ∀ (i : Nat) (x : List Nat), rs[i]? = some x → ∃ ad A2 c2, A = some ad ∧ w.cell? (ad.add i) = some (.slice A2 x.length c2)
theorem Recs.lens {w : World} {P : Nat → Prop} {v : Value} {rs : List (List Nat)} (h : Recs w P v rs) : Lens w v rs := by
  obtain ⟨A, c, e, h1, h2⟩ := h
  refine ⟨A, c, e, h1, fun i x hx => ?_⟩
  obtain ⟨ad, u, q1, _, q3, A2, c2, rfl, _⟩ := h2 i x hx
  exact ⟨ad, A2, c2, q1, q3⟩
theorem roomOf_len (w : World) (v : Value) (rs : List (List Nat)) (h : Lens w v rs) (hm : ∀ k, M.room (rs.take k) ≤ 1073741824) : Calls Try.prog 33 #[v] w fun e w' => e = .returned (.int .i64 ((M.room rs : Nat) : Int)) ∧ w' = w := by
  obtain ⟨A, c, rfl, h1, h2⟩ := h
  obtain ⟨n, hN⟩ : ∃ n, n = rs.length := ⟨_, rfl⟩
  rw [← hN] at h1 ⊢
  unfold maxLen at h1
  have hall := Lib.hid (show M.room (rs.take n) = M.room rs by rw [hN, List.take_length])
  replace hN := Lib.hid hN
  replace h2 := Lib.hid h2
  replace hm := Lib.hid hm
  go_enter Try.func33, Try.ntmps33
  go_wp2_with fail
  go_loopw [3, 8] (fun s i w' => ∃ k : Nat, k ≤ n ∧ i = .int .i64 k ∧ s = .int .i64 ((M.room (rs.take k) : Nat) : Int) ∧ w' = w) (fun _ i _ => n - (intOf i).toNat)
  case atStart => exact ⟨0, by omega, rfl, rfl, rfl⟩
  case round =>
    obtain ⟨k, hk, rfl, rfl, rfl⟩ := hrel
    by_cases hlt : k < n
    · have hx := List.getElem?_eq_getElem (show k < rs.length by rw [← hN.out]; exact hlt)
      obtain ⟨x, hxx⟩ : ∃ x, x = rs[k]'(by rw [← hN.out]; exact hlt) := ⟨_, rfl⟩
      rw [← hxx] at hx
      clear hxx
      obtain ⟨ad, A2, c2, rfl, q3⟩ := h2.out k x hx
      have hr := M.room_take rs k x hx
      have m1 := hm.out (k + 1)
      have t0 : (0 : Int) ≤ (k : Int) := by omega
      have t1 : (k : Int) < (n : Int) := by omega
      obtain ⟨R, hR⟩ : ∃ R, R = M.room (rs.take k) := ⟨_, rfl⟩
      rw [← hR] at hr ⊢
      have hr' : Unit → M.room (rs.take (k + 1)) = R + (16 + x.length) := fun _ => hr
      have m2 : R + (16 + x.length) ≤ 1073741824 := by omega
      clear hr m1 hR hx
      go_wp2_with fail
      refine ⟨⟨k + 1, by omega, by go_num, congrArg (Value.int .i64) (by rw [hr' ()]; push_cast; omega), by first | rfl | trivial⟩, by simp [intOf]; omega⟩
    · obtain rfl : k = n := by omega
      go_wp2_with fail
      go_ret
      exact ⟨ret_int (by rw [hall.out]), by first | rfl | trivial⟩
/-- Records that a row of its own holds, in blocks Z. -/
structure Held (w : World) (B : Nat) (Z : Nat → Prop) (v : Value) (rs : List (List Nat)) : Prop where
  own : ∃ us : List Value, w.ownsRow B 37 1 v rs.length us ∧ ∀ (i : Nat) (x : List Nat), rs[i]? = some x → ∃ u, us[i]? = some u ∧ BSP w (fun b => Z b ∧ v.ownBlock ≠ some b) u x
  blk : ∀ b, v.ownBlock = some b → Z b
theorem Held.recs {w : World} {B : Nat} {Z : Nat → Prop} {v : Value} {rs : List (List Nat)} (h : Held w B Z v rs) : Recs w Z v rs := by
  obtain ⟨us, hown, hus⟩ := h.own
  obtain ⟨A, c, rfl, h1, h2⟩ := own_form hown
  refine ⟨A, c, rfl, ⟨h1, h2⟩, fun i x hx => ?_⟩
  obtain ⟨u, hu, hb⟩ := hus i x hx
  have hi := (List.getElem?_eq_some_iff.1 hx).1
  obtain ⟨g, cur, rfl, q⟩ := own_at hown (by omega)
  refine ⟨_, u, rfl, h.blk g rfl, ?_, hb.to (fun _ _ => rfl) (fun _ hb => hb.1)⟩
  have := hown.cells (g := g) rfl i u hu
  exact this
theorem Held.to {w w' : World} {B : Nat} {Z Y : Nat → Prop} {v : Value} {rs : List (List Nat)} (h : Held w B Z v rs) (ha : ∀ b, Z b → w'.heap[b]? = w.heap[b]?) (hY : ∀ b, Z b → Y b) : Held w' B Y v rs := by
  obtain ⟨us, hown, hus⟩ := h.own
  refine ⟨⟨us, ownsRow_agree hown (fun k hk => ha k (h.blk k hk)), fun i x hx => ?_⟩, fun b hb => hY b (h.blk b hb)⟩
  obtain ⟨u, hu, hb⟩ := hus i x hx
  exact ⟨u, hu, hb.to (fun b hb => ha b hb.1) (fun b hb => ⟨hY b hb.1, hb.2⟩)⟩
theorem Held.nil (w : World) (B : Nat) (Z : Nat → Prop) : Held w B Z (.slice none 0 0) [] :=
  ⟨⟨[], World.ownsRow_nil _ _ _ _, fun i x hx => by simp at hx⟩, fun b hb => by simp [Value.ownBlock] at hb⟩
/-- What taking a record makes of the log's block. -/
def TkPost (w : World) (B G : Nat) (Z : Nat → Prop) (rs : List (List Nat)) (x0 x1 : Value) (e0 t0 : Nat) (x : List Nat) (e : Ending) (w' : World) : Prop :=
  e = .returned (.tuple #[]) ∧ ∃ v', w'.heap[G]? = some (.cells #[x0, x1, v', .int .i64 ((e0 + M.elen x.length : Nat) : Int), .int .i64 ((t0 + (16 + x.length) : Nat) : Int)] 62 (0, 0)) ∧ Held w' B (fun b => Z b ∨ w.heap.size ≤ b ∧ b < w'.heap.size) v' (rs ++ [x]) ∧ But (fun b => b = G ∨ Z b) w w'
theorem take_fin {w w1 w5 W6 W7 : World} {B G N gg cap cv e0 t0 e7 R d1 : Nat} {Z : Nat → Prop} {rs : List (List Nat)} {x0 x1 : Value} {Av A1 : Option Addr} {us : List Value} {x : List Nat} {ob : Obj}
    (hobj : w.heap[G]? = some (.cells #[x0, x1, .slice Av N cv, .int .i64 (e0 : Int), .int .i64 (t0 : Int)] 62 (0, 0))) (hh : Held w B Z (.slice Av N cv) rs) (hZ : ∀ b, Z b → b < w.heap.size) (hGZ : ¬ Z G) (hB : B ≤ w.heap.size)
    (b1 : Below w.heap.size w w1) (q1 : BSP w1 (fun b => w.heap.size ≤ b ∧ b < w1.heap.size) (.slice A1 x.length d1) x) (hN : N = rs.length)
    (hus : ∀ (i : Nat) (x : List Nat), rs[i]? = some x → ∃ u, us[i]? = some u ∧ BSP w (fun b => Z b ∧ (Value.slice Av N cv).ownBlock ≠ some b) u x)
    (hown5 : w5.ownsRow B 37 1 (.slice (some ⟨gg, 0, none⟩) (N + 1) cap) (N + 1) (us ++ [.slice A1 x.length d1]))
    (hgrow5 : (w1.alloc (.cells #[.slice A1 x.length d1] 37)).grownBy w5 (Value.slice Av N cv).ownBlock) (hat5 : (Value.slice Av N cv).ownBlock = some gg ∨ gg = w1.heap.size + 1) (hlt5 : gg < w5.heap.size)
    (obj5 : w5.heap[G]? = some (.cells #[x0, x1, .slice Av N cv, .int .i64 (e0 : Int), .int .i64 (t0 : Int)] 62 (0, 0)))
    (hW6 : W6 = w5.setCell ⟨G, 2, none⟩ (.slice (some ⟨gg, 0, none⟩) (N + 1) cap)) (hW7 : W7 = (W6.setCell ⟨G, 3, none⟩ (.int .i64 (e7 : Int))).drew) (he7 : e7 = e0 + M.elen x.length) (hR : R = 16 + x.length) :
    TkPost w B G Z rs x0 x1 e0 t0 x (.returned (.tuple #[])) ((W7.setCell ⟨G, 4, none⟩ (.int .i64 ((t0 + R : Nat) : Int))).alloc ob).drew := by
  have hGl : G < w.heap.size := (Array.getElem?_eq_some_iff.1 hobj).1
  have hblk := hh.blk
  obtain ⟨W8, hW8⟩ : ∃ W8, W8 = ((W7.setCell ⟨G, 4, none⟩ (.int .i64 ((t0 + R : Nat) : Int))).alloc ob).drew := ⟨_, rfl⟩
  rw [← hW8]
  have obj6 : W6.heap[G]? = some (.cells #[x0, x1, .slice (some ⟨gg, 0, none⟩) (N + 1) cap, .int .i64 (e0 : Int), .int .i64 (t0 : Int)] 62 (0, 0)) := by rw [hW6]; simpa using heap_setCell_same w5 G 2 _ _ (.slice (some ⟨gg, 0, none⟩) (N + 1) cap) obj5
  have obj7 : W7.heap[G]? = some (.cells #[x0, x1, .slice (some ⟨gg, 0, none⟩) (N + 1) cap, .int .i64 (e7 : Int), .int .i64 (t0 : Int)] 62 (0, 0)) := by rw [hW7]; show (W6.setCell ⟨G, 3, none⟩ (.int .i64 (e7 : Int))).heap[G]? = _; simpa using heap_setCell_same W6 G 3 _ _ (.int .i64 (e7 : Int)) obj6
  have hG7 : G < W7.heap.size := (Array.getElem?_eq_some_iff.1 obj7).1
  have b78 : But (· = G) W7 W8 := by
    rw [hW8]
    exact (But.setCell W7 G 4 _).trans ((But.alloc _ _ ob).trans (But.ofBelow (Below.refl _ _).drew))
  have b67 : But (· = G) W6 W7 := by
    rw [hW7]
    exact (But.setCell W6 G 3 _).trans (But.ofBelow (Below.refl _ _).drew)
  have b56 : But (· = G) w5 W6 := by rw [hW6]; exact But.setCell w5 G 2 _
  have b58 : But (· = G) w5 W8 := b56.trans (b67.trans b78)
  have obj8 : W8.heap[G]? = some (.cells #[x0, x1, .slice (some ⟨gg, 0, none⟩) (N + 1) cap, .int .i64 (e7 : Int), .int .i64 ((t0 + R : Nat) : Int)] 62 (0, 0)) := by
    have h1 : (W7.setCell ⟨G, 4, none⟩ (.int .i64 ((t0 + R : Nat) : Int))).heap[G]? = some (.cells #[x0, x1, .slice (some ⟨gg, 0, none⟩) (N + 1) cap, .int .i64 (e7 : Int), .int .i64 ((t0 + R : Nat) : Int)] 62 (0, 0)) := by simpa using heap_setCell_same W7 G 4 _ _ (.int .i64 ((t0 + R : Nat) : Int)) obj7
    rw [hW8]
    show ((W7.setCell ⟨G, 4, none⟩ (.int .i64 ((t0 + R : Nat) : Int))).alloc ob).heap[G]? = _
    rw [Below.heap_alloc _ _ _ (by simpa using hG7)]
    exact h1
  have b15 : But (fun b => (Value.slice Av N cv).ownBlock = some b) w1 w5 := (But.alloc _ w1 _).trans (But.grown hgrow5)
  have b18 : But (fun b => b = G ∨ (Value.slice Av N cv).ownBlock = some b) w1 W8 := (b15.mono fun _ _ h => .inr h).trans (b58.mono fun _ _ h => .inl h)
  have s18 := b18.size
  have s58 := b58.size
  have s01 := b1.size
  have hg : gg ≠ G := by
    rcases hat5 with h | h
    · intro e
      exact hGZ (e ▸ hblk _ h)
    · omega
  have hgz : ∀ b, Z b → (Value.slice Av N cv).ownBlock ≠ some b → gg ≠ b := fun b hb hne e => by
    rcases hat5 with h | h
    · exact hne (e ▸ h)
    · have := hZ b hb; omega
  refine ⟨rfl, .slice (some ⟨gg, 0, none⟩) (N + 1) cap, by rw [obj8, he7, hR], ⟨⟨us ++ [.slice A1 x.length d1], ?_, fun i y hy => ?_⟩, fun b hb => ?_⟩, ?_⟩
  · have e1 : (rs ++ [x]).length = N + 1 := by simp [hN]
    rw [e1]
    exact ownsRow_agree hown5 (fun k hk => by
      have hk : gg = k := by simpa [Value.ownBlock] using hk
      subst hk
      exact b58.block gg hlt5 hg)
  · have hul : us.length = N := by have := hown5.1; simp at this; omega
    by_cases hi : i < N
    · have hy' : rs[i]? = some y := by rwa [List.getElem?_append_left (by omega)] at hy
      obtain ⟨u, hu, hb⟩ := hus i y hy'
      refine ⟨u, by rw [List.getElem?_append_left (by omega)]; exact hu, hb.to (fun b hb => ?_) (fun b hb => ⟨.inl hb.1, fun e => ?_⟩)⟩
      · have hlt := hZ b hb.1
        rw [b18.block b (by omega) (fun h => by rcases h with h | h; exact hGZ (h ▸ hb.1); exact hb.2 h), b1.block b hlt]
      · have e : gg = b := by simpa [Value.ownBlock] using e
        exact hgz b hb.1 hb.2 e
    · have hiN : i = N := by
        have := (List.getElem?_eq_some_iff.1 hy).1
        simp at this
        omega
      subst hiN
      rw [List.getElem?_append_right (by omega), hN, Nat.sub_self] at hy
      have hy : x = y := by simpa using hy
      subst hy
      refine ⟨_, by rw [List.getElem?_append_right (by omega), hul, Nat.sub_self]; rfl, q1.to (fun b hb => ?_) (fun b hb => ⟨.inr ⟨hb.1, by omega⟩, fun e => ?_⟩)⟩
      · refine b18.block b hb.2 (fun h => ?_)
        rcases h with h | h
        · omega
        · have := hZ b (hblk b h); omega
      · have e : gg = b := by simpa [Value.ownBlock] using e
        rcases hat5 with h | h
        · have := hZ gg (hblk gg h); omega
        · omega
  · have e : gg = b := by simpa [Value.ownBlock] using hb
    subst e
    rcases hat5 with h | h
    · exact .inl (hblk _ h)
    · exact .inr ⟨by omega, by omega⟩
  · exact (But.ofBelow b1).trans (b18.mono fun b _ h => by
      rcases h with h | h
      · exact .inl h
      · exact .inr (hblk b h))
set_option maxRecDepth 100000 in
set_option maxHeartbeats 4000000 in
theorem take_of (w : World) (B G : Nat) (Z : Nat → Prop) (rs : List (List Nat)) (v x0 x1 : Value) (e0 t0 : Nat) (u : Value) (x : List Nat)
    (hobj : w.heap[G]? = some (.cells #[x0, x1, v, .int .i64 (e0 : Int), .int .i64 (t0 : Int)] 62 (0, 0))) (hh : Held w B Z v rs) (hZ : ∀ b, Z b → b < w.heap.size) (hGZ : ¬ Z G) (hB : B ≤ w.heap.size)
    (hu : BS w w.heap.size u x) (hx : x.length ≤ 1048576) (hN : rs.length ≤ 1000000) (he : e0 ≤ 1073741824) (ht : t0 ≤ 1073741824) :
    Calls Try.prog 34 #[Mp G, u] w (TkPost w B G Z rs x0 x1 e0 t0 x) := by
  obtain ⟨i0, hi0, hz0, hz1, hz2⟩ := info_parts row_info
  obtain ⟨us, hown, hus⟩ := hh.own
  have hblk := hh.blk
  have hvG : v.ownBlock ≠ some G := fun e => hGZ (hblk G e)
  obtain ⟨N, hNl⟩ : ∃ N, N = rs.length := ⟨_, rfl⟩
  rw [← hNl] at hown hN
  have hGl : G < w.heap.size := (Array.getElem?_eq_some_iff.1 hobj).1
  have c2 : w.cell? ⟨G, 2, none⟩ = some v := by rw [cell_of_row w G 2 _ _ (0, 0) hobj]; rfl
  have f2 : w.frozen? ⟨G, 2, none⟩ = false := frozen_of_row w G 2 _ _ hobj
  have hcl := Lib.hid (clone_of w.drew u x (hu.later (Below.refl _ _).drew) hx)
  obtain ⟨Av, cv, rfl, hcv1, hcv2⟩ := own_form hown
  unfold maxLen at hcv2
  obtain ⟨A, c, rfl, hc1, hc2, hcc⟩ := id hu
  have hob := Lib.hid hobj
  have huu := Lib.hid hu
  replace hown := Lib.hid hown
  replace hus := Lib.hid hus
  replace hblk := Lib.hid hblk
  replace hh := Lib.hid hh
  replace hZ := Lib.hid hZ
  replace hNl := Lib.hid hNl
  replace hcc := Lib.hid hcc
  clear hu
  have hxl := hx
  go_enter Try.func34, Try.ntmps34
  go_wp2_with fail
  go_region_law (first
    | (refine step_call1 (by rfl) 43 _ _ (by rfl) Try.call43 _ (by rfl) ?_; refine hcl.out.mono ?_; rintro e1 w1 ⟨u1, rfl, q1, b1⟩; have q1' := Lib.hid q1; obtain ⟨A1, d1, rfl, q2, q3⟩ := q1; refine ⟨_, rfl, ?_⟩; have b1' : Below w.heap.size w w1 := (Below.refl w.heap.size w).drew.trans b1; have own1 := Lib.hid (own_later hown.out b1'); have c21 : w1.cell? ⟨G, 2, none⟩ = some (.slice Av N cv) := (b1'.cell (p := ⟨G, 2, none⟩) hGl).trans c2; have f21 : w1.frozen? ⟨G, 2, none⟩ = false := (b1'.frozen (p := ⟨G, 2, none⟩) hGl).trans f2; have hB1 : B ≤ w1.heap.size := Nat.le_trans hB b1'.size; have hG1 : G < w1.heap.size := Nat.lt_of_lt_of_le hGl b1'.size; replace b1' := Lib.hid b1')
    | (refine step_append_lies _ (by rfl) _ _ _ (by rfl) B 37 i0 _ 1 24 Try.underlying31 hi0 hz0 hz1 hz2 rfl (by omega) (.slice Av N cv) N us (by rfl) (by first | exact own1.out.alloc _ | exact ownsRow_agree (own1.out.alloc (.cells #[.slice A1 x.length d1] 37)) (fun _ _ => rfl)) ⟨w1.heap.size, 0, none⟩ 1 1 [.slice A1 x.length d1] (by rfl) (by rfl) (World.news_of_block (cs := #[.slice A1 x.length d1]) (t := 37) (fr := (0, 0)) (heap_alloc_new w1 _)) (by simp [Value.oneCell']) (by omega) (by unfold maxLen; omega) (by omega) (by simp; omega) (w1.heap.size + 1) (by simp) ?_; intro gg cap w5 hown5 hgrow5 hat5 hlt5; have hb5 : w5.heap[G]? = w1.heap[G]? := (hgrow5.block G (by simp; omega) (fun e => hvG e.symm)).trans (Below.heap_alloc w1 (.cells #[.slice A1 x.length d1] 37) _ hG1); have c25 : w5.cell? ⟨G, 2, none⟩ = some (.slice Av N cv) := (World.cell?_of_block (w := w1) hb5).trans c21; have f25 : w5.frozen? ⟨G, 2, none⟩ = false := (World.frozen?_of_block (w := w1) hb5).trans f21))
  all_goals (
    have obj5 : w5.heap[G]? = some (.cells #[x0, x1, .slice Av N cv, .int .i64 (e0 : Int), .int .i64 (t0 : Int)] 62 (0, 0)) := hb5.trans ((b1'.out.block G hGl).trans hob.out)
    obtain ⟨W6, hW6⟩ : ∃ W6, W6 = w5.setCell ⟨G, 2, none⟩ (.slice (some ⟨gg, 0, none⟩) (N + 1) cap) := ⟨_, rfl⟩
    rw [← hW6]
    have obj6 : W6.heap[G]? = some (.cells #[x0, x1, .slice (some ⟨gg, 0, none⟩) (N + 1) cap, .int .i64 (e0 : Int), .int .i64 (t0 : Int)] 62 (0, 0)) := by rw [hW6]; simpa using heap_setCell_same w5 G 2 _ _ (.slice (some ⟨gg, 0, none⟩) (N + 1) cap) obj5
    have c63 : W6.cell? ⟨G, 3, none⟩ = some (.int .i64 (e0 : Int)) := by rw [cell_of_row W6 G 3 _ _ (0, 0) obj6]; rfl
    have f63 : W6.frozen? ⟨G, 3, none⟩ = false := frozen_of_row W6 G 3 _ _ obj6
    have hel := Lib.hid (fun W => entryLen_any A x.length c W (by omega))
    replace hW6 := Lib.hid hW6
    obtain ⟨L, hL⟩ : ∃ L, L = M.elen x.length := ⟨_, rfl⟩
    have hL9 : L ≤ 1048592 := by rw [hL]; unfold M.elen; have := M.pad_ge x.length; omega
    rw [← hL] at hel
    replace hL := Lib.hid hL
    clear c25 f25 c21 f21 c2 f2 hb5 hcl
    go_wp2_with fail
    go_region_law (refine step_call1 (by rfl) 54 _ _ (by rfl) Try.call54 _ (by rfl) ?_; refine (hel.out _).mono ?_; rintro e2 w2 ⟨rfl, rfl⟩; refine ⟨_, rfl, ?_⟩)
    all_goals (
      obtain ⟨e7, he7⟩ : ∃ e7, e7 = e0 + L := ⟨_, rfl⟩
      have hwr7 : IntKind.i64.wrap ((e0 : Int) + (L : Int)) = (e7 : Int) := by rw [IntKind.wrap_i64]; omega
      rw [hwr7]
      obtain ⟨W7, hW7⟩ : ∃ W7, W7 = (W6.setCell ⟨G, 3, none⟩ (.int .i64 (e7 : Int))).drew := ⟨_, rfl⟩
      rw [← hW7]
      have obj7 : W7.heap[G]? = some (.cells #[x0, x1, .slice (some ⟨gg, 0, none⟩) (N + 1) cap, .int .i64 (e7 : Int), .int .i64 (t0 : Int)] 62 (0, 0)) := by rw [hW7]; show (W6.setCell ⟨G, 3, none⟩ (.int .i64 (e7 : Int))).heap[G]? = _; simpa using heap_setCell_same W6 G 3 _ _ (.int .i64 (e7 : Int)) obj6
      have c74 : W7.cell? ⟨G, 4, none⟩ = some (.int .i64 (t0 : Int)) := by rw [cell_of_row W7 G 4 _ _ (0, 0) obj7]; rfl
      have f74 : W7.frozen? ⟨G, 4, none⟩ = false := frozen_of_row W7 G 4 _ _ obj7
      have hG7 : G < W7.heap.size := (Array.getElem?_eq_some_iff.1 obj7).1
      obtain ⟨R, hR⟩ : ∃ R, R = 16 + x.length := ⟨_, rfl⟩
      have hRm : M.room [x] = R := by rw [hR]; simp [M.room]
      have hR9 : R ≤ 1048592 := by omega
      have hrm := Lib.hid (fun W (ad : Addr) (h9 : W.cell? (ad.add 0) = some (.slice A x.length c)) => show Calls Try.prog 33 #[.slice (some ad) 1 1] W fun e w' => e = .returned (.int .i64 (R : Int)) ∧ w' = W from by
        rw [← hRm]
        exact roomOf_len W (.slice (some ad) 1 1) [x] ⟨some ad, 1, rfl, ⟨by simp, by unfold maxLen; omega⟩, fun i y hy => by
          cases i with
          | zero => cases hy; exact ⟨ad, A, c, rfl, h9⟩
          | succ i => simp at hy⟩ (fun k => by cases k with
            | zero => simp [M.room]
            | succ k => simp [M.room]; omega))
      clear hRm
      replace hR := Lib.hid hR
      replace hW7 := Lib.hid hW7
      replace he7 := Lib.hid he7
      clear hwr7 c63 f63 hel hL9
      go_wp2_with fail
      have hwr8 : IntKind.i64.wrap ((t0 : Int) + (R : Int)) = ((t0 + R : Nat) : Int) := by rw [IntKind.wrap_i64]; push_cast; omega
      have hfin : TkPost w B G Z rs x0 x1 e0 t0 x (.returned (.tuple #[])) ((W7.setCell ⟨G, 4, none⟩ (.int .i64 (IntKind.i64.wrap ((t0 : Int) + (R : Int))))).alloc (.cells #[.slice A x.length c] 37)).drew := by
        rw [hwr8]
        have g5 : (w1.alloc (.cells #[.slice A1 x.length d1] 37)).grownBy w5 (Value.slice Av N cv).ownBlock := by first | exact hgrow5 | exact grown_drew hgrow5
        exact take_fin hob.out hh.out hZ.out hGZ hB b1'.out q1'.out (hNl.out) hus.out hown5 g5 hat5 hlt5 obj5 hW6.out hW7.out (by rw [he7.out, hL.out]) (by rw [hR.out])
      have hq : Calls Try.prog 33 #[.slice (some ⟨W7.heap.size, 0, none⟩) 1 1] (W7.alloc (Obj.cells #[Value.slice A x.length c] 37)).drew (fun e w' => e = .returned (.int .i64 (R : Int)) ∧ w' = (W7.alloc (Obj.cells #[Value.slice A x.length c] 37)).drew) := hrm.out _ ⟨W7.heap.size, 0, none⟩ (World.news_of_block (cs := #[.slice A x.length c]) (t := 37) (fr := (0, 0)) (heap_alloc_new W7 (.cells #[.slice A x.length c] 37)) 0 _ rfl)
      replace hq := Lib.hid hq
      clear hwr8
      replace hfin := Lib.hid hfin
      go_region_law (refine step_call1 (by rfl) 33 _ _ (by rfl) Try.call33 (.slice (some ⟨W7.heap.size, 0, none⟩) 1 1) (by rfl) ?_; refine hq.out.mono ?_; rintro e3 w3 ⟨rfl, rfl⟩; refine ⟨_, rfl, ?_⟩)
      all_goals (
        go_end0
        exact hfin.out)))
end Go.Proofs.Ytncafkifebannaa
