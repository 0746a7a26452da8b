/-
  What replacing all records answers, the power going where it may; condition: the log and the records lie in memory, apart.
-/
import Derived.Test.YtncafkifebannaaLgW
import Derived.Laws.Tables
import Derived.StillTailTactics
namespace Go.Proofs.Ytncafkifebannaa
open Go.RowKit
section
variable {w w' : World} {B G g r q n cS cE : Nat} {S E : List Nat} {k last : Int} {h : Nat} {Z : Nat → Prop} {rs : List (List Nat)}
/-- The bytes with the other half laid; with the chooser turned, too. -/
def M.laid (E : List Nat) (n h : Nat) (ns : List (List Nat)) : List Nat := M.lay E (M.base n h) (M.full ns (M.cnt n * 64))
def M.turned (E : List Nat) (n h : Nat) (ns : List (List Nat)) : List Nat := M.lay (M.laid E n h ns) 0 (M.hd h)
/-- How far a Replace has come; h is the new half. -/
def RpIn (W0 : World) (B G g r q n cS cE : Nat) (S E : List Nat) (k last : Int) (h : Nat) (ns : List (List Nat)) (v x3 x4 : Value) (i : Nat) (W : World) : Prop :=
  But (DX g r q) W0 W ∧
  ((i = 0 ∧ ¬ last ≤ k ∧ HAt W B G g r q n cS cE S E k last h v x3 x4) ∨
   (i = 1 ∧ ∃ k', ¬ last ≤ k' ∧ k ≤ k' ∧ k' ≤ k + ((M.cnt n * 64 : Nat) : Int) + 1 ∧ HAt W B G g r q n cS cE S (M.laid E n h ns) k' last h v x3 x4) ∨
   (i = 2 ∧ ∃ k', ¬ last ≤ k' ∧ k ≤ k' ∧ k' ≤ k + ((M.cnt n * 64 : Nat) : Int) + 2 ∧ HAt W B G g r q n cS cE (M.laid E n h ns) (M.laid E n h ns) k' last h v x3 x4) ∨
   (i = 3 ∧ ∃ k', ¬ last ≤ k' ∧ k ≤ k' ∧ k' ≤ k + ((M.cnt n * 64 : Nat) : Int) + 3 ∧ HAt W B G g r q n cS cE (M.laid E n h ns) (M.turned E n h ns) k' last h v x3 x4) ∨
   (i = 4 ∧ ∃ k', ¬ last ≤ k' ∧ k ≤ k' ∧ k' ≤ k + ((M.cnt n * 64 : Nat) : Int) + 4 ∧ HAt W B G g r q n cS cE (M.turned E n h ns) (M.turned E n h ns) k' last h v x3 x4))
/-- How a Replace may fail. -/
def M.TornR (S E S' E' : List Nat) (n h : Nat) (ns : List (List Nat)) : Prop :=
  (S' = S ∧ ∃ o, o ≤ M.cnt n * 64 ∧ (o = M.cnt n * 64 ∨ o % 64 = 0) ∧ E' = M.lay E (M.base n h) ((M.full ns (M.cnt n * 64)).take o)) ∨ (S' = M.laid E n h ns ∧ E' = M.turned E n h ns)
def RpFl (W0 : World) (B g r q n cS cE : Nat) (S E : List Nat) (k last : Int) (h : Nat) (ns : List (List Nat)) (d : Int) (W : World) : Prop :=
  But (DX g r q) W0 W ∧ d = 103 ∧ ∃ (S' E' : List Nat) (k' : Int), last ≤ k' ∧ k' ≤ k + ((M.cnt n * 64 : Nat) : Int) + 4 ∧ M.TornR S E S' E' n h ns ∧ DAt W B g r q n cS cE S' E' k' last
variable {W0 W : World} {ns : List (List Nat)} {v x3 x4 : Value} {P : Nat → Prop}
theorem rstep0 (hr : Recs W0 P v ns) (hP : ∀ b, P b → b < W0.heap.size ∧ ¬ DX g r q b) (hfit : (M.ents ns).length ≤ M.cnt n * 64) (hk : 0 ≤ k ∧ k + ((M.cnt n * 64 : Nat) : Int) < 999990) (a : RpIn W0 B G g r q n cS cE S E k last h ns v x3 x4 0 W) :
    Calls Try.prog 30 #[Mp G] W fun e w' => (e = .returned (.int .i64 0) ∧ RpIn W0 B G g r q n cS cE S E k last h ns v x3 x4 1 w') ∨ ∃ d : Int, d ≠ 0 ∧ e = .returned (.int .i64 d) ∧ RpFl W0 B g r q n cS cE S E k last h ns d w' := by
  obtain ⟨hb, ⟨_, hon0, a0⟩ | ⟨h9, _⟩ | ⟨h9, _⟩ | ⟨h9, _⟩ | ⟨h9, _⟩⟩ := a
  · have hfl := M.full_length hfit
    have hr' : Recs W P v ns := hr.to (fun b hb' => hb.block b (hP b hb').1 (hP b hb').2) (fun _ h => h)
    refine (lay_of W ns P a0 hr' (fun b hb' => Nat.lt_of_lt_of_le (hP b hb').1 hb.size) hfit ⟨hk.1, by omega⟩).mono ?_
    rintro e w' ⟨k', j, h3, h4, h5, d, x, h6⟩
    rw [Nat.add_zero] at d
    rcases h6 with ⟨rfl, h7, h8⟩ | ⟨rfl, h7, h8⟩
    · have htk : (M.full ns (M.cnt n * 64)).take j = M.full ns (M.cnt n * 64) := List.take_of_length_le (by omega)
      rw [htk] at d
      exact .inl ⟨rfl, hb.trans x, .inr (.inl ⟨rfl, k', by omega, h3, by omega, a0.but d x⟩)⟩
    · exact .inr ⟨103, by decide, rfl, hb.trans x, rfl, S, _, k', h7, by omega, .inl ⟨rfl, j, by omega, by omega, rfl⟩, d⟩
  all_goals omega
theorem rstep1 (hfit : (M.ents ns).length ≤ M.cnt n * 64) (hk : 0 ≤ k ∧ k + ((M.cnt n * 64 : Nat) : Int) < 999990) (a : RpIn W0 B G g r q n cS cE S E k last h ns v x3 x4 1 W) :
    Calls Try.prog 31 #[Mp g] W fun e w' => (e = .returned (.int .i64 0) ∧ RpIn W0 B G g r q n cS cE S E k last h ns v x3 x4 2 w') ∨ ∃ d : Int, d ≠ 0 ∧ e = .returned (.int .i64 d) ∧ RpFl W0 B g r q n cS cE S E k last h ns d w' := by
  obtain ⟨hb, ⟨h9, _⟩ | ⟨_, k', h3, h4, h5, a0⟩ | ⟨h9, _⟩ | ⟨h9, _⟩ | ⟨h9, _⟩⟩ := a
  · omega
  · have hfl := M.full_length hfit
    refine (Flush_any W _ (k' + 1) _ a0.disk (by omega) rfl rfl rfl).mono ?_
    rintro e w' ⟨rfl, d, x⟩
    by_cases h6 : last ≤ k' + 1
    · rw [if_pos h6] at d ⊢
      exact .inr ⟨103, by decide, rfl, hb.trans x, rfl, S, _, k' + 1, h6, by omega, .inl ⟨rfl, M.cnt n * 64, Nat.le_refl _, .inl rfl, by rw [List.take_of_length_le (by omega)]; rfl⟩, d⟩
    · rw [if_neg h6] at d ⊢
      exact .inl ⟨rfl, hb.trans x, .inr (.inr (.inl ⟨rfl, k' + 1, h6, by omega, by omega, a0.but d x⟩))⟩
  all_goals omega
theorem rstep2 (hk : 0 ≤ k ∧ k + ((M.cnt n * 64 : Nat) : Int) < 999990) (a : RpIn W0 B G g r q n cS cE S E k last h ns v x3 x4 2 W) :
    Calls Try.prog 35 #[Mp G] W fun e w' => (e = .returned (.int .i64 0) ∧ RpIn W0 B G g r q n cS cE S E k last h ns v x3 x4 3 w') ∨ ∃ d : Int, d ≠ 0 ∧ e = .returned (.int .i64 d) ∧ RpFl W0 B g r q n cS cE S E k last h ns d w' := by
  obtain ⟨hb, ⟨h9, _⟩ | ⟨h9, _⟩ | ⟨_, k', h3, h4, h5, a0⟩ | ⟨h9, _⟩ | ⟨h9, _⟩⟩ := a
  · omega
  · omega
  · refine (choose_of W _ _ a0 (by omega) rfl rfl).mono ?_
    rintro e w' ⟨rfl, d, x⟩
    rw [if_neg h3] at d
    by_cases h6 : last ≤ k' + 1
    · rw [if_pos h6]
      exact .inr ⟨103, by decide, rfl, hb.trans x, rfl, _, _, k' + 1, h6, by omega, .inr ⟨rfl, rfl⟩, d⟩
    · rw [if_neg h6]
      exact .inl ⟨rfl, hb.trans x, .inr (.inr (.inr (.inl ⟨rfl, k' + 1, h6, by omega, by omega, a0.but d x⟩)))⟩
  all_goals omega
theorem rstep3 (hk : 0 ≤ k ∧ k + ((M.cnt n * 64 : Nat) : Int) < 999990) (a : RpIn W0 B G g r q n cS cE S E k last h ns v x3 x4 3 W) :
    Calls Try.prog 31 #[Mp g] W fun e w' => (e = .returned (.int .i64 0) ∧ RpIn W0 B G g r q n cS cE S E k last h ns v x3 x4 4 w') ∨ ∃ d : Int, d ≠ 0 ∧ e = .returned (.int .i64 d) ∧ RpFl W0 B g r q n cS cE S E k last h ns d w' := by
  obtain ⟨hb, ⟨h9, _⟩ | ⟨h9, _⟩ | ⟨h9, _⟩ | ⟨_, k', h3, h4, h5, a0⟩ | ⟨h9, _⟩⟩ := a
  · omega
  · omega
  · omega
  · refine (Flush_any W _ (k' + 1) _ a0.disk (by omega) rfl rfl rfl).mono ?_
    rintro e w' ⟨rfl, d, x⟩
    by_cases h6 : last ≤ k' + 1
    · rw [if_pos h6] at d ⊢
      exact .inr ⟨103, by decide, rfl, hb.trans x, rfl, _, _, k' + 1, h6, by omega, .inr ⟨rfl, rfl⟩, d⟩
    · rw [if_neg h6] at d ⊢
      exact .inl ⟨rfl, hb.trans x, .inr (.inr (.inr (.inr ⟨rfl, k' + 1, h6, by omega, by omega, a0.but d x⟩)))⟩
  · omega
theorem log_size : (Try.prog.info? 62).map (·.size) = some 5 := by kernel_rfl
/-- What Replace answers. -/
def RpPost (w : World) (B : Nat) (Z : Nat → Prop) (G g r q n cS cE : Nat) (S E : List Nat) (k last : Int) (h : Nat) (rs ns : List (List Nat)) (e : Ending) (w' : World) : Prop :=
  ((e = .returned (.int .i64 51) ∧ ¬ last ≤ k ∧ n * 64 - 1024 < 3 * M.room ns ∧ LAt w' B Z G g r q n cS cE S E k last h rs) ∨
   (e = .returned (.int .i64 103) ∧ last ≤ k ∧ DAt w' B g r q n cS cE S E k last) ∨
   (∃ k', e = .returned (.int .i64 0) ∧ ¬ last ≤ k ∧ ¬ last ≤ k' ∧ k ≤ k' ∧ k' ≤ k + ((M.cnt n * 64 : Nat) : Int) + 4 ∧ ¬ n * 64 - 1024 < 3 * M.room ns ∧ LAt w' B (Grow Z w w') G g r q n cS cE (M.turned E n (1 - h) ns) (M.turned E n (1 - h) ns) k' last (1 - h) ns) ∨
   (∃ (S' E' : List Nat) (k' : Int), e = .returned (.int .i64 103) ∧ ¬ last ≤ k ∧ last ≤ k' ∧ k' ≤ k + ((M.cnt n * 64 : Nat) : Int) + 4 ∧ ¬ n * 64 - 1024 < 3 * M.room ns ∧ M.TornR S E S' E' n (1 - h) ns ∧ DAt w' B g r q n cS cE S' E' k' last)) ∧ But Z w w'
set_option maxRecDepth 100000 in
set_option maxHeartbeats 2000000 in
theorem replace_of (w : World) (vr : Value) (a : LAt w B Z G g r q n cS cE S E k last h rs) (hr : Recs w (fun b => b < w.heap.size ∧ ¬ Z b) vr ns) (hok : M.OkR ns) (hkm : ∀ i, M.room (ns.take i) ≤ 1073741824) (hnl : ns.length ≤ 1000000) (hk : 0 ≤ k ∧ k + ((M.cnt n * 64 : Nat) : Int) < 999990) :
    Calls Try.prog 12 #[Mp G, vr] w (RpPost w B Z G g r q n cS cE S E k last h rs ns) := by
  obtain ⟨v0, a0, hh0⟩ := a.v
  have hn := a0.disk.n0
  have hGl : G < w.heap.size := a.zl G a.zG
  have c0 := a0.c0
  have c1 := a0.c1
  have h2 := a0.h2
  have hgD := a0.gD
  obtain ⟨T, hT⟩ : ∃ T, T = M.room ns := ⟨_, rfl⟩
  have hT9 : T ≤ 1073741824 := by have := hkm ns.length; rw [List.take_length] at this; omega
  obtain ⟨cc, hcc⟩ : ∃ cc : Int, cc = if last ≤ k then 103 else if n * 64 - 1024 < 3 * T then 51 else 0 := ⟨_, rfl⟩
  have hrm := Lib.hid (roomOf_len w vr ns hr.lens hkm)
  rw [← hT] at hrm
  have hmh := Lib.hid (mayHold_of w T cc a0 hT9 hcc)
  obtain ⟨A, c, rfl, hc12, hel⟩ := id hr
  obtain ⟨N, hN⟩ : ∃ N, N = ns.length := ⟨_, rfl⟩
  rw [← hN] at hrm hc12 hnl ⊢
  unfold maxLen at hc12
  have ha := Lib.hid a
  have ha0 := Lib.hid a0
  replace hel := Lib.hid hel
  replace hh0 := Lib.hid hh0
  replace hN := Lib.hid hN
  replace hT := Lib.hid hT
  replace hcc := Lib.hid hcc
  replace hok := Lib.hid hok
  replace hkm := Lib.hid hkm
  clear a a0 hr
  go_enter Try.func12, Try.ntmps12
  go_wp2_with fail
  refine hrm.out.mono ?_
  rintro e1 w1 ⟨rfl, rfl⟩
  go_wp2_with fail
  refine hmh.out.mono ?_
  rintro e2 w2 ⟨rfl, b2⟩
  by_cases hoff : last ≤ k
  · obtain rfl : cc = 103 := by have := hcc.out; rw [if_pos hoff] at this; exact this
    have hf := Lib.hid (show RpPost w1 B Z G g r q n cS cE S E k last h rs ns (.returned (.int .i64 103)) w2 from ⟨.inr (.inl ⟨rfl, hoff, ha0.out.disk.later b2⟩), But.ofBelow b2⟩)
    clear hoff hcc hmh b2
    go_wp2_with fail
    go_ret
    exact hf.out
  by_cases hno : n * 64 - 1024 < 3 * T
  · obtain rfl : cc = 51 := by have := hcc.out; rw [if_neg hoff, if_pos hno] at this; exact this
    have hf := Lib.hid (show RpPost w1 B Z G g r q n cS cE S E k last h rs ns (.returned (.int .i64 51)) w2 from ⟨.inl ⟨rfl, hoff, by rw [← hT.out]; exact hno, ha.out.later b2⟩, But.ofBelow b2⟩)
    clear hoff hcc hmh b2 hno
    go_wp2_with fail
    go_ret
    exact hf.out
  obtain rfl : cc = 0 := by have := hcc.out; rw [if_neg hoff, if_neg hno] at this; exact this
  have hroom : ¬ n * 64 - 1024 < 3 * M.room ns := by rw [← hT.out]; exact hno
  have hfit := M.room_fit hroom
  have hoff' : Unit → ¬ last ≤ k := fun _ => hoff
  have c02 := (b2.cell (p := ⟨G, 0, none⟩) hGl).trans c0
  have c12 := (b2.cell (p := ⟨G, 1, none⟩) hGl).trans c1
  replace hroom := Lib.hid hroom
  have hb2 := Lib.hid b2
  have hw1 : IntKind.i64.wrap (1 - (h : Int)) = ((1 - h : Nat) : Int) := by rw [IntKind.wrap_i64]; omega
  clear hno hoff hcc hmh hrm c0 c1
  go_wp2_with fail
  go_region_held3 (fun w' => w'.cell? ⟨G, 0, none⟩ = some (Mp g) ∧ w'.cell? ⟨G, 1, none⟩ = some (.int .i64 (h : Int)))
    (first | exact ⟨c02, c12⟩ | exact ⟨(((Below.refl _ _).alloc (Nat.le_refl _) _).cell (p := ⟨G, 0, none⟩) (Nat.lt_of_lt_of_le hGl b2.size)).trans c02, (((Below.refl _ _).alloc (Nat.le_refl _) _).cell (p := ⟨G, 1, none⟩) (Nat.lt_of_lt_of_le hGl b2.size)).trans c12⟩)
    (first | fail)
  obtain ⟨G2, hG2⟩ : ∃ G2, G2 = w2.heap.size := ⟨_, rfl⟩
  rw [← hG2]
  obtain ⟨W3, hW3⟩ : ∃ W3, W3 = (w2.alloc (.cells #[Mp g, .int .i64 ((1 - h : Nat) : Int), .slice none 0 0, .int .i64 0, .int .i64 0] 62)).drew := ⟨_, rfl⟩
  rw [← hW3]
  have b23 : Below w2.heap.size w2 W3 := by rw [hW3]; exact ((Below.refl _ _).alloc (Nat.le_refl _) _).drew
  have obj3 : W3.heap[G2]? = some (.cells #[Mp g, .int .i64 ((1 - h : Nat) : Int), .slice none 0 0, .int .i64 ((0 : Nat) : Int), .int .i64 ((0 : Nat) : Int)] 62 (0, 0)) := by rw [hW3, hG2]; exact heap_alloc_new w2 _
  have b13 : Below w1.heap.size w1 W3 := b2.trans (b23.mono b2.size)
  have hG23 : G2 < W3.heap.size := (Array.getElem?_eq_some_iff.1 obj3).1
  have hGG : w1.heap.size ≤ G2 := by have := b2.size; omega
  have hBw : B ≤ w1.heap.size := by have := ha0.out.gB; omega
  have s13 := b13.size
  replace hG2 := Lib.hid hG2
  replace hW3 := Lib.hid hW3
  replace b13 := Lib.hid b13
  have obj3 := Lib.hid obj3
  have hfx := Lib.hid hfit
  clear b23 c02 c12 hw1 b2
  go_wp2_with fail
  go_loopw [8, 30] (fun _ i w' => ∃ (j : Nat) (v : Value), j ≤ N ∧ i = .int .i64 j ∧ w'.heap[G2]? = some (.cells #[Mp g, .int .i64 ((1 - h : Nat) : Int), v, .int .i64 (((M.ents (ns.take j)).length : Nat) : Int), .int .i64 ((M.room (ns.take j) : Nat) : Int)] 62 (0, 0)) ∧
      Held w' B (fun b => W3.heap.size ≤ b ∧ b < w'.heap.size) v (ns.take j) ∧ But (· = G2) W3 w') (fun _ i _ => N - (intOf i).toNat)
  case atStart => exact ⟨0, .slice none 0 0, by omega, rfl, obj3.out, Held.nil _ _ _, But.refl _ _⟩
  case round =>
    obtain ⟨j, v, hj, rfl, hobj, hh, hb⟩ := hrel
    have hsz := hb.size
    by_cases hlt : j < N
    · have hx := List.getElem?_eq_getElem (show j < ns.length by rw [← hN.out]; exact hlt)
      obtain ⟨x, hxx⟩ : ∃ x, x = ns[j]'(by rw [← hN.out]; exact hlt) := ⟨_, rfl⟩
      rw [← hxx] at hx
      clear hxx
      obtain ⟨ad, u, rfl, q2, q3, q4⟩ := hel.out j x hx
      have hagr : ∀ b, b < w1.heap.size ∧ ¬ Z b → wr.heap[b]? = w1.heap[b]? := fun b hb' => (hb.block b (by omega) (by omega)).trans (b13.out.block b hb'.1)
      have q3' : wr.cell? (ad.add j) = some u := (World.cell?_of_block (by rw [addr_block]; exact hagr _ q2)).trans q3
      have q4' : BS wr wr.heap.size u x := (q4.to (w' := wr) (Q := fun b => b < wr.heap.size) hagr (fun b hb' => by have := hb'.1; omega)).bs (fun _ h => h)
      have hxo := hok.out x (List.mem_of_getElem? hx)
      have hpre := M.ents_le ns j
      have htk2 : ns.take (j + 1) = ns.take j ++ [x] := by rw [List.take_add_one, hx]; rfl
      have hkj := hkm.out j
      have hcn : M.cnt n ≤ 8192 := by unfold M.cnt; omega
      obtain ⟨A1, d1, rfl, _⟩ := id q4
      have htake := Lib.hid (take_of wr B G2 _ (ns.take j) v (Mp g) (.int .i64 ((1 - h : Nat) : Int)) _ _ (.slice A1 x.length d1) x hobj hh (fun b hb' => hb'.2) (fun e => by omega) (by omega) q4' hxo.2 (by rw [List.length_take]; omega) (by have := hfx.out; omega) hkj)
      have hfinT := Lib.hid (show ∀ w9, TkPost wr B G2 (fun b => W3.heap.size ≤ b ∧ b < wr.heap.size) (ns.take j) (Mp g) (.int .i64 ((1 - h : Nat) : Int)) (M.ents (ns.take j)).length (M.room (ns.take j)) x (.returned (.tuple #[])) w9 →
          ∃ v, w9.heap[G2]? = some (.cells #[Mp g, .int .i64 ((1 - h : Nat) : Int), v, .int .i64 (((M.ents (ns.take (j + 1))).length : Nat) : Int), .int .i64 ((M.room (ns.take (j + 1)) : Nat) : Int)] 62 (0, 0)) ∧
            Held w9 B (fun b => W3.heap.size ≤ b ∧ b < w9.heap.size) v (ns.take (j + 1)) ∧ But (· = G2) W3 w9 from fun w9 ⟨_, v', o9, hh9, x9⟩ => by
        have s9 := x9.size
        rw [htk2, M.ents_snoc, M.room_snoc]
        refine ⟨v', o9, hh9.to (fun _ _ => rfl) (fun b hb' => ?_), hb.trans2 x9 (fun b hb' e => ?_)⟩
        · rcases hb' with hb' | hb'
          · exact ⟨hb'.1, by omega⟩
          · exact ⟨by omega, hb'.2⟩
        · rcases e with e | e
          · exact e
          · omega)
      have t0 : (0 : Int) ≤ (j : Int) := by omega
      have t1 : (j : Int) < (N : Int) := by omega
      clear hobj hh hb q4 q4' hx hpre htk2 hkj hxo hagr
      go_wp2_with fail
      refine htake.out.mono ?_
      rintro e9 w9 ht9
      obtain rfl := ht9.1
      have hf := Lib.hid (hfinT.out w9 ht9)
      clear ht9 hfinT htake
      go_wp2_with fail
      obtain ⟨v', f1, f2, f3⟩ := hf.out
      exact ⟨⟨j + 1, v', by omega, by go_num, f1, f2, f3⟩, by simp [intOf]; omega⟩
    · obtain rfl : j = N := by omega
      have hall : ns.take j = ns := by rw [hN.out, List.take_length]
      rw [hall] at hobj hh
      obtain ⟨us, hown, _⟩ := hh.own
      obtain ⟨Av, cv, rfl, hcv⟩ := own_form hown
      rw [← hN.out] at hobj hown
      clear hown
      obtain ⟨x3, hx3⟩ : ∃ x3 : Int, x3 = (((M.ents ns).length : Nat) : Int) := ⟨_, rfl⟩
      obtain ⟨x4, hx4⟩ : ∃ x4 : Int, x4 = ((M.room ns : Nat) : Int) := ⟨_, rfl⟩
      rw [← hx3, ← hx4] at hobj
      rw [← hN.out] at hh
      have hG2D : ¬ DX g r q G2 := fun e => by have := ha0.out.disk.lt _ e; omega
      have d4 : DAt wr B g r q n cS cE S E k last := (ha0.out.disk.later b13.out).but hb (fun b hb' e => by
        have e : b = G2 := e
        exact hG2D (e ▸ hb'))
      have a2 : HAt wr B G2 g r q n cS cE S E k last (1 - h) (.slice Av j cv) (.int .i64 x3) (.int .i64 x4) := ⟨d4, hobj, by omega, hG2D, by omega⟩
      have hG3 : G < W3.heap.size := by omega
      have objG : wr.heap[G]? = some (.cells #[Mp g, .int .i64 (h : Int), v0, .int .i64 (((M.ents rs).length : Nat) : Int), .int .i64 ((M.room rs : Nat) : Int)] 62 (0, 0)) := ((hb.block G hG3 (by omega)).trans (b13.out.block G hGl)).trans ha0.out.obj
      have hGr : G < wr.heap.size := by omega
      have c04 : wr.cell? ⟨G, 0, none⟩ = some (Mp g) := by rw [cell_of_row wr G 0 _ _ (0, 0) objG]; rfl
      obtain ⟨W0, hW0⟩ : ∃ W0, W0 = wr.drew.alloc (.cells #[.func (.func 30) #[Mp G2] #[], .func (.func 31) #[Mp g] #[], .func (.func 35) #[Mp G2] #[], .func (.func 31) #[Mp g] #[]] 80) := ⟨_, rfl⟩
      have b40 : Below wr.heap.size wr W0 := by rw [hW0]; exact (Below.refl wr.heap.size wr).drew.alloc (Nat.le_refl _) _
      have hblk : W0.heap[wr.heap.size]? = some (.cells #[.func (.func 30) #[Mp G2] #[], .func (.func 31) #[Mp g] #[], .func (.func 35) #[Mp G2] #[], .func (.func 31) #[Mp g] #[]] 80 (0, 0)) := by rw [hW0]; exact heap_alloc_new wr.drew _
      have hgl : wr.heap.size < W0.heap.size := (Array.getElem?_eq_some_iff.1 hblk).1
      have hDl : ∀ b, DX g r q b → b < wr.heap.size := d4.lt
      have hgX : ¬ DX g r q wr.heap.size := fun e => by have := hDl _ e; omega
      have hrecs : Recs W0 (fun b => W3.heap.size ≤ b ∧ b < wr.heap.size) (.slice Av j cv) ns := hh.recs.to (fun b hb' => b40.block b hb'.2) (fun _ h => h)
      have hPP : ∀ b, (W3.heap.size ≤ b ∧ b < wr.heap.size) → b < W0.heap.size ∧ ¬ DX g r q b := fun b hb' => ⟨by omega, fun e => by have := ha0.out.disk.lt _ e; omega⟩
      obtain ⟨st, hst⟩ : ∃ st : List (FuncId × Value), st = [(30, Mp G2), (31, Mp g), (35, Mp G2), (31, Mp g)] := ⟨_, rfl⟩
      have hin := inOrder_of st wr.heap.size 4 (RpIn W0 B G2 g r q n cS cE S E k last (1 - h) ns (.slice Av j cv) (.int .i64 x3) (.int .i64 x4)) (RpFl W0 B g r q n cS cE S E k last (1 - h) ns) (by rw [hst]; simp)
        (fun i W hI jj f v hj => by
          rw [cell_of_row W wr.heap.size jj _ _ (0, 0) ((hI.1.block _ hgl hgX).trans hblk)]
          rw [hst] at hj
          match jj, hj with
          | 0, hj => cases hj; rfl
          | 1, hj => cases hj; rfl
          | 2, hj => cases hj; rfl
          | 3, hj => cases hj; rfl)
        (fun jj f v hj => by
          rw [hst] at hj
          match jj, hj with
          | 0, hj => cases hj; exact Try.call30
          | 1, hj => cases hj; exact Try.call31
          | 2, hj => cases hj; exact Try.call35
          | 3, hj => cases hj; exact Try.call31)
        (fun jj f v W hj hI => by
          rw [hst] at hj
          match jj, hj with
          | 0, hj => cases hj; exact rstep0 hrecs hPP hfx.out hk hI
          | 1, hj => cases hj; exact rstep1 hfx.out hk hI
          | 2, hj => cases hj; exact rstep2 hk hI
          | 3, hj => cases hj; exact rstep3 hk hI)
        W0 ⟨But.refl _ _, .inl ⟨rfl, by have := hoff' (); omega, a2.later b40⟩⟩
      have hlen : st.length = 4 := by rw [hst]; rfl
      rw [hlen] at hin
      have hin2 : Calls Try.prog 27 #[.slice (some ⟨wr.heap.size, 0, none⟩) 4 4] (wr.drew.alloc (.cells #[.func (.func 30) #[Mp G2] #[], .func (.func 31) #[Mp g] #[], .func (.func 35) #[Mp G2] #[], .func (.func 31) #[Mp g] #[]] 80)) fun e w5 => ∃ dd : Int, e = .returned (.int .i64 dd) ∧ But (DX g r q) W0 w5 ∧ ((dd = 0 ∧ ∃ k', ¬ last ≤ k' ∧ k ≤ k' ∧ k' ≤ k + ((M.cnt n * 64 : Nat) : Int) + 4 ∧ HAt w5 B G2 g r q n cS cE (M.turned E n (1 - h) ns) (M.turned E n (1 - h) ns) k' last (1 - h) (.slice Av j cv) (.int .i64 x3) (.int .i64 x4)) ∨
          (dd = 103 ∧ ∃ (S' E' : List Nat) (k' : Int), last ≤ k' ∧ k' ≤ k + ((M.cnt n * 64 : Nat) : Int) + 4 ∧ M.TornR S E S' E' n (1 - h) ns ∧ DAt w5 B g r q n cS cE S' E' k' last)) := by
        rw [← hW0]
        refine hin.mono fun e w5 he => ?_
        rcases he with ⟨h1, h3, h4⟩ | ⟨d, _, h1, h3, h4, h5⟩
        · rcases h4 with ⟨h9, _⟩ | ⟨h9, _⟩ | ⟨h9, _⟩ | ⟨h9, _⟩ | ⟨_, h4⟩
          · omega
          · omega
          · omega
          · omega
          · exact ⟨0, h1, h3, .inl ⟨rfl, h4⟩⟩
        · exact ⟨d, h1, h3, .inr ⟨h4, h5⟩⟩
      have hb10 : But Z w1 W0 := ((But.ofBelow (X := Z) b13.out).trans2 hb (fun b hb' e => by omega)).trans2 (But.ofBelow (X := Z) b40) (fun _ _ h => h)
      have hG0 : G < W0.heap.size := by omega
      have objG0 := (b40.block G hGr).trans objG
      have hh0' : Held W0 B (fun b => W3.heap.size ≤ b ∧ b < wr.heap.size) (.slice Av j cv) ns := hh.to (fun b hb' => b40.block b hb'.2) (fun _ h => h)
      replace hin2 := Lib.hid hin2
      have hfin1 := Lib.hid (show ∀ w5 (k' : Int), But (DX g r q) W0 w5 → ¬ last ≤ k' → k ≤ k' → k' ≤ k + ((M.cnt n * 64 : Nat) : Int) + 4 → HAt w5 B G2 g r q n cS cE (M.turned E n (1 - h) ns) (M.turned E n (1 - h) ns) k' last (1 - h) (.slice Av j cv) (.int .i64 x3) (.int .i64 x4) →
          RpPost w1 B Z G g r q n cS cE S E k last h rs ns (.returned (.int .i64 0)) (w5.setRow G #[Mp g, .int .i64 ((1 - h : Nat) : Int), .slice Av j cv, .int .i64 x3, .int .i64 x4]) from fun w5 k' x5 h3 h4 h5 a5 => by
        have s5 := x5.size
        have objG5 := (x5.block G hG0 hgD).trans objG0
        obtain ⟨w6, hw6⟩ : ∃ w6, w6 = w5.setRow G #[Mp g, .int .i64 ((1 - h : Nat) : Int), .slice Av j cv, .int .i64 x3, .int .i64 x4] := ⟨_, rfl⟩
        rw [← hw6]
        have x6 : But (· = G) w5 w6 := by rw [hw6]; exact ⟨rfl, rfl, rfl, by simp, fun b _ hb' => setRow_other w5 G b _ hb'⟩
        have s6 := x6.size
        have o6 : w6.heap[G]? = some (.cells #[Mp g, .int .i64 ((1 - h : Nat) : Int), .slice Av j cv, .int .i64 x3, .int .i64 x4] 62 (0, 0)) := by rw [hw6]; exact setRow_heap w5 G _ _ _ _ objG5
        refine ⟨.inr (.inr (.inl ⟨k', rfl, by have := hoff' (); omega, h3, h4, h5, hroom.out, ⟨.slice Av j cv, ⟨a5.disk.but x6 (fun b hb' e => hgD (by have e : b = G := e; exact e ▸ hb')), by rw [← hx3, ← hx4]; exact o6, ha0.out.gB, hgD, by omega⟩, hh0'.to (fun b hb' => ?_) (fun b hb' => ⟨.inr ⟨by omega, by omega⟩, by omega, (hPP b hb').2⟩)⟩, .inl ha.out.zG, fun b hb' => .inl (ha.out.zD b hb'), fun b hb' => ?_, hok.out⟩)), (hb10.trans2 x5 (fun b _ e => ha.out.zD b e)).trans2 x6 (fun b _ e => by
            have e : b = G := e
            rw [e]; exact ha.out.zG)⟩
        · exact (x6.block b (by have := hPP b hb'; omega) (show ¬ b = G by omega)).trans (x5.block b (hPP b hb').1 (hPP b hb').2)
        · rcases hb' with hb' | hb'
          · have := ha.out.zl b hb'; omega
          · exact hb'.2)
      have hfin2 := Lib.hid (show ∀ w5, But (DX g r q) W0 w5 → (∃ (S' E' : List Nat) (k' : Int), last ≤ k' ∧ k' ≤ k + ((M.cnt n * 64 : Nat) : Int) + 4 ∧ M.TornR S E S' E' n (1 - h) ns ∧ DAt w5 B g r q n cS cE S' E' k' last) → RpPost w1 B Z G g r q n cS cE S E k last h rs ns (.returned (.int .i64 103)) w5 from fun w5 x5 ⟨S', E', k', h3, h3', h4, h5⟩ =>
        ⟨.inr (.inr (.inr ⟨S', E', k', rfl, by have := hoff' (); omega, h3, h3', hroom.out, h4, h5⟩)), hb10.trans2 x5 (fun b _ e => ha.out.zD b e)⟩)
      have hobj0 := Lib.hid objG0
      replace hW0 := Lib.hid hW0
      have hX0 : W0.cell? ⟨G, 0, none⟩ = some (Mp g) := by rw [cell_of_row W0 G 0 _ _ (0, 0) objG0]; rfl
      clear hin hlen hst hrecs hPP hh hh0' hb hobj d4 a2 objG objG0 hblk hb10 hall b40 hDl hgX
      replace hx3 := Lib.hid hx3
      replace hx4 := Lib.hid hx4
      go_wp2_with fail
      go_still_tail 14, (by kernel_rfl)
      change wpList _ _ _ _ _ wr.drew
      replace c04 : wr.drew.cell? ⟨G, 0, none⟩ = some (Mp g) := c04
      go_wp2_with fail
      refine hin2.out.mono ?_
      rintro ex w5 ⟨dd, rfl, x5, hc5⟩
      replace hc5 := Lib.hid hc5
      have objG5 := Lib.hid ((x5.block G hG0 hgD).trans hobj0.out)
      rcases hc5.out with ⟨rfl, k', h3, h4, h5, a5⟩ | ⟨rfl, h6⟩
      · have hf := Lib.hid (hfin1.out w5 k' x5 h3 h4 h5 a5)
        have o5 := Lib.hid a5.obj
        have hone : (#[Mp g, .int .i64 ((1 - h : Nat) : Int), .slice Av j cv, .int .i64 x3, .int .i64 x4] : Array Value).all (·.oneCell') = true := by simp [Value.oneCell']
        clear a5 h3 h4 h5 x5 hfin1 hfin2 hin2 hc5
        go_wp2_with (first
          | (refine wpList_load_row (by rfl) 62 _ (by rfl) G2 (by rfl) 62 _ (0, 0) _ o5.out Try.underlying62 rfl log_size ?_)
          | (refine wpList_store_row (by rfl) 62 _ _ (by rfl) G #[Mp g, .int .i64 ((1 - h : Nat) : Int), .slice Av j cv, .int .i64 x3, .int .i64 x4] (by rfl) (by rfl) 62 _ objG5.out log_size (by rfl) hone ?_))
        go_ret
        exact hf.out
      · have hf := Lib.hid (hfin2.out w5 x5 h6)
        clear h6 x5 hfin1 hfin2 hin2 hc5
        go_wp2_with fail
        go_ret
        exact hf.out
end
end Go.Proofs.Ytncafkifebannaa
