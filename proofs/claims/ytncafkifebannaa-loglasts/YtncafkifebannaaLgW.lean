/-
  What appending a record answers, the power going where it may; condition: the log and the record lie in memory, apart.
-/
import Derived.Test.YtncafkifebannaaLgV
namespace Go.Proofs.Ytncafkifebannaa
open Go.RowKit
theorem M.ents_room (D : List (List Nat)) : (M.ents D).length ≤ M.room D := by
  induction D with
  | nil => simp [M.room, M.ents]
  | cons r t ih =>
    have h1 : M.room (r :: t) = (16 + r.length) + M.room t := by simp [M.room]
    have h2 : (M.ents (r :: t)).length = M.elen r.length + (M.ents t).length := by simp [M.ents, M.ent_length]
    have h3 := M.pad_ge r.length
    unfold M.elen at h2
    omega
theorem M.room_fit {D : List (List Nat)} {n : Nat} (h : ¬ n * 64 - 1024 < 3 * M.room D) : (M.ents D).length ≤ M.cnt n * 64 := by
  have := M.ents_room D
  unfold M.cnt
  omega
section
variable {w w' : World} {B G g r q n cS cE : Nat} {S E : List Nat} {k last : Int} {h : Nat} {Z : Nat → Prop} {rs : List (List Nat)}
/-- What Append answers. -/
def ApPost (w : World) (B : Nat) (Z : Nat → Prop) (G g r q n cS cE : Nat) (S E : List Nat) (k last : Int) (h : Nat) (rs : List (List Nat)) (x : List Nat) (e : Ending) (w' : World) : Prop :=
  ((e = .returned (.int .i64 51) ∧ ¬ last ≤ k ∧ n * 64 - 1024 < 3 * M.room (rs ++ [x]) ∧ LAt w' B Z G g r q n cS cE S E k last h rs) ∨
   (e = .returned (.int .i64 103) ∧ last ≤ k ∧ DAt w' B g r q n cS cE S E k last) ∨
   (∃ k', e = .returned (.int .i64 0) ∧ ¬ last ≤ k ∧ ¬ last ≤ k' ∧ k ≤ k' ∧ k' ≤ k + ((M.cnt n * 64 : Nat) : Int) + 1 ∧ ¬ n * 64 - 1024 < 3 * M.room (rs ++ [x]) ∧ LAt w' B (Grow Z w w') G g r q n cS cE S (M.lay E (M.base n h + (M.ents rs).length) (M.ent x)) k' last h (rs ++ [x])) ∨
   (∃ (k' : Int) (j : Nat), e = .returned (.int .i64 103) ∧ ¬ last ≤ k ∧ last ≤ k' ∧ k' ≤ k + ((M.cnt n * 64 : Nat) : Int) + 1 ∧ ¬ n * 64 - 1024 < 3 * M.room (rs ++ [x]) ∧ j ≤ (M.ent x).length ∧ (j = (M.ent x).length ∨ j = 0 ∨ ((M.ents rs).length + j) % 64 = 0) ∧ DAt w' B g r q n cS cE S (M.lay E (M.base n h + (M.ents rs).length) ((M.ent x).take j)) k' last)) ∧ But Z w w'
theorem wr_any {f : FuncId} {args : Array Value} {w : World} {at0 base : Nat} {bs : List Nat} (hc : Calls Try.prog f args w (WrPost w B g r q n cS cE S E k last base at0 bs)) : Calls Try.prog f args w fun e w' => ∃ (dd k' : Int) (j : Nat), e = .returned (.int .i64 dd) ∧ k ≤ k' ∧ k' ≤ k + (j + 1) ∧ j ≤ bs.length ∧ DAt w' B g r q n cS cE S (M.lay E (base + at0) (bs.take j)) k' last ∧ But (DX g r q) w w' ∧
    ((dd = 0 ∧ j = bs.length ∧ (¬ last ≤ k' ∨ bs.length = 0 ∧ k' = k)) ∨ (dd = 103 ∧ last ≤ k' ∧ (j = bs.length ∨ j = 0 ∨ (at0 + j) % 64 = 0))) :=
  hc.mono fun e w' ⟨k', j, p1, p2, p3, p4, p5, p6⟩ => by
    rcases p6 with ⟨h1, h2⟩ | ⟨h1, h2⟩
    · exact ⟨0, k', j, h1, p1, p2, p3, p4, p5, .inl ⟨rfl, h2⟩⟩
    · exact ⟨103, k', j, h1, p1, p2, p3, p4, p5, .inr ⟨rfl, h2⟩⟩
set_option maxRecDepth 100000 in
set_option maxHeartbeats 2000000 in
theorem append_of (w : World) (u : Value) (x : List Nat) (a : LAt w B Z G g r q n cS cE S E k last h rs) (hfit : (M.ents rs).length ≤ M.cnt n * 64) (hu : BSP w (fun b => b < w.heap.size ∧ ¬ Z b) u x) (hxb : ∀ y ∈ x, y < 256) (hxl : x.length ≤ 1048576) (hk : 0 ≤ k ∧ k + ((M.cnt n * 64 : Nat) : Int) < 999990) :
    Calls Try.prog 21 #[Mp G, u] w (ApPost w B Z G g r q n cS cE S E k last h rs x) := by
  obtain ⟨v, a0, hh⟩ := a.v
  have hn := a0.disk.n0
  have hcn : M.cnt n ≤ 8192 := by unfold M.cnt; omega
  have hGl : G < w.heap.size := a.zl G a.zG
  have hrE := M.room_ents rs
  have hrs := M.room_snoc rs x
  have hes := M.ents_snoc rs x
  have hel := M.ent_length x
  have hpd := M.pad_ge x.length
  have hel2 : M.elen x.length = 8 + M.pad x.length := rfl
  obtain ⟨C, hC⟩ : ∃ C, C = M.cnt n * 64 := ⟨_, rfl⟩
  rw [← hC] at hfit hk
  have hDl := M.ents_len rs
  obtain ⟨en, hen⟩ : ∃ en, en = (M.ents rs).length := ⟨_, rfl⟩
  obtain ⟨t0, ht0⟩ : ∃ t0, t0 = M.room rs := ⟨_, rfl⟩
  obtain ⟨R, hR⟩ : ∃ R, R = 16 + x.length := ⟨_, rfl⟩
  obtain ⟨T, hT⟩ : ∃ T, T = t0 + R := ⟨_, rfl⟩
  have hTr : M.room (rs ++ [x]) = T := by omega
  have c4 : w.cell? ⟨G, 4, none⟩ = some (.int .i64 (t0 : Int)) := by rw [cell_of_row w G 4 _ _ (0, 0) a0.obj, ht0]; rfl
  have c3 : w.cell? ⟨G, 3, none⟩ = some (.int .i64 (en : Int)) := by rw [cell_of_row w G 3 _ _ (0, 0) a0.obj, hen]; rfl
  obtain ⟨A, c, rfl, hc12, hcc⟩ := id hu
  have hRm : M.room [x] = R := by rw [hR]; simp [M.room]
  obtain ⟨W1, hW1⟩ : ∃ W1, W1 = w.alloc (.cells #[.slice A x.length c] 37) := ⟨_, rfl⟩
  have hrm : Calls Try.prog 33 #[.slice (some ⟨w.heap.size, 0, none⟩) 1 1] W1.drew fun e w' => e = .returned (.int .i64 (R : Int)) ∧ w' = W1.drew := by
    rw [← hRm]
    exact roomOf_len _ _ [x] ⟨some ⟨w.heap.size, 0, none⟩, 1, rfl, ⟨by simp, by unfold maxLen; omega⟩, fun i y hy => by
      cases i with
      | zero => cases hy; exact ⟨_, A, c, rfl, by rw [hW1]; exact World.news_of_block (w := (w.alloc (.cells #[.slice A x.length c] 37)).drew) (cs := #[.slice A x.length c]) (t := 37) (fr := (0, 0)) (heap_alloc_new w _) 0 _ rfl⟩
      | succ i => simp at hy⟩ (fun k => by cases k with
        | zero => simp [M.room]
        | succ k => simp [M.room]; omega)
  have b1 : Below w.heap.size w W1.drew := by rw [hW1]; exact ((Below.refl _ _).alloc (Nat.le_refl _) _).drew
  have hwT : IntKind.i64.wrap ((t0 : Int) + (R : Int)) = (T : Int) := by rw [IntKind.wrap_i64]; omega
  have hT9 : T ≤ 1073741824 := by omega
  obtain ⟨cc, hcc0⟩ : ∃ cc : Int, cc = if last ≤ k then 103 else if n * 64 - 1024 < 3 * T then 51 else 0 := ⟨_, rfl⟩
  have hmh := Lib.hid (mayHold_of W1.drew T cc (a0.later b1) hT9 hcc0)
  rw [hW1] at hrm hmh b1
  have ha := Lib.hid a
  have ha0 := Lib.hid a0
  replace hh := Lib.hid hh
  replace hu := Lib.hid hu
  replace hrm := Lib.hid hrm
  replace hW1 := Lib.hid hW1
  replace hTr := Lib.hid hTr
  replace hen := Lib.hid hen
  replace ht0 := Lib.hid ht0
  replace hT := Lib.hid hT
  replace hR := Lib.hid hR
  replace hC := Lib.hid hC
  replace hcc0 := Lib.hid hcc0
  replace hcc := Lib.hid hcc
  have hT9 := Lib.hid hT9
  clear a a0 hRm hrs hes hel hel2
  have hfin := fun W (hW : Below w.heap.size w W) => hcc0
  clear hfin
  go_enter Try.func21, Try.ntmps21
  go_wp2_with fail
  go_region_held3 (fun w' => w'.cell? ⟨G, 4, none⟩ = some (.int .i64 (t0 : Int)))
    (first | exact c4 | exact (b1.cell (p := ⟨G, 4, none⟩) hGl).trans c4 | exact (b6.out.cell (p := ⟨G, 4, none⟩) hGl).trans c4)
    (first
      | (go_at_call 33; refine hrm.out.mono ?_; rintro ex w4 ⟨rfl, rfl⟩)
      | (go_at_call 32; refine hmh.out.mono ?_; rintro ex w5 ⟨rfl, b5⟩; have b6 := Lib.hid (b1.trans (b5.mono b1.size))))
  have hw5 := b6.out
  by_cases hoff : last ≤ k
  · obtain rfl : cc = 103 := by have := hcc0.out; rw [if_pos hoff] at this; exact this
    have hf := Lib.hid (show ApPost w B Z G g r q n cS cE S E k last h rs x (.returned (.int .i64 103)) w5 from ⟨.inr (.inl ⟨rfl, hoff, ha0.out.disk.later hw5⟩), But.ofBelow hw5⟩)
    clear hoff hcc0 hmh hw5
    go_wp2_with fail
    go_ret
    exact hf.out
  by_cases hno : n * 64 - 1024 < 3 * T
  · obtain rfl : cc = 51 := by have := hcc0.out; rw [if_neg hoff, if_pos hno] at this; exact this
    have hf := Lib.hid (show ApPost w B Z G g r q n cS cE S E k last h rs x (.returned (.int .i64 51)) w5 from ⟨.inl ⟨rfl, hoff, by rw [hTr.out]; exact hno, ha.out.later hw5⟩, But.ofBelow hw5⟩)
    clear hoff hcc0 hmh hw5 hno
    go_wp2_with fail
    go_ret
    exact hf.out
  obtain rfl : cc = 0 := by have := hcc0.out; rw [if_neg hoff, if_neg hno] at this; exact this
  have hroom : ¬ n * 64 - 1024 < 3 * M.room (rs ++ [x]) := by rw [hTr.out]; exact hno
  have hfx := M.room_fit hroom
  rw [M.ents_snoc, ← hen.out, ← hC.out] at hfx
  obtain ⟨L, hL⟩ : ∃ L, L = M.elen x.length := ⟨_, rfl⟩
  have hLe : L = (M.ent x).length := by rw [M.ent_length, hL]
  rw [← hL] at hfx
  have hLp : L ≤ 1048592 := by rw [hL]; unfold M.elen; omega
  have hbs : BS w w.heap.size (.slice A x.length c) x := hu.out.bs (fun b hb => hb.1)
  have hent := Lib.hid (show Calls Try.prog 45 #[.slice A x.length c] w5.drew (EntPost (M.ent x) L w5.drew) from by
    rw [hL]
    exact entry_any _ x w5.drew (hbs.later hw5.drew) hxl)
  have hDXl : ∀ b, DX g r q b → b < w.heap.size := ha0.out.disk.lt
  have hwr := Lib.hid (fun (W : World) (hW : Below w.heap.size w W) (rr : Nat) (hr : RowAt W rr L (M.ent x)) (hge : w.heap.size ≤ rr) => wr_any <| write_any W en L (.slice (some ⟨rr, 0, none⟩) L L) (M.ent x) (ha0.out.later hW) hLe (fun w' hb => (hr.but hb (fun e => by have := hDXl _ e; omega)).all hLe) (by rw [← hC.out]; exact hfx) ⟨hk.1, by omega⟩)
  have hoff' : Unit → ¬ last ≤ k := fun _ => hoff
  have hgD := ha0.out.gD
  have hGl5 : G < w5.heap.size := Nat.lt_of_lt_of_le hGl hw5.size
  have c35 : w5.cell? ⟨G, 3, none⟩ = some (.int .i64 (en : Int)) := (hw5.cell (p := ⟨G, 3, none⟩) hGl).trans c3
  have hw5' := Lib.hid hw5
  replace hroom := Lib.hid hroom
  replace hDXl := Lib.hid hDXl
  replace hL := Lib.hid hL
  replace hLe := Lib.hid hLe
  clear hno hoff hbs hw5 c4 c3 hcc0 hmh hrm
  go_wp2_with fail
  go_region_held3 (fun w' => w'.cell? ⟨G, 3, none⟩ = some (.int .i64 (en : Int)))
    (first | exact c35 | exact (b7.out.cell (p := ⟨G, 3, none⟩) hGl5).trans c35 | exact c38)
    (first
      | (go_at_call 45; refine hent.out.mono ?_; rintro ex w7 ⟨rr, rfl, r7, hge7, b7'⟩; have b7 := Lib.hid ((Below.refl w5.heap.size w5).drew.trans b7'))
      | (go_at_call 44; refine (hwr.out _ (hw5'.out.trans (b7.out.mono hw5'.out.size)) rr r7 (Nat.le_trans hw5'.out.size hge7)).mono ?_; rintro ex w8 ⟨dd, k', j, rfl, p1, p2, p3, d8, x8, p4⟩; have c38 : w8.cell? ⟨G, 3, none⟩ = some (.int .i64 (en : Int)) := (World.cell?_of_block (x8.block G (Nat.lt_of_lt_of_le hGl5 b7.out.size) hgD)).trans ((b7.out.cell (p := ⟨G, 3, none⟩) hGl5).trans c35)))
  have hw7 : Below w.heap.size w w7 := hw5'.out.trans (b7.out.mono hw5'.out.size)
  have hx8 : But (DX g r q) w w8 := (But.ofBelow (X := DX g r q) hw7).trans2 x8 (fun _ _ h => h)
  have s8 := hx8.size
  have hbase : (1 + h * M.cnt n) * 64 + en = M.base n h + (M.ents rs).length := by rw [← hen.out]; rfl
  rw [hbase] at d8
  clear hbase
  rcases p4 with ⟨rfl, h1, h2⟩ | ⟨rfl, h1, h2⟩
  · have htk : (M.ent x).take j = M.ent x := List.take_of_length_le (by omega)
    rw [htk] at d8
    have hon8 : ¬ last ≤ k' := by
      rcases h2 with h2 | h2
      · omega
      · have := hLe.out; have := hL.out; unfold M.elen at this; omega
    have hobj8 := (hx8.block G hGl hgD).trans ha0.out.obj
    rw [← hen.out, ← ht0.out] at hobj8
    have hu8 : BS w8 w8.heap.size (.slice A x.length c) x := (hu.out.to (w' := w8) (Q := fun b => b < w8.heap.size) (fun b hb => hx8.block b hb.1 (fun e => hb.2 (ha.out.zD b e))) (fun b hb => by have := hb.1; omega)).bs (fun _ h => h)
    have hh8 : Held w8 B (fun b => Z b ∧ b ≠ G ∧ ¬ DX g r q b) v rs := hh.out.to (fun b hb => hx8.block b (ha.out.zl b hb.1) hb.2.2) (fun _ h => h)
    have hBw : B ≤ w8.heap.size := by have := ha0.out.gB; omega
    have htake := Lib.hid (take_of w8 B G (fun b => Z b ∧ b ≠ G ∧ ¬ DX g r q b) rs v (Mp g) (.int .i64 (h : Int)) en t0 (.slice A x.length c) x hobj8 hh8 (fun b hb => by have := ha.out.zl b hb.1; omega) (fun e => e.2.1 rfl) hBw hu8 hxl (by omega) (by omega) (by have := hR.out; have := hT.out; omega))
    have hp2 : k' ≤ k + ((M.cnt n * 64 : Nat) : Int) + 1 := by rw [← hC.out]; have := hLe.out; omega
    have hfinT := Lib.hid (show ∀ w9, TkPost w8 B G (fun b => Z b ∧ b ≠ G ∧ ¬ DX g r q b) rs (Mp g) (.int .i64 (h : Int)) en t0 x (.returned (.tuple #[])) w9 → ApPost w B Z G g r q n cS cE S E k last h rs x (.returned (.int .i64 0)) w9 from fun w9 ⟨_, v', o9, hh9, x9⟩ => by
      have s9 := x9.size
      have hX9 : ∀ b, (b = G ∨ (Z b ∧ b ≠ G ∧ ¬ DX g r q b)) → Z b := fun b hb => by
        rcases hb with rfl | hb
        · exact ha.out.zG
        · exact hb.1
      have hD9 : ∀ b, DX g r q b → ¬ (b = G ∨ (Z b ∧ b ≠ G ∧ ¬ DX g r q b)) := fun b hb e => by
        rcases e with rfl | e
        · exact hgD hb
        · exact e.2.2 hb
      have e1 := M.ents_snoc rs x
      have e2 := M.room_snoc rs x
      rw [← hen.out] at e1
      rw [← ht0.out] at e2
      rw [← e1, ← e2] at o9
      refine ⟨.inr (.inr (.inl ⟨k', rfl, (by have := hoff' (); omega), hon8, p1, hp2, hroom.out, ⟨v', ⟨d8.but x9 hD9, o9, ha0.out.gB, hgD, ha0.out.h2⟩, hh9.to (fun _ _ => rfl) (fun b hb => ?_)⟩, .inl ha.out.zG, fun b hb => .inl (ha.out.zD b hb), fun b hb => ?_, fun y hy => ?_⟩)), (hx8.mono (fun b _ e => ha.out.zD b e)).trans2 x9 (fun b _ e => hX9 b e)⟩
      · rcases hb with hb | hb
        · exact ⟨.inl hb.1, hb.2⟩
        · refine ⟨.inr ⟨by omega, hb.2⟩, by omega, fun e => ?_⟩
          have := hDXl.out b e
          omega
      · rcases hb with hb | hb
        · have := ha.out.zl b hb; omega
        · exact hb.2
      · rcases List.mem_append.1 hy with hy | hy
        · exact ha.out.ok y hy
        · have : y = x := by simpa using hy
          subst this
          exact ⟨hxb, hxl⟩)
    replace hx8 := Lib.hid hx8
    replace d8 := Lib.hid d8
    clear hu8 hh8 hobj8 htk h1 h2 p1 p2 p3 hon8 x8 hw7 r7 hent hwr hp2
    go_wp2_with fail
    refine htake.out.mono ?_
    rintro e9 w9 ht9
    obtain rfl := ht9.1
    have hf := Lib.hid (hfinT.out w9 ht9)
    clear ht9 hfinT htake
    go_wp2_with fail
    go_ret
    exact hf.out
  · have hf := Lib.hid (show ApPost w B Z G g r q n cS cE S E k last h rs x (.returned (.int .i64 103)) w8 from ⟨.inr (.inr (.inr ⟨k', j, rfl, (by have := hoff' (); omega), (by omega), (by rw [← hC.out]; have := hLe.out; omega), hroom.out, by omega, by rw [← hen.out]; exact h2, d8⟩)), hx8.mono (fun b _ e => ha.out.zD b e)⟩)
    clear h1 h2 p1 p2 p3 x8 hx8 d8 hw7 r7 hent hwr hoff'
    go_wp2_with fail
    go_ret
    exact hf.out
end
end Go.Proofs.Ytncafkifebannaa
