/-
  How the log finds its records on a disk; condition: the log's block, its disk and its records lie in memory, the power is on.
-/
import Derived.Test.YtncafkifebannaaLgR
import Derived.Test.YtncafkifebannaaLgS
namespace Go.Proofs.Ytncafkifebannaa
open Go.RowKit
theorem But.trans2 {X Y : Nat → Prop} {a b c : World} (h : But X a b) (k : But Y b c) (hY : ∀ i, i < a.heap.size → Y i → X i) : But X a c :=
  ⟨k.os.trans h.os, k.tape.trans h.tape, k.output.trans h.output, Nat.le_trans h.size k.size, fun i hi hx => (k.block i (Nat.lt_of_lt_of_le hi h.size) (fun hy => hx (hY i hi hy))).trans (h.block i hi hx)⟩
theorem M.first_some {bs r : List Nat} (h : M.first bs = some r) : 8 + r.length ≤ bs.length ∧ r = (bs.drop 8).take r.length := by
  unfold M.first at h
  split at h
  · cases h
  · split at h
    · cases h
    · rename_i h1 h2
      injection h with h
      have hl : r.length = M.val4 bs := by rw [← h, List.length_take, List.length_drop]; omega
      constructor
      · omega
      · rw [hl]; exact h.symm
theorem M.first_fit {bs r : List Nat} (h : M.first bs = some r) (h8 : bs.length % 8 = 0) : M.elen r.length ≤ bs.length := by
  have h1 := (M.first_some h).1
  unfold M.elen M.pad
  omega
theorem M.first_lt {bs r : List Nat} (h : M.first bs = some r) (hb : ∀ b ∈ bs, b < 256) : ∀ b ∈ r, b < 256 := by
  intro b hb'
  rw [(M.first_some h).2] at hb'
  exact hb b (List.mem_of_mem_drop (List.mem_of_mem_take hb'))
theorem M.recs_some {n : Nat} {bs r : List Nat} (h : M.first bs = some r) : M.recs (n + 1) bs = r :: M.recs n (bs.drop (M.elen r.length)) := by
  show (match M.first bs with | none => [] | some r => r :: M.recs n (bs.drop (M.elen r.length))) = _
  rw [h]
theorem M.recs_none {n : Nat} {bs : List Nat} (h : M.first bs = none) : M.recs n bs = [] := by
  cases n with
  | zero => rfl
  | succ n =>
    show (match M.first bs with | none => [] | some r => r :: M.recs n (bs.drop (M.elen r.length))) = _
    rw [h]
theorem M.ents_snoc (D : List (List Nat)) (r : List Nat) : (M.ents (D ++ [r])).length = (M.ents D).length + M.elen r.length := by
  rw [M.ents_append, List.length_append]
  simp [M.ents, M.ent_length]
theorem M.room_snoc (D : List (List Nat)) (r : List Nat) : M.room (D ++ [r]) = M.room D + (16 + r.length) := by
  unfold M.room
  simp
theorem M.room_ents (D : List (List Nat)) : M.room D ≤ 2 * (M.ents D).length := by
  induction D with
  | nil => simp [M.room, M.ents]
  | cons r t ih =>
    have h1 : M.room (r :: t) = (16 + r.length) + M.room t := by simp [M.room]
    have h2 : (M.ents (r :: t)).length = M.elen r.length + (M.ents t).length := by simp [M.ents, M.ent_length]
    have h3 := M.pad_ge r.length
    unfold M.elen at h2
    omega
/-- The log: its block, its disk, its records, all in blocks Z. -/
structure LAt (w : World) (B : Nat) (Z : Nat → Prop) (G g r q n cS cE : Nat) (S E : List Nat) (k last : Int) (h : Nat) (rs : List (List Nat)) : Prop where
  v : ∃ v, HAt w B G g r q n cS cE S E k last h v (.int .i64 (((M.ents rs).length : Nat) : Int)) (.int .i64 ((M.room rs : Nat) : Int)) ∧ Held w B (fun b => Z b ∧ b ≠ G ∧ ¬ DX g r q b) v rs
  zG : Z G
  zD : ∀ b, DX g r q b → Z b
  zl : ∀ b, Z b → b < w.heap.size
  ok : M.OkR rs
section
variable {w w' : World} {B G g r q n cS cE : Nat} {S E : List Nat} {k last : Int} {h : Nat} {Z : Nat → Prop} {rs : List (List Nat)}
/-- The blocks Z, and what was made since. -/
def Grow (Z : Nat → Prop) (w w' : World) (b : Nat) : Prop := Z b ∨ w.heap.size ≤ b ∧ b < w'.heap.size
theorem LAt.to {Y : Nat → Prop} (a : LAt w B Z G g r q n cS cE S E k last h rs) (hb : ∀ b, Z b → w'.heap[b]? = w.heap[b]?) (hs : w.heap.size ≤ w'.heap.size) (hZ : ∀ b, Z b → Y b) (hY : ∀ b, Y b → b < w'.heap.size) : LAt w' B Y G g r q n cS cE S E k last h rs := by
  obtain ⟨v, h1, h2⟩ := a.v
  refine ⟨⟨v, ⟨⟨(hb _ (a.zD _ (.inl rfl))).trans h1.disk.obj, h1.disk.ge, ?_, ?_, h1.disk.lS, h1.disk.lE, h1.disk.ap, h1.disk.n0⟩, (hb _ a.zG).trans h1.obj, h1.gB, h1.gD, h1.h2⟩, h2.to (fun b h => hb b h.1) (fun b h => ⟨hZ b h.1, h.2⟩)⟩, hZ _ a.zG, fun b h => hZ b (a.zD b h), hY, a.ok⟩
  · obtain ⟨cur, e, h3⟩ := h1.disk.rS
    exact ⟨cur, (hb _ (a.zD _ (.inr (.inl rfl)))).trans e, h3⟩
  · obtain ⟨cur, e, h3⟩ := h1.disk.rE
    exact ⟨cur, (hb _ (a.zD _ (.inr (.inr rfl)))).trans e, h3⟩
theorem LAt.later (a : LAt w B Z G g r q n cS cE S E k last h rs) (hb : Below w.heap.size w w') : LAt w' B Z G g r q n cS cE S E k last h rs :=
  a.to (fun b h => hb.block b (a.zl b h)) hb.size (fun _ h => h) (fun b h => Nat.lt_of_lt_of_le (a.zl b h) hb.size)
/-- What findRecords answers. -/
def FrPost (w : World) (B : Nat) (Z : Nat → Prop) (G g r q n cS cE : Nat) (S E : List Nat) (k last : Int) (h : Nat) (e : Ending) (w' : World) : Prop :=
  e = .returned (.int .i64 0) ∧ LAt w' B (Grow Z w w') G g r q n cS cE S E k last h (M.found (M.reg E n h)) ∧ But Z w w'
set_option maxRecDepth 100000 in
set_option maxHeartbeats 2000000 in
theorem findRecords_of (w : World) (a : LAt w B Z G g r q n cS cE S E k last h []) (hon : ¬ last ≤ k) : Calls Try.prog 29 #[Mp G] w (FrPost w B Z G g r q n cS cE S E k last h) := by
  obtain ⟨v0, a0, hh0⟩ := a.v
  have hn := a0.disk.n0
  have hcn : M.cnt n ≤ 8192 := by unfold M.cnt; omega
  obtain ⟨bs, hbs⟩ : ∃ bs, bs = M.reg E n h := ⟨_, rfl⟩
  obtain ⟨C, hC⟩ : ∃ C, C = M.cnt n * 64 := ⟨_, rfl⟩
  have hbl : bs.length = C := by rw [hbs, M.reg_length a0.disk.lE a0.h2, hC]
  have hC8 : C % 8 = 0 := by omega
  have hC9 : C ≤ 524288 := by omega
  have hrd := Lib.hid (read_of w a0)
  rw [← hbs] at hrd
  have hGl : G < w.heap.size := a.zl G a.zG
  have hB : B ≤ w.heap.size := Nat.le_trans a0.gB (Nat.le_of_lt hGl)
  have ha := Lib.hid a
  have ha0 := Lib.hid a0
  replace hh0 := Lib.hid hh0
  replace hbs := Lib.hid hbs
  replace hC := Lib.hid hC
  have hon' : Unit → ¬ last ≤ k := fun _ => hon
  clear a a0 hon
  go_enter Try.func29, Try.ntmps29
  go_wp2_with fail
  refine hrd.out.mono ?_
  rintro e1 w1 ⟨hcase, b1⟩
  obtain ⟨gb, rfl, hrow, hgb⟩ : ∃ gb, e1 = .returned (.tuple #[.slice (some ⟨gb, 0, none⟩) C C, .int .i64 0]) ∧ RowAt w1 gb C bs ∧ w.heap.size ≤ gb := by
    rcases hcase with ⟨gb, h1, h2, h3, _⟩ | ⟨_, h1, _⟩
    · rw [hbl] at h1 h2
      exact ⟨gb, h1, h2, h3⟩
    · have := hon' (); omega
  have hsm := Lib.hid hrow.small
  have hg1 := hrow.lt
  have hobj1 := (b1.block G hGl).trans ha0.out.obj
  have hh1 : Held w1 B (fun b => Z b ∧ b ≠ G ∧ ¬ DX g r q b) v0 [] := hh0.out.to (fun b hb => b1.block b (ha.out.zl b hb.1)) (fun _ h => h)
  have hG1 : G < w1.heap.size := Nat.lt_of_lt_of_le hGl b1.size
  have s01 := b1.size
  replace hrow := Lib.hid hrow
  replace hh1 := Lib.hid hh1
  replace hobj1 := Lib.hid hobj1
  replace b1 := Lib.hid b1
  clear hcase hrd
  go_wp2_with fail
  go_loopw [5, 6] (fun _ _ w' => ∃ (D : List (List Nat)) (v : Value), w'.heap[G]? = some (.cells #[Mp g, .int .i64 (h : Int), v, .int .i64 (((M.ents D).length : Nat) : Int), .int .i64 ((M.room D : Nat) : Int)] 62 (0, 0)) ∧
      Held w' B (fun b => (Z b ∧ b ≠ G ∧ ¬ DX g r q b) ∨ (w1.heap.size ≤ b ∧ b < w'.heap.size)) v D ∧ But (fun b => b = G ∨ (Z b ∧ b ≠ G ∧ ¬ DX g r q b)) w1 w' ∧ (M.ents D).length ≤ C ∧ (M.ents D).length % 8 = 0 ∧ M.OkR D ∧
      D ++ M.recs (C + 1 - D.length) (bs.drop (M.ents D).length) = M.found bs) (fun _ _ w' => C - (intOf ((w'.cell? ⟨G, 3, none⟩).getD (.bool true))).toNat)
  case atStart => exact ⟨[], v0, hobj1.out, hh1.out.to (fun _ _ => rfl) (fun _ h => .inl h), But.refl _ _, by simp [M.ents], by simp [M.ents], fun r hr => by simp at hr, by
    unfold M.found
    rw [hbl]
    simp [M.ents]⟩
  case round =>
    obtain ⟨D, v, hobj, hh, hb, heC, he8, hok, hrec⟩ := hrel
    have hDl := M.ents_len D
    have hrE := M.room_ents D
    obtain ⟨en, hen⟩ : ∃ en, en = (M.ents D).length := ⟨_, rfl⟩
    obtain ⟨rm, hrm⟩ : ∃ rm, rm = M.room D := ⟨_, rfl⟩
    rw [← hen] at hobj heC he8 hrec hDl hrE
    rw [← hrm] at hobj hrE
    have c3 : wr.cell? ⟨G, 3, none⟩ = some (.int .i64 (en : Int)) := by rw [cell_of_row wr G 3 _ _ (0, 0) hobj]; rfl
    have hsz := hb.size
    have hXg : ¬ (gb = G ∨ (Z gb ∧ gb ≠ G ∧ ¬ DX g r q gb)) := fun e => by
      rcases e with e | e
      · omega
      · have := ha.out.zl gb e.1; omega
    have hrw := hrow.out.but hb hXg
    have s1 : (0 : Int) ≤ (en : Int) := by omega
    have s2 : (en : Int) ≤ (C : Int) := by omega
    have hfin : ∀ w2, Below wr.heap.size wr w2 → M.first (bs.drop en) = none → FrPost w B Z G g r q n cS cE S E k last h (.returned (.int .i64 0)) w2 := fun w2 hb2 hno => by
      have hD : M.found (M.reg E n h) = D := by
        rw [← hbs.out, ← hrec, M.recs_none hno, List.append_nil]
      refine ⟨rfl, ?_, (But.ofBelow b1.out).trans2 ((hb.mono (Y := Z) (fun b _ e => by
        rcases e with rfl | e
        · exact ha.out.zG
        · exact e.1)).trans2 (But.ofBelow (X := Z) hb2) (fun _ _ h => h)) (fun _ _ h => h)⟩
      rw [hD]
      have hs2 := hb2.size
      have hdk : DAt w2 B g r q n cS cE S E k last := ((ha0.out.disk.later b1.out).but hb (fun b hbD e => by
        rcases e with e | e
        · exact ha0.out.gD (e ▸ hbD)
        · exact e.2.2 hbD)).later hb2
      have hGr : G < wr.heap.size := by omega
      refine ⟨⟨v, ⟨hdk, by rw [hb2.block G hGr, hobj, hen, hrm], ha0.out.gB, ha0.out.gD, ha0.out.h2⟩, hh.to (fun b hb3 => ?_) (fun b hb3 => ?_)⟩, .inl ha.out.zG, fun b hbD => .inl (ha.out.zD b hbD), fun b hbY => ?_, hok⟩
      · refine hb2.block b ?_
        rcases hb3 with hb3 | hb3
        · have := ha.out.zl b hb3.1; omega
        · exact hb3.2
      · rcases hb3 with hb3 | hb3
        · exact ⟨.inl hb3.1, hb3.2⟩
        · refine ⟨.inr ⟨by omega, by omega⟩, by omega, fun e => ?_⟩
          have := ha0.out.disk.lt b e
          omega
      · rcases hbY with hbY | hbY
        · have := ha.out.zl b hbY; omega
        · exact hbY.2
    replace hfin := Lib.hid hfin
    replace hb := Lib.hid hb
    have hobj' := Lib.hid hobj
    by_cases hfull : en = C
    · have hno : M.first (bs.drop en) = none := by
        rw [List.drop_eq_nil_of_le (by omega)]
        unfold M.first
        rw [if_pos (by simp)]
      obtain rfl := hfull
      clear hok hrec hsm
      go_wp2_with fail
      have hB0 : BS wr wr.heap.size (.slice (some ⟨gb, 0, none⟩) 0 0) [] := ⟨_, _, rfl, by simp, by unfold maxLen; omega, fun i hi => by simp at hi⟩
      refine (firstRecord_any wr ⟨gb, 0, none⟩ 0 0 [] hB0 rfl (by omega)).mono ?_
      rintro e2 w2 ⟨hc2, b2⟩
      obtain rfl : e2 = .returned (.tuple #[.slice none 0 0, .bool false]) := by
        rcases hc2 with ⟨r, u, h1, _⟩ | ⟨_, h1⟩
        · simp [M.first] at h1
        · exact h1
      have hf := Lib.hid (hfin.out w2 b2 hno)
      clear hc2 hno hB0 b2
      go_wp2_with fail
      go_ret
      exact hf.out
    · have t1 : (en : Int) < (C : Int) := by omega
      have t2 : ¬ C = en := by omega
      have hB1 : BS wr wr.heap.size (.slice (some ⟨gb, en, none⟩) (C - en) (C - en)) (bs.drop en) := by
        have := hrw.part en (C - en) (C - en) (by omega) (by unfold maxLen; omega)
        rwa [List.take_of_length_le (by rw [List.length_drop]; omega)] at this
      have hf1 := Lib.hid (firstRecord_any wr ⟨gb, en, none⟩ (C - en) (C - en) (bs.drop en) hB1 (by rw [List.length_drop]; omega) (by omega))
      replace hok := Lib.hid hok
      replace hrec := Lib.hid hrec
      replace hh := Lib.hid hh
      replace hen := Lib.hid hen
      replace hrm := Lib.hid hrm
      clear hB1
      go_wp2_with fail
      refine hf1.out.mono ?_
      rintro e2 w2 ⟨hc2, b2⟩
      rcases hc2 with ⟨x, u, hx1, rfl, hx2⟩ | ⟨hno, rfl⟩
      · have hfit := M.first_fit hx1 (by rw [List.length_drop]; omega)
        rw [List.length_drop, hbl] at hfit
        have hxl : 8 + x.length ≤ C - en := by have := (M.first_some hx1).1; rw [List.length_drop, hbl] at this; exact this
        have hxlt := M.first_lt hx1 (fun b hb => hsm.out b (List.mem_of_mem_drop hb))
        have hel8 : M.elen x.length % 8 = 0 := by have := M.pad_ge x.length; unfold M.elen; omega
        have s12 := b2.size
        have hG2 : G < w2.heap.size := by omega
        have hobj2 := (b2.block G (show G < wr.heap.size by omega)).trans hobj'.out
        have hZlt : ∀ b, (Z b ∧ b ≠ G ∧ ¬ DX g r q b ∨ w1.heap.size ≤ b ∧ b < wr.heap.size) → b < wr.heap.size := fun b hb3 => by
          rcases hb3 with hb3 | hb3
          · have := ha.out.zl b hb3.1; omega
          · exact hb3.2
        have htk := Lib.hid (take_of w2 B G _ D v (Mp g) (.int .i64 (h : Int)) en rm u x hobj2 (hh.out.to (fun b hb3 => b2.block b (hZlt b hb3)) (fun _ h => h)) (fun b hb3 => by have := hZlt b hb3; omega) (fun e => by
          rcases e with e | e
          · exact e.2.1 rfl
          · omega) (by omega) hx2 (by omega) (by omega) (by omega) (by omega))
        replace b2 := Lib.hid b2
        replace hx1 := Lib.hid hx1
        replace hxlt := Lib.hid hxlt
        have hZlt := Lib.hid hZlt
        clear hx2 hobj2
        go_wp2_with fail
        refine htk.out.mono ?_
        rintro e3 w3 ⟨rfl, v3, obj3, hh3, bt3⟩
        have s23 := bt3.size
        have c33 : w3.cell? ⟨G, 3, none⟩ = some (.int .i64 ((en + M.elen x.length : Nat) : Int)) := by rw [cell_of_row w3 G 3 _ _ (0, 0) obj3]; rfl
        have hel := M.ents_snoc D x
        have hrs := M.room_snoc D x
        have hnew : M.OkR (D ++ [x]) := fun y hy => by
          rcases List.mem_append.1 hy with hy | hy
          · exact hok.out y hy
          · have : y = x := by simpa using hy
            subst this
            exact ⟨hxlt.out, by omega⟩
        have hr2 : (D ++ [x]) ++ M.recs (C + 1 - (D ++ [x]).length) (bs.drop (M.ents (D ++ [x])).length) = M.found bs := by
          rw [← hrec.out, hel, ← hen.out, ← List.drop_drop, List.append_assoc]
          congr 1
          rw [show C + 1 - D.length = (C + 1 - (D ++ [x]).length) + 1 by simp; omega, M.recs_some hx1.out]
          rfl
        have hh4 := Lib.hid (show Held w3 B (fun b => (Z b ∧ b ≠ G ∧ ¬ DX g r q b) ∨ (w1.heap.size ≤ b ∧ b < w3.heap.size)) v3 (D ++ [x]) from hh3.to (fun _ _ => rfl) (fun b hb3 => by
          rcases hb3 with (hb3 | hb3) | hb3
          · exact .inl hb3
          · exact .inr ⟨hb3.1, by omega⟩
          · exact .inr ⟨by omega, hb3.2⟩))
        have hb4 := Lib.hid (show But (fun b => b = G ∨ (Z b ∧ b ≠ G ∧ ¬ DX g r q b)) w1 w3 from (hb.out.trans2 (But.ofBelow (X := fun _ => False) b2.out) (fun _ _ h => h.elim)).trans2 bt3 (fun i hi e => by
          rcases e with e | e | e
          · exact .inl e
          · exact .inr e
          · omega))
        have hdec : C - (en + M.elen x.length) < C - en := by unfold M.elen; omega
        have hobj3 := Lib.hid obj3
        clear hh3 bt3 htk obj3
        go_wp2_with fail
        refine ⟨⟨D ++ [x], v3, ?_, hh4.out, hb4.out, ?_, ?_, hnew, hr2⟩, ?_⟩
        · rw [hel, hrs, ← hen.out, ← hrm.out]; exact hobj3.out
        · rw [hel, ← hen.out]; omega
        · rw [hel, ← hen.out]; omega
        · rw [c3, c33]
          simp only [Option.getD_some, intOf, Int.toNat_natCast]
          exact hdec
      · have hf := Lib.hid (hfin.out w2 b2 hno)
        clear hno b2
        go_wp2_with fail
        go_ret
        exact hf.out
end
end Go.Proofs.Ytncafkifebannaa
