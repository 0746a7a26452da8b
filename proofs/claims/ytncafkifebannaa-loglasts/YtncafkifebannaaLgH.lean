/-
  How the log lays a whole half: its records' entries, and noughts behind; condition: the log's block, its disk and its records lie in memory, and the entries have room.
-/
import Derived.Test.YtncafkifebannaaLgG
namespace Go.Proofs.Ytncafkifebannaa
open Go.RowKit
section
variable {w w' : World} {B G g r q n cS cE : Nat} {S E : List Nat} {k last : Int} {h : Nat} {v2 v3 v4 : Value}
/-- A half's bytes: entries, and noughts behind. -/
def M.full (rs : List (List Nat)) (C : Nat) : List Nat := M.lay (List.replicate C 0) 0 (M.ents rs)
theorem M.full_length {rs : List (List Nat)} {C : Nat} (h : (M.ents rs).length ≤ C) : (M.full rs C).length = C := by
  unfold M.full
  rw [M.lay_length (by rw [List.length_replicate]; omega), List.length_replicate]
theorem M.ents_take (rs : List (List Nat)) (i : Nat) (x : List Nat) (hx : rs[i]? = some x) : M.ents (rs.take (i + 1)) = M.ents (rs.take i) ++ M.ent x := by
  rw [List.take_add_one, hx, M.ents_append]
  simp [M.ents]
theorem M.ents_le (rs : List (List Nat)) (i : Nat) : (M.ents (rs.take i)).length ≤ (M.ents rs).length := by
  have := congrArg (fun l => (M.ents l).length) (List.take_append_drop i rs)
  simp only [M.ents_append, List.length_append] at this
  omega
set_option maxRecDepth 100000 in
set_option maxHeartbeats 2000000 in
theorem lay_of (w : World) (rs : List (List Nat)) (P : Nat → Prop) (a : HAt w B G g r q n cS cE S E k last h v2 v3 v4) (hr : Recs w P v2 rs) (hP : ∀ b, P b → b < w.heap.size) (hfit : (M.ents rs).length ≤ M.cnt n * 64) (hk : 0 ≤ k ∧ k + (M.cnt n * 64 : Nat) < 1000000) :
    Calls Try.prog 30 #[Mp G] w (WrPost w B g r q n cS cE S E k last ((1 + h * M.cnt n) * 64) 0 (M.full rs (M.cnt n * 64))) := by
  have hn := a.disk.n0
  have hc : M.cnt n ≤ 8192 := by unfold M.cnt; omega
  have hGl : G < w.heap.size := (Array.getElem?_eq_some_iff.1 a.obj).1
  obtain ⟨A, c, rfl, hl1, hl2⟩ := id hr
  obtain ⟨C, hC⟩ : ∃ C, C = M.cnt n * 64 := ⟨_, rfl⟩
  have hCi : ((M.cnt n : Nat) : Int) * 64 = (C : Int) := by rw [hC]; push_cast; rfl
  have hC9 : C ≤ 524288 := by omega
  have hmk := make_run 0 C (C : Int) 0 rfl rfl (by omega) (by omega) w
  have h0 := zrow_at w C (by omega)
  obtain ⟨W0, hW0⟩ : ∃ W0, W0 = w.alloc (.cells (zrow C) 5) := ⟨_, rfl⟩
  have b0 : Below w.heap.size w W0 := by rw [hW0]; exact (Below.refl _ _).alloc (Nat.le_refl _) _
  rw [← hW0] at h0 hmk
  obtain ⟨gb, hgb⟩ : ∃ gb, gb = w.heap.size := ⟨_, rfl⟩
  rw [← hgb] at h0 hmk
  have hgD : ¬ DX g r q gb := fun e => by have := a.disk.lt gb e; omega
  have hGg : G ≠ gb := by omega
  obtain ⟨N, hN⟩ : ∃ N, N = rs.length := ⟨_, rfl⟩
  rw [← hN] at hl1
  unfold maxLen at hl1
  have c2 : W0.cell? ⟨G, 2, none⟩ = some (.slice A N c) := by rw [(b0.cell (p := ⟨G, 2, none⟩) hGl), cell_of_row w G 2 _ _ (0, 0) a.obj, hN]; rfl
  have hcnt := Lib.hid (count_any w a)
  rw [← hC] at hfit hk ⊢
  have hA0 := Lib.hid (a.later b0)
  have hP0 := Lib.hid hP
  have hl2' := Lib.hid (show ∀ i x, rs[i]? = some x → ∃ ad u, A = some ad ∧ P ad.block ∧ W0.cell? (ad.add i) = some u ∧ BSP W0 P u x from fun i x hx => by
    obtain ⟨ad, u, q1, q2, q3, q4⟩ := hl2 i x hx
    exact ⟨ad, u, q1, q2, (b0.cell (by rw [addr_block]; exact hP _ q2)).trans q3, q4.to (fun b hb => b0.block b (hP b hb)) (fun b hb => hb)⟩)
  replace hW0 := Lib.hid hW0
  replace hN := Lib.hid hN
  replace hC := Lib.hid hC
  have hgbs : w.heap.size ≤ gb := by omega
  replace hgb := Lib.hid hgb
  replace b0 := Lib.hid b0
  clear hl2 hr a hP
  go_enter Try.func30, Try.ntmps30
  go_wp2_with fail
  refine hcnt.out.mono ?_
  rintro e w1 ⟨rfl, rfl⟩
  go_wp2_with fail
  go_loopw [3, 15] (fun b s w' => ∃ i : Nat, i ≤ N ∧ s = .int .i64 i ∧ b = .slice (some ⟨gb, 0, none⟩) (M.ents (rs.take i)).length C ∧ RowAt w' gb C (M.full (rs.take i) C) ∧ But (· = gb) W0 w') (fun _ s _ => N - (intOf s).toNat)
  case atStart => exact ⟨0, by omega, rfl, rfl, by rw [List.take_zero]; show RowAt W0 gb C (M.lay _ 0 []); rw [M.lay_nil _ _ (by omega)]; exact h0, But.refl _ _⟩
  case round =>
    obtain ⟨i, hi, rfl, rfl, hrow, hb⟩ := hrel
    have hPgb : ∀ b, P b → b ≠ gb := fun b hb e => by have := hP0.out b hb; omega
    by_cases hlt : i < N
    · have hx := List.getElem?_eq_getElem (show i < rs.length by rw [← hN.out]; exact hlt)
      obtain ⟨x, hxx⟩ : ∃ x, x = rs[i]'(by rw [← hN.out]; exact hlt) := ⟨_, rfl⟩
      rw [← hxx] at hx
      clear hxx
      obtain ⟨ad, u, rfl, q2, q3, q4⟩ := hl2'.out i x hx
      have hblk : ∀ b, P b → wr.heap[b]? = W0.heap[b]? := fun b hb' => hb.block b (Nat.lt_of_lt_of_le (hP0.out b hb') b0.out.size) (hPgb b hb')
      have q3' : wr.cell? (ad.add i) = some u := (World.cell?_of_block (by rw [addr_block]; exact hblk _ q2)).trans q3
      have q4' := (q4.to hblk (fun b hb => hb)).bs (fun b hb' => Nat.lt_of_lt_of_le (hP0.out b hb') (Nat.le_trans b0.out.size hb.size))
      have het := M.ents_take rs i x hx
      have hle := M.ents_le rs (i + 1)
      have hel := M.ent_length x
      have hpd := M.pad_ge x.length
      rw [het, List.length_append, hel] at hle
      have hel2 : M.elen x.length = 8 + M.pad x.length := rfl
      have hent := Lib.hid (entry_any u x wr q4' (by omega))
      have t0 : (0 : Int) ≤ (i : Int) := by omega
      have t1 : (i : Int) < (N : Int) := by omega
      have hfl := Lib.hid (M.full_length (rs := rs.take i) (C := C) (by omega))
      have hroom := Lib.hid (show (M.ents (rs.take i)).length + (M.ent x).length ≤ C by rw [hel]; omega)
      have hpos := Lib.hid (show 0 < (M.ent x).length by rw [hel]; omega)
      have hnext := Lib.hid (show M.lay (M.full (rs.take i) C) (M.ents (rs.take i)).length (M.ent x) = M.full (rs.take (i + 1)) C by
        unfold M.full
        have := M.lay_lay (bs := List.replicate C 0) (xs := M.ents (rs.take i)) (ys := M.ent x) (a := 0) (by rw [List.length_replicate, hel]; omega)
        rw [Nat.zero_add] at this
        rw [this, het])
      have hlen2 := Lib.hid (show (M.ents (rs.take (i + 1))).length = (M.ents (rs.take i)).length + (M.ent x).length by rw [het, List.length_append])
      obtain ⟨au, cu, rfl, _⟩ := q4
      replace hrow := Lib.hid hrow
      replace hb := Lib.hid hb
      clear q4' hblk hle hel hel2 hpd het hx
      go_wp2_with fail
      refine hent.out.mono ?_
      rintro e2 w2 ⟨rr, rfl, er, eg, eb⟩
      have el : M.elen x.length = (M.ent x).length := (M.ent_length x).symm
      have erb := Lib.hid (er.all (n := M.elen x.length) el)
      have hrow2 := Lib.hid (hrow.out.later eb)
      have hb2 := Lib.hid (hb.out.trans (But.ofBelow (X := (· = gb)) eb))
      rw [el] at erb ⊢
      clear er eg eb el hent
      go_wp2_with (at_builtin; refine wpList_push rfl _ _ rfl gb C (M.ents (rs.take i)).length (M.ent x).length (some ⟨rr, 0, none⟩) (M.full (rs.take i) C) (M.ent x) rfl hrow2.out hfl.out rfl erb.out hpos.out hroom.out ?_; intro w3 r3 x3)
      exact ⟨⟨i + 1, by omega, by go_num, by rw [hlen2.out], by rw [← hnext.out]; exact r3, hb2.out.trans x3⟩, by simp [intOf]; omega⟩
    · obtain rfl : i = N := by omega
      have hti : rs.take i = rs := by rw [hN.out, List.take_length]
      rw [hti] at hrow
      have hGW : G < W0.heap.size := Nat.lt_of_lt_of_le hGl b0.out.size
      have hobj : wr.heap[G]? = W0.heap[G]? := hb.block G hGW hGg
      have hdk : DAt wr B g r q n cS cE S E k last := hA0.out.disk.but hb (fun b hb' e => hgD (e ▸ hb'))
      have hA := Lib.hid (show HAt wr B G g r q n cS cE S E k last h _ v3 v4 from ⟨hdk, hobj.trans hA0.out.obj, hA0.out.gB, hA0.out.gD, hA0.out.h2⟩)
      have hlen := M.full_length hfit
      have hwr := Lib.hid (write_any wr 0 C (.slice (some ⟨gb, 0, none⟩) C C) (M.full rs C) hA.out hlen.symm (fun w2 hb2 => (hrow.but hb2 hgD).all hlen.symm) (by rw [Nat.zero_add, hC.out]; exact Nat.le_refl _) hk)
      have hw0 : Below w1.heap.size w1 wr := b0.out.trans (hb.below (fun b e => by rw [e]; exact hgbs) b0.out.size)
      replace hw0 := Lib.hid hw0
      have t1 : ¬ (i : Int) < (i : Int) := by omega
      replace hrow := Lib.hid hrow
      clear hobj hdk hlen hb hti
      go_wp2_with fail
      refine hwr.out.mono ?_
      rintro e2 w2 ⟨k3, j3, p1, p2, p3, p4, p5, p6⟩
      have p5' : But (DX g r q) w1 w2 := (But.ofBelow hw0.out).trans p5
      have hfin := Lib.hid (show ∀ e3, (e3 = e2) → WrPost w1 B g r q n cS cE S E k last ((1 + h * M.cnt n) * 64) 0 (M.full rs C) e3 w2 from fun e3 he => ⟨k3, j3, p1, p2, p3, p4, p5', by rw [he]; exact p6⟩)
      clear p1 p2 p3 p4 p5 p5' hwr hA
      rcases p6 with ⟨rfl, _, _⟩ | ⟨rfl, _, _⟩
      all_goals
        go_wp2_with fail
        go_ret
        exact hfin.out _ rfl
end
end Go.Proofs.Ytncafkifebannaa
