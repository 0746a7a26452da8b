/-
  How the log chooses a half, and finds which one was chosen; condition: the log's block and its disk lie in memory.
-/
import Derived.Test.YtncafkifebannaaLgJ
namespace Go.Proofs.Ytncafkifebannaa
open Go.RowKit
section
variable {w w' : World} {B G g r q n cS cE : Nat} {S E : List Nat} {k last : Int} {h : Nat} {v2 v3 v4 : Value}
/-- The chooser's bytes for a half. -/
def M.hd (h : Nat) : List Nat := h :: List.replicate 63 0
theorem M.hd_length (h : Nat) : (M.hd h).length = 64 := rfl
set_option maxRecDepth 100000 in
theorem choose_of (w : World) (E' : List Nat) (c : Int) (a : HAt w B G g r q n cS cE S E k last h v2 v3 v4) (hk : 0 ≤ k ∧ k < 1000000) (hE : E' = if last ≤ k then E else M.lay E 0 (M.hd h)) (hc : c = if last ≤ k + 1 then 103 else 0) :
    Calls Try.prog 35 #[Mp G] w (WPost w B g r q n cS cE S E' (k + 1) last c) := by
  have c0 := a.c0
  have c1 := a.c1
  have h2 := a.h2
  have hn := a.disk.n0
  have hgD := a.gD
  have hGw : G < w.heap.size := (Array.getElem?_eq_some_iff.1 a.obj).1
  have hco := Lib.hid (chooserOf_any w.drew h (by omega))
  have hwr := Lib.hid (fun W (hW : Below w.heap.size w W) (rr : Nat) (hrr : RowAt W rr 64 (M.hd h)) => Write_any W 0 0 (.slice (some ⟨rr, 0, none⟩) 64 64) (M.hd h) E' (k + 1) c (a.disk.later hW) (hrr.all (M.hd_length h).symm) rfl (by omega) (M.hd_length h) hk (by simpa using hE) rfl hc)
  clear a hE hc
  go_enter Try.func35, Try.ntmps35
  go_wp2_with fail
  go_region_held3 (fun w' => w'.cell? ⟨G, 0, none⟩ = some (Mp g) ∧ w'.cell? ⟨G, 1, none⟩ = some (.int .i64 (h : Int)))
    (first | exact ⟨c0, c1⟩ | exact ⟨(b2'.out.cell (p := ⟨G, 0, none⟩) hGw).trans c0, (b2'.out.cell (p := ⟨G, 1, none⟩) hGw).trans c1⟩ | exact ⟨c03, c13⟩)
    (first
      | (go_at_call 49; (with_reducible refine hco.out.mono ?_); rintro ex w4 ⟨rr, rfl, rw4, _, b2⟩; replace rw4 : RowAt w4 rr 64 (M.hd h) := rw4; have b2' := Lib.hid ((Below.refl w.heap.size w).drew.trans b2))
      | (go_at_call 55; (with_reducible refine (hwr.out _ b2'.out rr rw4).mono ?_); rintro ex w5 ⟨rfl, d5, x5⟩; have c03 := (World.cell?_of_block (x5.block G (Nat.lt_of_lt_of_le hGw b2'.out.size) hgD)).trans ((b2'.out.cell (p := ⟨G, 0, none⟩) hGw).trans c0); have c13 := (World.cell?_of_block (x5.block G (Nat.lt_of_lt_of_le hGw b2'.out.size) hgD)).trans ((b2'.out.cell (p := ⟨G, 1, none⟩) hGw).trans c1)))
  have hfin := Lib.hid (show WPost w B g r q n cS cE S E' (k + 1) last c (.returned (.int .i64 c)) w5 from ⟨rfl, d5, (But.ofBelow b2'.out).trans x5⟩)
  go_wp2_with fail
  go_ret
  exact hfin.out
/-- What findHalf answers. -/
def FhPost (w : World) (B G g r q n cS cE : Nat) (S E : List Nat) (k last : Int) (h0 : Nat) (v2 v3 v4 : Value) (e : Ending) (w' : World) : Prop :=
  ((∃ h, e = .returned (.int .i64 0) ∧ ¬ last ≤ k ∧ M.sec E 0 = M.hd h ∧ HAt w' B G g r q n cS cE S E k last h v2 v3 v4) ∨
    (e = .returned (.int .i64 100) ∧ ¬ last ≤ k ∧ (∀ h, h < 2 → M.sec E 0 ≠ M.hd h) ∧ HAt w' B G g r q n cS cE S E k last h0 v2 v3 v4) ∨
    (e = .returned (.int .i64 103) ∧ last ≤ k ∧ HAt w' B G g r q n cS cE S E k last h0 v2 v3 v4)) ∧ But (· = G) w w'
theorem HAt.set (a : HAt w B G g r q n cS cE S E k last h v2 v3 v4) (h' : Nat) (hh : h' < 2) : HAt (w.setCell ⟨G, 1, none⟩ (.int .i64 (h' : Int))) B G g r q n cS cE S E k last h' v2 v3 v4 := by
  refine ⟨a.disk.but (But.setCell w G 1 _) (fun b hb e => a.gD (e ▸ hb)), ?_, a.gB, a.gD, hh⟩
  have := heap_setCell_same w G 1 _ _ (.int .i64 (h' : Int)) a.obj
  simpa using this
set_option maxRecDepth 100000 in
theorem findHalf_of (w : World) (a : HAt w B G g r q n cS cE S E k last h v2 v3 v4) : Calls Try.prog 28 #[Mp G] w (FhPost w B G g r q n cS cE S E k last h v2 v3 v4) := by
  have c0 := a.c0
  have hn := a.disk.n0
  have hGw : G < w.heap.size := (Array.getElem?_eq_some_iff.1 a.obj).1
  by_cases hon : last ≤ k
  · have hr := Lib.hid (Read_off w 0 a.disk ⟨by omega, by omega⟩ hon)
    have hfin : ∀ w', Below w.heap.size w w' → FhPost w B G g r q n cS cE S E k last h v2 v3 v4 (.returned (.int .i64 103)) w' := fun w' b => ⟨.inr (.inr ⟨rfl, hon, a.later b⟩), But.ofBelow b⟩
    replace hfin := Lib.hid hfin
    clear a
    go_enter Try.func28, Try.ntmps28
    go_wp2_with fail
    refine hr.out.mono ?_
    rintro e1 w1 ⟨rfl, b1⟩
    have hf := Lib.hid (hfin.out w1 b1)
    clear b1
    go_wp2_with fail
    go_ret
    exact hf.out
  · have hr := Lib.hid (Read_ok w 0 0 _ a.disk rfl (by omega) hon rfl)
    have hsl : (M.sec E 0).length = 64 := M.sec_length (by rw [a.disk.lE]; omega)
    have hon' : Unit → ¬ last ≤ k := fun _ => hon
    replace hsl := Lib.hid hsl
    have ha := Lib.hid a
    clear a hon
    go_enter Try.func28, Try.ntmps28
    go_wp2_with fail
    refine hr.out.mono ?_
    rintro e1 w1 ⟨r1, c1, rfl, ro, _, b1⟩
    have hb1 := Lib.hid (ro.all (n := 64) hsl.out.symm)
    have ha1 := Lib.hid (ha.out.later b1)
    replace b1 := Lib.hid b1
    clear ro hr
    go_wp2_with fail
    go_loopw [17] (fun s w' => ∃ i : Nat, i ≤ 2 ∧ s = .int .i64 i ∧ Below w1.heap.size w1 w' ∧ ∀ j, j < i → M.sec E 0 ≠ M.hd j) (fun s _ => 2 - (intOf s).toNat)
    case atStart => exact ⟨0, by omega, rfl, Below.refl _ _, fun j hj => by omega⟩
    case round =>
      obtain ⟨i, hi, rfl, hbw, hne⟩ := hrel
      by_cases hlt : i < 2
      · have t1 : (i : Int) < 2 := by omega
        have hco := Lib.hid (chooserOf_any wr i (by omega))
        have hbr := Lib.hid (hb1.out.later hbw)
        have har := Lib.hid (ha1.out.later hbw)
        have hw0 := Lib.hid (b1.out.trans (hbw.mono b1.out.size))
        replace hne := Lib.hid hne
        replace hbw := Lib.hid hbw
        go_wp2_with fail
        refine hco.out.mono ?_
        rintro e2 w2 ⟨rr, rfl, rw2, _, b2⟩
        have hb2 := Lib.hid (hbr.out.later b2)
        have ha2 := har.out.later b2
        have c02 := ha2.c0
        have f02 : w2.frozen? ⟨G, 1, none⟩ = false := frozen_of_row w2 G 1 _ _ ha2.obj
        have c12 := ha2.c1
        have hw2 := Lib.hid (hw0.out.trans (b2.mono hw0.out.size))
        have hw12 := Lib.hid (hbw.out.trans (b2.mono hbw.out.size))
        have hr2 := Lib.hid (show BS w2 w2.heap.size (.slice (some ⟨rr, 0, none⟩) 64 64) (M.hd i) from rw2.all (n := 64) rfl)
        have hst := Lib.hid (ha2.set i hlt)
        replace ha2 := Lib.hid ha2
        clear b2 rw2 hco
        by_cases heq : M.sec E 0 = M.hd i
        · have hfin := Lib.hid (show FhPost w B G g r q n cS cE S E k last h v2 v3 v4 (.returned (.int .i64 0)) (w2.setCell ⟨G, 1, none⟩ (.int .i64 (i : Int))) from ⟨.inl ⟨i, rfl, (by have := hon' (); omega), heq, hst.out⟩, (But.ofBelow hw2.out).trans (But.setCell w2 G 1 _)⟩)
          go_wp2_with (go_at_call 48; refine (Equal_any w2 _ _ _ _ _ (M.hd i) true hb2.out hr2.out ?_ ?_ ?_).mono ?_; (rw [hsl.out]; decide); (rw [M.hd_length]; decide); (rw [decide_eq_true heq]); rintro e2 w2 ⟨rfl, rfl⟩)
          go_ret
          exact hfin.out
        · have hne2 : ∀ j, j < i + 1 → M.sec E 0 ≠ M.hd j := fun j hj => by
            by_cases hji : j = i
            · rw [hji]; exact heq
            · exact hne.out j (by omega)
          replace hne2 := Lib.hid hne2
          go_wp2_with (go_at_call 48; refine (Equal_any w2 _ _ _ _ _ (M.hd i) false hb2.out hr2.out ?_ ?_ ?_).mono ?_; (rw [hsl.out]; decide); (rw [M.hd_length]; decide); (rw [decide_eq_false heq]); rintro e2 w2 ⟨rfl, rfl⟩)
          exact ⟨⟨i + 1, by omega, by go_num, hw12.out, hne2.out⟩, by simp [intOf]; omega⟩
      · obtain rfl : i = 2 := by omega
        have hfin := Lib.hid (show FhPost w B G g r q n cS cE S E k last h v2 v3 v4 (.returned (.int .i64 100)) wr from ⟨.inr (.inl ⟨rfl, (by have := hon' (); omega), hne, ha1.out.later hbw⟩), But.ofBelow (b1.out.trans (hbw.mono b1.out.size))⟩)
        clear hne hbw
        go_wp2_with fail
        go_ret
        exact hfin.out
end
end Go.Proofs.Ytncafkifebannaa
