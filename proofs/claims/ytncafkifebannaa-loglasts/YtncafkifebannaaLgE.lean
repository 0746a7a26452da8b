/-
  What the log answers whether the power is on, and how it writes one sector; condition: the log's block and its disk lie in memory.
-/
import Derived.Test.YtncafkifebannaaLgD
namespace Go.Proofs.Ytncafkifebannaa
open Go.RowKit
section
variable {w w' : World} {B G g r q n cS cE : Nat} {S E : List Nat} {k last : Int} {h : Nat} {v2 v3 v4 : Value}
theorem power_of (w : World) (c : Int) (a : HAt w B G g r q n cS cE S E k last h v2 v3 v4) (hc : c = if last ≤ k then 103 else 0) : Calls Try.prog 37 #[Mp G] w fun e w' => e = .returned (.int .i64 c) ∧ Below w.heap.size w w' := by
  have c0 := a.c0
  have hn := a.disk.n0
  by_cases hon : last ≤ k
  · rw [if_pos hon] at hc
    subst hc
    have hr := Lib.hid (Read_off w 0 a.disk ⟨by omega, by omega⟩ hon)
    clear a
    go_enter Try.func37, Try.ntmps37
    go_wp2_with fail
    refine hr.out.mono ?_
    rintro e1 w1 ⟨rfl, b1⟩
    go_wp2_with fail
    go_ret
    exact ⟨rfl, b1⟩
  · rw [if_neg hon] at hc
    subst hc
    have hr := Lib.hid (Read_ok w 0 0 _ a.disk rfl (by omega) hon rfl)
    clear a
    go_enter Try.func37, Try.ntmps37
    go_wp2_with fail
    refine hr.out.mono ?_
    rintro e1 w1 ⟨r1, c1, rfl, _, _, b1⟩
    go_wp2_with fail
    go_ret
    exact ⟨rfl, b1⟩
/-- What is written to one sector. -/
def SwPost (w : World) (B g r q n cS cE : Nat) (S E E' : List Nat) (k last : Int) (e : Ending) (w' : World) : Prop :=
  ∃ k' E2, e = .returned (.int .i64 (if last ≤ k' then 103 else 0)) ∧ k ≤ k' ∧ k' ≤ k + 1 ∧ E2 = (if last ≤ k then E else E') ∧ DAt w' B g r q n cS cE S E2 k' last ∧ But (DX g r q) w w'
theorem M.lay_sec {bs xs : List Nat} {i o : Nat} (h : i * 64 + 64 ≤ bs.length) (ho : o + xs.length ≤ 64) : M.lay bs (i * 64) (M.lay (M.sec bs i) o xs) = M.lay bs (i * 64 + o) xs := by
  have hs := M.sec_length h
  have hl : (M.lay (M.sec bs i) o xs).length = 64 := by rw [M.lay_length (by omega), hs]
  apply List.ext_getElem?
  intro j
  have g1 := M.lay_get (bs := bs) (xs := M.lay (M.sec bs i) o xs) (a := i * 64) (by omega) j
  have g2 := M.lay_get (bs := bs) (xs := xs) (a := i * 64 + o) (by omega) j
  have g3 := M.lay_get (bs := M.sec bs i) (xs := xs) (a := o) (by omega) (j - i * 64)
  rw [g1, g2, hl]
  by_cases h1 : i * 64 ≤ j ∧ j < i * 64 + 64
  · rw [if_pos h1, g3, M.sec_get]
    by_cases h2 : i * 64 + o ≤ j ∧ j < i * 64 + o + xs.length
    · rw [if_pos h2, if_pos (by omega)]
      congr 1; omega
    · rw [if_neg h2, if_neg (by omega), if_pos (by omega)]
      congr 1; omega
  · rw [if_neg h1, if_neg (by omega)]
theorem M.lay_same {bs xs : List Nat} {a : Nat} (h : a + xs.length ≤ bs.length) (e : (bs.drop a).take xs.length = xs) : M.lay bs a xs = bs := by
  unfold M.lay splice
  have h1 : bs.drop (a + xs.length) = (bs.drop a).drop xs.length := by rw [List.drop_drop]
  rw [h1]
  have h2 := List.take_append_drop xs.length (bs.drop a)
  rw [e] at h2
  first | rw [List.append_assoc, h2, List.take_append_drop] | rw [h2, List.take_append_drop]
set_option maxRecDepth 100000 in
theorem writeSector_any (w : World) (i o m d : Nat) (U : Option Addr) (xs : List Nat) (a : HAt w B G g r q n cS cE S E k last h v2 v3 v4) (hi : i < n) (hu : BS w w.heap.size (.slice U m d) xs) (hm : m = xs.length) (h0 : 0 < m) (ho : o + m ≤ 64) (hk : 0 ≤ k ∧ k < 1000000) :
    Calls Try.prog 57 #[Mp G, .int .i64 (i : Int), .int .i64 (o : Int), .slice U m d] w (SwPost w B g r q n cS cE S E (M.lay E (i * 64 + o) xs) k last) := by
  have c0 := a.c0
  have hn := a.disk.n0
  have hlE := a.disk.lE
  by_cases hon : last ≤ k
  · have hr := Lib.hid (Read_off w i a.disk ⟨by omega, by omega⟩ hon)
    have hfin : ∀ w', Below w.heap.size w w' → SwPost w B g r q n cS cE S E (M.lay E (i * 64 + o) xs) k last (.returned (.int .i64 103)) w' := fun w' b =>
      ⟨k, E, by rw [if_pos hon], by omega, by omega, by rw [if_pos hon], a.disk.later b, But.ofBelow b⟩
    replace hfin := Lib.hid hfin
    replace hm := Lib.hid hm
    clear a hu hlE
    go_enter Try.func57, Try.ntmps57
    go_wp2_with fail
    refine hr.out.mono ?_
    rintro e1 w1 ⟨rfl, b1⟩
    have hf := Lib.hid (hfin.out w1 b1)
    clear b1 hfin
    go_wp2_with fail
    go_ret
    exact hf.out
  · have hr := Lib.hid (Read_ok w i i (M.sec E i) a.disk rfl hi hon rfl)
    have hsl : (M.sec E i).length = 64 := M.sec_length (by rw [hlE]; omega)
    have hon' := Lib.hid hon
    replace hm := Lib.hid hm
    replace hlE := Lib.hid hlE
    go_enter Try.func57, Try.ntmps57
    go_wp2_with fail
    refine hr.out.mono ?_
    clear hr
    rintro e1 w1 ⟨r1, c1, rfl, ro, hge, b1⟩
    have hle := ro.le
    rw [hsl] at hle
    unfold maxLen at hle
    have hxs := Lib.hid (hu.later b1)
    have hpart := Lib.hid (ro.part o m (c1 - o) (by rw [hsl]; omega) ⟨by omega, by unfold maxLen; omega⟩)
    have s1 : (o : Int) ≤ (o : Int) + (m : Int) := by omega
    have s2 : (o : Int) + (m : Int) ≤ (c1 : Int) := by omega
    have s3 : o + m ≤ c1 := by omega
    have s4 : (o : Int) < (c1 : Int) := by omega
    have s5 : (0 : Int) ≤ (o : Int) := by omega
    have s6 : ¬ c1 = o := by omega
    have s7 : (o : Int) + (m : Int) ≤ 64 := by omega
    have s8 : (o : Int) < 64 := by omega
    replace b1 := Lib.hid b1
    replace ro := Lib.hid ro
    replace a := Lib.hid a
    have hpl : ((M.sec E i).drop o).take m = ((E.drop (i * 64 + o)).take m) := by
      unfold M.sec
      rw [List.drop_take, List.drop_drop, List.take_take, Nat.min_eq_left (by omega)]
    have hbl : (((M.sec E i).drop o).take m).length = m := by rw [List.length_take, List.length_drop, hsl]; omega
    have hbl2 := Lib.hid hbl
    have hlay := Lib.hid (M.lay_sec (bs := E) (xs := xs) (i := i) (o := o) (by rw [hlE.out]; omega) (by rw [← hm.out]; exact ho))
    have hsl2 := Lib.hid hsl
    replace hpl := Lib.hid hpl
    clear hbl hsl
    by_cases heq : ((M.sec E i).drop o).take m = xs
    · have hfin : SwPost w B g r q n cS cE S E (M.lay E (i * 64 + o) xs) k last (.returned (.int .i64 0)) w1 := by
        have e2 : M.lay E (i * 64 + o) xs = E := M.lay_same (by rw [hlE.out, ← hm.out]; omega) (by rw [← hm.out, ← hpl.out, heq])
        have ho2 : ¬ last ≤ k := by have := hon'.out; omega
        exact ⟨k, E, by rw [if_neg ho2], by omega, by omega, by rw [if_neg ho2, e2], a.out.disk.later b1.out, But.ofBelow b1.out⟩
      replace hfin := Lib.hid hfin
      go_wp2_with (go_at_call 48; refine (Equal_any w1 _ _ _ _ _ xs true hpart.out hxs.out ?_ ?_ ?_).mono ?_; (rw [hbl2.out]; exact h0); (rw [← hm.out]; exact h0); (rw [decide_eq_true heq]); rintro e2 w2 ⟨rfl, rfl⟩)
      go_wp2_with fail
      go_ret
      exact hfin.out
    · have d1 := a.out.disk.later b1.out
      have hr1 : ¬ DX g r q r1 := fun e => by have := a.out.disk.lt r1 e; omega
      obtain ⟨w2, hrun, r2, x2⟩ := ro.out.copy 37 Try.underlying37 o (64 - o) (c1 - o) d (U := U) (xs := xs) (by rw [← hm.out]; exact hxs.out) (by rw [hsl2.out, ← hm.out]; omega) (by rw [← hm.out]; exact h0) (by rw [← hm.out]; omega)
      rw [← hm.out] at hrun
      have d2 := d1.but x2 (fun b hb e => hr1 (e ▸ hb))
      have hl2 : (M.lay (M.sec E i) o xs).length = 64 := by rw [M.lay_length (by rw [hsl2.out, ← hm.out]; omega), hsl2.out]
      obtain ⟨cc, hcc⟩ : ∃ cc : Int, cc = if last ≤ k + 1 then 103 else 0 := ⟨_, rfl⟩
      have hwr := Lib.hid (Write_any w2 (i : Int) i (.slice (some ⟨r1, 0, none⟩) 64 c1) (M.lay (M.sec E i) o xs) _ (k + 1) cc d2 (r2.all hl2.symm) rfl hi hl2 hk rfl rfl hcc)
      have hcc0 : Value.int .i64 cc = Value.int .i64 (if last ≤ k + 1 then 103 else 0) := by rw [hcc]
      replace hcc0 := And.intro hcc0 trivial
      obtain ⟨hcK, hcK2⟩ : ∃ f : Unit → Value.int .i64 cc = Value.int .i64 (if last ≤ k + 1 then 103 else 0), True := ⟨fun _ => hcc0.1, trivial⟩
      clear hcc0 hcc hcK2
      have x12 : But (DX g r q) w w2 := ⟨x2.os.trans b1.out.os, x2.tape.trans b1.out.tape, x2.output.trans b1.out.output, Nat.le_trans b1.out.size x2.size, fun b hb hx => (x2.block b (Nat.lt_of_lt_of_le hb b1.out.size) (fun e => by omega)).trans (b1.out.block b hb)⟩
      have c02 : w2.cell? ⟨G, 0, none⟩ = some (Mp g) := (World.cell?_of_block (x12.block G (Array.getElem?_eq_some_iff.1 a.out.obj).1 a.out.gD)).trans c0
      replace x12 := Lib.hid x12
      clear d1 d2 r2 x2 hl2
      go_wp2_with (go_at_call 48; refine (Equal_any w1 _ _ _ _ _ xs false hpart.out hxs.out ?_ ?_ ?_).mono ?_; (rw [hbl2.out]; exact h0); (rw [← hm.out]; exact h0); (rw [decide_eq_false heq]); rintro e2 w2 ⟨rfl, rfl⟩)
      refine hwr.out.mono ?_
      rintro e3 w3 ⟨rfl, d3, x3⟩
      have hcr : Ending.returned (Value.int .i64 cc) = Ending.returned (Value.int .i64 (if last ≤ k + 1 then 103 else 0)) := congrArg Ending.returned (hcK ())
      have hfin : SwPost w B g r q n cS cE S E (M.lay E (i * 64 + o) xs) k last (.returned (.int .i64 cc)) w3 :=
        ⟨k + 1, _, hcr, by omega, by omega, rfl, by rw [← hlay.out]; exact d3, x12.out.trans x3⟩
      replace hfin := Lib.hid hfin
      clear d3 x3 hwr
      go_wp2_with fail
      go_ret
      exact hfin.out
end
end Go.Proofs.Ytncafkifebannaa
