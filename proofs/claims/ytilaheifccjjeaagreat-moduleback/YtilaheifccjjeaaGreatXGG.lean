/-
  The ground of the proofs of this seat, put together: ListR, AfterNum, Labels, NewPlace, Decode, Open, Wakes, PInstr, PTable, Text, Writers. No condition beyond what each text names.
-/
import Derived.Deep.RegionLaw
import Derived.Test.YtilaheifccjjeaaGreatRows
import Derived.ProofKit
import Derived.Deep.Slices
import Derived.Deep.Fields
import Derived.ChangeSame
import Derived.ChangeOld
import Derived.SizedLaws
import Derived.Test.YtilaheifccjjeaaGreatXGF
import Derived.Test.YtilaheifccjjeaaGreatXGC
import Derived.Test.YtilaheifccjjeaaGreatXGB
import Derived.Test.YtilaheifccjjeaaGreatXGA
import Derived.Test.YtilaheifccjjeaaGreatXGD
import Derived.Test.YtilaheifccjjeaaGreatXGE
namespace Go.Proofs.YtilaheifccjjeaaGreat
open Go.RowKit
def atOf (w : World) (P : Nat) : Nat := match w.cell? ⟨P, 1, none⟩ with | some (.int _ q) => q.toNat | _ => 0
theorem atOf_eq {w : World} {P : Nat} {A : Option Addr} {c : Nat} {bs : List Nat} {p d : Nat} (h : PlaceAt w P A c bs p d) : atOf w P = p := by unfold atOf; rw [h.c1]; simp
/-- What the loop of the list keeps up. -/
def LRel (P : Nat) (ad : Addr) (c : Nat) (bs : List Nat) (d p : Nat) (w : World) (v : Value) (w' : World) : Prop :=
  ∃ (q : Nat) (acc : M.L) (xs : List Value), PlaceAt w' P (some ad) c bs q d ∧ w'.ownsRow w.heap.size 68 9 v acc.len xs ∧ Items w' (fun k => (w.heap.size ≤ k ∧ k < w'.heap.size) ∧ v.ownBlock ≠ some k) acc xs ∧ Kb (· = P) w w' ∧
    M.dec (40 - d) (bs.drop p) = (M.dec (40 - d) (bs.drop q)).bind (fun x => some (acc.app x.1, x.2)) ∧ acc.len ≤ q
theorem next_t (w : World) (P : Nat) (A : Option Addr) (c : Nat) (bs : List Nat) (p d x : Nat) (xi : Int) (t : Bool) (h : PlaceAt w P A c bs p d) (hx : x < 256) (ht : nextB bs p x = t) (hxi : xi = (x : Nat)) (n : Nat) :
    Calls Tryz.prog 256 #[.pointer (some ⟨P, 0, none⟩), .int .u8 xi] (w.drewN n) fun e w' => e = .returned (.bool t) ∧ ∃ m, w' = w.drewN m := by
  subst hxi
  refine (next_any _ P A c bs p d x (drewN_place h n) hx).mono fun _ _ ⟨a, m, b⟩ => ⟨by rw [a, ht], n + m, ?_⟩
  rw [b]
  simp [World.drewN, Nat.add_assoc]
def zero9 : Array Value := #[.int .i64 0, .int .i64 0, .int .i64 0, .int .i64 0, .int .i64 0, .int .i64 0, .slice none 0 0, .slice none 0 0, .slice none 0 0]
theorem instr_info : (Tryz.prog.info? 68).map (fun i => (i.zero, i.size, i.bytes)) = some (some (.agg zero9), 9, 120) := by kernel_rfl
/-- The row behind the reading of its last instruction. -/
theorem row_after {w3 w4 : World} {base g n cap P : Nat} {xs zs : List Value} {h : M.Hd} {vL vB vE : Value} (hown : w3.ownsRow base 68 9 (.slice (some ⟨g, 0, none⟩) (n + 1) cap) (n + 1) (xs ++ zs)) (hx : xs.length = n * 9) (hst : Step P g (n * 9) w3 w4) (hi : ItemAt w4 g (n * 9) h vL vB vE) :
    w4.ownsRow base 68 9 (.slice (some ⟨g, 0, none⟩) (n + 1) cap) (n + 1) (xs ++ item9 h vL vB vE) := by
  rcases hown.2 with ⟨e, _⟩ | ⟨g', cap', cur, e, hb, hg, h1, h2, h3, h4⟩
  · cases e
  · cases e
    obtain ⟨cur', k1, k2, k3⟩ := hst.blk cur hg
    refine ⟨by simp [item9]; omega, .inr ⟨g, cap, cur', rfl, hb, k1, h1, h2, by rw [k2]; exact h3, ?_⟩⟩
    have hc : ∀ j, w4.cell? ⟨g, j, none⟩ = cur'[j]? := Blk.cell k1
    apply List.ext_getElem?
    intro i
    rw [List.getElem?_take]
    by_cases hi1 : i < n * 9
    · rw [if_pos (by omega), List.getElem?_append_left (by omega), Array.getElem?_toList, k3 i (.inl hi1)]
      have h5 : (cur.toList.take ((n + 1) * 9))[i]? = (xs ++ zs)[i]? := by rw [h4]
      rw [List.getElem?_take, if_pos (by omega), List.getElem?_append_left (by omega), Array.getElem?_toList] at h5
      exact h5
    · by_cases hi2 : i < (n + 1) * 9
      · rw [if_pos hi2, List.getElem?_append_right (by omega), Array.getElem?_toList, ← hc i, hx]
        obtain ⟨c0, c1, c2, c3, c4, c5, c6, c7, c8⟩ := hi
        obtain ⟨j, rfl⟩ : ∃ j, i = n * 9 + j := ⟨i - n * 9, by omega⟩
        rw [Nat.add_sub_cancel_left]
        have hj : j = 0 ∨ j = 1 ∨ j = 2 ∨ j = 3 ∨ j = 4 ∨ j = 5 ∨ j = 6 ∨ j = 7 ∨ j = 8 := by omega
        rcases hj with rfl | rfl | rfl | rfl | rfl | rfl | rfl | rfl | rfl
        · exact c0
        · exact c1
        · exact c2
        · exact c3
        · exact c4
        · exact c5
        · exact c6
        · exact c7
        · exact c8
      · rw [if_neg hi2, List.getElem?_eq_none (by simp [item9]; omega)]
set_option maxRecDepth 100000 in
set_option maxHeartbeats 4000000 in
theorem list_of (lab : LabelsOk) (d : Nat) (ih : d < 40 → ListOk (d + 1)) : ListOk d := by
  intro P ad c bs p w h
  obtain ⟨i0, hi0, hz0, hz1, hz2⟩ := info_parts instr_info
  have h0 := Lib.hid h
  have hPs := h.size
  clear h
  replace ih := Lib.hid ih
  replace lab := Lib.hid lab
  go_enter Tryz.func235, Tryz.ntmps235
  go_wp2_with fail
  go_loopw [4] (fun v w' => LRel P ad c bs d p w v w') (fun _ w' => bs.length - atOf w' P)
  case atStart => exact ⟨p, .nil, [], h0.out, World.ownsRow_nil _ _ _ _, rfl, Kb.refl _ _, by cases M.dec (40 - d) (bs.drop p) <;> rfl, by simp [M.L.len]⟩
  case round =>
    obtain ⟨q, acc, xs, pl, own, its, kb, hdec, hlen⟩ := hrel
    have PL := Lib.hid pl
    have hatq := Lib.hid (atOf_eq pl)
    obtain ⟨c0, c1, c2, c3, c4, c5, c6, c7, c8, c9, c10, c11, c12, f1, f2, le, cap, small, deep, bytes, size⟩ := pl
    clear c2 c3 c4 c5 c6 c7 c8 c9 c10 c11 c12 f1 f2 bytes
    obtain ⟨cap1, cap2⟩ := cap
    unfold maxLen at cap2
    replace own := Lib.hid own
    replace its := Lib.hid its
    replace kb := Lib.hid kb
    replace hdec := Lib.hid hdec
    have fin := Lib.hid (show M.dec (40 - d) (bs.drop q) = some (.nil, bs.drop q) → ∀ n, ListPost P ad c bs d p w (.returned (.tuple #[u4, .bool true])) (wr.drewN n) from fun hs n => by
      refine .inl ⟨acc, bs.drop q, u4, q, by rw [hdec.out, hs]; simp [M.app_nil], rfl, drewN_place PL.out n, rfl, ?_, ⟨kb.out.os, kb.out.tape, kb.out.output, kb.out.size, kb.out.block⟩⟩
      refine ⟨xs, ownsRow_agree (ownsRow_base own.out (fun _ _ => Nat.zero_le _)) (fun _ _ => rfl), fun g hg => own.out.lt g hg, by omega, Items.agree (show Agree _ wr (wr.drewN n) from fun _ _ => rfl) (fun k hk => hk.1) acc xs its.out⟩)
    by_cases hq : q < bs.length
    · obtain ⟨ad', y, ea, hd, hy, hcell⟩ := PL.out.byte hq
      injection ea with ea
      subst ea
      have t1 : (q : Int) < (bs.length : Int) := by omega
      have t1' : decide ((q : Int) < (bs.length : Int)) = true := by simpa using t1
      have t1'' : decide (q < bs.length) = true := by simpa using hq
      by_cases h5 : y = 5
      · have n5 := Lib.hid (show nextB bs q 5 = true by unfold nextB; rw [hd, h5]; rfl)
        have hs := Lib.hid (fin.out (by rw [hd]; exact M.dec_stop _ _ _ (.inl h5)))
        clear fin hd h5 hcell
        go_wp2_with fail
        go_quiet ((go_at_call 256; exact next_t _ P (some ad) c bs q d 5 5 true PL.out (by omega) n5.out rfl _))
        go_wp2_with fail
        go_ret2
        exact hs.out nq
      · by_cases h11 : y = 11
        · have n5 := Lib.hid (show nextB bs q 5 = false by unfold nextB; rw [hd, h11]; rfl)
          have n11 := Lib.hid (show nextB bs q 11 = true by unfold nextB; rw [hd, h11]; rfl)
          have hs := Lib.hid (fin.out (by rw [hd]; exact M.dec_stop _ _ _ (.inr h11)))
          clear fin hd h5 h11 hcell
          go_wp2_with fail
          go_quiet (first | (go_at_call_of 256 (Value.int IntKind.u8 5); exact next_t _ P (some ad) c bs q d 5 5 false PL.out (by omega) n5.out rfl _) | (go_at_call_of 256 (Value.int IntKind.u8 11); exact next_t _ P (some ad) c bs q d 11 11 true PL.out (by omega) n11.out rfl _))
          go_wp2_with fail
          go_ret2
          exact hs.out nq
        · have n5 := Lib.hid (show nextB bs q 5 = false by unfold nextB; rw [hd]; simp [h5])
          have n11 := Lib.hid (show nextB bs q 11 = false by unfold nextB; rw [hd]; simp [h11])
          have hst := Lib.hid (M.dec_step (40 - d) y (bs.drop (q + 1)) (by omega))
          rw [← hd] at hst
          replace hd := Lib.hid hd
          clear fin hcell
          go_wp2_with fail
          go_quiet (first | (go_at_call_of 256 (Value.int IntKind.u8 5); exact next_t _ P (some ad) c bs q d 5 5 false PL.out (by omega) n5.out rfl _) | (go_at_call_of 256 (Value.int IntKind.u8 11); exact next_t _ P (some ad) c bs q d 11 11 false PL.out (by omega) n11.out rfl _))
          have PL2 := Lib.hid (drewN_place PL.out nq)
          have own2 := Lib.hid (show (wr.drewN nq).ownsRow w.heap.size 68 9 u4 acc.len xs from ownsRow_agree own.out (fun _ _ => rfl))
          have its2 := Lib.hid (show Items (wr.drewN nq) (fun k => (w.heap.size ≤ k ∧ k < (wr.drewN nq).heap.size) ∧ u4.ownBlock ≠ some k) acc xs from Items.agree (show Agree _ wr (wr.drewN nq) from fun _ _ => rfl) (fun k hk => hk) acc xs its.out)
          have kb2 := Lib.hid (show Kb (· = P) w (wr.drewN nq) from ⟨kb.out.os, kb.out.tape, kb.out.output, kb.out.size, kb.out.block⟩)
          have hsz : P < (wr.drewN nq).heap.size := size
          clear own its kb PL c0 c1 size
          generalize wr.drewN nq = w1 at PL2 own2 its2 kb2 hsz ⊢
          have hws : w.heap.size ≤ w1.heap.size := kb2.out.size
          go_wp2_with (first
            | (at_builtin; refine wpList_append_lies _ rfl _ _ 62 rfl w.heap.size 68 i0 (.agg zero9) 9 120 Tryz.underlying62 hi0 hz0 hz1 hz2 rfl (by decide) u4 acc.len xs rfl (own2.out.alloc _) ⟨w1.heap.size, 0, none⟩ 1 1 zero9.toList rfl rfl (World.news_of_block (cs := zero9) (t := 68) (fr := (0, 0)) (heap_alloc_new w1 _)) (by decide) (by omega) (by unfold maxLen; omega) (by omega) (by simp; omega) (w1.heap.size + 1) (by simp) ?_; intro g cap w3 hown3 hgrow3 hat3 hlt3))
          have hxl : xs.length = acc.len * 9 := own2.out.1
          have hu4 : ∀ k, u4.ownBlock = some k → w.heap.size ≤ k ∧ k < w1.heap.size := fun k hk => own2.out.lt k hk
          have hPg : P < g := by
            rcases hat3 with h9 | h9
            · have := (hu4 g h9).1; omega
            · omega
          have hold : ∀ k, k < w1.heap.size → u4.ownBlock ≠ some k → w3.heap[k]? = w1.heap[k]? := fun k hk hne => by
            rw [hgrow3.block k (by simp; omega) (fun e => hne e.symm)]
            exact Below.heap_alloc _ _ _ hk
          have hw13 : w1.heap.size ≤ w3.heap.size := by have := hgrow3.size; simp at this; omega
          have pl3 : PlaceAt w3 P (some ad) c bs q d := PL2.out.agree (fun k hk => hold k (by omega) (fun e => by have := (hu4 k e).1; omega)) hw13
          have hcells := fun j u hu => hown3.cells (g := g) rfl j u hu
          have hz : ∀ j u, zero9[j]? = some u → w3.cell? ⟨g, acc.len * 9 + j, none⟩ = some u := fun j u hu => by
            have := hcells (acc.len * 9 + j) u (by rw [List.getElem?_append_right (by omega), hxl, Nat.add_sub_cancel_left, Array.getElem?_toList]; exact hu)
            rwa [add_none, Nat.zero_add] at this
          have it3 : ItemAt w3 g (acc.len * 9) (M.hd0 0) (.slice none 0 0) (.slice none 0 0) (.slice none 0 0) := ⟨hz 0 _ rfl, hz 1 _ rfl, hz 2 _ rfl, hz 3 _ rfl, hz 4 _ rfl, hz 5 _ rfl, hz 6 _ rfl, hz 7 _ rfl, hz 8 _ rfl⟩
          have blk3 : ∃ cur, Blk w3 g cur := by
            rcases hown3.2 with ⟨e, _⟩ | ⟨g', cap', cur, e, _, hg, _⟩
            · cases e
            · cases e; exact ⟨cur, hg⟩
          refine (instr_of lab.out P ad c bs d q g (acc.len * 9) y w3 ih.out pl3 hd.out hq hPg it3 blk3).mono ?_
          rintro e1 w4 (⟨s', q', vL, vB, vE, hres, rfl, hrs, hstp⟩ | ⟨hres, rfl, hpl', hstp⟩)
          · obtain ⟨⟨⟨h, b, e⟩, r⟩, hins, hs'⟩ := Option.bind_eq_some_iff.1 hres
            cases hs'
            have hrest : r = bs.drop q' := hrs.rest
            have hless := M.ins_less (M.sub_less (40 - d)) hins
            simp only [hrest, List.length_drop] at hless
            have hq' := hrs.place.le
            have hg4 : w3.heap.size ≤ w4.heap.size := hstp.kb.size
            have own4 := Lib.hid (row_after hown3 hxl hstp hrs.item)
            have same : ∀ k, k < w1.heap.size → u4.ownBlock ≠ some k → k ≠ P → k ≠ g → w4.heap[k]? = w1.heap[k]? := fun k hk h1 h2 h3 => by
              rw [hstp.kb.block k (by omega) (by omega)]
              exact hold k hk h1
            have hgb : w.heap.size ≤ g := by
              rcases hat3 with h9 | h9
              · exact (hu4 g h9).1
              · omega
            have itsA : Items w4 (fun k => (w.heap.size ≤ k ∧ k < w4.heap.size) ∧ (Value.slice (some ⟨g, 0, none⟩) (acc.len + 1) cap).ownBlock ≠ some k) acc xs := by
              refine Items.agree (show Agree (fun k => (w.heap.size ≤ k ∧ k < w1.heap.size) ∧ u4.ownBlock ≠ some k) w1 w4 from fun k hk => same k hk.1.2 hk.2 (by have := hk.1.1; omega) ?_) (fun k hk => ⟨⟨hk.1.1, by have := hk.1.2; omega⟩, ?_⟩) acc xs its2.out
              · rcases hat3 with h9 | h9
                · intro e9; exact hk.2 (by rw [h9, e9])
                · have := hk.1.2; omega
              · intro e9
                have e9 : g = k := by simpa [Value.ownBlock] using e9
                rcases hat3 with h9 | h9
                · exact hk.2 (by rw [h9, e9])
                · have := hk.1.2; omega
            have hmn : ∀ k, Since w3.heap.size w4 k → (w.heap.size ≤ k ∧ k < w4.heap.size) ∧ (Value.slice (some ⟨g, 0, none⟩) (acc.len + 1) cap).ownBlock ≠ some k := fun k hk => ⟨⟨by have := hk.1; omega, hk.2⟩, fun e9 => by
              have e9 : g = k := by simpa [Value.ownBlock] using e9
              have := hk.1; omega⟩
            have its4 := Lib.hid (Items.app hrs.rng (hrs.own.agree (fun _ _ => rfl) hmn) (hrs.ownB.agree (fun _ _ => rfl) hmn) (hrs.ownE.agree (fun _ _ => rfl) hmn) acc xs itsA)
            have kb4 := Lib.hid (show Kb (· = P) w w4 from ⟨(hstp.kb.os.trans hgrow3.os).trans kb2.out.os, (hstp.kb.tape.trans hgrow3.tape).trans kb2.out.tape, (hstp.kb.output.trans hgrow3.output).trans kb2.out.output, by omega, fun k hk hne => (same k (by omega) (fun e9 => by have := (hu4 k e9).1; omega) hne (by omega)).trans (kb2.out.block k hk hne)⟩)
            have pl4 := Lib.hid hrs.place
            have hdec4 := Lib.hid (show M.dec (40 - d) (bs.drop p) = (M.dec (40 - d) (bs.drop q')).bind (fun x => some ((acc.app (.cons h b e .nil)).app x.1, x.2)) by
              rw [hdec.out, hst.out, hins, hrest]
              simp only [Option.bind_some, Option.bind_assoc, M.app_assoc]
              rfl)
            have hl4 : (acc.app (.cons h b e .nil)).len = acc.len + 1 := by rw [M.app_len]; rfl
            clear hrs hstp hins hres same itsA hmn hold hcells hz it3 blk3 pl3 hown3 hgrow3
            replace hl4 := Lib.hid hl4
            replace hrest := Lib.hid hrest
            go_wp2_with fail
            refine ⟨⟨q', acc.app (.cons h b e .nil), _, pl4.out, by rw [hl4.out]; exact own4.out, its4.out, kb4.out, hdec4.out, by rw [hl4.out]; omega⟩, ?_⟩
            rw [atOf_eq pl4.out, hatq.out]
            omega
          · have hins : M.ins (M.subOf (40 - d)) y (bs.drop (q + 1)) = none := by
              cases hi : M.ins (M.subOf (40 - d)) y (bs.drop (q + 1)) with
              | none => rfl
              | some x => rw [hi] at hres; cases hres
            have hnone := Lib.hid (show M.dec (40 - d) (bs.drop p) = none by rw [hdec.out, hst.out, hins]; rfl)
            have hgb : w.heap.size ≤ g := by
              rcases hat3 with h9 | h9
              · exact (hu4 g h9).1
              · omega
            have hg4 : w3.heap.size ≤ w4.heap.size := hstp.kb.size
            have kb4 := Lib.hid (show Kb (· = P) w w4 from ⟨(hstp.kb.os.trans hgrow3.os).trans kb2.out.os, (hstp.kb.tape.trans hgrow3.tape).trans kb2.out.tape, (hstp.kb.output.trans hgrow3.output).trans kb2.out.output, by omega, fun k hk hne => by
              rw [hstp.kb.block k (by omega) (by omega), hold k (by omega) (fun e9 => by have := (hu4 k e9).1; omega)]
              exact kb2.out.block k hk hne⟩)
            replace hpl' := Lib.hid hpl'
            clear hstp hins hres hold hcells hz it3 blk3 pl3 hown3 hgrow3
            go_wp2_with fail
            go_ret2
            exact .inr ⟨hnone.out, rfl, hpl'.out, kb4.out⟩
    · have hs := Lib.hid (fin.out (by rw [List.drop_eq_nil_of_le (by omega)]; exact M.dec_nil _))
      have t1' : decide ((q : Int) < (bs.length : Int)) = false := by simp; omega
      have t1'' : decide (q < bs.length) = false := by simpa using hq
      clear fin
      go_wp2_with fail
      go_quiet (fail)
      go_wp2_with fail
      go_ret2
      exact hs.out nq
end Go.Proofs.YtilaheifccjjeaaGreat
namespace Go.Proofs.YtilaheifccjjeaaGreat
open Go.RowKit
theorem after_num {P : Nat} {ad : Addr} {c : Nat} {bs : List Nat} {d p q g o base : Nat} {s : M.Stt} {w w1 w2 : World} {vL vB vE : Value} {x : Int} {r : List Nat} (h : RS P (some ad) c bs d g o base s w p vL vB vE)
    (b1 : Below (w.alloc (.cells #[.int .i64 0] 3)).heap.size (w.alloc (.cells #[.int .i64 0] 3)) w1) (hq : q ≤ bs.length) (hr : r = bs.drop q) (hw2 : w2 = (w1.setCell ⟨w.heap.size, 0, none⟩ (.int .i64 x)).setCell ⟨P, 1, none⟩ (.int .i64 (q : Nat))) :
    Kb (· = P) w w2 ∧ Step P g o w w2 ∧ RS P (some ad) c bs d g o base { s with r := r } w2 q vL vB vE ∧ w2.cell? ⟨w.heap.size, 0, none⟩ = some (.int .i64 x) ∧ w.heap.size < w2.heap.size := by
  subst hw2
  have hPs := h.place.size
  have hPg := h.apart
  have hsz : w.heap.size < w1.heap.size := by have := b1.size; simp at this; omega
  have d1 : Below w.heap.size w w1 := ((Below.refl _ _).alloc (Nat.le_refl _) _).trans (b1.mono (by simp))
  have kb : Kb (· = P) w ((w1.setCell ⟨w.heap.size, 0, none⟩ (.int .i64 x)).setCell ⟨P, 1, none⟩ (.int .i64 (q : Nat))) :=
    ⟨d1.os, d1.tape, d1.output, by simp; omega, fun k hk hne => by
      rw [Below.heap_setCell _ _ _ _ (by exact hne), Below.heap_setCell _ _ _ _ (by show k ≠ w.heap.size; omega)]
      exact d1.block k hk⟩
  have st : Step P g o w _ := Step.of_kb (o := o) kb h.lt (by omega)
  have p1 : PlaceAt w1 P (some ad) c bs p d := h.place.agree (fun k hk => d1.block k (by omega)) d1.size
  have p2 : PlaceAt (w1.setCell ⟨w.heap.size, 0, none⟩ (.int .i64 x)) P (some ad) c bs p d := p1.agree (fun k hk => Below.heap_setCell _ _ _ _ (by show k ≠ w.heap.size; omega)) (by simp)
  have c1 : w1.cell? ⟨w.heap.size, 0, none⟩ = some (.int .i64 0) := by rw [b1.cell (p := ⟨w.heap.size, 0, none⟩) (by simp)]; simp
  refine ⟨kb, st, h.step st (p2.move q hq) hr (h.item.agree (kb.block g h.lt (by omega))) h.rng rfl rfl rfl, ?_, by simpa using hsz⟩
  rw [World.cell?_of_block (w := w1.setCell ⟨w.heap.size, 0, none⟩ (.int .i64 x)) (Below.heap_setCell _ _ _ _ (by show w.heap.size ≠ P; omega))]
  exact World.cell?_setCell_same _ _ _ c1
end Go.Proofs.YtilaheifccjjeaaGreat
namespace Go.Proofs.YtilaheifccjjeaaGreat
open Go.RowKit
theorem int_info : (Tryz.prog.info? 3).map (fun i => (i.zero, i.size, i.bytes)) = some (some (.int .i64 0), 1, 8) := by kernel_rfl
/-- A row that is new since w has grown. -/
theorem Step.grown {P g o : Nat} {w w3 w5 : World} {ob : Obj} {row : Option Nat} (st : Step P g o w w3) (hg : g < w.heap.size) (hgr : (w3.alloc ob).grownBy w5 row) (hrow : ∀ k, row = some k → w.heap.size ≤ k) : Step P g o w w5 := by
  have hs := st.kb.size
  have same : ∀ k, k < w.heap.size → w5.heap[k]? = w3.heap[k]? := fun k hk => by
    rw [hgr.block k (by simp; omega) (fun e => by have := hrow k e.symm; omega)]
    exact Below.heap_alloc _ _ _ (by omega)
  refine ⟨⟨hgr.os.trans st.kb.os, hgr.tape.trans st.kb.tape, hgr.output.trans st.kb.output, by have := hgr.size; simp at this; omega, fun k hk ht => (same k hk).trans (st.kb.block k hk ht)⟩, fun cur hc => ?_⟩
  obtain ⟨cur', h1, h2, h3⟩ := st.blk cur hc
  exact ⟨cur', by unfold Blk at *; rw [same g hg]; exact h1, h2, h3⟩
theorem grown_drew {w w' : World} {row : Option Nat} (h : w.drew.grownBy w' row) : w.grownBy w' row := ⟨h.os, h.tape, h.output, h.size, h.block⟩
/-- What the loop over the labels keeps up. -/
def LabRel (P : Nat) (ad : Addr) (c : Nat) (bs : List Nat) (d g o base : Nat) (s : M.Stt) (m : Nat) (r0 : List Nat) (w : World) (i : Value) (w' : World) : Prop :=
  ∃ (j q : Nat) (done : List Int) (vL : Value), j ≤ m ∧ i = .int .i64 (j : Nat) ∧ RS P (some ad) c bs d g o base ⟨bs.drop q, { s.h with labels := done }, .nil, .nil⟩ w' q vL (.slice none 0 0) (.slice none 0 0) ∧ Step P g o w w' ∧ done.length = j ∧ j ≤ q ∧
    M.nums m r0 = (M.nums (m - j) (bs.drop q)).bind (fun t => some (done ++ t.1, t.2)) ∧ (∀ k, vL.ownBlock = some k → w.heap.size ≤ k)
theorem lab_put {P : Nat} {ad : Addr} {c : Nat} {bs : List Nat} {d g o base q : Nat} {h : M.Hd} {done : List Int} {x : Int} {w w3 w5 : World} {ob : Obj} {vL' : Value} {gg cap : Nat} (hglt : g < w.heap.size) (hbase : base ≤ w.heap.size)
    (rs : RS P (some ad) c bs d g o base ⟨bs.drop q, { h with labels := done }, .nil, .nil⟩ w3 q vL' (.slice none 0 0) (.slice none 0 0)) (st : Step P g o w w3) (hx : M.inR x) (hlen : done.length + 1 ≤ 100000)
    (hown : w5.ownsRow 0 3 1 (.slice (some ⟨gg, 0, none⟩) (done.length + 1) cap) (done.length + 1) (nvals done ++ [.int .i64 x])) (hgr : (w3.alloc ob).grownBy w5 vL'.ownBlock) (hat : vL'.ownBlock = some gg ∨ gg = w3.heap.size + 1) (hlt : gg < w5.heap.size) (hrow : ∀ k, vL'.ownBlock = some k → w.heap.size ≤ k) :
    RS P (some ad) c bs d g o base ⟨bs.drop q, { h with labels := done ++ [x] }, .nil, .nil⟩ (w5.setCell ⟨g, o + 6, none⟩ (.slice (some ⟨gg, 0, none⟩) (done.length + 1) cap)) q (.slice (some ⟨gg, 0, none⟩) (done.length + 1) cap) (.slice none 0 0) (.slice none 0 0) ∧
      Step P g o w (w5.setCell ⟨g, o + 6, none⟩ (.slice (some ⟨gg, 0, none⟩) (done.length + 1) cap)) ∧ w.heap.size ≤ gg := by
  have hs := st.kb.size
  have hPg := rs.apart
  have hgg : w.heap.size ≤ gg := by
    rcases hat with h9 | h9
    · exact hrow gg h9
    · omega
  have s5 : Step P g o w w5 := st.grown hglt hgr hrow
  have s6 : Step P g o w (w5.setCell ⟨g, o + 6, none⟩ (.slice (some ⟨gg, 0, none⟩) (done.length + 1) cap)) := s5.trans (Step.set w5 6 _ (by decide))
  have same : ∀ k, k < w.heap.size → w5.heap[k]? = w3.heap[k]? := fun k hk => by
    rw [hgr.block k (by simp; omega) (fun e => by have := hrow k e.symm; omega)]
    exact Below.heap_alloc _ _ _ (by omega)
  have hw5 : w3.heap.size ≤ w5.heap.size := by have := hgr.size; simp at this; omega
  have p5 : PlaceAt w5 P (some ad) c bs q d := rs.place.agree (fun k hk => same k (by omega)) hw5
  have p6 : PlaceAt (w5.setCell ⟨g, o + 6, none⟩ (.slice (some ⟨gg, 0, none⟩) (done.length + 1) cap)) P (some ad) c bs q d := p5.agree (fun k hk => Below.heap_setCell _ _ _ _ (by show k ≠ g; omega)) (by simp)
  have i5 : ItemAt w5 g o { h with labels := done } vL' (.slice none 0 0) (.slice none 0 0) := rs.item.agree (same g hglt)
  have i6 := i5.put6 (.slice (some ⟨gg, 0, none⟩) (done.length + 1) cap)
  obtain ⟨c0, c1, c2, c3, c4, c5, c6, c7, c8⟩ := i6
  obtain ⟨cur, hcur⟩ := rs.blk
  have hb5 : Blk w5 g cur := by unfold Blk at *; rw [same g hglt]; exact hcur
  refine ⟨⟨p6, rfl, ⟨c0, c1, c2, c3, c4, c5, c6, c7, c8⟩, ⟨_, heap_setCell_row hb5 _⟩, hPg, ⟨rs.old.1, rs.old.2.1, by simp; omega⟩, ⟨rs.rng.r0, rs.rng.r1, rs.rng.r2, rs.rng.r3, rs.rng.r4, rs.rng.r5⟩, ⟨?_, ?_, by simpa using hlen, ?_⟩, OwnL.nil _ _, OwnL.nil _ _⟩, s6, hgg⟩
  · have e1 : nvals (done ++ [x]) = nvals done ++ [.int .i64 x] := by simp [nvals]
    have e2 : (done ++ [x]).length = done.length + 1 := by simp
    simp only [e1, e2]
    exact ownsRow_agree hown fun k hk => Below.heap_setCell _ _ _ _ (by have hk : gg = k := by simpa [Value.ownBlock] using hk
                                                                        show k ≠ g; omega)
  · intro k hk
    have hk : gg = k := by simpa [Value.ownBlock] using hk
    subst hk
    exact ⟨by omega, by simpa using hlt⟩
  · intro y hy
    rcases List.mem_append.1 hy with hy | hy
    · exact rs.own.rng y hy
    · have : y = x := by simpa using hy
      subst this
      unfold M.inR at hx
      omega
set_option maxRecDepth 100000 in
set_option maxHeartbeats 4000000 in
theorem labels_any : LabelsOk := by
  intro P ad c bs d g o base sub s w p vL vB vE h hlab hnil
  obtain ⟨rfl, rfl, rfl, hsb, hse⟩ := hnil
  obtain ⟨i0, hi0, hz0, hz1, hz2⟩ := info_parts int_info
  have h0 := Lib.hid h
  have hPg := h.apart
  have hr := Lib.hid h.rest
  have hpl := Lib.hid h.place
  have hglt := h.lt
  have hbase := h.old.2.2
  have hPs := h.place.size
  have hsm := h.place.small
  replace hlab := Lib.hid hlab
  replace hsb := Lib.hid hsb
  replace hse := Lib.hid hse
  clear h
  have pl1 : PlaceAt (w.alloc (.cells #[.int .i64 0] 3)) P (some ad) c bs p d := hpl.out.agree (fun k hk => Below.heap_alloc _ _ _ (by omega)) (by simp)
  cases hn : M.num (bs.drop p) with
  | none =>
    have hres := Lib.hid (show M.rdPart sub 1 s = none by simp only [M.rdPart, hr.out, hn]; rfl)
    replace hn := Lib.hid hn
    replace pl1 := Lib.hid pl1
    go_enter Tryz.func247, Tryz.ntmps247
    go_wp2_with fail
    refine (number_no _ P ad c bs p d _ pl1.out hn.out).mono ?_
    rintro e1 w1 ⟨rfl, b1⟩
    have b2 := Lib.hid (((Below.refl w.heap.size w).alloc (Nat.le_refl _) (.cells #[.int .i64 0] 3)).trans (b1.mono (by simp)))
    clear b1
    go_wp2_with fail
    go_ret
    exact .inr ⟨hres.out, rfl, ⟨p, hpl.out.agree (fun k hk => b2.out.block k (by omega)) b2.out.size⟩, Step.of_kb (.of_below b2.out) hglt (by omega)⟩
  | some x =>
    obtain ⟨v, r⟩ := x
    have hv := (M.num_short hn).1
    unfold M.inR at hv
    obtain ⟨v0, v1⟩ := hv
    obtain ⟨m, rfl⟩ := Int.eq_ofNat_of_zero_le v0
    have hres := Lib.hid (show M.rdPart sub 1 s = (M.nums m r).bind fun t => some { s with r := t.2, h := { s.h with labels := t.1 } } by simp only [M.rdPart, hr.out, hn]; rfl)
    replace hn := Lib.hid hn
    replace pl1 := Lib.hid pl1
    go_enter Tryz.func247, Tryz.ntmps247
    go_wp2_with fail
    refine (number_yes _ P (some ad) c bs p d w.heap.size 0 (.int .i64 0) m r pl1.out (by omega) (by simp) (by simp) hn.out).mono ?_
    rintro e1 w2 ⟨rfl, q, w1, hq, hrq, b1, hw2⟩
    obtain ⟨_, st2, rs2, cC, _⟩ := after_num h0.out b1 hq hrq hw2
    have rel0 := Lib.hid (show LabRel P ad c bs d g o base s m r w (.int .i64 (0 : Nat)) w2 from ⟨0, q, [], _, by omega, rfl, by
      have e : (⟨bs.drop q, { s.h with labels := [] }, .nil, .nil⟩ : M.Stt) = { s with r := r } := by
        have h1 := hsb.out
        have h2 := hse.out
        have h3 := hlab.out
        cases s with
        | mk a hh b e =>
          cases hh
          simp only at h1 h2 h3
          subst h1 h2 h3 hrq
          rfl
      rw [e]; exact rs2, st2, rfl, by omega, by rw [hrq]; cases M.nums m (bs.drop q) <;> rfl, fun k hk => by cases hk⟩)
    clear b1 hw2 pl1 rs2 st2 hrq
    go_wp2_with fail
    go_loopw [6, 11] (fun _ i w' => LabRel P ad c bs d g o base s m r w i w') (fun _ i _ => m - (intOf i).toNat)
    case atStart => exact rel0.out
    case round =>
      obtain ⟨j, q', done, vL', hj, rfl, rs, st, hdl, hjq, hnums, hrow⟩ := hrel
      have RSr := Lib.hid rs
      replace st := Lib.hid st
      replace hnums := Lib.hid hnums
      replace hrow := Lib.hid hrow
      have hwr : w.heap.size ≤ wr.heap.size := st.out.kb.size
      clear rel0 rs
      by_cases hlt : j < m
      · have pl5 : PlaceAt (wr.alloc (.cells #[.int .i64 0] 3)) P (some ad) c bs q' d := RSr.out.place.agree (fun k hk => Below.heap_alloc _ _ _ (by omega)) (by simp)
        replace pl5 := Lib.hid pl5
        have hwP : wr.heap.size ≠ P := by omega
        cases hx : M.num (bs.drop q') with
        | none =>
          have hnone := Lib.hid (show M.rdPart sub 1 s = none by
            rw [hres.out, hnums.out, show m - j = (m - (j + 1)) + 1 by omega, M.nums, hx]; rfl)
          replace hx := Lib.hid hx
          go_wp2_with fail
          refine (number_no _ P ad c bs q' d _ pl5.out hx.out).mono ?_
          rintro e1 w3 ⟨rfl, b3⟩
          have b4 := Lib.hid (((Below.refl wr.heap.size wr).alloc (Nat.le_refl _) (.cells #[.int .i64 0] 3)).trans (b3.mono (by simp)))
          clear b3
          go_wp2_with fail
          go_ret
          exact .inr ⟨hnone.out, rfl, ⟨q', RSr.out.place.agree (fun k hk => b4.out.block k (by omega)) b4.out.size⟩, st.out.trans (Step.of_kb (.of_below b4.out) (by omega) (by omega))⟩
        | some xr =>
          obtain ⟨x, r2⟩ := xr
          have hxr := Lib.hid (M.num_short hx).1
          have hsh := (M.num_short hx).2.2
          have hnums2 := Lib.hid (show M.nums m r = (M.nums (m - (j + 1)) r2).bind (fun t => some ((done ++ [x]) ++ t.1, t.2)) by
            rw [hnums.out, show m - j = (m - (j + 1)) + 1 by omega, M.nums, hx]
            simp only [Option.bind_some, Option.bind_assoc]
            congr 1
            funext t
            simp)
          replace hx := Lib.hid hx
          go_wp2_with fail
          refine (number_yes _ P (some ad) c bs q' d wr.heap.size 0 (.int .i64 0) x r2 pl5.out hwP (by simp) (by simp) hx.out).mono ?_
          rintro e1 w3 ⟨rfl, q2, w4, hq2, hrq2, b4, hw3⟩
          obtain ⟨_, st3, rs3, cD, hDl⟩ := after_num RSr.out b4 hq2 hrq2 hw3
          have hq2q : j + 1 ≤ q2 := by
            rw [hrq2] at hsh
            simp only [List.length_drop] at hsh
            omega
          have c6 : w3.cell? ⟨g, o + 6, none⟩ = some vL' := rs3.item.c6
          obtain ⟨cur3, hcur3⟩ := rs3.blk
          have f6 : w3.frozen? ⟨g, o + 6, none⟩ = false := hcur3.frozen _
          have own := Lib.hid (show w3.ownsRow 0 3 1 vL' done.length (nvals done) from rs3.own.row)
          have hgl : g < w3.heap.size := rs3.lt
          have hne : ∀ k, vL'.ownBlock = some k → k ≠ g := fun k hk => by have := hrow.out k hk; omega
          replace hne := Lib.hid hne
          subst hrq2
          have st3' := Lib.hid (st.out.trans st3)
          have rs3' := Lib.hid (show RS P (some ad) c bs d g o base ⟨bs.drop q2, { s.h with labels := done }, .nil, .nil⟩ w3 q2 vL' (.slice none 0 0) (.slice none 0 0) from rs3)
          have fin := Lib.hid (fun gg cap w5 ob hown hgr hat hlt5 => lab_put (gg := gg) (cap := cap) (w5 := w5) (ob := ob) hglt hbase rs3'.out st3'.out hxr.out (by omega) hown hgr hat hlt5 hrow.out)
          clear b4 hw3 rs3 st3 hcur3 pl5 hsh
          go_wp2_with fail
          go_region_law (refine step_append_lies _ (by rfl) _ _ _ (by rfl) 0 3 i0 _ 1 8 Tryz.underlying52 hi0 hz0 hz1 hz2 rfl (by omega) vL' done.length (nvals done) (by rfl) (by first | exact own.out.alloc _ | exact ownsRow_agree (own.out.alloc (.cells #[.int .i64 x] 3)) (fun _ _ => rfl)) ⟨w3.heap.size, 0, none⟩ 1 1 [.int .i64 x] (by rfl) (by rfl) (World.news_of_block (cs := #[.int .i64 x]) (t := 3) (fr := (0, 0)) (heap_alloc_new w3 _)) (by simp [Value.oneCell']) (by omega) (by unfold maxLen; omega) (by omega) (by omega) (w3.heap.size + 1) (by simp) ?_; intro gg cap w5 hown5 hgrow5 hat5 hlt5; have hb5 : w5.heap[g]? = w3.heap[g]? := (hgrow5.block g (by simp; omega) (fun e => (hne.out g e.symm) rfl)).trans (Below.heap_alloc w3 (.cells #[.int .i64 x] 3) g hgl); have c65 : w5.cell? ⟨g, o + 6, none⟩ = some vL' := (World.cell?_of_block (w := w3) hb5).trans c6; have f65 : w5.frozen? ⟨g, o + 6, none⟩ = false := (World.frozen?_of_block (w := w3) hb5).trans f6; clear hb5)
          all_goals go_wp2_with fail
          all_goals (
            have F := fin.out gg cap w5 (.cells #[.int .i64 x] 3) hown5 (grown_drew hgrow5) hat5 hlt5
            rw [hdl] at F
            exact ⟨⟨j + 1, q2, done ++ [x], _, by omega, by go_num, F.1, F.2.1, by simp [hdl], hq2q, hnums2.out, fun k hk => by
              have hk : gg = k := by simpa [Value.ownBlock] using hk
              have := F.2.2; omega⟩, by simp [intOf]; omega⟩)
      · have hjm : j = m := by omega
        have hsome := Lib.hid (show M.rdPart sub 1 s = some ⟨bs.drop q', { s.h with labels := done }, .nil, .nil⟩ by
          rw [hres.out, hnums.out, hjm, Nat.sub_self, M.nums, Option.bind_some, Option.bind_some, List.append_nil, hsb.out, hse.out])
        replace hjm := Lib.hid hjm
        have tlt : decide ((j : Int) < (m : Int)) = false := by simp; omega
        go_wp2_with fail
        go_ret
        exact .inl ⟨_, q', vL', _, _, hsome.out, rfl, RSr.out, st.out⟩
end Go.Proofs.YtilaheifccjjeaaGreat
namespace Go.Proofs.YtilaheifccjjeaaGreat
open Go.RowKit
set_option maxRecDepth 100000 in
set_option maxHeartbeats 4000000 in
theorem newPlace_any (A : Option Addr) (c : Nat) (bs : List Nat) (w : World) (hb : Bytes w w.heap.size A bs.length (M.bf bs)) (hc : bs.length ≤ c ∧ c ≤ maxLen) (hs : bs.length ≤ 100000) :
    Calls Tryz.prog 234 #[.slice A bs.length c] w fun e w' => e = .returned (.pointer (some ⟨w.heap.size, 0, none⟩)) ∧ PlaceAt w' w.heap.size A c bs 0 0 ∧ Below w.heap.size w w' := by
  replace hb := Lib.hid hb
  replace hc := Lib.hid hc
  go_enter Tryz.func234, Tryz.ntmps234
  go_wp2_with fail
  go_ret
  have hbel : ∀ o : Obj, Below w.heap.size w (w.alloc o) := fun o => (Below.refl _ _).alloc (Nat.le_refl _) o
  refine ⟨rfl, ⟨?_, ?_, ?_, ?_, ?_, ?_, ?_, ?_, ?_, ?_, ?_, ?_, ?_, ?_, ?_, Nat.zero_le _, hc.out, hs, by omega, hb.out.below (hbel _) (Nat.le_refl _), by simp⟩, hbel _⟩
  all_goals simp
set_option maxRecDepth 100000 in
theorem list_nil (P : Nat) (A : Option Addr) (c : Nat) (w : World) (h : PlaceAt w P A c [] 0 0) :
    Calls Tryz.prog 235 #[.pointer (some ⟨P, 0, none⟩)] w fun e w' => e = .returned (.tuple #[.slice none 0 0, .bool true]) ∧ ∃ n, w' = w.drewN n := by
  have c0 := h.c0
  have c1 := h.c1
  have hsz := h.size
  simp only [List.length_nil] at c0
  clear h
  go_enter Tryz.func235, Tryz.ntmps235
  go_wp2_with fail
  go_loopw [4] (fun v w' => v = .slice none 0 0 ∧ w' = w) (fun _ w' => 0)
  case atStart => exact ⟨rfl, rfl⟩
  case round =>
    obtain ⟨rfl, rfl⟩ := hrel
    go_wp2_with fail
    go_quiet (fail)
    go_wp2_with fail
    go_ret2
    exact ⟨rfl, nq, rfl⟩
end Go.Proofs.YtilaheifccjjeaaGreat
namespace Go.Proofs.YtilaheifccjjeaaGreat
open Go.RowKit
theorem list_any : ∀ (k d : Nat), d + k = 40 → ListOk d := by
  intro k
  induction k with
  | zero => intro d hd; exact list_of labels_any d (fun h => by omega)
  | succ k ih => intro d hd; exact list_of labels_any d (fun h => ih (d + 1) (by omega))
def DecPost (bs : List Nat) (w : World) (e : Ending) (w' : World) : Prop :=
  (∃ l n v, M.expr bs = some (l, n) ∧ e = .returned (.tuple #[v, .int .i64 (n : Nat), .int .i64 0]) ∧ OwnL w' (Since w.heap.size w') v l ∧ Below w.heap.size w w') ∨
  (M.expr bs = none ∧ e = .returned (.tuple #[.slice none 0 0, .int .i64 0, .int .i64 100]) ∧ Below w.heap.size w w')
theorem Kb.below {P : Nat} {w w' : World} (h : Kb (· = P) w w') {B : Nat} (hB : B ≤ P) (hs : B ≤ w.heap.size) : Below B w w' := ⟨h.os, h.tape, h.output, h.size, fun k hk => h.block k (by omega) (by omega)⟩
set_option maxRecDepth 100000 in
set_option maxHeartbeats 4000000 in
theorem Decode_any (v : Value) (bs : List Nat) (w : World) (hb : BS w w.heap.size v bs) (hs : bs.length ≤ 100000) : Calls Tryz.prog 211 #[v] w (DecPost bs w) := by
  obtain ⟨A, c, rfl, h1, h2, hB⟩ := hb
  replace hB : Bytes w w.heap.size A bs.length (M.bf bs) := hB
  by_cases h0 : bs = []
  · subst h0
    have he := Lib.hid (show M.expr [] = none by unfold M.expr; rw [M.dec_nil]; rfl)
    replace hB := Lib.hid hB
    go_enter Tryz.func211, Tryz.ntmps211
    go_wp2_with fail
    refine (newPlace_any A c [] _ hB.out ⟨h1, h2⟩ hs).mono ?_
    rintro e1 w1 ⟨rfl, pl, b1⟩
    replace pl := Lib.hid pl
    replace b1 := Lib.hid b1
    go_wp2_with fail
    refine (list_nil _ A c _ pl.out).mono ?_
    rintro e2 w2 ⟨rfl, n2, hw2⟩
    have pl2 := Lib.hid (show PlaceAt w2 w.heap.size A c [] 0 0 by rw [hw2]; exact drewN_place pl.out n2)
    have b2 := Lib.hid (show Below w.heap.size w w2 by rw [hw2]; exact below_drewN b1.out n2)
    clear hw2
    go_wp2_with fail
    refine (fixed_any _ _ A c [] 0 0 11 pl2.out (by omega)).mono ?_
    rintro e3 w3 (⟨hb, _⟩ | ⟨hb, rfl, pl3, kb⟩)
    · exact absurd hb (by decide)
    · have b3 := Lib.hid (b2.out.trans (kb.below (Nat.le_refl _) b2.out.size))
      clear kb pl3 hb
      go_wp2_with fail
      go_ret3
      exact .inr ⟨he.out, rfl, b3.out⟩
  · obtain ⟨ad, rfl⟩ : ∃ ad, A = some ad := by
      obtain ⟨ad, e, _⟩ := hB 0 (by cases bs with | nil => exact absurd rfl h0 | cons => simp)
      exact ⟨ad, e⟩
    clear h0
    replace hB := Lib.hid hB
    go_enter Tryz.func211, Tryz.ntmps211
    go_wp2_with fail
    refine (newPlace_any (some ad) c bs _ hB.out ⟨h1, h2⟩ hs).mono ?_
    rintro e1 w1 ⟨rfl, pl, b1⟩
    have hs1 : w.heap.size < w1.heap.size := pl.size
    replace pl := Lib.hid pl
    replace b1 := Lib.hid b1
    go_wp2_with fail
    refine (list_any 40 0 rfl _ ad c bs 0 _ pl.out).mono ?_
    rintro e2 w2 (⟨l, r, v, q, hdec, rfl, pl2, hr, own2, kb2⟩ | ⟨hdec, rfl, ⟨q, pl2⟩, kb2⟩)
    · simp only [List.drop_zero, Nat.sub_zero] at hdec
      replace pl2 := Lib.hid pl2
      replace own2 := Lib.hid own2
      have b2 := Lib.hid (b1.out.trans (kb2.below (Nat.le_refl _) b1.out.size))
      have hs2 : w1.heap.size ≤ w2.heap.size := kb2.size
      replace hdec := Lib.hid hdec
      replace hr := Lib.hid hr
      clear kb2
      obtain ⟨A3, n3, c3, rfl⟩ := own_slice own2.out
      go_wp2_with fail
      refine (fixed_any _ _ (some ad) c bs q 0 11 pl2.out (by omega)).mono ?_
      rintro e3 w3 (⟨hb, rfl, pl3, kb3⟩ | ⟨hb, rfl, pl3, kb3⟩)
      · obtain ⟨hlt, hd⟩ := nextB_lt hb
        have he := Lib.hid (show M.expr bs = some (l, q + 1) by
          rw [M.expr_of (by rw [hdec.out, hr.out, hd]), List.length_drop]
          congr 2
          omega)
        have b3 := Lib.hid (b2.out.trans (kb3.below (Nat.le_refl _) b2.out.size))
        have own3 := Lib.hid (show OwnL w3 (Since w.heap.size w3) (.slice A3 n3 c3) l from own2.out.agree (fun k hk => kb3.block k hk.2 (by have := hk.1; omega)) (fun k hk => ⟨by have := hk.1; omega, Nat.lt_of_lt_of_le hk.2 kb3.size⟩))
        have c1 := pl3.c1
        replace pl3 := Lib.hid pl3
        clear kb3 hb hd
        go_wp2_with fail
        go_quiet (fail)
        go_wp2_with fail
        go_ret3
        exact .inl ⟨l, q + 1, _, he.out, rfl, own3.out.agree (fun _ _ => rfl) (fun _ hk => hk), below_drewN b3.out nq⟩
      · have he := Lib.hid (show M.expr bs = none by
          unfold M.expr
          rw [hdec.out, hr.out, Option.bind_some]
          have : M.endB (bs.drop q) = none := by
            cases hx : M.endB (bs.drop q) with
            | none => rfl
            | some y =>
              have := M.endB_some hx
              unfold nextB at hb
              rw [this] at hb
              simp at hb
          simp only [this]
          rfl)
        have b3 := Lib.hid (b2.out.trans (kb3.below (Nat.le_refl _) b2.out.size))
        clear kb3 hb pl3
        go_wp2_with fail
        go_ret3
        exact .inr ⟨he.out, rfl, b3.out⟩
    · simp only [List.drop_zero, Nat.sub_zero] at hdec
      have he := Lib.hid (show M.expr bs = none by unfold M.expr; rw [hdec]; rfl)
      have b2 := Lib.hid (b1.out.trans (kb2.below (Nat.le_refl _) b1.out.size))
      clear kb2 hdec pl2
      go_wp2_with fail
      go_ret3
      exact .inr ⟨he.out, rfl, b2.out⟩
theorem Decode_yes (v : Value) (bs : List Nat) (l : M.L) (n : Nat) (w : World) (hb : BS w w.heap.size v bs) (hs : bs.length ≤ 100000) (he : M.expr bs = some (l, n)) :
    Calls Tryz.prog 211 #[v] w fun e w' => ∃ u, e = .returned (.tuple #[u, .int .i64 (n : Nat), .int .i64 0]) ∧ OwnL w' (Since w.heap.size w') u l ∧ Below w.heap.size w w' :=
  (Decode_any v bs w hb hs).mono fun e w' h => by
    rcases h with ⟨l', n', u, h1, h2, h3, h4⟩ | ⟨h1, _⟩
    · rw [he] at h1
      cases h1
      exact ⟨u, h2, h3, h4⟩
    · rw [he] at h1; cases h1
theorem Decode_no (v : Value) (bs : List Nat) (w : World) (hb : BS w w.heap.size v bs) (hs : bs.length ≤ 100000) (he : M.expr bs = none) :
    Calls Tryz.prog 211 #[v] w fun e w' => e = .returned (.tuple #[.slice none 0 0, .int .i64 0, .int .i64 100]) ∧ Below w.heap.size w w' :=
  (Decode_any v bs w hb hs).mono fun e w' h => by
    rcases h with ⟨l', n', u, h1, _⟩ | ⟨_, h2, h3⟩
    · rw [he] at h1; cases h1
    · exact ⟨h2, h3⟩
end Go.Proofs.YtilaheifccjjeaaGreat
namespace Go.Proofs.YtilaheifccjjeaaGreat
open Go.ChangeShapes Go.WideShapes Go.ChangeAt Go.RowKit Go.Deep
theorem mem_weightsAll {H : Type} {P : Program} {e : TypeId} {d : DataW H} {n : Nat} : ∀ {l : List (DataW H)}, d ∈ l → n ∈ d.weights P e → n ∈ DataW.weightsAll P e l
  | x :: r, hd, hn => by
    simp only [DataW.weightsAll, List.mem_append]
    rcases List.mem_cons.1 hd with rfl | h
    · exact .inl hn
    · exact .inr (mem_weightsAll h hn)
theorem LA_build {w : World} {S : Nat → Prop} {g : Nat} : ∀ (n o : Nat), (∀ i, i < n → ∃ (h : M.Hd) (b e : M.L) (vL vB vE : Value), ItemAt w g (o + i * 9) h vL vB vE ∧ Rng h ∧ NS w S vL h.labels ∧ LS w S vB b ∧ LS w S vE e) → ∃ l : M.L, l.len = n ∧ LA w S l g o := by
  intro n
  induction n with
  | zero => intro o _; exact ⟨.nil, rfl, trivial⟩
  | succ n ih =>
    intro o hi
    obtain ⟨h, b, e, vL, vB, vE, h1, h2, h3, h4, h5⟩ := hi 0 (by omega)
    obtain ⟨r, hr, hla⟩ := ih (o + 9) (fun i hn => by
      obtain ⟨h, b, e, vL, vB, vE, h1, h2⟩ := hi (i + 1) (by omega)
      exact ⟨h, b, e, vL, vB, vE, by rw [show o + 9 + i * 9 = o + (i + 1) * 9 by omega]; exact h1, h2⟩)
    exact ⟨.cons h b e r, by simp [M.L.len, hr], vL, vB, vE, by simpa using h1, h2, h3, h4, h5, hla⟩
section
variable {H : Type} {enc : TypeId × Value → H} {w : World}
theorem open_bytes {n : Nat} {v : Value} {y : DataW H × List MemPlace} (h : DataW.trod enc Tryz.prog w 0 (fun _ => true) true n 33 [v] = some y) :
    ∃ bs : List Nat, BS w w.heap.size v bs := by
  rcases open_ints Tryz.underlying33 Tryz.underlying5 (by kernel_rfl) h with ⟨hcs, _⟩ | ⟨x, l, c, zs, hcs, _, hl, hm, hz, _, hcell, hwz⟩
  · simp at hcs
    exact ⟨[], none, 0, hcs, by simp, by unfold maxLen; omega, fun i hi => by simp at hi⟩
  · simp at hcs
    have hbl : ((zs.take l).map Int.toNat).length = l := by simp; simp at hz; omega
    refine ⟨(zs.take l).map Int.toNat, some x, c, by rw [hbl]; exact hcs, by rw [hbl]; exact hl, hm, fun i hi => ⟨x, rfl, ?_⟩⟩
    rw [hbl] at hi
    have hzl : i < zs.length := by simp at hz; omega
    have e : ((zs.take l).map Int.toNat).getD i 0 = (zs[i]).toNat := by
      rw [List.getD_eq_getElem?_getD, List.getElem?_map, List.getElem?_take_of_lt hi, List.getElem?_eq_getElem hzl]; rfl
    have hci := hcell i hzl
    have e2 : zs.getD i 0 = zs[i] := by rw [List.getD_eq_getElem?_getD, List.getElem?_eq_getElem hzl]; rfl
    have hw := hwz (zs[i]) (List.getElem_mem hzl)
    have hx : 0 ≤ zs[i] ∧ zs[i] ≤ 255 := by simpa [Lit.wf, IntKind.min, IntKind.max, IntKind.signed, IntKind.bits] using hw
    refine ⟨?_, ?_, ?_⟩
    · have := World.block_lt_of_cell? w _ hci
      rwa [addr_block] at this
    · show ((zs.take l).map Int.toNat).getD i 0 < 256
      rw [e]; omega
    · show w.cell? (x.add i) = some (.int .u8 ((((zs.take l).map Int.toNat).getD i 0 : Nat) : Int))
      rw [e, Int.toNat_of_nonneg hx.1, ← e2]; exact hci
theorem open_nums {n : Nat} {v : Value} {y : DataW H × List MemPlace} (h : DataW.trod enc Tryz.prog w 0 (fun _ => true) true n 52 [v] = some y) (hwt : ∀ m ∈ y.1.weights Tryz.prog 52, m ≤ reachBytes) :
    ∃ xs : List Int, NB w v xs := by
  have b8 : Tryz.prog.bytesOf 3 = 8 := by kernel_rfl
  rcases open_ints Tryz.underlying52 Tryz.underlying3 (by kernel_rfl) h with ⟨hcs, _⟩ | ⟨x, l, c, zs, hcs, _, hl, hm, hz, hy, hcell, hwz⟩
  · simp at hcs
    exact ⟨[], none, 0, hcs, ⟨by simp, by simp, by unfold maxLen; omega⟩, fun i hi => by simp at hi⟩
  · simp at hcs
    have hbl : (zs.take l).length = l := by simp; simp at hz; omega
    have hlim := hwt (((lits (H := H) .i64 (zs.take l)).length + (lits (H := H) .i64 (zs.drop l)).length) * 8) (by
      rw [hy]
      simp [DataW.weights, Tryz.underlying52, b8])
    have hlim2 : l ≤ 140737488355328 := by
      simp [lits, reachBytes] at hlim hz
      omega
    refine ⟨zs.take l, some x, c, by rw [hbl]; exact hcs, ⟨by rw [hbl]; exact hlim2, by rw [hbl]; exact hl, hm⟩, fun i hi => ⟨x, rfl, ?_⟩⟩
    rw [hbl] at hi
    have hzl : i < zs.length := by simp at hz; omega
    have e : (zs.take l).getD i 0 = zs[i] := by
      rw [List.getD_eq_getElem?_getD, List.getElem?_take_of_lt hi, List.getElem?_eq_getElem hzl]; rfl
    have hci := hcell i hzl
    have e2 : zs.getD i 0 = zs[i] := by rw [List.getD_eq_getElem?_getD, List.getElem?_eq_getElem hzl]; rfl
    have hw := hwz (zs[i]) (List.getElem_mem hzl)
    have hx : -9223372036854775808 ≤ zs[i] ∧ zs[i] ≤ 9223372036854775807 := by simpa [Lit.wf, IntKind.min, IntKind.max, IntKind.signed, IntKind.bits] using hw
    refine ⟨?_, ?_, ?_⟩
    · have := World.block_lt_of_cell? w _ hci
      rwa [addr_block] at this
    · rw [e]; exact hx
    · rw [e, ← e2]; exact hci
theorem wf64 {z : Int} (h : (Lit.int .i64 z).wf = true) : -9223372036854775808 ≤ z ∧ z ≤ 9223372036854775807 := by simpa [Lit.wf, IntKind.min, IntKind.max, IntKind.signed, IntKind.bits] using h
set_option maxRecDepth 100000 in
theorem open_instrs (N : Nat) : ∀ {n : Nat} {v : Value} {y : DataW H × List MemPlace}, n ≤ N → DataW.trod enc Tryz.prog w 0 (fun _ => true) true n 62 [v] = some y → (∀ m ∈ y.1.weights Tryz.prog 62, m ≤ reachBytes) → ∃ l : M.L, LB w v l := by
  have b120 : Tryz.prog.bytesOf 68 = 120 := by kernel_rfl
  have hC : Tryz.prog.cellsOf 68 = 9 := by kernel_rfl
  have k1 : Tryz.prog.cellsOf 3 = 1 := by kernel_rfl
  have k2 : Tryz.prog.cellsOf 2 = 1 := by kernel_rfl
  have k3 : Tryz.prog.cellsOf 52 = 1 := by kernel_rfl
  have k4 : Tryz.prog.cellsOf 62 = 1 := by kernel_rfl
  induction N with
  | zero =>
    intro n v y hn h
    obtain rfl : n = 0 := by omega
    simp [DataW.trod] at h
  | succ N ih =>
    intro n v y hn h hwt
    rcases DataW.trod_slice Tryz.underlying62 h with ⟨hcs, _⟩ | ⟨a, len, cap, elems, rest, n1, hn1, hcs, hx, _, hl, hm, hlen, hel, _, _⟩
    · simp at hcs
      exact ⟨.nil, none, 0, hcs, ⟨by simp [M.L.len], by simp [M.L.len], by unfold maxLen; omega⟩, .inl rfl⟩
    · simp at hcs
      subst hcs
      have hlim := hwt ((elems.length + rest.length) * 120) (by
        rw [hx]
        simp [DataW.weights, Tryz.underlying62, b120])
      have hlim2 : len ≤ 140737488355328 := by
        simp [reachBytes] at hlim
        omega
      obtain ⟨g, o, spot⟩ := a
      by_cases h0 : len = 0
      · subst h0
        exact ⟨.nil, _, cap, rfl, ⟨by simp [M.L.len], by simp [M.L.len], hm⟩, .inl rfl⟩
      have hsp : spot = none := by
        have hei := hel 0 (by omega)
        rw [hC] at hei
        rw [List.getElem?_eq_getElem (by omega)] at hei
        obtain ⟨cs', hc, _⟩ := Option.bind_eq_some_iff.1 hei
        obtain ⟨_, hcl, hat⟩ := World.cells?_some hc
        have h0 := hat 0 (by omega)
        rw [List.getElem?_eq_getElem (by omega)] at h0
        have h1 := World.cell?_spot h0
        simpa [Addr.add] using h1
      subst hsp
      have hit : ∀ i, i < len → g < w.heap.size ∧ ∃ (h : M.Hd) (b e : M.L) (vL vB vE : Value), ItemAt w g (o + i * 9) h vL vB vE ∧ Rng h ∧ NB w vL h.labels ∧ LB w vB b ∧ LB w vE e := by
        intro i hi
        have hei := hel i hi
        rw [hC] at hei
        rw [List.getElem?_eq_getElem (by omega)] at hei
        obtain ⟨cs', hc, ht⟩ := Option.bind_eq_some_iff.1 hei
        obtain ⟨_, hcl, hat⟩ := World.cells?_some hc
        have hmem : ∀ m ∈ (elems[i]).1.weights Tryz.prog 68, m ≤ reachBytes := by
          intro m hm0
          refine hwt m ?_
          rw [hx]
          simp only [DataW.weights, Tryz.underlying62]
          refine List.mem_cons_of_mem _ (List.mem_append_left _ (mem_weightsAll (d := (elems[i]).1) (List.mem_map.2 ⟨elems[i], List.getElem_mem (by omega), rfl⟩) hm0))
        obtain ⟨xs, n2, hn2, hD, _, hxl, hf⟩ := DataW.trod_struct Tryz.underlying68 ht
        obtain ⟨d0, d1, d2, d3, d4, d5, d6, d7, d8, rfl⟩ : ∃ d0 d1 d2 d3 d4 d5 d6 d7 d8, cs' = [d0, d1, d2, d3, d4, d5, d6, d7, d8] := by
          match cs', hcl with
          | [d0, d1, d2, d3, d4, d5, d6, d7, d8], _ => exact ⟨d0, d1, d2, d3, d4, d5, d6, d7, d8, rfl⟩
        obtain ⟨y0, y1, y2, y3, y4, y5, y6, y7, y8, rfl⟩ : ∃ y0 y1 y2 y3 y4 y5 y6 y7 y8, xs = [y0, y1, y2, y3, y4, y5, y6, y7, y8] := by
          match xs, hxl with
          | [d0, d1, d2, d3, d4, d5, d6, d7, d8], _ => exact ⟨d0, d1, d2, d3, d4, d5, d6, d7, d8, rfl⟩
        have f0 : DataW.trod enc Tryz.prog w 0 (fun _ => true) true n2 3 [d0] = some y0 := by simpa [k1] using hf 0 _ rfl
        have f1 : DataW.trod enc Tryz.prog w 0 (fun _ => true) true n2 3 [d1] = some y1 := by simpa [k1] using hf 1 _ rfl
        have f2 : DataW.trod enc Tryz.prog w 0 (fun _ => true) true n2 3 [d2] = some y2 := by simpa [k1] using hf 2 _ rfl
        have f3 : DataW.trod enc Tryz.prog w 0 (fun _ => true) true n2 3 [d3] = some y3 := by simpa [k1] using hf 3 _ rfl
        have f4 : DataW.trod enc Tryz.prog w 0 (fun _ => true) true n2 3 [d4] = some y4 := by simpa [k1] using hf 4 _ rfl
        have f5 : DataW.trod enc Tryz.prog w 0 (fun _ => true) true n2 2 [d5] = some y5 := by simpa [k2] using hf 5 _ rfl
        have f6 : DataW.trod enc Tryz.prog w 0 (fun _ => true) true n2 52 [d6] = some y6 := by simpa [k3] using hf 6 _ rfl
        have f7 : DataW.trod enc Tryz.prog w 0 (fun _ => true) true n2 62 [d7] = some y7 := by simpa [k4] using hf 7 _ rfl
        have f8 : DataW.trod enc Tryz.prog w 0 (fun _ => true) true n2 62 [d8] = some y8 := by simpa [k4] using hf 8 _ rfl
        have hws : ∀ (j : Nat) (t : TypeId) (d : DataW H), [3, 3, 3, 3, 3, 2, 52, 62, 62][j]? = some t → [y0.1, y1.1, y2.1, y3.1, y4.1, y5.1, y6.1, y7.1, y8.1][j]? = some d → ∀ m ∈ d.weights Tryz.prog t, m ≤ reachBytes := by
          intro j t d h1 h2 m hm0
          refine hmem m ?_
          rw [hD]
          simp only [DataW.weights, Tryz.underlying68]
          exact DataW.weights_mem_each (j := j) (t := t) (d := d) h1 h2 m hm0
        obtain ⟨z0, e0, _, w0⟩ := DataW.trod_int Tryz.underlying3 f0
        obtain ⟨z1, e1, _, w1⟩ := DataW.trod_int Tryz.underlying3 f1
        obtain ⟨z2, e2, _, w2⟩ := DataW.trod_int Tryz.underlying3 f2
        obtain ⟨z3, e3, _, w3⟩ := DataW.trod_int Tryz.underlying3 f3
        obtain ⟨z4, e4, _, w4⟩ := DataW.trod_int Tryz.underlying3 f4
        obtain ⟨z5, e5, _, w5⟩ := DataW.trod_int Tryz.underlying2 f5
        simp at e0 e1 e2 e3 e4 e5
        subst e0 e1 e2 e3 e4 e5
        obtain ⟨xl, hxl⟩ := open_nums f6 (hws 6 _ _ rfl rfl)
        obtain ⟨lb, hlb⟩ := ih (by omega) f7 (hws 7 _ _ rfl rfl)
        obtain ⟨le, hle⟩ := ih (by omega) f8 (hws 8 _ _ rfl rfl)
        have c0 := hat 0 (by omega)
        have c1 := hat 1 (by omega)
        have c2 := hat 2 (by omega)
        have c3 := hat 3 (by omega)
        have c4 := hat 4 (by omega)
        have c5 := hat 5 (by omega)
        have c6 := hat 6 (by omega)
        have c7 := hat 7 (by omega)
        have c8 := hat 8 (by omega)
        simp only [add_none, Nat.add_zero] at c0 c1 c2 c3 c4 c5 c6 c7 c8
        exact ⟨World.block_lt_of_cell? w ⟨g, o + i * 9, none⟩ c0, ⟨z0, z1, z2, z3, z4, z5, xl⟩, lb, le, d6, d7, d8, ⟨c0, c1, c2, c3, c4, c5, c6, c7, c8⟩, ⟨wf64 w0, wf64 w1, wf64 w2, wf64 w3, wf64 w4, wf64 w5⟩, hxl, hlb, hle⟩
      obtain ⟨hg, _⟩ := hit 0 (by omega)
      obtain ⟨l, hll, hla⟩ := LA_build (w := w) (S := (· < w.heap.size)) (g := g) len o (fun i hi => (hit i hi).2)
      subst hll
      exact ⟨l, some ⟨g, o, none⟩, cap, rfl, ⟨hlim2, hl, hm⟩, .inr ⟨g, o, rfl, hg, hla⟩⟩
end
end Go.Proofs.YtilaheifccjjeaaGreat
namespace Go.Proofs.YtilaheifccjjeaaGreat
open Go.RowKit
namespace M
end M
/-- A row of cells read as an instruction. -/
theorem item_row {w : World} {g o : Nat} {cs : Array Value} {t : TypeId} {h : M.Hd} {vL vB vE : Value} (hg : w.heap[g]? = some (.cells cs t)) (hc : ∀ j, j < 9 → cs[o + j]? = (item9 h vL vB vE)[j]?) : ItemAt w g o h vL vB vE := by
  have e : ∀ j u, j < 9 → (item9 h vL vB vE)[j]? = some u → w.cell? ⟨g, o + j, none⟩ = some u := fun j u hj hu => by rw [cell_of_row w g (o + j) cs t (0, 0) hg, hc j hj]; exact hu
  exact ⟨e 0 _ (by omega) rfl, e 1 _ (by omega) rfl, e 2 _ (by omega) rfl, e 3 _ (by omega) rfl, e 4 _ (by omega) rfl, e 5 _ (by omega) rfl, e 6 _ (by omega) rfl, e 7 _ (by omega) rfl, e 8 _ (by omega) rfl⟩
theorem nine {p : Nat → Prop} (h0 : p 0) (h1 : p 1) (h2 : p 2) (h3 : p 3) (h4 : p 4) (h5 : p 5) (h6 : p 6) (h7 : p 7) (h8 : p 8) : ∀ j, j < 9 → p j := by
  intro j hj
  have : j = 0 ∨ j = 1 ∨ j = 2 ∨ j = 3 ∨ j = 4 ∨ j = 5 ∨ j = 6 ∨ j = 7 ∨ j = 8 := by omega
  rcases this with rfl | rfl | rfl | rfl | rfl | rfl | rfl | rfl | rfl <;> assumption
end Go.Proofs.YtilaheifccjjeaaGreat
namespace Go.Proofs.YtilaheifccjjeaaGreat
open Go.RowKit
def IsSl (v : Value) : Prop := ∃ A n c, v = .slice A n c
theorem nil_IsSl : IsSl (.slice none 0 0) := ⟨_, _, _, rfl⟩
/-- What an instruction that the page has read is. -/
def PIns (P : Nat) (A : Option Addr) (c : Nat) (bs : List Nat) (res : Option (M.It × List Nat)) (h : M.Hd) (vL vB vE : Value) (B : Nat) (w' : World) : Prop :=
  match res with
  | some (it, r) => it.1 = h ∧ St w' P A c bs (some r) ∧ Rng h ∧ OwnN w' (Since B w') vL h.labels ∧ OwnL w' (Since B w') vB it.2.1 ∧ OwnL w' (Since B w') vE it.2.2
  | none => St w' P A c bs none ∧ IsSl vL ∧ IsSl vB ∧ IsSl vE
theorem PIns.plain {P : Nat} {A : Option Addr} {c : Nat} {bs : List Nat} {h : M.Hd} {r : List Nat} {B : Nat} {w' : World} (hs : St w' P A c bs (some r)) (hR : Rng h) (hl : h.labels = []) : PIns P A c bs (some ((h, .nil, .nil), r)) h (.slice none 0 0) (.slice none 0 0) (.slice none 0 0) B w' :=
  ⟨rfl, hs, hR, by rw [hl]; exact OwnN.nil _ _, OwnL.nil _ _, OwnL.nil _ _⟩
theorem PIns.bad {P : Nat} {A : Option Addr} {c : Nat} {bs : List Nat} {h : M.Hd} {B : Nat} {w' : World} (hs : St w' P A c bs none) : PIns P A c bs none h (.slice none 0 0) (.slice none 0 0) (.slice none 0 0) B w' := ⟨hs, nil_IsSl, nil_IsSl, nil_IsSl⟩
/-- The two rows of the page's reader of an instruction: its answer's and its own. -/
structure Rows2 (w : World) (R : Nat) (h : M.Hd) (vL vB vE : Value) : Prop where
  r : ∃ old : Array Value, w.heap[R]? = some (.cells old 68 (0, 0)) ∧ old.size = 9
  x : w.heap[R + 1]? = some (.cells (item9 h vL vB vE).toArray 68 (0, 0))
theorem Rows2.agree {w w' : World} {R : Nat} {h : M.Hd} {vL vB vE : Value} (hr : Rows2 w R h vL vB vE) (h1 : w'.heap[R]? = w.heap[R]?) (h2 : w'.heap[R + 1]? = w.heap[R + 1]?) : Rows2 w' R h vL vB vE := ⟨by rw [h1]; exact hr.r, by rw [h2]; exact hr.x⟩
theorem Rows2.item {w : World} {R : Nat} {h : M.Hd} {vL vB vE : Value} (hr : Rows2 w R h vL vB vE) : ItemAt w (R + 1) 0 h vL vB vE := item_row hr.x (nine rfl rfl rfl rfl rfl rfl rfl rfl rfl)
theorem Rows2.frozen {w : World} {R : Nat} {h : M.Hd} {vL vB vE : Value} (hr : Rows2 w R h vL vB vE) (j : Nat) : w.frozen? ⟨R + 1, j, none⟩ = false := frozen_of_row w (R + 1) j _ _ hr.x
theorem Rows2.set {w : World} {R j : Nat} {h h' : M.Hd} {vL vB vE vL' vB' vE' u : Value} (hr : Rows2 w R h vL vB vE) (hs : (item9 h vL vB vE).toArray.setIfInBounds j u = (item9 h' vL' vB' vE').toArray) : Rows2 (w.setCell ⟨R + 1, j, none⟩ u) R h' vL' vB' vE' :=
  ⟨by rw [heap_setCell_other w ⟨R + 1, j, none⟩ R u (by show R ≠ R + 1; omega)]; exact hr.r, by rw [heap_setCell_same w (R + 1) j _ _ u hr.x, hs]⟩
theorem Kb.new {P : Nat} {w w0 w' : World} (h0 : Below w.heap.size w w0) (h : Kb (fun k => k = P ∨ w.heap.size ≤ k) w0 w') : Kb (· = P) w w' :=
  ⟨h.os.trans h0.os, h.tape.trans h0.tape, h.output.trans h0.output, Nat.le_trans h0.size h.size, fun k hk hne => (h.block k (Nat.lt_of_lt_of_le hk h0.size) (by omega)).trans (h0.block k hk)⟩
namespace M
end M
theorem PIns.of {P : Nat} {A : Option Addr} {c : Nat} {bs : List Nat} {h : M.Hd} {o : Option (List Nat)} {B : Nat} {w' : World} (hs : St w' P A c bs o) (hR : Rng h) (hl : h.labels = []) : PIns P A c bs (o.bind fun t => some ((h, .nil, .nil), t)) h (.slice none 0 0) (.slice none 0 0) (.slice none 0 0) B w' := by
  cases o with
  | none => exact PIns.bad hs
  | some r => exact PIns.plain hs hR hl
end Go.Proofs.YtilaheifccjjeaaGreat
namespace Go.Proofs.YtilaheifccjjeaaGreat
open Go.RowKit
/-- A call of a Go function with one argument, as one step of a region that draws. -/
theorem step_call1 {ops : Array Oper} {o : Oper} {a : Act} {w : World} {K : Act → World → Prop} {Q : Exit → Act → World → Prop} {E : Prop} (hgd : o.guard = none) (f : FuncId) (x : Operand) (t : TypeId)
    (ho : o.op = .call { callee := .value (.func f), args := #[x], argTypes := #[t] }) (hcall : ∀ (args : Array Value) (w : World), Sem.run Tryz.prog (callFunc f args) w = Result.ok (Next.enter f args) w) (v : Value) (hx : a.eval x = v) (h : Calls Tryz.prog f #[v] w fun e w' => ∃ u, e = .returned u ∧ K (a.put o.dst u) w') :
    if Region.wanted o (yielded ops a.tmps) = true then Oper.wp Tryz.prog o a w K Q else E := by
  have hw : Region.wanted o (yielded ops a.tmps) = true := by simp [Region.wanted, hgd]
  rw [if_pos hw]
  unfold Oper.wp
  have hf : a.eval (.func f) = .func (.func f) #[] #[] := rfl
  simp [execOp, ho, resolve, invoke, hx, hf, Deferred.ofValue, hcall, Oper.upon_enter]
  refine h.mono ?_
  rintro e w' ⟨u, rfl, hK⟩
  exact hK
namespace M
end M
end Go.Proofs.YtilaheifccjjeaaGreat
namespace Go.Proofs.YtilaheifccjjeaaGreat
open Go.RowKit
def textRow (P : Nat) (vb : Value) : Array Value := #[vb, .func (.func 219) #[.pointer (some ⟨P, 0, none⟩)] #[], .func (.func 220) #[.pointer (some ⟨P, 0, none⟩)] #[], .func (.func 221) #[.pointer (some ⟨P, 0, none⟩)] #[], .func (.func 222) #[.pointer (some ⟨P, 0, none⟩)] #[], .func (.func 223) #[.pointer (some ⟨P, 0, none⟩)] #[], .func (.func 224) #[.pointer (some ⟨P, 0, none⟩)] #[], .func (.func 225) #[.pointer (some ⟨P, 0, none⟩)] #[], .func (.func 226) #[.pointer (some ⟨P, 0, none⟩)] #[], .func (.func 227) #[.pointer (some ⟨P, 0, none⟩)] #[], .func (.func 228) #[.pointer (some ⟨P, 0, none⟩)] #[]]
/-- The text that has been written so far, in memory from B on, and its slice. -/
structure TextV (B : Nat) (w : World) (P : Nat) (out : List Nat) (vb : Value) : Prop where
  hB : B ≤ P
  row : w.heap[P]? = some (.cells (textRow P vb) 260 (0, 0))
  own : w.ownsRow B 5 1 vb out.length (vals out)
  len : out.length ≤ 1000000
  rng : ∀ b ∈ out, b < 256
def TextAt (B : Nat) (w : World) (P : Nat) (out : List Nat) : Prop := ∃ vb, TextV B w P out vb
theorem TextV.lt {B : Nat} {w : World} {P : Nat} {out : List Nat} {vb : Value} (h : TextV B w P out vb) : P < w.heap.size := (Array.getElem?_eq_some_iff.1 h.row).1
theorem TextV.ne {B : Nat} {w : World} {P : Nat} {out : List Nat} {vb : Value} (h : TextV B w P out vb) : vb.ownBlock ≠ some P := by
  intro e
  rcases h.own.2 with ⟨rfl, _⟩ | ⟨g, cap, cur, rfl, _, hg, _⟩
  · cases e
  · have e : g = P := by simpa [Value.ownBlock] using e
    subst e
    rw [h.row] at hg
    injection hg with hg
    injection hg with _ hg
    exact absurd hg (by decide)
theorem TextV.ge {B : Nat} {w : World} {P : Nat} {out : List Nat} {vb : Value} (h : TextV B w P out vb) : ∀ k, vb.ownBlock = some k → B ≤ k ∧ k < w.heap.size := fun k hk => h.own.lt k hk
theorem TextV.later {B : Nat} {w w' : World} {P : Nat} {out : List Nat} {vb : Value} (h : TextV B w P out vb) (hb : Below w.heap.size w w') : TextV B w' P out vb :=
  ⟨h.hB, by rw [hb.block P h.lt]; exact h.row, own_later h.own hb, h.len, h.rng⟩
theorem TextV.cell {B : Nat} {w : World} {P : Nat} {out : List Nat} {vb : Value} (h : TextV B w P out vb) : w.cell? ⟨P, 0, none⟩ = some vb ∧ w.frozen? ⟨P, 0, none⟩ = false :=
  ⟨by rw [cell_of_row w P 0 _ _ (0, 0) h.row]; rfl, frozen_of_row w P 0 _ _ h.row⟩
/-- Bytes have been appended to the text. -/
theorem TextV.put {B : Nat} {w w4 w5 : World} {P g cap n : Nat} {out bs : List Nat} {vb : Value} (h : TextV B w P out vb) (b4 : Below w.heap.size w w4) (hn : n = out.length + bs.length) (hown : w5.ownsRow B 5 1 (.slice (some ⟨g, 0, none⟩) n cap) n (vals out ++ vals bs)) (hgr : w4.grownBy w5 vb.ownBlock) (hat : vb.ownBlock = some g ∨ w.heap.size ≤ g) (hl : n ≤ 1000000) (hr : ∀ b ∈ bs, b < 256) :
    TextV B (w5.setCell ⟨P, 0, none⟩ (.slice (some ⟨g, 0, none⟩) n cap)) P (out ++ bs) (.slice (some ⟨g, 0, none⟩) n cap) ∧ Below B w (w5.setCell ⟨P, 0, none⟩ (.slice (some ⟨g, 0, none⟩) n cap)) ∧ w5.cell? ⟨P, 0, none⟩ = some vb ∧ w5.frozen? ⟨P, 0, none⟩ = false := by
  have hP := h.lt
  have hBP := h.hB
  have h4 := b4.size
  have h5 := hgr.size
  have e5 : w5.heap[P]? = w.heap[P]? := by
    rw [hgr.block P (by omega) (fun e => h.ne e.symm)]
    exact b4.block P hP
  have hgP : g ≠ P := by
    rcases hat with h9 | h9
    · intro e; subst e; exact h.ne h9
    · omega
  have row5 : w5.heap[P]? = some (.cells (textRow P vb) 260 (0, 0)) := by rw [e5]; exact h.row
  refine ⟨⟨hBP, ?_, ?_, by simp; omega, fun b hb => ?_⟩, ⟨hgr.os.trans b4.os, hgr.tape.trans b4.tape, hgr.output.trans b4.output, by simp; omega, fun k hk => ?_⟩, ?_, ?_⟩
  · rw [heap_setCell_same w5 P 0 _ _ _ row5]; rfl
  · have e1 : (out ++ bs).length = n := by simp [hn]
    have e2 : vals (out ++ bs) = vals out ++ vals bs := by simp [vals]
    rw [e1, e2]
    exact ownsRow_agree hown fun k hk => Below.heap_setCell _ _ _ _ (by
      have hk : g = k := by simpa [Value.ownBlock] using hk
      show k ≠ P; omega)
  · rcases List.mem_append.1 hb with hb | hb
    · exact h.rng b hb
    · exact hr b hb
  · rw [heap_setCell_other _ _ _ _ (by show k ≠ P; omega), hgr.block k (by omega) (fun e => by have := (h.ge k e.symm).1; omega)]
    exact b4.block k (by omega)
  · rw [cell_of_row w5 P 0 _ _ (0, 0) row5]; rfl
  · exact frozen_of_row w5 P 0 _ _ row5
def WPostT (B : Nat) (P : Nat) (out : List Nat) (w : World) (e : Ending) (w' : World) : Prop := e = .returned (.tuple #[]) ∧ TextAt B w' P out ∧ Below B w w'
set_option maxRecDepth 100000 in
theorem tfixed_any (B : Nat) (w : World) (P : Nat) (out : List Nat) (x : Nat) (h : TextAt B w P out) (hx : x < 256) (hl : out.length + 1 ≤ 1000000) :
    Calls Tryz.prog 207 #[.pointer (some ⟨P, 0, none⟩), .int .u8 (x : Nat)] w (WPostT B P (out ++ [x]) w) := by
  obtain ⟨i0, hi0, hz0, hz1, hz2⟩ := info_parts u8_info
  obtain ⟨vb, h⟩ := h
  obtain ⟨c0, f0⟩ := h.cell
  have hP := h.lt
  have hBP := h.hB
  replace h := Lib.hid h
  go_enter Tryz.func207, Tryz.ntmps207
  go_wp2_with (first
    | (at_builtin; refine wpList_append_lies _ rfl _ _ 33 rfl B 5 i0 (.int .u8 0) 1 1 Tryz.underlying33 hi0 hz0 hz1 hz2 rfl (by decide) vb out.length (vals out) rfl (h.out.own.alloc _) ⟨w.heap.size, 0, none⟩ 1 1 [.int .u8 (x : Nat)] rfl rfl (World.news_of_block (cs := #[.int .u8 (x : Nat)]) (t := 5) (fr := (0, 0)) (heap_alloc_new w _)) (fun y hy => by simp at hy; subst hy; rfl) (by omega) (by unfold maxLen; omega) (by omega) (by simp; omega) (w.heap.size + 1) (by simp) ?_; intro g cap w5 hown5 hgr5 hat5 hlt5; obtain ⟨q1, q2, q3, q4⟩ := h.out.put (bs := [x]) (n := out.length + 1) ((Below.refl w.heap.size w).alloc (Nat.le_refl _) _) rfl hown5 hgr5 (hat5.imp id (by omega)) hl (fun b hb => by simp at hb; omega); replace q1 := Lib.hid q1; replace q2 := Lib.hid q2; clear hown5 hgr5 hat5))
  go_end0
  exact ⟨rfl, ⟨_, q1.out⟩, q2.out⟩
theorem putU_pos (n : Nat) : 1 ≤ (M.putU 10 n).length ∧ (M.putU 10 n).length ≤ 11 := M.putU_length 10 n
theorem putS_pos (n : Int) : 1 ≤ (M.putS 10 n).length ∧ (M.putS 10 n).length ≤ 11 := M.putS_length 10 n
theorem own_some {w : World} {b e s n : Nat} {v : Value} {xs : List Value} (h : w.ownsRow b e s v n xs) (hn : 1 ≤ n) : ∃ g c, v = .slice (some ⟨g, 0, none⟩) n c ∧ b ≤ g ∧ g < w.heap.size := by
  obtain ⟨g, cap, e1, h1, h2⟩ := h.form (by omega)
  exact ⟨g, cap, e1, h1, h2⟩
theorem own_news {w : World} {b e n g c : Nat} {xs : List Value} (h : w.ownsRow b e 1 (.slice (some ⟨g, 0, none⟩) n c) n xs) : ∀ j u, xs[j]? = some u → w.cell? ((⟨g, 0, none⟩ : Addr).add j) = some u := h.cells (g := g) rfl
set_option maxRecDepth 100000 in
set_option maxHeartbeats 4000000 in
theorem tnumber_any (B : Nat) (w : World) (P : Nat) (out : List Nat) (x : Nat) (h : TextAt B w P out) (hx : x < 9223372036854775808) (hl : out.length + (M.putU 10 x).length ≤ 1000000) :
    Calls Tryz.prog 244 #[.pointer (some ⟨P, 0, none⟩), .int .i64 (x : Nat)] w (WPostT B P (out ++ (M.putU 10 x)) w) := by
  obtain ⟨i0, hi0, hz0, hz1, hz2⟩ := info_parts u8_info
  obtain ⟨vb, h⟩ := h
  obtain ⟨c0, f0⟩ := h.cell
  have hP := h.lt
  have hBP := h.hB
  have hge := Lib.hid h.ge
  replace h := Lib.hid h
  have tc : IntKind.u64.wrap (x : Int) = (x : Int) := by rw [IntKind.wrap_u64]; omega
  obtain ⟨bs, hbs⟩ : ∃ bs, bs = M.putU 10 x := ⟨_, rfl⟩
  have hp1 : 1 ≤ bs.length := by rw [hbs]; exact (putU_pos x).1
  have hlt := Lib.hid (show ∀ b ∈ bs, b < 256 by rw [hbs]; exact M.putU_lt 10 x)
  rw [← hbs] at hl ⊢
  replace hbs := Lib.hid hbs
  go_enter Tryz.func244, Tryz.ntmps244
  go_wp2_with fail
  go_region_law (first
    | (refine step_call1 (by rfl) 122 _ _ (by rfl) Tryz.call122 (.int .u64 (x : Nat)) (by rfl) ?_; refine (PutUint_any x w.drew (by omega)).mono ?_; rintro e1 v1 ⟨u1, rfl, own1, b1⟩; rw [← hbs.out] at own1; refine ⟨_, rfl, ?_⟩; obtain ⟨g1, k1, rfl, hg1, hg2⟩ := own_some own1 hp1; have b1' : Below w.heap.size w v1 := ⟨b1.os, b1.tape, b1.output, b1.size, b1.block⟩; have t1 := Lib.hid (h.out.later b1'); have c01 := (h.out.later b1').cell.1; have f01 := (h.out.later b1').cell.2; have s1 : w.heap.size ≤ v1.heap.size := b1'.size; replace own1 := Lib.hid own1; replace b1' := Lib.hid b1'; clear b1)
    | (refine step_append_lies _ (by rfl) _ _ _ (by rfl) B 5 i0 _ 1 1 Tryz.underlying33 hi0 hz0 hz1 hz2 rfl (by omega) vb out.length (vals out) (by rfl) t1.out.own ⟨g1, 0, none⟩ bs.length k1 (vals bs) (by rfl) (by simp [vals]) (own_news own1.out) (vals_one bs) (by omega) (by unfold maxLen; omega) (by omega) (by omega) v1.heap.size (by rfl) ?_; intro g cap w5 hown5 hgr5 hat5 hlt5; obtain ⟨q1, q2, q3, q4⟩ := h.out.put (bs := bs) (n := out.length + bs.length) b1'.out rfl hown5 hgr5 (hat5.imp id (by omega)) hl hlt.out; replace q1 := Lib.hid q1; replace q2 := Lib.hid q2; clear hown5 hgr5 hat5))
  all_goals go_wp2_with fail
  all_goals go_end0
  all_goals exact ⟨rfl, ⟨_, q1.out⟩, q2.out⟩
set_option maxRecDepth 100000 in
set_option maxHeartbeats 4000000 in
theorem tval_any (B : Nat) (w : World) (P : Nat) (out : List Nat) (hd : M.Hd) (vL vB vE : Value) (gi oi : Nat) (h : TextAt B w P out) (hi : ItemAt w gi oi hd vL vB vE) (hR : Rng hd) (hl : out.length + (M.putS 10 hd.val).length ≤ 1000000) :
    Calls Tryz.prog 225 #[.pointer (some ⟨P, 0, none⟩), .pointer (some ⟨gi, oi, none⟩)] w (WPostT B P (out ++ (M.putS 10 hd.val)) w) := by
  obtain ⟨i0, hi0, hz0, hz1, hz2⟩ := info_parts u8_info
  obtain ⟨vb, h⟩ := h
  obtain ⟨c0, f0⟩ := h.cell
  have hP := h.lt
  have hBP := h.hB
  have hge := Lib.hid h.ge
  replace h := Lib.hid h
  have ci := hi.c5
  have hgi := World.block_lt_of_cell? w ⟨gi, oi + 5, none⟩ ci
  have hr5 := hR.r5
  obtain ⟨x, hx⟩ : ∃ x, x = hd.val := ⟨_, rfl⟩
  rw [← hx] at ci hr5 hl ⊢
  replace hx := Lib.hid hx
  obtain ⟨bs, hbs⟩ : ∃ bs, bs = M.putS 10 x := ⟨_, rfl⟩
  have hp1 : 1 ≤ bs.length := by rw [hbs]; exact (putS_pos x).1
  have hlt := Lib.hid (show ∀ b ∈ bs, b < 256 by rw [hbs]; exact M.putS_lt 10 x)
  rw [← hbs] at hl ⊢
  replace hbs := Lib.hid hbs
  go_enter Tryz.func225, Tryz.ntmps225
  go_wp2_with fail
  go_region_law (first
    | (refine step_call1 (by rfl) 245 _ _ (by rfl) Tryz.call245 (.int .i64 x) (by rfl) ?_; refine (PutSint_any x w.drew (by omega)).mono ?_; rintro e1 v1 ⟨u1, rfl, own1, b1⟩; rw [← hbs.out] at own1; refine ⟨_, rfl, ?_⟩; obtain ⟨g1, k1, rfl, hg1, hg2⟩ := own_some own1 hp1; have b1' : Below w.heap.size w v1 := ⟨b1.os, b1.tape, b1.output, b1.size, b1.block⟩; have t1 := Lib.hid (h.out.later b1'); have c01 := (h.out.later b1').cell.1; have f01 := (h.out.later b1').cell.2; have s1 : w.heap.size ≤ v1.heap.size := b1'.size; replace own1 := Lib.hid own1; replace b1' := Lib.hid b1'; clear b1)
    | (refine step_append_lies _ (by rfl) _ _ _ (by rfl) B 5 i0 _ 1 1 Tryz.underlying33 hi0 hz0 hz1 hz2 rfl (by omega) vb out.length (vals out) (by rfl) t1.out.own ⟨g1, 0, none⟩ bs.length k1 (vals bs) (by rfl) (by simp [vals]) (own_news own1.out) (vals_one bs) (by omega) (by unfold maxLen; omega) (by omega) (by omega) v1.heap.size (by rfl) ?_; intro g cap w5 hown5 hgr5 hat5 hlt5; obtain ⟨q1, q2, q3, q4⟩ := h.out.put (bs := bs) (n := out.length + bs.length) b1'.out rfl hown5 hgr5 (hat5.imp id (by omega)) hl hlt.out; replace q1 := Lib.hid q1; replace q2 := Lib.hid q2; clear hown5 hgr5 hat5))
  all_goals go_wp2_with fail
  all_goals go_end0
  all_goals exact ⟨rfl, ⟨_, q1.out⟩, q2.out⟩
end Go.Proofs.YtilaheifccjjeaaGreat
namespace Go.Proofs.YtilaheifccjjeaaGreat
open Go.RowKit
namespace M
/-- One part, written. -/
def wr (k : Nat) (h : Hd) (b e : L) : List Nat :=
  match k with
  | 0 => [h.ty.toNat]
  | 1 => U h.labels.length ++ Us h.labels
  | 2 => U h.ix
  | 3 => U h.al
  | 4 => U h.ofs
  | 5 => [0]
  | 6 => S h.val
  | 7 => enc b
  | 8 => (match e with | .nil => [] | .cons .. => 5 :: enc e)
  | 9 => [11]
  | _ => []
def wrAll (m : Nat) (h : Hd) (b e : L) : Nat → List Nat
  | 0 => []
  | n + 1 => (if hasB m (9 - n) then wr (9 - n) h b e else []) ++ wrAll m h b e n
theorem wr_at (m k : Nat) (h : Hd) (b e : L) (hk : k < 10) : wrAll m h b e (10 - k) = (if hasB m k then wr k h b e else []) ++ wrAll m h b e (10 - (k + 1)) := by
  obtain ⟨n, hn⟩ : ∃ n, 10 - k = n + 1 := ⟨9 - k, by omega⟩
  rw [hn, wrAll, show 9 - n = k by omega, show 10 - (k + 1) = n by omega]
theorem wr_all (h : Hd) (b e : L) (hk : kind h.op ≠ 0) (he : h.op ≠ 4 → e = .nil) : wrAll (mask h.op) h b e 10 = tailOf h b e := by
  rcases kind_cases h.op with k | k | k | k | k | k | k | k | k | k
  · exact absurd k hk
  all_goals rw [mask_of k, tail_of k]
  case inr.inr.inl =>
    by_cases h4 : h.op = 4
    · simp only [maskK, if_pos h4, tailK]
      cases e <;> simp [wrAll, hasB, wr]
    · have := he h4
      subst this
      simp only [maskK, if_neg h4, tailK]
      simp [wrAll, hasB, wr]
  all_goals simp [maskK, tailK, wrAll, hasB, wr]
/-- What a part that is written asks of the numbers. -/
def partOk (k : Nat) (h : Hd) : Prop :=
  match k with
  | 0 => tyOk h.ty
  | 1 => ∀ x ∈ h.labels, inR x
  | 2 => inR h.ix
  | 3 => inR h.al
  | 4 => inR h.ofs
  | _ => True
theorem part_ok {h : Hd} (hf : flat h) (k : Nat) (hk : hasB (mask h.op) k = true) (hk10 : k < 10) : partOk k h := by
  have hks : k = 0 ∨ k = 1 ∨ k = 2 ∨ k = 3 ∨ k = 4 ∨ 5 ≤ k := by omega
  rcases kind_cases h.op with q | q | q | q | q | q | q | q | q | q
  all_goals have hf' := flat_to q hf
  all_goals rw [mask_of q] at hk
  · exact absurd hf' (by simp [flatK])
  all_goals rcases hks with rfl | rfl | rfl | rfl | rfl | h5
  all_goals first
    | (simp only [partOk]; trivial)
    | (have : ∃ j, k = j + 5 := ⟨k - 5, by omega⟩; obtain ⟨j, rfl⟩ := this; simp only [partOk])
    | (exfalso; revert hk; simp [maskK, hasB]; done)
    | (exfalso; revert hk; simp only [maskK]; split <;> simp [hasB]; done)
    | exact hf'.2
    | exact hf'.2.1
    | exact hf'.2.2
theorem take_drop (l : L) : ∀ k, (L.take k l).app (L.drop k l) = l := by
  induction l with
  | nil => intro k; cases k <;> rfl
  | cons h b e r _ _ ih =>
    intro k
    cases k with
    | zero => rfl
    | succ k => show L.cons h b e ((L.take k r).app (L.drop k r)) = _; rw [ih]
theorem enc_take (l : L) (k : Nat) : (enc (L.take k l)).length ≤ (enc l).length := by
  have := congrArg enc (take_drop l k)
  rw [enc_app] at this
  rw [← this, List.length_append]
  omega
theorem U_nat (n : Nat) : U (n : Int) = putU 10 n := by unfold U; rw [Int.toNat_natCast]
end M
theorem TextAt.later {B : Nat} {w w' : World} {P : Nat} {out : List Nat} (h : TextAt B w P out) (hb : Below w.heap.size w w') : TextAt B w' P out := h.imp fun _ h => h.later hb
theorem TextAt.hB {B : Nat} {w : World} {P : Nat} {out : List Nat} (h : TextAt B w P out) : B ≤ P ∧ P < w.heap.size := by obtain ⟨vb, h⟩ := h; exact ⟨TextV.hB h, h.lt⟩
set_option maxRecDepth 100000 in
theorem tindex_any (B : Nat) (w : World) (P : Nat) (out : List Nat) (h : M.Hd) (b e : M.L) (vL vB vE : Value) (g o : Nat) (ht : TextAt B w P out) (hi : ItemAt w g o h vL vB vE) (hp : M.partOk 2 h) (hl : out.length + (M.wr 2 h b e).length ≤ 1000000) :
    Calls Tryz.prog 221 #[.pointer (some ⟨P, 0, none⟩), .pointer (some ⟨g, o, none⟩)] w (WPostT B P (out ++ M.wr 2 h b e) w) := by
  have hc := hi.c2
  obtain ⟨x, hx⟩ := Int.eq_ofNat_of_zero_le (show 0 ≤ h.ix from (show M.inR h.ix from hp).1)
  have hx2 : x < 4294967296 := by have := (show M.inR h.ix from hp).2; omega
  have hw : M.wr 2 h b e = M.putU 10 x := by show M.U h.ix = _; rw [hx, M.U_nat]
  rw [hw] at hl ⊢
  rw [hx] at hc
  replace hx := Lib.hid hx
  replace ht := Lib.hid ht
  replace hw := Lib.hid hw
  go_enter Tryz.func221, Tryz.ntmps221
  go_wp2_with fail
  refine (tnumber_any B _ P out x ht.out (by omega) hl).mono ?_
  rintro e1 w1 ⟨rfl, t1, b1⟩
  replace t1 := Lib.hid t1
  replace b1 := Lib.hid b1
  go_wp2_with fail
  go_end0
  exact ⟨rfl, t1.out, b1.out⟩
set_option maxRecDepth 100000 in
theorem talign_any (B : Nat) (w : World) (P : Nat) (out : List Nat) (h : M.Hd) (b e : M.L) (vL vB vE : Value) (g o : Nat) (ht : TextAt B w P out) (hi : ItemAt w g o h vL vB vE) (hp : M.partOk 3 h) (hl : out.length + (M.wr 3 h b e).length ≤ 1000000) :
    Calls Tryz.prog 222 #[.pointer (some ⟨P, 0, none⟩), .pointer (some ⟨g, o, none⟩)] w (WPostT B P (out ++ M.wr 3 h b e) w) := by
  have hc := hi.c3
  obtain ⟨x, hx⟩ := Int.eq_ofNat_of_zero_le (show 0 ≤ h.al from (show M.inR h.al from hp).1)
  have hx2 : x < 4294967296 := by have := (show M.inR h.al from hp).2; omega
  have hw : M.wr 3 h b e = M.putU 10 x := by show M.U h.al = _; rw [hx, M.U_nat]
  rw [hw] at hl ⊢
  rw [hx] at hc
  replace hx := Lib.hid hx
  replace ht := Lib.hid ht
  replace hw := Lib.hid hw
  go_enter Tryz.func222, Tryz.ntmps222
  go_wp2_with fail
  refine (tnumber_any B _ P out x ht.out (by omega) hl).mono ?_
  rintro e1 w1 ⟨rfl, t1, b1⟩
  replace t1 := Lib.hid t1
  replace b1 := Lib.hid b1
  go_wp2_with fail
  go_end0
  exact ⟨rfl, t1.out, b1.out⟩
set_option maxRecDepth 100000 in
theorem toffset_any (B : Nat) (w : World) (P : Nat) (out : List Nat) (h : M.Hd) (b e : M.L) (vL vB vE : Value) (g o : Nat) (ht : TextAt B w P out) (hi : ItemAt w g o h vL vB vE) (hp : M.partOk 4 h) (hl : out.length + (M.wr 4 h b e).length ≤ 1000000) :
    Calls Tryz.prog 223 #[.pointer (some ⟨P, 0, none⟩), .pointer (some ⟨g, o, none⟩)] w (WPostT B P (out ++ M.wr 4 h b e) w) := by
  have hc := hi.c4
  obtain ⟨x, hx⟩ := Int.eq_ofNat_of_zero_le (show 0 ≤ h.ofs from (show M.inR h.ofs from hp).1)
  have hx2 : x < 4294967296 := by have := (show M.inR h.ofs from hp).2; omega
  have hw : M.wr 4 h b e = M.putU 10 x := by show M.U h.ofs = _; rw [hx, M.U_nat]
  rw [hw] at hl ⊢
  rw [hx] at hc
  replace hx := Lib.hid hx
  replace ht := Lib.hid ht
  replace hw := Lib.hid hw
  go_enter Tryz.func223, Tryz.ntmps223
  go_wp2_with fail
  refine (tnumber_any B _ P out x ht.out (by omega) hl).mono ?_
  rintro e1 w1 ⟨rfl, t1, b1⟩
  replace t1 := Lib.hid t1
  replace b1 := Lib.hid b1
  go_wp2_with fail
  go_end0
  exact ⟨rfl, t1.out, b1.out⟩
set_option maxRecDepth 100000 in
theorem tblockType_any (B : Nat) (w : World) (P : Nat) (out : List Nat) (h : M.Hd) (b e : M.L) (vL vB vE : Value) (g o : Nat) (ht : TextAt B w P out) (hi : ItemAt w g o h vL vB vE) (hp : M.partOk 0 h) (hl : out.length + (M.wr 0 h b e).length ≤ 1000000) :
    Calls Tryz.prog 219 #[.pointer (some ⟨P, 0, none⟩), .pointer (some ⟨g, o, none⟩)] w (WPostT B P (out ++ M.wr 0 h b e) w) := by
  have hc := hi.c1
  have hp : M.tyOk h.ty := hp
  unfold M.tyOk at hp
  obtain ⟨x, hx⟩ := Int.eq_ofNat_of_zero_le (show 0 ≤ h.ty by omega)
  have hx2 : x < 256 := by omega
  have hw : M.wr 0 h b e = [x] := by show [h.ty.toNat] = _; rw [hx, Int.toNat_natCast]
  rw [hw] at hl ⊢
  rw [hx] at hc
  replace hx := Lib.hid hx
  replace ht := Lib.hid ht
  replace hp := Lib.hid hp
  replace hw := Lib.hid hw
  go_enter Tryz.func219, Tryz.ntmps219
  go_wp2_with fail
  refine (tfixed_any B _ P out x ht.out hx2 (by simpa using hl)).mono ?_
  rintro e1 w1 ⟨rfl, t1, b1⟩
  replace t1 := Lib.hid t1
  replace b1 := Lib.hid b1
  go_wp2_with fail
  go_end0
  exact ⟨rfl, t1.out, b1.out⟩
set_option maxRecDepth 100000 in
theorem tnought_any (B : Nat) (w : World) (P : Nat) (out : List Nat) (h : M.Hd) (b e : M.L) (q : Value) (ht : TextAt B w P out) (hl : out.length + (M.wr 5 h b e).length ≤ 1000000) :
    Calls Tryz.prog 224 #[.pointer (some ⟨P, 0, none⟩), q] w (WPostT B P (out ++ M.wr 5 h b e) w) := by
  have hw : M.wr 5 h b e = [0] := rfl
  rw [hw] at hl ⊢
  replace ht := Lib.hid ht
  replace hw := Lib.hid hw
  go_enter Tryz.func224, Tryz.ntmps224
  go_wp2_with fail
  refine (tfixed_any B _ P out 0 ht.out (by omega) (by simpa using hl)).mono ?_
  rintro e1 w1 ⟨rfl, t1, b1⟩
  replace t1 := Lib.hid t1
  replace b1 := Lib.hid b1
  go_wp2_with fail
  go_end0
  exact ⟨rfl, t1.out, b1.out⟩
set_option maxRecDepth 100000 in
theorem tend_any (B : Nat) (w : World) (P : Nat) (out : List Nat) (h : M.Hd) (b e : M.L) (q : Value) (ht : TextAt B w P out) (hl : out.length + (M.wr 9 h b e).length ≤ 1000000) :
    Calls Tryz.prog 228 #[.pointer (some ⟨P, 0, none⟩), q] w (WPostT B P (out ++ M.wr 9 h b e) w) := by
  have hw : M.wr 9 h b e = [11] := rfl
  rw [hw] at hl ⊢
  replace ht := Lib.hid ht
  replace hw := Lib.hid hw
  go_enter Tryz.func228, Tryz.ntmps228
  go_wp2_with fail
  refine (tfixed_any B _ P out 11 ht.out (by omega) (by simpa using hl)).mono ?_
  rintro e1 w1 ⟨rfl, t1, b1⟩
  replace t1 := Lib.hid t1
  replace b1 := Lib.hid b1
  go_wp2_with fail
  go_end0
  exact ⟨rfl, t1.out, b1.out⟩
namespace M
theorem Us_take (xs : List Int) (k : Nat) (hk : k < xs.length) : Us (xs.take (k + 1)) = Us (xs.take k) ++ U (xs.getD k 0) := by
  induction xs generalizing k with
  | nil => simp at hk
  | cons x t ih =>
    cases k with
    | zero => simp [Us]
    | succ k =>
      simp only [List.take_succ_cons, Us, List.append_assoc]
      rw [ih k (by simpa using hk)]
      simp
theorem Us_le (xs : List Int) (k : Nat) : (Us (xs.take k)).length ≤ (Us xs).length := by
  induction xs generalizing k with
  | nil => simp
  | cons x t ih =>
    cases k with
    | zero => simp [Us]
    | succ k => simp only [List.take_succ_cons, Us, List.length_append]; have := ih k; omega
end M
set_option maxRecDepth 100000 in
set_option maxHeartbeats 4000000 in
theorem tlabels_any (B : Nat) (w : World) (P : Nat) (out : List Nat) (h : M.Hd) (b e : M.L) (vL vB vE : Value) (g o : Nat) (ht : TextAt B w P out) (hi : ItemAt w g o h vL vB vE) (hg : g < B) (hL : NS w (· < B) vL h.labels) (hp : M.partOk 1 h) (hl : out.length + (M.wr 1 h b e).length ≤ 1000000) :
    Calls Tryz.prog 220 #[.pointer (some ⟨P, 0, none⟩), .pointer (some ⟨g, o, none⟩)] w (WPostT B P (out ++ M.wr 1 h b e) w) := by
  have hc := hi.c6
  have hBP := ht.hB
  obtain ⟨A, c, rfl, hL1, hL2⟩ := hL
  obtain ⟨xs, hxs⟩ : ∃ xs, xs = h.labels := ⟨_, rfl⟩
  have hp : ∀ x ∈ xs, M.inR x := by rw [hxs]; exact hp
  have hw : M.wr 1 h b e = M.putU 10 xs.length ++ M.Us xs := by rw [hxs]; show M.U (h.labels.length : Int) ++ _ = _; rw [M.U_nat]
  rw [hw] at hl ⊢
  rw [← hxs] at hc hL1 hL2
  simp only [List.length_append] at hl
  obtain ⟨n, hn⟩ : ∃ n, n = xs.length := ⟨_, rfl⟩
  rw [← hn] at hc hL1 hL2 hl ⊢
  replace hxs := Lib.hid hxs
  replace hw := Lib.hid hw
  replace hL2 := Lib.hid hL2
  replace hp := Lib.hid hp
  replace hn := Lib.hid hn
  replace ht := Lib.hid ht
  obtain ⟨hL1, hL3, hL4⟩ := hL1
  unfold maxLen at hL4
  go_enter Tryz.func220, Tryz.ntmps220
  go_wp2_with fail
  refine (tnumber_any B _ P out n ht.out (by omega) (by omega)).mono ?_
  rintro e1 w1 ⟨rfl, t1, b1⟩
  have hc1 : w1.cell? ⟨g, o + 6, none⟩ = some (.slice A n c) := by rw [b1.cell (by exact hg)]; exact hc
  replace t1 := Lib.hid t1
  replace b1 := Lib.hid b1
  go_wp2_with fail
  go_loopw [18] (fun i w' => ∃ k : Nat, k ≤ n ∧ i = .int .i64 k ∧ TextAt B w' P ((out ++ M.putU 10 n) ++ M.Us (xs.take k)) ∧ Below B w w') (fun i _ => n - (intOf i).toNat)
  case atStart => exact ⟨0, by omega, rfl, by simpa [M.Us] using t1.out, b1.out⟩
  case round =>
    obtain ⟨k, hk, rfl, hT, hb⟩ := hrel
    by_cases hlt : k < n
    · obtain ⟨ad, rfl, hS, hr, hcell⟩ := hL2.out k hlt
      have hx := hp.out (xs.getD k 0) (getD_mem (by rw [← hn.out]; exact hlt))
      obtain ⟨x, hxe⟩ := Int.eq_ofNat_of_zero_le hx.1
      have hx2 : x < 4294967296 := by have := hx.2; omega
      have hU : M.U (xs.getD k 0) = M.putU 10 x := by rw [hxe, M.U_nat]
      have hst := M.Us_take xs k (by rw [← hn.out]; exact hlt)
      have hle := M.Us_le xs (k + 1)
      rw [hst, hU, List.length_append] at hle
      rw [hU] at hst
      rw [hxe] at hcell
      have hc2 : wr.cell? (ad.add k) = some (.int .i64 (x : Nat)) := by rw [hb.cell (by rw [addr_block]; exact hS)]; exact hcell
      have t0 : (0 : Int) ≤ (k : Int) := by omega
      have tt1 : (k : Int) < (n : Int) := by omega
      replace hst := Lib.hid hst
      replace hU := Lib.hid hU
      replace hxe := Lib.hid hxe
      replace hT := Lib.hid hT
      replace hb := Lib.hid hb
      clear hcell
      go_wp2_with fail
      refine (tnumber_any B _ P _ x hT.out (by omega) (by simp only [List.length_append]; omega)).mono ?_
      rintro e2 w2 ⟨rfl, t2, b2⟩
      have b3 := Lib.hid (hb.out.trans b2)
      replace t2 := Lib.hid t2
      clear b2
      go_wp2_with fail
      exact ⟨⟨k + 1, by omega, by go_num, by rw [hst.out, ← List.append_assoc]; exact t2.out, b3.out⟩, by simp [intOf]; omega⟩
    · have hkn : k = n := by omega
      have htk : xs.take k = xs := by rw [hkn, hn.out]; exact List.take_length
      rw [htk, List.append_assoc] at hT
      have tlt : decide ((k : Int) < (n : Int)) = false := by simp; omega
      replace hT := Lib.hid hT
      replace hb := Lib.hid hb
      replace htk := Lib.hid htk
      replace hkn := Lib.hid hkn
      go_wp2_with fail
      go_end0
      exact ⟨rfl, hT.out, hb.out⟩
/-- What is known of one instruction that is to be written. -/
structure Wr1 (B N d : Nat) (w : World) (h : M.Hd) (b e : M.L) (vL vB vE : Value) (g o : Nat) : Prop where
  item : ItemAt w g o h vL vB vE
  hg : g < B
  rng : Rng h
  lab : NS w (· < B) vL h.labels
  body : LS w (· < B) vB b
  els : LS w (· < B) vE e
  ok : okI d h b e
  sb : b.sz < N
  se : e.sz < N
theorem Wr1.later {B N d : Nat} {w w' : World} {h : M.Hd} {b e : M.L} {vL vB vE : Value} {g o : Nat} (q : Wr1 B N d w h b e vL vB vE g o) (hb : Below B w w') : Wr1 B N d w' h b e vL vB vE g o :=
  ⟨q.item.agree (hb.block g q.hg), q.hg, q.rng, q.lab.agree (below_agree hb) (fun _ hk => hk), LS.agree q.body (below_agree hb) (fun _ hk => hk), LS.agree q.els (below_agree hb) (fun _ hk => hk), q.ok, q.sb, q.se⟩
def TListOk (N : Nat) : Prop := ∀ (B : Nat) (w : World) (P : Nat) (out : List Nat) (l : M.L) (v : Value) (d : Nat), l.sz < N → TextAt B w P out → LS w (· < B) v l → M.ok d l → out.length + (M.enc l).length ≤ 1000000 →
  Calls Tryz.prog 206 #[.pointer (some ⟨P, 0, none⟩), v] w (WPostT B P (out ++ M.enc l) w)
theorem okI_subs {d : Nat} {h : M.Hd} {b e : M.L} (q : okI d h b e) : M.flat h ∧ (∃ d', M.ok d' b) ∧ (∃ d', M.ok d' e) ∧ (h.op ≠ 4 → e = .nil) ∧ M.kind h.op ≠ 0 := by
  obtain ⟨hf, h2, hb, he⟩ := q
  have hk : M.kind h.op ≠ 0 := fun k0 => absurd (M.flat_to k0 hf) (by simp [M.flatK])
  by_cases k2 : M.kind h.op = 2
  · exact ⟨hf, ⟨_, (h2 k2).2.1⟩, ⟨_, (h2 k2).2.2⟩, he, hk⟩
  · have h4 : h.op ≠ 4 := fun e4 => k2 ((M.kind_block h.op).2 (by omega))
    have e1 := hb k2
    have e2 := he h4
    subst e1 e2
    exact ⟨hf, ⟨0, trivial⟩, ⟨0, trivial⟩, he, hk⟩
set_option maxRecDepth 100000 in
theorem tbody_any (N : Nat) (ih : TListOk N) (B d : Nat) (w : World) (P : Nat) (out : List Nat) (h : M.Hd) (b e : M.L) (vL vB vE : Value) (g o : Nat) (ht : TextAt B w P out) (q : Wr1 B N d w h b e vL vB vE g o) (hl : out.length + (M.wr 7 h b e).length ≤ 1000000) :
    Calls Tryz.prog 226 #[.pointer (some ⟨P, 0, none⟩), .pointer (some ⟨g, o, none⟩)] w (WPostT B P (out ++ M.wr 7 h b e) w) := by
  have hc := q.item.c7
  obtain ⟨d', hok⟩ := (okI_subs q.ok).2.1
  replace q := Lib.hid q
  replace ht := Lib.hid ht
  replace ih := Lib.hid ih
  have hw : M.wr 7 h b e = M.enc b := rfl
  rw [hw] at hl ⊢
  replace hw := Lib.hid hw
  replace hok := Lib.hid hok
  obtain ⟨A, c, rfl, _⟩ := LS.form q.out.body
  go_enter Tryz.func226, Tryz.ntmps226
  go_wp2_with fail
  refine (ih.out B _ P out b _ d' q.out.sb ht.out q.out.body hok.out hl).mono ?_
  rintro e1 w1 ⟨rfl, t1, b1⟩
  replace t1 := Lib.hid t1
  replace b1 := Lib.hid b1
  go_wp2_with fail
  go_end0
  exact ⟨rfl, t1.out, b1.out⟩
set_option maxRecDepth 100000 in
theorem totherwise_any (N : Nat) (ih : TListOk N) (B d : Nat) (w : World) (P : Nat) (out : List Nat) (h : M.Hd) (b e : M.L) (vL vB vE : Value) (g o : Nat) (ht : TextAt B w P out) (q : Wr1 B N d w h b e vL vB vE g o) (hl : out.length + (M.wr 8 h b e).length ≤ 1000000) :
    Calls Tryz.prog 227 #[.pointer (some ⟨P, 0, none⟩), .pointer (some ⟨g, o, none⟩)] w (WPostT B P (out ++ M.wr 8 h b e) w) := by
  have hc := q.item.c8
  have hg := q.hg
  obtain ⟨d', hok⟩ := (okI_subs q.ok).2.2.1
  replace q := Lib.hid q
  replace ht := Lib.hid ht
  replace ih := Lib.hid ih
  replace hok := Lib.hid hok
  obtain ⟨A, c, rfl, hbd⟩ := LS.form q.out.els
  obtain ⟨hb1, hb2, hb3⟩ := hbd
  unfold maxLen at hb3
  by_cases h0 : e.len = 0
  · have he := M.len_zero h0
    have hw := Lib.hid (show M.wr 8 h b e = [] by rw [he]; rfl)
    have tz3 : decide (0 < e.len) = false := by simp; omega
    replace he := Lib.hid he
    replace h0 := Lib.hid h0
    go_enter Tryz.func227, Tryz.ntmps227
    go_wp2_with fail
    go_end0
    exact ⟨rfl, by rw [hw.out, List.append_nil]; exact ht.out, Below.refl _ _⟩
  · have hw : M.wr 8 h b e = 5 :: M.enc e := by
      cases e with
      | nil => exact absurd rfl h0
      | cons => rfl
    rw [hw] at hl ⊢
    simp only [List.length_cons] at hl
    have tz3 : decide (0 < e.len) = true := by simp; omega
    replace hw := Lib.hid hw
    replace h0 := Lib.hid h0
    go_enter Tryz.func227, Tryz.ntmps227
    go_wp2_with fail
    refine (tfixed_any B _ P out 5 ht.out (by omega) (by omega)).mono ?_
    rintro e1 w1 ⟨rfl, t1, b1⟩
    have hc1 : w1.cell? ⟨g, o + 8, none⟩ = some (.slice A e.len c) := by rw [b1.cell (by exact hg)]; exact hc
    have q1 := Lib.hid (q.out.later b1)
    replace t1 := Lib.hid t1
    replace b1 := Lib.hid b1
    go_wp2_with fail
    refine (ih.out B _ P (out ++ [5]) e _ d' q1.out.se t1.out q1.out.els hok.out (by simp only [List.length_append, List.length_cons, List.length_nil]; omega)).mono ?_
    rintro e2 w2 ⟨rfl, t2, b2⟩
    have b3 := Lib.hid (b1.out.trans b2)
    replace t2 := Lib.hid t2
    clear b2
    go_wp2_with fail
    go_end0
    exact ⟨rfl, by have := t2.out; rw [List.append_assoc] at this; exact this, b3.out⟩
end Go.Proofs.YtilaheifccjjeaaGreat
