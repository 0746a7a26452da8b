/-
  What the program's reader of a list answers, given what it answers one block deeper; condition: the place lies in memory that was there at the call.
-/
import Derived.Test.YtmejgbbdehndaaaGreatInstr
namespace Go.Proofs.YtmejgbbdehndaaaGreat
open Go.RowKit
def atOf (w : World) (P : Nat) : Nat := match w.cell? ⟨P, 1, none⟩ with | some (.int _ q) => q.toNat | _ => 0
theorem atOf_eq {w : World} {P : Nat} {A : Option Addr} {c : Nat} {bs : List Nat} {p d : Nat} (h : PlaceAt w P A c bs p d) : atOf w P = p := by unfold atOf; rw [h.c1]; simp
/-- What the loop of the list keeps up. -/
def LRel (P : Nat) (ad : Addr) (c : Nat) (bs : List Nat) (d p : Nat) (w : World) (v : Value) (w' : World) : Prop :=
  ∃ (q : Nat) (acc : M.L) (xs : List Value), PlaceAt w' P (some ad) c bs q d ∧ w'.ownsRow w.heap.size 68 9 v acc.len xs ∧ Items w' (fun k => (w.heap.size ≤ k ∧ k < w'.heap.size) ∧ v.ownBlock ≠ some k) acc xs ∧ Kb (· = P) w w' ∧
    M.dec (40 - d) (bs.drop p) = (M.dec (40 - d) (bs.drop q)).bind (fun x => some (acc.app x.1, x.2)) ∧ acc.len ≤ q
theorem next_t (w : World) (P : Nat) (A : Option Addr) (c : Nat) (bs : List Nat) (p d x : Nat) (xi : Int) (t : Bool) (h : PlaceAt w P A c bs p d) (hx : x < 256) (ht : nextB bs p x = t) (hxi : xi = (x : Nat)) (n : Nat) :
    Calls Tryz.prog 257 #[.pointer (some ⟨P, 0, none⟩), .int .u8 xi] (w.drewN n) fun e w' => e = .returned (.bool t) ∧ ∃ m, w' = w.drewN m := by
  subst hxi
  refine (next_any _ P A c bs p d x (drewN_place h n) hx).mono fun _ _ ⟨a, m, b⟩ => ⟨by rw [a, ht], n + m, ?_⟩
  rw [b]
  simp [World.drewN, Nat.add_assoc]
def zero9 : Array Value := #[.int .i64 0, .int .i64 0, .int .i64 0, .int .i64 0, .int .i64 0, .int .i64 0, .slice none 0 0, .slice none 0 0, .slice none 0 0]
theorem instr_info : (Tryz.prog.info? 68).map (fun i => (i.zero, i.size, i.bytes)) = some (some (.agg zero9), 9, 120) := by kernel_rfl
/-- The row behind the reading of its last instruction. -/
theorem row_after {w3 w4 : World} {base g n cap P : Nat} {xs zs : List Value} {h : M.Hd} {vL vB vE : Value} (hown : w3.ownsRow base 68 9 (.slice (some ⟨g, 0, none⟩) (n + 1) cap) (n + 1) (xs ++ zs)) (hx : xs.length = n * 9) (hst : Step P g (n * 9) w3 w4) (hi : ItemAt w4 g (n * 9) h vL vB vE) :
    w4.ownsRow base 68 9 (.slice (some ⟨g, 0, none⟩) (n + 1) cap) (n + 1) (xs ++ item9 h vL vB vE) := by
  rcases hown.2 with ⟨e, _⟩ | ⟨g', cap', cur, e, hb, hg, h1, h2, h3, h4⟩
  · cases e
  · cases e
    obtain ⟨cur', k1, k2, k3⟩ := hst.blk cur hg
    refine ⟨by simp [item9]; omega, .inr ⟨g, cap, cur', rfl, hb, k1, h1, h2, by rw [k2]; exact h3, ?_⟩⟩
    have hc : ∀ j, w4.cell? ⟨g, j, none⟩ = cur'[j]? := Blk.cell k1
    apply List.ext_getElem?
    intro i
    rw [List.getElem?_take]
    by_cases hi1 : i < n * 9
    · rw [if_pos (by omega), List.getElem?_append_left (by omega), Array.getElem?_toList, k3 i (.inl hi1)]
      have h5 : (cur.toList.take ((n + 1) * 9))[i]? = (xs ++ zs)[i]? := by rw [h4]
      rw [List.getElem?_take, if_pos (by omega), List.getElem?_append_left (by omega), Array.getElem?_toList] at h5
      exact h5
    · by_cases hi2 : i < (n + 1) * 9
      · rw [if_pos hi2, List.getElem?_append_right (by omega), Array.getElem?_toList, ← hc i, hx]
        obtain ⟨c0, c1, c2, c3, c4, c5, c6, c7, c8⟩ := hi
        obtain ⟨j, rfl⟩ : ∃ j, i = n * 9 + j := ⟨i - n * 9, by omega⟩
        rw [Nat.add_sub_cancel_left]
        have hj : j = 0 ∨ j = 1 ∨ j = 2 ∨ j = 3 ∨ j = 4 ∨ j = 5 ∨ j = 6 ∨ j = 7 ∨ j = 8 := by omega
        rcases hj with rfl | rfl | rfl | rfl | rfl | rfl | rfl | rfl | rfl
        · exact c0
        · exact c1
        · exact c2
        · exact c3
        · exact c4
        · exact c5
        · exact c6
        · exact c7
        · exact c8
      · rw [if_neg hi2, List.getElem?_eq_none (by simp [item9]; omega)]
set_option maxRecDepth 100000 in
set_option maxHeartbeats 4000000 in
theorem list_of (lab : LabelsOk) (d : Nat) (ih : d < 40 → ListOk (d + 1)) : ListOk d := by
  intro P ad c bs p w h
  obtain ⟨i0, hi0, hz0, hz1, hz2⟩ := info_parts instr_info
  have h0 := Lib.hid h
  have hPs := h.size
  clear h
  replace ih := Lib.hid ih
  replace lab := Lib.hid lab
  go_enter Tryz.func236, Tryz.ntmps236
  go_wp2_with fail
  go_loopw [4] (fun v w' => LRel P ad c bs d p w v w') (fun _ w' => bs.length - atOf w' P)
  case atStart => exact ⟨p, .nil, [], h0.out, World.ownsRow_nil _ _ _ _, rfl, Kb.refl _ _, by cases M.dec (40 - d) (bs.drop p) <;> rfl, by simp [M.L.len]⟩
  case round =>
    obtain ⟨q, acc, xs, pl, own, its, kb, hdec, hlen⟩ := hrel
    have PL := Lib.hid pl
    have hatq := Lib.hid (atOf_eq pl)
    obtain ⟨c0, c1, c2, c3, c4, c5, c6, c7, c8, c9, c10, c11, c12, f1, f2, le, cap, small, deep, bytes, size⟩ := pl
    clear c2 c3 c4 c5 c6 c7 c8 c9 c10 c11 c12 f1 f2 bytes
    obtain ⟨cap1, cap2⟩ := cap
    unfold maxLen at cap2
    replace own := Lib.hid own
    replace its := Lib.hid its
    replace kb := Lib.hid kb
    replace hdec := Lib.hid hdec
    have fin := Lib.hid (show M.dec (40 - d) (bs.drop q) = some (.nil, bs.drop q) → ∀ n, ListPost P ad c bs d p w (.returned (.tuple #[u4, .bool true])) (wr.drewN n) from fun hs n => by
      refine .inl ⟨acc, bs.drop q, u4, q, by rw [hdec.out, hs]; simp [M.app_nil], rfl, drewN_place PL.out n, rfl, ?_, ⟨kb.out.os, kb.out.tape, kb.out.output, kb.out.size, kb.out.block⟩⟩
      refine ⟨xs, ownsRow_agree (ownsRow_base own.out (fun _ _ => Nat.zero_le _)) (fun _ _ => rfl), fun g hg => own.out.lt g hg, by omega, Items.agree (show Agree _ wr (wr.drewN n) from fun _ _ => rfl) (fun k hk => hk.1) acc xs its.out⟩)
    by_cases hq : q < bs.length
    · obtain ⟨ad', y, ea, hd, hy, hcell⟩ := PL.out.byte hq
      injection ea with ea
      subst ea
      have t1 : (q : Int) < (bs.length : Int) := by omega
      have t1' : decide ((q : Int) < (bs.length : Int)) = true := by simpa using t1
      have t1'' : decide (q < bs.length) = true := by simpa using hq
      by_cases h5 : y = 5
      · have n5 := Lib.hid (show nextB bs q 5 = true by unfold nextB; rw [hd, h5]; rfl)
        have hs := Lib.hid (fin.out (by rw [hd]; exact M.dec_stop _ _ _ (.inl h5)))
        clear fin hd h5 hcell
        go_wp2_with fail
        go_quiet ((go_at_call 257; exact next_t _ P (some ad) c bs q d 5 5 true PL.out (by omega) n5.out rfl _))
        go_wp2_with fail
        go_ret2
        exact hs.out nq
      · by_cases h11 : y = 11
        · have n5 := Lib.hid (show nextB bs q 5 = false by unfold nextB; rw [hd, h11]; rfl)
          have n11 := Lib.hid (show nextB bs q 11 = true by unfold nextB; rw [hd, h11]; rfl)
          have hs := Lib.hid (fin.out (by rw [hd]; exact M.dec_stop _ _ _ (.inr h11)))
          clear fin hd h5 h11 hcell
          go_wp2_with fail
          go_quiet (first | (go_at_call_of 257 (Value.int IntKind.u8 5); exact next_t _ P (some ad) c bs q d 5 5 false PL.out (by omega) n5.out rfl _) | (go_at_call_of 257 (Value.int IntKind.u8 11); exact next_t _ P (some ad) c bs q d 11 11 true PL.out (by omega) n11.out rfl _))
          go_wp2_with fail
          go_ret2
          exact hs.out nq
        · have n5 := Lib.hid (show nextB bs q 5 = false by unfold nextB; rw [hd]; simp [h5])
          have n11 := Lib.hid (show nextB bs q 11 = false by unfold nextB; rw [hd]; simp [h11])
          have hst := Lib.hid (M.dec_step (40 - d) y (bs.drop (q + 1)) (by omega))
          rw [← hd] at hst
          replace hd := Lib.hid hd
          clear fin hcell
          go_wp2_with fail
          go_quiet (first | (go_at_call_of 257 (Value.int IntKind.u8 5); exact next_t _ P (some ad) c bs q d 5 5 false PL.out (by omega) n5.out rfl _) | (go_at_call_of 257 (Value.int IntKind.u8 11); exact next_t _ P (some ad) c bs q d 11 11 false PL.out (by omega) n11.out rfl _))
          have PL2 := Lib.hid (drewN_place PL.out nq)
          have own2 := Lib.hid (show (wr.drewN nq).ownsRow w.heap.size 68 9 u4 acc.len xs from ownsRow_agree own.out (fun _ _ => rfl))
          have its2 := Lib.hid (show Items (wr.drewN nq) (fun k => (w.heap.size ≤ k ∧ k < (wr.drewN nq).heap.size) ∧ u4.ownBlock ≠ some k) acc xs from Items.agree (show Agree _ wr (wr.drewN nq) from fun _ _ => rfl) (fun k hk => hk) acc xs its.out)
          have kb2 := Lib.hid (show Kb (· = P) w (wr.drewN nq) from ⟨kb.out.os, kb.out.tape, kb.out.output, kb.out.size, kb.out.block⟩)
          have hsz : P < (wr.drewN nq).heap.size := size
          clear own its kb PL c0 c1 size
          generalize wr.drewN nq = w1 at PL2 own2 its2 kb2 hsz ⊢
          have hws : w.heap.size ≤ w1.heap.size := kb2.out.size
          go_wp2_with (first
            | (at_builtin; refine wpList_append_lies _ rfl _ _ 62 rfl w.heap.size 68 i0 (.agg zero9) 9 120 Tryz.underlying62 hi0 hz0 hz1 hz2 rfl (by decide) u4 acc.len xs rfl (own2.out.alloc _) ⟨w1.heap.size, 0, none⟩ 1 1 zero9.toList rfl rfl (World.news_of_block (cs := zero9) (t := 68) (fr := (0, 0)) (heap_alloc_new w1 _)) (by decide) (by omega) (by unfold maxLen; omega) (by omega) (by simp; omega) (w1.heap.size + 1) (by simp) ?_; intro g cap w3 hown3 hgrow3 hat3 hlt3))
          have hxl : xs.length = acc.len * 9 := own2.out.1
          have hu4 : ∀ k, u4.ownBlock = some k → w.heap.size ≤ k ∧ k < w1.heap.size := fun k hk => own2.out.lt k hk
          have hPg : P < g := by
            rcases hat3 with h9 | h9
            · have := (hu4 g h9).1; omega
            · omega
          have hold : ∀ k, k < w1.heap.size → u4.ownBlock ≠ some k → w3.heap[k]? = w1.heap[k]? := fun k hk hne => by
            rw [hgrow3.block k (by simp; omega) (fun e => hne e.symm)]
            exact Below.heap_alloc _ _ _ hk
          have hw13 : w1.heap.size ≤ w3.heap.size := by have := hgrow3.size; simp at this; omega
          have pl3 : PlaceAt w3 P (some ad) c bs q d := PL2.out.agree (fun k hk => hold k (by omega) (fun e => by have := (hu4 k e).1; omega)) hw13
          have hcells := fun j u hu => hown3.cells (g := g) rfl j u hu
          have hz : ∀ j u, zero9[j]? = some u → w3.cell? ⟨g, acc.len * 9 + j, none⟩ = some u := fun j u hu => by
            have := hcells (acc.len * 9 + j) u (by rw [List.getElem?_append_right (by omega), hxl, Nat.add_sub_cancel_left, Array.getElem?_toList]; exact hu)
            rwa [add_none, Nat.zero_add] at this
          have it3 : ItemAt w3 g (acc.len * 9) (M.hd0 0) (.slice none 0 0) (.slice none 0 0) (.slice none 0 0) := ⟨hz 0 _ rfl, hz 1 _ rfl, hz 2 _ rfl, hz 3 _ rfl, hz 4 _ rfl, hz 5 _ rfl, hz 6 _ rfl, hz 7 _ rfl, hz 8 _ rfl⟩
          have blk3 : ∃ cur, Blk w3 g cur := by
            rcases hown3.2 with ⟨e, _⟩ | ⟨g', cap', cur, e, _, hg, _⟩
            · cases e
            · cases e; exact ⟨cur, hg⟩
          refine (instr_of lab.out P ad c bs d q g (acc.len * 9) y w3 ih.out pl3 hd.out hq hPg it3 blk3).mono ?_
          rintro e1 w4 (⟨s', q', vL, vB, vE, hres, rfl, hrs, hstp⟩ | ⟨hres, rfl, hpl', hstp⟩)
          · obtain ⟨⟨⟨h, b, e⟩, r⟩, hins, hs'⟩ := Option.bind_eq_some_iff.1 hres
            cases hs'
            have hrest : r = bs.drop q' := hrs.rest
            have hless := M.ins_less (M.sub_less (40 - d)) hins
            simp only [hrest, List.length_drop] at hless
            have hq' := hrs.place.le
            have hg4 : w3.heap.size ≤ w4.heap.size := hstp.kb.size
            have own4 := Lib.hid (row_after hown3 hxl hstp hrs.item)
            have same : ∀ k, k < w1.heap.size → u4.ownBlock ≠ some k → k ≠ P → k ≠ g → w4.heap[k]? = w1.heap[k]? := fun k hk h1 h2 h3 => by
              rw [hstp.kb.block k (by omega) (by omega)]
              exact hold k hk h1
            have hgb : w.heap.size ≤ g := by
              rcases hat3 with h9 | h9
              · exact (hu4 g h9).1
              · omega
            have itsA : Items w4 (fun k => (w.heap.size ≤ k ∧ k < w4.heap.size) ∧ (Value.slice (some ⟨g, 0, none⟩) (acc.len + 1) cap).ownBlock ≠ some k) acc xs := by
              refine Items.agree (show Agree (fun k => (w.heap.size ≤ k ∧ k < w1.heap.size) ∧ u4.ownBlock ≠ some k) w1 w4 from fun k hk => same k hk.1.2 hk.2 (by have := hk.1.1; omega) ?_) (fun k hk => ⟨⟨hk.1.1, by have := hk.1.2; omega⟩, ?_⟩) acc xs its2.out
              · rcases hat3 with h9 | h9
                · intro e9; exact hk.2 (by rw [h9, e9])
                · have := hk.1.2; omega
              · intro e9
                have e9 : g = k := by simpa [Value.ownBlock] using e9
                rcases hat3 with h9 | h9
                · exact hk.2 (by rw [h9, e9])
                · have := hk.1.2; omega
            have hmn : ∀ k, Since w3.heap.size w4 k → (w.heap.size ≤ k ∧ k < w4.heap.size) ∧ (Value.slice (some ⟨g, 0, none⟩) (acc.len + 1) cap).ownBlock ≠ some k := fun k hk => ⟨⟨by have := hk.1; omega, hk.2⟩, fun e9 => by
              have e9 : g = k := by simpa [Value.ownBlock] using e9
              have := hk.1; omega⟩
            have its4 := Lib.hid (Items.app hrs.rng (hrs.own.agree (fun _ _ => rfl) hmn) (hrs.ownB.agree (fun _ _ => rfl) hmn) (hrs.ownE.agree (fun _ _ => rfl) hmn) acc xs itsA)
            have kb4 := Lib.hid (show Kb (· = P) w w4 from ⟨(hstp.kb.os.trans hgrow3.os).trans kb2.out.os, (hstp.kb.tape.trans hgrow3.tape).trans kb2.out.tape, (hstp.kb.output.trans hgrow3.output).trans kb2.out.output, by omega, fun k hk hne => (same k (by omega) (fun e9 => by have := (hu4 k e9).1; omega) hne (by omega)).trans (kb2.out.block k hk hne)⟩)
            have pl4 := Lib.hid hrs.place
            have hdec4 := Lib.hid (show M.dec (40 - d) (bs.drop p) = (M.dec (40 - d) (bs.drop q')).bind (fun x => some ((acc.app (.cons h b e .nil)).app x.1, x.2)) by
              rw [hdec.out, hst.out, hins, hrest]
              simp only [Option.bind_some, Option.bind_assoc, M.app_assoc]
              rfl)
            have hl4 : (acc.app (.cons h b e .nil)).len = acc.len + 1 := by rw [M.app_len]; rfl
            clear hrs hstp hins hres same itsA hmn hold hcells hz it3 blk3 pl3 hown3 hgrow3
            replace hl4 := Lib.hid hl4
            replace hrest := Lib.hid hrest
            go_wp2_with fail
            refine ⟨⟨q', acc.app (.cons h b e .nil), _, pl4.out, by rw [hl4.out]; exact own4.out, its4.out, kb4.out, hdec4.out, by rw [hl4.out]; omega⟩, ?_⟩
            rw [atOf_eq pl4.out, hatq.out]
            omega
          · have hins : M.ins (M.subOf (40 - d)) y (bs.drop (q + 1)) = none := by
              cases hi : M.ins (M.subOf (40 - d)) y (bs.drop (q + 1)) with
              | none => rfl
              | some x => rw [hi] at hres; cases hres
            have hnone := Lib.hid (show M.dec (40 - d) (bs.drop p) = none by rw [hdec.out, hst.out, hins]; rfl)
            have hgb : w.heap.size ≤ g := by
              rcases hat3 with h9 | h9
              · exact (hu4 g h9).1
              · omega
            have hg4 : w3.heap.size ≤ w4.heap.size := hstp.kb.size
            have kb4 := Lib.hid (show Kb (· = P) w w4 from ⟨(hstp.kb.os.trans hgrow3.os).trans kb2.out.os, (hstp.kb.tape.trans hgrow3.tape).trans kb2.out.tape, (hstp.kb.output.trans hgrow3.output).trans kb2.out.output, by omega, fun k hk hne => by
              rw [hstp.kb.block k (by omega) (by omega), hold k (by omega) (fun e9 => by have := (hu4 k e9).1; omega)]
              exact kb2.out.block k hk hne⟩)
            replace hpl' := Lib.hid hpl'
            clear hstp hins hres hold hcells hz it3 blk3 pl3 hown3 hgrow3
            go_wp2_with fail
            go_ret2
            exact .inr ⟨hnone.out, rfl, hpl'.out, kb4.out⟩
    · have hs := Lib.hid (fin.out (by rw [List.drop_eq_nil_of_le (by omega)]; exact M.dec_nil _))
      have t1' : decide ((q : Int) < (bs.length : Int)) = false := by simp; omega
      have t1'' : decide (q < bs.length) = false := by simpa using hq
      clear fin
      go_wp2_with fail
      go_quiet (fail)
      go_wp2_with fail
      go_ret2
      exact hs.out nq
end Go.Proofs.YtmejgbbdehndaaaGreat
