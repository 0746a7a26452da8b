/-
  What the program's reader of a constant's number answers; condition: the place and the instruction lie in memory that was there at the call.
-/
import Derived.Test.YtmejgbbdehndaaaGreatReaders
namespace Go.Proofs.YtmejgbbdehndaaaGreat
open Go.RowKit
theorem width_l (op W : Int) (w : World) (hW : widthOf op = W) : Calls Tryz.prog 265 #[.int .i64 op] w fun e w' => e = .returned (.int .i64 W) ∧ w = w' := (width_any op w).mono fun _ _ ⟨a, b⟩ => ⟨by rw [a, hW], b⟩
set_option maxRecDepth 100000 in
theorem val_32 (P : Nat) (ad : Addr) (c : Nat) (bs : List Nat) (d g o base : Nat) (sub : M.Rd) (s : M.Stt) (w : World) (p : Nat) (vL vB vE : Value) (h : RS P (some ad) c bs d g o base s w p vL vB vE) (hwd : M.wd s.h.op = 32) :
    Calls Tryz.prog 253 #[.pointer (some ⟨P, 0, none⟩), .pointer (some ⟨g, o, none⟩)] w (RdPost P (some ad) c bs d g o base w (M.rdPart sub 6 s)) := by
  have hW := Lib.hid (show widthOf s.h.op = 32 by
    unfold M.wd at hwd
    unfold widthOf
    split at hwd
    · rename_i e; first | (exfalso; omega) | rw [if_pos e]
    · rename_i e; first | (exfalso; omega) | rw [if_neg e])
  have h0 := Lib.hid h
  have hop := h.item.c0
  have hc5 := h.item.c5
  obtain ⟨cur, hcur⟩ := h.blk
  have hf := hcur.frozen (o + 5)
  have hPg := h.apart
  have hr := h.rest
  have hpl := Lib.hid h.place
  have hglt := h.lt
  clear hcur
  obtain ⟨c0, c1, c2, c3, c4, c5, c6, c7, c8, c9, c10, c11, c12, f1, f2, le, cap, small, deep, bytes, size⟩ := h.place
  clear c2 c3 c4 c5 c6 c7 c8 c9 c10 c11 c12 f2
  obtain ⟨cap1, cap2⟩ := cap
  unfold maxLen at cap2
  replace bytes := Lib.hid bytes
  clear h
  have t0 : (0 : Int) ≤ (p : Int) := by omega
  have t1 : (p : Int) ≤ (bs.length : Int) := by omega
  have hgP : ¬ g = P := by omega
  cases hn : M.sgn 32 (bs.drop p) with
  | none =>
    have hres := Lib.hid (show M.rdPart sub 6 s = none by simp only [M.rdPart, hr, hwd, hn]; rfl)
    have hS := Lib.hid (sgn_none hn)
    clear hn hr hwd
    by_cases t2 : c = p
    · have hl0 : bs.length = p := by omega
      have h00 : bs.length - p = 0 := by omega
      go_enter Tryz.func253, Tryz.ntmps253
      go_wp2_with fail
      go_region_held3 (fun w' => w'.cell? ⟨P, 0, none⟩ = some (.slice (some ad) bs.length c) ∧ w'.cell? ⟨P, 1, none⟩ = some (.int .i64 (p : Nat)) ∧ w'.cell? ⟨g, o, none⟩ = some (.int .i64 s.h.op) ∧ Below w.heap.size w w')
    (first | exact ⟨c0, c1, hop, (Below.refl _ _).drew⟩ | assumption | (go_split_ands; exact ⟨by rw [hw2.cell (p := ⟨P, 0, none⟩) (by exact size)]; exact c0, by rw [hw2.cell (p := ⟨P, 1, none⟩) (by exact size)]; exact c1, by rw [hw2.cell (p := ⟨g, o, none⟩) (by exact hglt)]; exact hop, (Below.drew (Below.refl _ _)).trans hw2⟩))
    (first
      | (go_at_call 265; refine (width_l _ _ _ hW.out).mono ?_; rintro e w2 ⟨rfl, rfl⟩)
      | (go_at_call 267; refine (Sint_no (some ad) 0 _ (M.bf (bs.drop p)) 32 _ (fun i hi => absurd hi (Nat.not_lt_zero _)) (by unfold maxLen; omega) (by omega) (by omega) (fun n hn => hn.2.1 (by rw [← hn.1]; rfl))).mono ?_; rintro e w2 ⟨rfl, hw2⟩))
      have d2 := Lib.hid ((Below.drew (Below.refl w.heap.size w)).trans hw2)
      clear hw2
      go_wp2_with fail
      go_ret
      exact .inr ⟨hres.out, rfl, ⟨p, hpl.out.agree (fun k hk => d2.out.block k (by omega)) d2.out.size⟩, Step.of_kb (.of_below d2.out) hglt (by omega)⟩
    · go_enter Tryz.func253, Tryz.ntmps253
      go_wp2_with fail
      go_region_held3 (fun w' => w'.cell? ⟨P, 0, none⟩ = some (.slice (some ad) bs.length c) ∧ w'.cell? ⟨P, 1, none⟩ = some (.int .i64 (p : Nat)) ∧ w'.cell? ⟨g, o, none⟩ = some (.int .i64 s.h.op) ∧ Below w.heap.size w w')
    (first | exact ⟨c0, c1, hop, (Below.refl _ _).drew⟩ | assumption | (go_split_ands; exact ⟨by rw [hw2.cell (p := ⟨P, 0, none⟩) (by exact size)]; exact c0, by rw [hw2.cell (p := ⟨P, 1, none⟩) (by exact size)]; exact c1, by rw [hw2.cell (p := ⟨g, o, none⟩) (by exact hglt)]; exact hop, (Below.drew (Below.refl _ _)).trans hw2⟩))
    (first
      | (go_at_call 265; refine (width_l _ _ _ hW.out).mono ?_; rintro e w2 ⟨rfl, rfl⟩)
      | (go_at_call 267; refine (Sint_no (some (ad.add p)) (bs.length - p) (c - p) (M.bf (bs.drop p)) 32 _ ?_ (by unfold maxLen; omega) (by omega) (by omega) (by rw [← List.length_drop]; exact hS.out)).mono ?_; (rw [← List.length_drop]; exact (rest_bytes p bytes.out).below (Below.drew (Below.refl _ _)) (Nat.le_of_lt size)); rintro e w2 ⟨rfl, hw2⟩))
      have d2 := Lib.hid ((Below.drew (Below.refl w.heap.size w)).trans hw2)
      clear hw2
      go_wp2_with fail
      go_ret
      exact .inr ⟨hres.out, rfl, ⟨p, hpl.out.agree (fun k hk => d2.out.block k (by omega)) d2.out.size⟩, Step.of_kb (.of_below d2.out) hglt (by omega)⟩
  | some x =>
    obtain ⟨v, r⟩ := x
    obtain ⟨n, hS, hv, hrq, n1, n2⟩ := sgn_of hn
    have hvr := (M.sgn_short hn).1
    have hres := Lib.hid (show M.rdPart sub 6 s = some { s with r := r, h := { s.h with val := v } } by simp only [M.rdPart, hr, hwd, hn]; rfl)
    rw [List.length_drop] at n2
    have t2 : ¬ c = p := by omega
    replace hS := Lib.hid hS
    replace hrq := Lib.hid hrq
    replace hv := Lib.hid hv
    replace hvr := Lib.hid hvr
    clear hn hr hwd
    go_enter Tryz.func253, Tryz.ntmps253
    go_wp2_with fail
    go_region_held3 (fun w' => w'.cell? ⟨P, 0, none⟩ = some (.slice (some ad) bs.length c) ∧ w'.cell? ⟨P, 1, none⟩ = some (.int .i64 (p : Nat)) ∧ w'.cell? ⟨g, o, none⟩ = some (.int .i64 s.h.op) ∧ Below w.heap.size w w')
    (first | exact ⟨c0, c1, hop, (Below.refl _ _).drew⟩ | assumption | (go_split_ands; exact ⟨by rw [hw2.cell (p := ⟨P, 0, none⟩) (by exact size)]; exact c0, by rw [hw2.cell (p := ⟨P, 1, none⟩) (by exact size)]; exact c1, by rw [hw2.cell (p := ⟨g, o, none⟩) (by exact hglt)]; exact hop, (Below.drew (Below.refl _ _)).trans hw2⟩))
    (first
      | (go_at_call 265; refine (width_l _ _ _ hW.out).mono ?_; rintro e w2 ⟨rfl, rfl⟩)
      | (go_at_call 267; refine (Sint_yes (some (ad.add p)) (bs.length - p) (c - p) (M.bf (bs.drop p)) 32 n _ ?_ (by unfold maxLen; omega) (by omega) (by omega) (by rw [← List.length_drop]; exact hS.out)).mono ?_; (rw [← List.length_drop]; exact (rest_bytes p bytes.out).below (Below.drew (Below.refl _ _)) (Nat.le_of_lt size)); rintro e w2 ⟨rfl, hw2⟩))
    have d2 : Below w.heap.size w w2 := (Below.drew (Below.refl _ _)).trans hw2
    have hc52 : w2.cell? ⟨g, o + 5, none⟩ = some (.int .i64 s.h.val) := by rw [d2.cell (by exact hglt)]; exact hc5
    have hf2 : w2.frozen? ⟨g, o + 5, none⟩ = false := by rw [d2.frozen (by exact hglt)]; exact hf
    have c12 : w2.cell? ⟨P, 1, none⟩ = some (.int .i64 (p : Nat)) := by rw [d2.cell (by exact size)]; exact c1
    have f12 : w2.frozen? ⟨P, 1, none⟩ = false := by rw [d2.frozen (by exact size)]; exact f1
    rw [← hv.out]
    clear hw2 c0 c1 f1 hc5 hf hop
    replace d2 := Lib.hid d2
    go_wp2_with fail
    go_ret
    obtain ⟨st, pl, it, it1⟩ := h0.out.num (j := 5) (v := v) (q := p + n) d2.out (by omega) (by decide)
    have hR := h0.out.rng
    have hvr' := hvr.out
    simp at hvr'
    rw [Int.natCast_add] at st pl it
    exact .inl ⟨_, p + n, vL, vB, vE, hres.out, rfl, h0.out.step st pl (by simp only; rw [hrq.out, List.drop_drop]) (it _ (it1.put5 _)) ⟨hR.r0, hR.r1, hR.r2, hR.r3, hR.r4, by simp only; omega⟩ rfl rfl rfl, st⟩
set_option maxRecDepth 100000 in
theorem val_64 (P : Nat) (ad : Addr) (c : Nat) (bs : List Nat) (d g o base : Nat) (sub : M.Rd) (s : M.Stt) (w : World) (p : Nat) (vL vB vE : Value) (h : RS P (some ad) c bs d g o base s w p vL vB vE) (hwd : M.wd s.h.op = 64) :
    Calls Tryz.prog 253 #[.pointer (some ⟨P, 0, none⟩), .pointer (some ⟨g, o, none⟩)] w (RdPost P (some ad) c bs d g o base w (M.rdPart sub 6 s)) := by
  have hW := Lib.hid (show widthOf s.h.op = 64 by
    unfold M.wd at hwd
    unfold widthOf
    split at hwd
    · rename_i e; first | (exfalso; omega) | rw [if_pos e]
    · rename_i e; first | (exfalso; omega) | rw [if_neg e])
  have h0 := Lib.hid h
  have hop := h.item.c0
  have hc5 := h.item.c5
  obtain ⟨cur, hcur⟩ := h.blk
  have hf := hcur.frozen (o + 5)
  have hPg := h.apart
  have hr := h.rest
  have hpl := Lib.hid h.place
  have hglt := h.lt
  clear hcur
  obtain ⟨c0, c1, c2, c3, c4, c5, c6, c7, c8, c9, c10, c11, c12, f1, f2, le, cap, small, deep, bytes, size⟩ := h.place
  clear c2 c3 c4 c5 c6 c7 c8 c9 c10 c11 c12 f2
  obtain ⟨cap1, cap2⟩ := cap
  unfold maxLen at cap2
  replace bytes := Lib.hid bytes
  clear h
  have t0 : (0 : Int) ≤ (p : Int) := by omega
  have t1 : (p : Int) ≤ (bs.length : Int) := by omega
  have hgP : ¬ g = P := by omega
  cases hn : M.sgn 64 (bs.drop p) with
  | none =>
    have hres := Lib.hid (show M.rdPart sub 6 s = none by simp only [M.rdPart, hr, hwd, hn]; rfl)
    have hS := Lib.hid (sgn_none hn)
    clear hn hr hwd
    by_cases t2 : c = p
    · have hl0 : bs.length = p := by omega
      have h00 : bs.length - p = 0 := by omega
      go_enter Tryz.func253, Tryz.ntmps253
      go_wp2_with fail
      go_region_held3 (fun w' => w'.cell? ⟨P, 0, none⟩ = some (.slice (some ad) bs.length c) ∧ w'.cell? ⟨P, 1, none⟩ = some (.int .i64 (p : Nat)) ∧ w'.cell? ⟨g, o, none⟩ = some (.int .i64 s.h.op) ∧ Below w.heap.size w w')
    (first | exact ⟨c0, c1, hop, (Below.refl _ _).drew⟩ | assumption | (go_split_ands; exact ⟨by rw [hw2.cell (p := ⟨P, 0, none⟩) (by exact size)]; exact c0, by rw [hw2.cell (p := ⟨P, 1, none⟩) (by exact size)]; exact c1, by rw [hw2.cell (p := ⟨g, o, none⟩) (by exact hglt)]; exact hop, (Below.drew (Below.refl _ _)).trans hw2⟩))
    (first
      | (go_at_call 265; refine (width_l _ _ _ hW.out).mono ?_; rintro e w2 ⟨rfl, rfl⟩)
      | (go_at_call 267; refine (Sint_no (some ad) 0 _ (M.bf (bs.drop p)) 64 _ (fun i hi => absurd hi (Nat.not_lt_zero _)) (by unfold maxLen; omega) (by omega) (by omega) (fun n hn => hn.2.1 (by rw [← hn.1]; rfl))).mono ?_; rintro e w2 ⟨rfl, hw2⟩))
      have d2 := Lib.hid ((Below.drew (Below.refl w.heap.size w)).trans hw2)
      clear hw2
      go_wp2_with fail
      go_ret
      exact .inr ⟨hres.out, rfl, ⟨p, hpl.out.agree (fun k hk => d2.out.block k (by omega)) d2.out.size⟩, Step.of_kb (.of_below d2.out) hglt (by omega)⟩
    · go_enter Tryz.func253, Tryz.ntmps253
      go_wp2_with fail
      go_region_held3 (fun w' => w'.cell? ⟨P, 0, none⟩ = some (.slice (some ad) bs.length c) ∧ w'.cell? ⟨P, 1, none⟩ = some (.int .i64 (p : Nat)) ∧ w'.cell? ⟨g, o, none⟩ = some (.int .i64 s.h.op) ∧ Below w.heap.size w w')
    (first | exact ⟨c0, c1, hop, (Below.refl _ _).drew⟩ | assumption | (go_split_ands; exact ⟨by rw [hw2.cell (p := ⟨P, 0, none⟩) (by exact size)]; exact c0, by rw [hw2.cell (p := ⟨P, 1, none⟩) (by exact size)]; exact c1, by rw [hw2.cell (p := ⟨g, o, none⟩) (by exact hglt)]; exact hop, (Below.drew (Below.refl _ _)).trans hw2⟩))
    (first
      | (go_at_call 265; refine (width_l _ _ _ hW.out).mono ?_; rintro e w2 ⟨rfl, rfl⟩)
      | (go_at_call 267; refine (Sint_no (some (ad.add p)) (bs.length - p) (c - p) (M.bf (bs.drop p)) 64 _ ?_ (by unfold maxLen; omega) (by omega) (by omega) (by rw [← List.length_drop]; exact hS.out)).mono ?_; (rw [← List.length_drop]; exact (rest_bytes p bytes.out).below (Below.drew (Below.refl _ _)) (Nat.le_of_lt size)); rintro e w2 ⟨rfl, hw2⟩))
      have d2 := Lib.hid ((Below.drew (Below.refl w.heap.size w)).trans hw2)
      clear hw2
      go_wp2_with fail
      go_ret
      exact .inr ⟨hres.out, rfl, ⟨p, hpl.out.agree (fun k hk => d2.out.block k (by omega)) d2.out.size⟩, Step.of_kb (.of_below d2.out) hglt (by omega)⟩
  | some x =>
    obtain ⟨v, r⟩ := x
    obtain ⟨n, hS, hv, hrq, n1, n2⟩ := sgn_of hn
    have hvr := (M.sgn_short hn).1
    have hres := Lib.hid (show M.rdPart sub 6 s = some { s with r := r, h := { s.h with val := v } } by simp only [M.rdPart, hr, hwd, hn]; rfl)
    rw [List.length_drop] at n2
    have t2 : ¬ c = p := by omega
    replace hS := Lib.hid hS
    replace hrq := Lib.hid hrq
    replace hv := Lib.hid hv
    replace hvr := Lib.hid hvr
    clear hn hr hwd
    go_enter Tryz.func253, Tryz.ntmps253
    go_wp2_with fail
    go_region_held3 (fun w' => w'.cell? ⟨P, 0, none⟩ = some (.slice (some ad) bs.length c) ∧ w'.cell? ⟨P, 1, none⟩ = some (.int .i64 (p : Nat)) ∧ w'.cell? ⟨g, o, none⟩ = some (.int .i64 s.h.op) ∧ Below w.heap.size w w')
    (first | exact ⟨c0, c1, hop, (Below.refl _ _).drew⟩ | assumption | (go_split_ands; exact ⟨by rw [hw2.cell (p := ⟨P, 0, none⟩) (by exact size)]; exact c0, by rw [hw2.cell (p := ⟨P, 1, none⟩) (by exact size)]; exact c1, by rw [hw2.cell (p := ⟨g, o, none⟩) (by exact hglt)]; exact hop, (Below.drew (Below.refl _ _)).trans hw2⟩))
    (first
      | (go_at_call 265; refine (width_l _ _ _ hW.out).mono ?_; rintro e w2 ⟨rfl, rfl⟩)
      | (go_at_call 267; refine (Sint_yes (some (ad.add p)) (bs.length - p) (c - p) (M.bf (bs.drop p)) 64 n _ ?_ (by unfold maxLen; omega) (by omega) (by omega) (by rw [← List.length_drop]; exact hS.out)).mono ?_; (rw [← List.length_drop]; exact (rest_bytes p bytes.out).below (Below.drew (Below.refl _ _)) (Nat.le_of_lt size)); rintro e w2 ⟨rfl, hw2⟩))
    have d2 : Below w.heap.size w w2 := (Below.drew (Below.refl _ _)).trans hw2
    have hc52 : w2.cell? ⟨g, o + 5, none⟩ = some (.int .i64 s.h.val) := by rw [d2.cell (by exact hglt)]; exact hc5
    have hf2 : w2.frozen? ⟨g, o + 5, none⟩ = false := by rw [d2.frozen (by exact hglt)]; exact hf
    have c12 : w2.cell? ⟨P, 1, none⟩ = some (.int .i64 (p : Nat)) := by rw [d2.cell (by exact size)]; exact c1
    have f12 : w2.frozen? ⟨P, 1, none⟩ = false := by rw [d2.frozen (by exact size)]; exact f1
    rw [← hv.out]
    clear hw2 c0 c1 f1 hc5 hf hop
    replace d2 := Lib.hid d2
    go_wp2_with fail
    go_ret
    obtain ⟨st, pl, it, it1⟩ := h0.out.num (j := 5) (v := v) (q := p + n) d2.out (by omega) (by decide)
    have hR := h0.out.rng
    have hvr' := hvr.out
    simp at hvr'
    rw [Int.natCast_add] at st pl it
    exact .inl ⟨_, p + n, vL, vB, vE, hres.out, rfl, h0.out.step st pl (by simp only; rw [hrq.out, List.drop_drop]) (it _ (it1.put5 _)) ⟨hR.r0, hR.r1, hR.r2, hR.r3, hR.r4, by simp only; omega⟩ rfl rfl rfl, st⟩
theorem val_any (P : Nat) (ad : Addr) (c : Nat) (bs : List Nat) (d g o base : Nat) (sub : M.Rd) (s : M.Stt) (w : World) (p : Nat) (vL vB vE : Value) (h : RS P (some ad) c bs d g o base s w p vL vB vE) :
    Calls Tryz.prog 253 #[.pointer (some ⟨P, 0, none⟩), .pointer (some ⟨g, o, none⟩)] w (RdPost P (some ad) c bs d g o base w (M.rdPart sub 6 s)) := by
  by_cases e : s.h.op = 65
  · exact val_32 P ad c bs d g o base sub s w p vL vB vE h (by unfold M.wd; rw [if_pos e])
  · exact val_64 P ad c bs d g o base sub s w p vL vB vE h (by unfold M.wd; rw [if_neg e])
end Go.Proofs.YtmejgbbdehndaaaGreat
