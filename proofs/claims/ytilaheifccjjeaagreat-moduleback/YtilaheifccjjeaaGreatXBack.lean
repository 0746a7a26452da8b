/-
  The statement on reading back what is written answers true; condition: its argument is a list of questions that lies in memory.
-/
import Derived.Test.YtilaheifccjjeaaGreatXGA
import Derived.Test.YtilaheifccjjeaaGreatXGB
import Derived.Test.YtilaheifccjjeaaGreatXGC
import Derived.Test.YtilaheifccjjeaaGreatXGD
import Derived.Test.YtilaheifccjjeaaGreatXGE
import Derived.Test.YtilaheifccjjeaaGreatXGF
import Derived.Test.YtilaheifccjjeaaGreatXGG
import Derived.Test.YtilaheifccjjeaaGreatXGH
import Derived.Test.YtilaheifccjjeaaGreatXGI
import Derived.Test.YtilaheifccjjeaaGreatXGJ
import Derived.Test.YtilaheifccjjeaaGreatXGK
import Derived.Test.YtilaheifccjjeaaGreatXRt2
import Derived.Test.YtilaheifccjjeaaGreatXGL
import Derived.Test.YtilaheifccjjeaaGreatXGM
import Derived.Test.YtilaheifccjjeaaGreatXGN
import Derived.Test.YtilaheifccjjeaaGreatXGO
import Derived.Test.YtilaheifccjjeaaGreatXGP
import Derived.Test.YtilaheifccjjeaaGreatXEq
import Derived.Test.YtilaheifccjjeaaGreatXGQ
import Derived.Test.YtilaheifccjjeaaGreatXHeads
namespace Go.Proofs.YtilaheifccjjeaaGreat
namespace M
theorem rdHead_app : ∀ (t r : List Nat), rdHead t (t ++ r) = some r
  | [], _ => rfl
  | x :: t, r => by simp [rdHead, rdHead_app t r]
theorem sects_cons {n last d id : Nat} {D D' : Dm} {ys r : List Nat} (h0 : id < 12) (h1 : id = 0 ∨ last < id) (hy : ys.length ≤ 65536) (hs : sect id D ys = some (D', [])) (hn : (U (ys.length : Int) ++ ys ++ r).length + 1 ≤ n) :
    sects n last D (id :: (U (ys.length : Int) ++ ys ++ r)) = sects r.length (max last id) D' r := by
  cases n with
  | zero => omega
  | succ n =>
    simp only [sects]
    rw [if_neg (by omega)]
    have h2 := cPiece.back ys r (show ys.length < 4294967296 by omega)
    have h3 : cPiece.rd (U (ys.length : Int) ++ ys ++ r) = some (ys, r) := h2
    unfold sectS
    rw [h3, Option.bind_some, hs, Option.bind_some, Option.bind_some]
    refine sects_fuel _ _ _ _ _ ?_ (Nat.le_refl _)
    simp only [List.length_append] at hn
    show r.length ≤ n
    omega
theorem sects_len {n last : Nat} {D : Dm} {bs : List Nat} (h : bs.length ≤ n) : sects n last D bs = sects bs.length last D bs := sects_fuel _ _ _ _ _ h (Nat.le_refl _)
theorem wTimes_map {α β : Type} (a : Codec α) (b : Codec β) (f : α → β) (h : ∀ x, b.wr (f x) = a.wr x) : ∀ xs, wTimes b (xs.map f) = wTimes a xs
  | [] => rfl
  | x :: t => by simp only [List.map_cons, wTimes, h, wTimes_map a b f h t]
theorem wSome_nil {α : Type} (c : Codec α) : wSome c [] = [] := rfl
theorem U_ne (x : Int) : U x ≠ [] := fun h => by
  have := (putU_length 10 x.toNat).1
  have e : (U x).length = (putU 10 x.toNat).length := rfl
  rw [h] at e
  simp at e
  omega
theorem vec_ne {α : Type} (c : Codec α) (xs : List α) : (vec c).wr xs ≠ [] := fun h => by
  have h : U xs.length ++ wTimes c xs = [] := h
  exact U_ne _ (List.append_eq_nil_iff.1 h).1
theorem wSome_eq_nil {α : Type} {c : Codec α} {xs : List α} (h : wSome c xs = []) : xs = [] := by
  cases xs with
  | nil => rfl
  | cons x t => exact absurd h (vec_ne c _)
theorem wSome_ne_nil {α : Type} {c : Codec α} {xs : List α} (h : wSome c xs ≠ []) : wSome c xs = (vec c).wr xs := by
  cases xs with
  | nil => exact absurd rfl h
  | cons x t => rfl
theorem some_back {α : Type} {c : Codec α} {xs : List α} (hok : (vec c).ok xs) (h : wSome c xs ≠ []) : (vec c).rd (wSome c xs) = some (xs, []) := by
  rw [wSome_ne_nil h]
  have := (vec c).back xs [] hok
  rwa [List.append_nil] at this
theorem part_step {m : Mod} {id : Nat} (h1 : 1 ≤ id) (h2 : id ≤ 11) (hok : okM m id) (hn : ysM m id ≠ []) : sect id (part m id) (ysM m id) = some (part m (id + 1), []) := by
  rcases (show id = 1 ∨ id = 2 ∨ id = 3 ∨ id = 4 ∨ id = 5 ∨ id = 6 ∨ id = 7 ∨ id = 8 ∨ id = 9 ∨ id = 10 ∨ id = 11 by omega) with rfl | rfl | rfl | rfl | rfl | rfl | rfl | rfl | rfl | rfl | rfl
  · show ((vec cFT).rd (wSome cFT m.types)).bind _ = _
    rw [some_back hok hn]; rfl
  · show ((vec cImp).rd (wSome cImp m.imports)).bind _ = _
    rw [some_back hok hn]; rfl
  · have hok : (vec cNum).ok (m.funcs.map (·.ty)) := hok
    have hn : wSome cNum (m.funcs.map (·.ty)) ≠ [] := hn
    show ((vec cHead).rd (wSome cNum (m.funcs.map (·.ty)))).bind _ = _
    rw [wSome_ne_nil hn, ← vec_map cNum cHead (·.ty) hd3 (fun _ => rfl)]
    have h3 := (vec cHead).back (m.funcs.map hd3) [] ⟨by have := hok.1; simpa using this, fun x hx => by
      obtain ⟨f, hf, rfl⟩ := List.mem_map.1 hx
      exact ⟨hok.2 f.ty (List.mem_map.2 ⟨f, hf, rfl⟩), rfl, rfl⟩⟩
    rw [List.append_nil] at h3
    rw [h3]; rfl
  · show ((vec cTab).rd (wSome cTab m.tables)).bind _ = _
    rw [some_back hok hn]; rfl
  · show ((vec cLim).rd (wSome cLim m.memories)).bind _ = _
    rw [some_back hok hn]; rfl
  · show ((vec cGlo).rd (wSome cGlo m.globals)).bind _ = _
    rw [some_back hok hn]; rfl
  · show ((vec cExp).rd (wSome cExp m.exports)).bind _ = _
    rw [some_back hok hn]; rfl
  · have hok : m.start = -1 ∨ inR m.start := hok
    have hn : wStart m.start ≠ [] := hn
    have h3 : m.start ≠ -1 := fun e => hn (by unfold wStart; rw [if_pos e])
    show (num (wStart m.start)).bind _ = _
    have h4 := num_back m.start [] (hok.resolve_left h3)
    rw [List.append_nil] at h4
    unfold wStart
    rw [if_neg h3, h4]; rfl
  · show ((vec cElm).rd (wSome cElm m.elems)).bind _ = _
    rw [some_back hok hn]; rfl
  · have hok : (vec cBody).ok (m.funcs.map fun f => (f.lo, f.bo)) := hok
    have hn : wSome cBody (m.funcs.map fun f => (f.lo, f.bo)) ≠ [] := hn
    show ((vec cFnB).rd (wSome cBody (m.funcs.map fun f => (f.lo, f.bo)))).bind _ = _
    rw [wSome_ne_nil hn, ← vec_map cBody cFnB (fun f : Fn => (f.lo, f.bo)) bd10 (fun _ => rfl)]
    have h3 := (vec cFnB).back (m.funcs.map bd10) [] ⟨by have := hok.1; simpa using this, fun x hx => by
      obtain ⟨f, hf, rfl⟩ := List.mem_map.1 hx
      exact ⟨hok.2 (f.lo, f.bo) (List.mem_map.2 ⟨f, hf, rfl⟩), rfl⟩⟩
    rw [List.append_nil] at h3
    rw [h3]; rfl
  · show ((vec cDat).rd (wSome cDat m.datas)).bind _ = _
    rw [some_back hok hn]; rfl
theorem part_skip {m : Mod} {id : Nat} (h1 : 1 ≤ id) (h2 : id ≤ 11) (hn : ysM m id = []) : part m (id + 1) = part m id := by
  rcases (show id = 1 ∨ id = 2 ∨ id = 3 ∨ id = 4 ∨ id = 5 ∨ id = 6 ∨ id = 7 ∨ id = 8 ∨ id = 9 ∨ id = 10 ∨ id = 11 by omega) with rfl | rfl | rfl | rfl | rfl | rfl | rfl | rfl | rfl | rfl | rfl
  · have h : m.types = [] := wSome_eq_nil hn
    simp [part, h]
  · have h : m.imports = [] := wSome_eq_nil hn
    simp [part, h]
  · have h : m.funcs.map (·.ty) = [] := wSome_eq_nil hn
    have h := List.map_eq_nil_iff.1 h
    simp [part, h]
  · have h : m.tables = [] := wSome_eq_nil hn
    simp [part, h]
  · have h : m.memories = [] := wSome_eq_nil hn
    simp [part, h]
  · have h : m.globals = [] := wSome_eq_nil hn
    simp [part, h]
  · have h : m.exports = [] := wSome_eq_nil hn
    simp [part, h]
  · have h : m.start = -1 := by
      by_cases e : m.start = -1
      · exact e
      · have hn : wStart m.start = [] := hn
        unfold wStart at hn
        rw [if_neg e] at hn
        exact absurd hn (U_ne _)
    simp [part, h]
  · have h : m.elems = [] := wSome_eq_nil hn
    simp [part, h]
  · have h : m.funcs.map (fun f => (f.lo, f.bo)) = [] := wSome_eq_nil hn
    have h := List.map_eq_nil_iff.1 h
    simp [part, h]
  · have h : m.datas = [] := wSome_eq_nil hn
    simp [part, h]
theorem top_read {m : Mod} : ∀ (n id last : Nat) (r : List Nat), id + n = 12 → 1 ≤ id → last < id → topOk (okM m) (ysM m) n id → ∃ last', last' ≤ 11 ∧
    sects (topYs (ysM m) n id ++ r).length last (part m id) (topYs (ysM m) n id ++ r) = sects r.length last' (part m 12) r
  | 0, id, last, r, h, _, hl, _ => by
    obtain rfl : id = 12 := by omega
    exact ⟨last, by omega, rfl⟩
  | n + 1, id, last, r, h, h1, hl, ⟨⟨q1, q2⟩, q3⟩ => by
    unfold topYs sb
    by_cases hy : ysM m id = []
    · rw [if_pos hy, List.nil_append, ← part_skip h1 (by omega) hy]
      exact top_read n (id + 1) last r (by omega) (by omega) (by omega) q3
    · rw [if_neg hy]
      have e : id :: (U ((ysM m id).length : Int) ++ ysM m id) ++ topYs (ysM m) n (id + 1) ++ r = id :: (U ((ysM m id).length : Int) ++ ysM m id ++ (topYs (ysM m) n (id + 1) ++ r)) := by simp
      rw [e, sects_cons (d := 0) (by omega) (.inr hl) q2 (part_step h1 (by omega) q1 hy) (by simp)]
      exact top_read n (id + 1) (max last id) r (by omega) (by omega) (by omega) q3
theorem join_parts : ∀ fs : List Fn, joinM (fs.map hd3) (fs.map bd10) = fs
  | [] => rfl
  | f :: t => by simp only [List.map_cons, joinM, join_parts t]; rfl
theorem part_end (m : Mod) : joined (part m 12) = some m := by
  unfold joined part
  simp [join_parts]
theorem part_one (m : Mod) : part m 1 = dm0 := rfl
/-- A section that is not known. -/
def extra : List Nat := [0, 3, 1, 120, 7]
theorem name_one : cName.rd [1, 120, 7] = some ([120], [7]) := by decide +kernel
theorem sects_extra (last : Nat) (d : Dm) (r : List Nat) : sects (extra ++ r).length last d (extra ++ r) = sects r.length last d r := by
  have h : sect 0 d [1, 120, 7] = some (d, []) := by
    have e : sect 0 d [1, 120, 7] = (cName.rd [1, 120, 7]).bind fun _ => some (d, []) := rfl
    rw [e, name_one]; rfl
  have := sects_cons (n := (extra ++ r).length) (last := last) (d := 0) (id := 0) (r := r) (by omega) (.inl rfl) (by decide) h (by have e : (U (([1, 120, 7] : List Nat).length : Int)).length = 1 := (by decide +kernel); rw [List.length_append, List.length_append, e]; simp [extra]; omega)
  rw [Nat.max_zero] at this
  rw [← this]
  rfl
theorem top_back {m : Mod} (h : topOk (okM m) (ysM m) 11 1) (hl : 8 + (topYs (ysM m) 11 1).length ≤ 65536) : rdModule (header ++ topYs (ysM m) 11 1) = some m := by
  unfold rdModule
  rw [if_neg (by rw [List.length_append]; simp [header]; omega), rdHead_app, Option.bind_some]
  obtain ⟨l', _, h1⟩ := top_read 11 1 0 [] rfl (Nat.le_refl _) (by omega) h
  rw [List.append_nil, part_one] at h1
  rw [h1]
  exact part_end m
theorem top_extra {m : Mod} (h : topOk (okM m) (ysM m) 11 1) (hl : 8 + (topYs (ysM m) 11 1).length < 60000) : rdModule (header ++ extra ++ (topYs (ysM m) 11 1 ++ extra)) = some m := by
  unfold rdModule
  rw [if_neg (by simp [header, extra]; omega), List.append_assoc, rdHead_app, Option.bind_some, sects_extra]
  obtain ⟨l', _, h1⟩ := top_read 11 1 0 extra rfl (Nat.le_refl _) (by omega) h
  rw [part_one] at h1
  rw [h1]
  have h2 := sects_extra l' (part m 12) []
  rw [List.append_nil] at h2
  rw [h2]
  exact part_end m
theorem top_zero {m : Mod} (h : topOk (okM m) (ysM m) 11 1) : rdModule (header ++ topYs (ysM m) 11 1 ++ [0]) = none := by
  unfold rdModule
  split
  · rfl
  · rw [List.append_assoc, rdHead_app, Option.bind_some]
    obtain ⟨l', _, h1⟩ := top_read 11 1 0 [0] rfl (Nat.le_refl _) (by omega) h
    rw [part_one] at h1
    rw [h1]
    rfl
end M
end Go.Proofs.YtilaheifccjjeaaGreat
namespace Go.Proofs.YtilaheifccjjeaaGreat
open Go.RowKit
def extraV : Array Value := #[.int .u8 0, .int .u8 3, .int .u8 1, .int .u8 120, .int .u8 7]
theorem bso_BS {w : World} {v : Value} {bs : List Nat} (h : BSO w (· < w.heap.size) v bs) : BS w w.heap.size v bs := by
  obtain ⟨A, c, e, h1, h2⟩ := h
  exact ⟨A, c, e, h1.2.1, h1.2.2, h2⟩
theorem mIn_at {w : World} {S : Nat → Prop} {cs : Array Value} {m : M.Mod} {n : Nat} (h : MAt w S cs m) (hs : cs.size = 10) (hl : M.Light m n) (hn : n ≤ 24000) : MIn w S cs m := by
  have h10 := (h.ten hs).ex
  refine ⟨h10, h.l7.2, fun x hx => ?_, fun x hx => ?_, fun x hx => ?_, fun x hx => ?_, fun x hx => ?_⟩
  · have := hl.ft x hx
    exact ⟨by omega, by omega⟩
  · have := hl.glo x hx
    show x.ini.sz ≤ 24000
    omega
  · have := hl.elm x hx
    exact ⟨by omega, by omega⟩
  · have := hl.dat x hx
    show x.off.sz ≤ 24000
    omega
  · have := hl.fn x hx
    omega
/-- A module's ten cells, written out. -/
theorem MTen.form {w : World} {S : Nat → Prop} {cs : Array Value} {m : M.Mod} (h : MTen w S cs m) : ∃ A0 c0 A1 c1 A2 c2 A3 c3 A4 c4 A5 c5 A6 c6 A8 c8 A9 c9, cs = #[.slice A0 m.types.length c0, .slice A1 m.imports.length c1, .slice A2 m.funcs.length c2, .slice A3 m.tables.length c3, .slice A4 m.memories.length c4, .slice A5 m.globals.length c5, .slice A6 m.exports.length c6, .int .i64 m.start, .slice A8 m.elems.length c8, .slice A9 m.datas.length c9] := by
  obtain ⟨v0, v1, v2, v3, v4, v5, v6, v8, v9, rfl, l0, l1, l2, l3, l4, l5, l6, l8, l9⟩ := h.ex
  obtain ⟨A0, c0, rfl, _⟩ := l0.form
  obtain ⟨A1, c1, rfl, _⟩ := l1.form
  obtain ⟨A2, c2, rfl, _⟩ := l2.form
  obtain ⟨A3, c3, rfl, _⟩ := l3.form
  obtain ⟨A4, c4, rfl, _⟩ := l4.form
  obtain ⟨A5, c5, rfl, _⟩ := l5.form
  obtain ⟨A6, c6, rfl, _⟩ := l6.form
  obtain ⟨A8, c8, rfl, _⟩ := l8.form
  obtain ⟨A9, c9, rfl, _⟩ := l9.form
  exact ⟨A0, c0, A1, c1, A2, c2, A3, c3, A4, c4, A5, c5, A6, c6, A8, c8, A9, c9, rfl⟩
/-- What Decode answers of a module's bytes. -/
def DecM (m : M.Mod) (w : World) (e : Ending) (w' : World) : Prop :=
  ∃ cs, e = .returned (.tuple #[.agg cs, .int .i64 0]) ∧ cs.size = 10 ∧ MAt w' (· < w'.heap.size) cs m ∧ Below w.heap.size w w'
theorem dec_mod (v : Value) (bs : List Nat) (m : M.Mod) (w : World) (hb : BS w w.heap.size v bs) (h : M.rdModule bs = some m) : Calls Tryz.prog 15 #[v] w (DecM m w) := by
  refine (MDecode_any v bs w hb).mono ?_
  rintro e w' (⟨m', cs, h1, h2, h3, h4, h5⟩ | ⟨h1, _⟩)
  · rw [h] at h1
    cases h1
    exact ⟨cs, h2, h3, h4, h5⟩
  · rw [h] at h1
    cases h1
theorem BS.drop8 {w : World} {B n c : Nat} {ad : Addr} {bs : List Nat} (h : BS w B (.slice (some ad) n c) bs) (hk : 8 ≤ bs.length) (hc : 8 < c) : BS w B (.slice (some ⟨ad.block, ad.off + 8, none⟩) (n - 8) (c - 8)) (bs.drop 8) := by
  obtain ⟨A, c', e, h1, h2, h3⟩ := h
  injection e with e1 e2 e3
  subst e1 e3
  refine ⟨some ⟨ad.block, ad.off + 8, none⟩, _, by rw [List.length_drop, e2], by rw [List.length_drop]; omega, by omega, ?_⟩
  rw [List.length_drop]
  exact Bytes.drop (n := 8) h3 (fun i => getD_drop bs 8 i)
theorem cat_lt6 {a b : List Nat} (ha : ∀ x ∈ a, x < 256) (hb : ∀ x ∈ b, x < 256) : ∀ x ∈ a ++ b, x < 256 := by
  intro x hx
  rcases List.mem_append.1 hx with h | h
  · exact ha x h
  · exact hb x h
set_option maxRecDepth 100000 in
set_option maxHeartbeats 16000000 in
theorem backWalk (A : Option Addr) (n c : Nat) (w : World) (xs : List (M.Mod × List Nat)) (hl : LstO rAskO w (· < w.heap.size) (.slice A n c) xs) : Calls Tryz.prog 4 #[.slice A n c] w fun e w' => e = .returned (.bool true) ∧ Below w.heap.size w w' := by
  have hn : n = xs.length := by
    obtain ⟨_, _, e, _⟩ := hl
    cases e; rfl
  have hn0 := hl.le
  replace hl := Lib.hid hl
  replace hn := Lib.hid hn
  go_enter Tryz.func4, Tryz.ntmps4
  go_wp2_with fail
  go_loopw [3] (fun i w' => ∃ k : Nat, k ≤ n ∧ k ≤ 6 ∧ i = .int .i64 k ∧ Below w.heap.size w w') (fun i _ => 6 - (intOf i).toNat)
  case atStart => exact ⟨0, by omega, by omega, rfl, Below.refl _ _⟩
  case round =>
    obtain ⟨k, hk, hk6, rfl, hbw⟩ := hrel
    have tk : (0 : Int) ≤ (k : Int) := by omega
    by_cases hlt : k < n
    · by_cases hlt6 : k < 6
      · have t1 : (k : Int) < (n : Int) := by omega
        have t2 : (k : Int) < 6 := by omega
        have hx := List.getElem?_eq_getElem (show k < xs.length by rw [← hn.out]; exact hlt)
        obtain ⟨x, hxx⟩ : ∃ x, x = xs[k]'(by rw [← hn.out]; exact hlt) := ⟨_, rfl⟩
        rw [← hxx] at hx
        clear hxx
        obtain ⟨g, o, cs, rfl, hg, his, hc⟩ := hl.out.nth hx
        obtain ⟨ms, AB, cB, rfl, hm, hBO⟩ := form_ask his
        have hxl : x.2.length ≤ 140737488355328 := by
          obtain ⟨_, _, e, h1, _⟩ := hBO
          exact h1.1
        obtain ⟨A0, c0, A1, c1, A2, c2, A3, c3, A4, c4, A5, c5, A6, c6, A8, c8, A9, c9, rfl, _⟩ := hm.ex
        have f0 : wr.cell? ⟨g, o + k * 11, none⟩ = some (.slice A0 x.1.types.length c0) := (hbw.cell (p := ⟨g, o + k * 11, none⟩) hg).trans (hc 0 _ rfl)
        have f1 : wr.cell? ⟨g, o + k * 11 + 1, none⟩ = some (.slice A1 x.1.imports.length c1) := (hbw.cell (p := ⟨g, o + k * 11 + 1, none⟩) hg).trans (hc 1 _ rfl)
        have f2 : wr.cell? ⟨g, o + k * 11 + 2, none⟩ = some (.slice A2 x.1.funcs.length c2) := (hbw.cell (p := ⟨g, o + k * 11 + 2, none⟩) hg).trans (hc 2 _ rfl)
        have f3 : wr.cell? ⟨g, o + k * 11 + 3, none⟩ = some (.slice A3 x.1.tables.length c3) := (hbw.cell (p := ⟨g, o + k * 11 + 3, none⟩) hg).trans (hc 3 _ rfl)
        have f4 : wr.cell? ⟨g, o + k * 11 + 4, none⟩ = some (.slice A4 x.1.memories.length c4) := (hbw.cell (p := ⟨g, o + k * 11 + 4, none⟩) hg).trans (hc 4 _ rfl)
        have f5 : wr.cell? ⟨g, o + k * 11 + 5, none⟩ = some (.slice A5 x.1.globals.length c5) := (hbw.cell (p := ⟨g, o + k * 11 + 5, none⟩) hg).trans (hc 5 _ rfl)
        have f6 : wr.cell? ⟨g, o + k * 11 + 6, none⟩ = some (.slice A6 x.1.exports.length c6) := (hbw.cell (p := ⟨g, o + k * 11 + 6, none⟩) hg).trans (hc 6 _ rfl)
        have f7 : wr.cell? ⟨g, o + k * 11 + 7, none⟩ = some (.int .i64 x.1.start) := (hbw.cell (p := ⟨g, o + k * 11 + 7, none⟩) hg).trans (hc 7 _ rfl)
        have f8 : wr.cell? ⟨g, o + k * 11 + 8, none⟩ = some (.slice A8 x.1.elems.length c8) := (hbw.cell (p := ⟨g, o + k * 11 + 8, none⟩) hg).trans (hc 8 _ rfl)
        have f9 : wr.cell? ⟨g, o + k * 11 + 9, none⟩ = some (.slice A9 x.1.datas.length c9) := (hbw.cell (p := ⟨g, o + k * 11 + 9, none⟩) hg).trans (hc 9 _ rfl)
        have f10 : wr.cell? ⟨g, o + k * 11 + 10, none⟩ = some (.slice AB x.2.length cB) := (hbw.cell (p := ⟨g, o + k * 11 + 10, none⟩) hg).trans (hc 10 _ rfl)
        obtain ⟨W0, hW0⟩ : ∃ W0, W0 = wr.alloc (.cells #[.slice A0 x.1.types.length c0, .slice A1 x.1.imports.length c1, .slice A2 x.1.funcs.length c2, .slice A3 x.1.tables.length c3, .slice A4 x.1.memories.length c4, .slice A5 x.1.globals.length c5, .slice A6 x.1.exports.length c6, .int .i64 x.1.start, .slice A8 x.1.elems.length c8, .slice A9 x.1.datas.length c9, .slice AB x.2.length cB] 35) := ⟨_, rfl⟩
        have bW : Below wr.heap.size wr W0 := by rw [hW0]; exact (Below.refl _ _).alloc (Nat.le_refl _) _
        have b0 := hbw.trans (bW.mono hbw.size)
        obtain ⟨P, hP⟩ : ∃ P, P = wr.heap.size := ⟨_, rfl⟩
        have hPc : W0.heap[P]? = some (.cells #[.slice A0 x.1.types.length c0, .slice A1 x.1.imports.length c1, .slice A2 x.1.funcs.length c2, .slice A3 x.1.tables.length c3, .slice A4 x.1.memories.length c4, .slice A5 x.1.globals.length c5, .slice A6 x.1.exports.length c6, .int .i64 x.1.start, .slice A8 x.1.elems.length c8, .slice A9 x.1.datas.length c9, .slice AB x.2.length cB] 35 (0, 0)) := by rw [hW0, hP]; exact heap_alloc_new wr _
        have hPl : P < W0.heap.size := by rw [hW0, hP]; simp
        have hm0 := hm.agree (below_agree b0) (up_lt b0)
        have hB0 := bso_BS (hBO.agree (below_agree b0) (up_lt b0))
        have hhv := Lib.hid (heavy6_any W0 A0 A1 A2 A3 A4 A5 A6 A8 A9 AB c0 c1 c2 c3 c4 c5 c6 c8 c9 cB x.2.length x hm0 rfl hxl)
        replace hPc := Lib.hid hPc
        replace hW0 := Lib.hid hW0
        replace hP := Lib.hid hP
        replace hm0 := Lib.hid hm0
        replace hB0 := Lib.hid hB0
        replace b0 := Lib.hid b0
        have t3 : (0 : Int) ≤ (x.2.length : Int) := by omega
        clear hc his hm hBO hx bW hbw hg
        go_upto_region 5 with fail
        rw [← hW0.out, ← hP.out]
        have hcell := fun j => cell_of_row W0 P j _ _ (0, 0) (((Below.refl W0.heap.size W0).block P hPl).trans hPc.out)
        have p0 : W0.cell? ⟨P, 0, none⟩ = some (.slice A0 x.1.types.length c0) := by rw [hcell]; rfl
        have p1 : W0.cell? ⟨P, 1, none⟩ = some (.slice A1 x.1.imports.length c1) := by rw [hcell]; rfl
        have p2 : W0.cell? ⟨P, 2, none⟩ = some (.slice A2 x.1.funcs.length c2) := by rw [hcell]; rfl
        have p3 : W0.cell? ⟨P, 3, none⟩ = some (.slice A3 x.1.tables.length c3) := by rw [hcell]; rfl
        have p4 : W0.cell? ⟨P, 4, none⟩ = some (.slice A4 x.1.memories.length c4) := by rw [hcell]; rfl
        have p5 : W0.cell? ⟨P, 5, none⟩ = some (.slice A5 x.1.globals.length c5) := by rw [hcell]; rfl
        have p6 : W0.cell? ⟨P, 6, none⟩ = some (.slice A6 x.1.exports.length c6) := by rw [hcell]; rfl
        have p7 : W0.cell? ⟨P, 7, none⟩ = some (.int .i64 x.1.start) := by rw [hcell]; rfl
        have p8 : W0.cell? ⟨P, 8, none⟩ = some (.slice A8 x.1.elems.length c8) := by rw [hcell]; rfl
        have p9 : W0.cell? ⟨P, 9, none⟩ = some (.slice A9 x.1.datas.length c9) := by rw [hcell]; rfl
        have p10 : W0.cell? ⟨P, 10, none⟩ = some (.slice AB x.2.length cB) := by rw [hcell]; rfl
        clear hcell
        go_wp2_with fail
        clear f0 p0 f1 p1 f2 p2 f3 p3 f4 p4 f5 p5 f6 p6 f7 p7 f8 p8 f9 p9 f10 p10
        refine hhv.out.mono ?_
        clear hhv
        rintro e1 w1 ⟨rfl | ⟨rfl, hgd, hB2⟩, b1⟩
        · have d1 := Lib.hid (b0.out.trans (b1.mono b0.out.size))
          go_wp2_with fail
          go_ret
          exact ⟨rfl, d1.out⟩
        · have D1 := b1
          have d1 := Lib.hid (b0.out.trans (b1.mono b0.out.size))
          have hcell := fun j => cell_of_row w1 P j _ _ (0, 0) ((b1.block P hPl).trans hPc.out)
          have p0 : w1.cell? ⟨P, 0, none⟩ = some (.slice A0 x.1.types.length c0) := by rw [hcell]; rfl
          have p1 : w1.cell? ⟨P, 1, none⟩ = some (.slice A1 x.1.imports.length c1) := by rw [hcell]; rfl
          have p2 : w1.cell? ⟨P, 2, none⟩ = some (.slice A2 x.1.funcs.length c2) := by rw [hcell]; rfl
          have p3 : w1.cell? ⟨P, 3, none⟩ = some (.slice A3 x.1.tables.length c3) := by rw [hcell]; rfl
          have p4 : w1.cell? ⟨P, 4, none⟩ = some (.slice A4 x.1.memories.length c4) := by rw [hcell]; rfl
          have p5 : w1.cell? ⟨P, 5, none⟩ = some (.slice A5 x.1.globals.length c5) := by rw [hcell]; rfl
          have p6 : w1.cell? ⟨P, 6, none⟩ = some (.slice A6 x.1.exports.length c6) := by rw [hcell]; rfl
          have p7 : w1.cell? ⟨P, 7, none⟩ = some (.int .i64 x.1.start) := by rw [hcell]; rfl
          have p8 : w1.cell? ⟨P, 8, none⟩ = some (.slice A8 x.1.elems.length c8) := by rw [hcell]; rfl
          have p9 : w1.cell? ⟨P, 9, none⟩ = some (.slice A9 x.1.datas.length c9) := by rw [hcell]; rfl
          clear hcell
          have hen := Lib.hid (Encode_any w1 _ x.1 (mIn_of (hm0.out.agree (below_agree b1) (up_lt b1)) hgd))
          have hme := Lib.hid (mIn_of hm0.out hgd).ten
          replace D1 := Lib.hid D1
          clear hgd b1
          go_wp2_with fail
          clear p0 p1 p2 p3 p4 p5 p6 p7 p8 p9
          refine hen.out.mono ?_
          clear hen
          rintro e2 w2 (⟨⟨ho, hlen⟩, ⟨A', c', rfl, hbs⟩, b2⟩ | ⟨_, rfl, b2⟩)
          · have D2 := Lib.hid (D1.out.trans (b2.mono D1.out.size))
            clear b2
            have hrd1 := Lib.hid (M.top_back ho hlen)
            have hrd2 := Lib.hid (fun h => M.top_extra ho h)
            have hrd3 := Lib.hid (M.top_zero ho)
            obtain ⟨ys, hys⟩ : ∃ ys, ys = M.topYs (ysM x.1) 11 1 := ⟨_, rfl⟩
            rw [← hys] at hbs hlen hrd1 hrd2 hrd3 ⊢
            clear hys ho
            have hlb : (mhead ++ ys).length = 8 + ys.length := by rw [List.length_append]; rfl
            obtain ⟨bs, hbe⟩ : ∃ bs, bs = mhead ++ ys := ⟨_, rfl⟩
            rw [← hbe] at hbs hlb ⊢
            obtain ⟨N, hN⟩ : ∃ N, N = bs.length := ⟨_, rfl⟩
            rw [← hN] at hbs hlb ⊢
            have hN8 : (8 : Int) ≤ (N : Int) := by omega
            have hN9 : N ≤ 65536 := by omega
            obtain ⟨_, _, eq1, q1, q2, q3⟩ := hbs
            injection eq1 with eq2 eq3 eq4
            subst eq2 eq4
            clear eq3
            have hbs : BS w2 w2.heap.size (.slice A' N c') bs := ⟨_, _, by rw [← hN], q1, q2, q3⟩
            obtain ⟨ad, rfl, _⟩ := q3 0 (by omega)
            rw [← hN] at q1
            unfold maxLen at q2
            clear q3
            have hrd1' : M.rdModule bs = some x.1 := by rw [hbe]; exact hrd1.out
            have hb8 : bs.take 8 = mhead := by rw [hbe]; exact List.take_left' rfl
            have hd8 : bs.drop 8 = ys := by rw [hbe]; exact List.drop_left' rfl
            have hrd2' := Lib.hid (show N < 60000 → M.rdModule (bs.take 8 ++ M.extra ++ bs.drop 8 ++ M.extra) = some x.1 from fun h => by
              rw [hb8, hd8]
              have := hrd2.out (by omega)
              rw [List.append_assoc (mhead ++ M.extra)]
              exact this)
            have hrd3' := Lib.hid (show M.rdModule (bs ++ [0]) = none by rw [hbe]; exact hrd3.out)
            have hall := Lib.hid hbs.lt
            have hdec := Lib.hid (dec_mod _ bs x.1 w2 hbs hrd1')
            replace hbs := Lib.hid hbs
            replace hN := Lib.hid hN
            clear hbe hb8 hd8 hrd1 hrd2 hrd3 hrd1' hlen hlb
            go_wp2_with (go_at_call 11; refine (num_any _ _).mono ?_; rintro e wn ⟨rfl, rfl⟩)
            refine hdec.out.mono ?_
            clear hdec
            rintro e3 w3 ⟨cs3, rfl, hsz3, hMA3, b3⟩
            obtain ⟨E0, ec0, E1, ec1, E2, ec2, E3, ec3, E4, ec4, E5, ec5, E6, ec6, E8, ec8, E9, ec9, rfl⟩ := (hMA3.ten hsz3).form
            have D3 := Lib.hid (D2.out.trans (b3.mono D2.out.size))
            obtain ⟨W4, hW4⟩ : ∃ W4, W4 = w3.alloc (.cells #[.slice E0 x.1.types.length ec0, .slice E1 x.1.imports.length ec1, .slice E2 x.1.funcs.length ec2, .slice E3 x.1.tables.length ec3, .slice E4 x.1.memories.length ec4, .slice E5 x.1.globals.length ec5, .slice E6 x.1.exports.length ec6, .int .i64 x.1.start, .slice E8 x.1.elems.length ec8, .slice E9 x.1.datas.length ec9] 32) := ⟨_, rfl⟩
            have b4 : Below w3.heap.size w3 W4 := by rw [hW4]; exact (Below.refl _ _).alloc (Nat.le_refl _) _
            have D4 := Lib.hid (D3.out.trans (b4.mono D3.out.size))
            have h24 : Below w2.heap.size w2 W4 := b3.trans (b4.mono b3.size)
            have heq := Lib.hid (EqModule_same x.1 _ _ W4 (MTen.agree (hMA3.ten hsz3) (below_agree b4) (up_lt b4)) (MTen.agree hme.out (below_agree D4.out) (up_lt D4.out)))
            replace hW4 := Lib.hid hW4
            replace h24 := Lib.hid h24
            clear hMA3 hsz3 b3 b4
            go_upto_region 10 with fail
            rw [← hW4.out]
            have hcell := fun j => cell_of_row W4 P j _ _ (0, 0) ((D4.out.block P hPl).trans hPc.out)
            have p0 : W4.cell? ⟨P, 0, none⟩ = some (.slice A0 x.1.types.length c0) := by rw [hcell]; rfl
            have p1 : W4.cell? ⟨P, 1, none⟩ = some (.slice A1 x.1.imports.length c1) := by rw [hcell]; rfl
            have p2 : W4.cell? ⟨P, 2, none⟩ = some (.slice A2 x.1.funcs.length c2) := by rw [hcell]; rfl
            have p3 : W4.cell? ⟨P, 3, none⟩ = some (.slice A3 x.1.tables.length c3) := by rw [hcell]; rfl
            have p4 : W4.cell? ⟨P, 4, none⟩ = some (.slice A4 x.1.memories.length c4) := by rw [hcell]; rfl
            have p5 : W4.cell? ⟨P, 5, none⟩ = some (.slice A5 x.1.globals.length c5) := by rw [hcell]; rfl
            have p6 : W4.cell? ⟨P, 6, none⟩ = some (.slice A6 x.1.exports.length c6) := by rw [hcell]; rfl
            have p7 : W4.cell? ⟨P, 7, none⟩ = some (.int .i64 x.1.start) := by rw [hcell]; rfl
            have p8 : W4.cell? ⟨P, 8, none⟩ = some (.slice A8 x.1.elems.length c8) := by rw [hcell]; rfl
            have p9 : W4.cell? ⟨P, 9, none⟩ = some (.slice A9 x.1.datas.length c9) := by rw [hcell]; rfl
            clear hcell
            have hM4 : W4.heap[w3.heap.size]? = some (.cells #[.slice E0 x.1.types.length ec0, .slice E1 x.1.imports.length ec1, .slice E2 x.1.funcs.length ec2, .slice E3 x.1.tables.length ec3, .slice E4 x.1.memories.length ec4, .slice E5 x.1.globals.length ec5, .slice E6 x.1.exports.length ec6, .int .i64 x.1.start, .slice E8 x.1.elems.length ec8, .slice E9 x.1.datas.length ec9] 32 (0, 0)) := by rw [hW4.out]; exact heap_alloc_new w3 _
            obtain ⟨g4, hg4⟩ : ∃ g4, g4 = w3.heap.size := ⟨_, rfl⟩
            rw [← hg4] at hM4 ⊢
            have hcell := fun j => cell_of_row W4 g4 j _ _ (0, 0) hM4
            have s0 : W4.cell? ⟨g4, 0, none⟩ = some (.slice E0 x.1.types.length ec0) := by rw [hcell]; rfl
            have s1 : W4.cell? ⟨g4, 1, none⟩ = some (.slice E1 x.1.imports.length ec1) := by rw [hcell]; rfl
            have s2 : W4.cell? ⟨g4, 2, none⟩ = some (.slice E2 x.1.funcs.length ec2) := by rw [hcell]; rfl
            have s3 : W4.cell? ⟨g4, 3, none⟩ = some (.slice E3 x.1.tables.length ec3) := by rw [hcell]; rfl
            have s4 : W4.cell? ⟨g4, 4, none⟩ = some (.slice E4 x.1.memories.length ec4) := by rw [hcell]; rfl
            have s5 : W4.cell? ⟨g4, 5, none⟩ = some (.slice E5 x.1.globals.length ec5) := by rw [hcell]; rfl
            have s6 : W4.cell? ⟨g4, 6, none⟩ = some (.slice E6 x.1.exports.length ec6) := by rw [hcell]; rfl
            have s7 : W4.cell? ⟨g4, 7, none⟩ = some (.int .i64 x.1.start) := by rw [hcell]; rfl
            have s8 : W4.cell? ⟨g4, 8, none⟩ = some (.slice E8 x.1.elems.length ec8) := by rw [hcell]; rfl
            have s9 : W4.cell? ⟨g4, 9, none⟩ = some (.slice E9 x.1.datas.length ec9) := by rw [hcell]; rfl
            clear hcell hM4 hg4
            go_wp2_with (go_at_call 11; refine (num_any _ _).mono ?_; rintro e wn ⟨rfl, rfl⟩)
            clear p0 s0 p1 s1 p2 s2 p3 s3 p4 s4 p5 s5 p6 s6 p7 s7 p8 s8 p9 s9
            refine heq.out.mono ?_
            clear heq
            rintro e5 w5 ⟨rfl, b5⟩
            have D5 := Lib.hid (D4.out.trans (b5.mono D4.out.size))
            have h25 := Lib.hid (h24.out.trans (b5.mono h24.out.size))
            clear b5 h24 hW4
            obtain ⟨z, hz0, hz1, rfl⟩ : ∃ z : Int, ((z.toNat : Nat) : Int) = z ∧ max z 0 = z ∧ N = z.toNat := ⟨N, by simp, by omega, by simp⟩
            by_cases h60 : z < 60000
            · have h60' : decide (z < 60000) = true := decide_eq_true h60
              have hex := Lib.hid (hrd2'.out (by omega))
              have hbl : bs.length = z.toNat := hN.out.symm
              obtain ⟨W6, hW6⟩ : ∃ W6, W6 = w5.alloc (.cells extraV 5) := ⟨_, rfl⟩
              have b6 : Below w5.heap.size w5 W6 := by rw [hW6]; exact (Below.refl _ _).alloc (Nat.le_refl _) _
              have hE6 := Lib.hid (lit_BS6 W6 M.extra extraV 5 w5.heap.size 5 5 rfl (by decide) (by rw [hW6]; exact heap_alloc_new w5 _) (by rw [hW6]; simp) rfl (by omega) (by unfold maxLen; omega))
              obtain ⟨g6, hg6⟩ : ∃ g6, g6 = w5.heap.size := ⟨_, rfl⟩
              rw [← hg6] at hE6
              have h26 := h25.out.trans (b6.mono h25.out.size)
              have hb6 := Lib.hid (hbs.out.later h26)
              have hT6 := Lib.hid (hb6.out.take 8 (by omega))
              have D6 := Lib.hid (D5.out.trans (b6.mono D5.out.size))
              replace hW6 := Lib.hid (show W6 = w5.alloc (.cells #[.int .u8 0, .int .u8 3, .int .u8 1, .int .u8 120, .int .u8 7] 5) from hW6)
              replace hg6 := Lib.hid hg6
              replace hbl := Lib.hid hbl
              have hl8 := Lib.hid (show (bs.take 8).length = 8 by rw [List.length_take]; have := hbl.out; omega)
              have hld := Lib.hid (show (bs.drop 8).length = z.toNat - 8 by rw [List.length_drop]; have := hbl.out; omega)
              have hle5 := Lib.hid (show M.extra.length = 5 from rfl)
              have he256 := Lib.hid (show ∀ b ∈ M.extra, b < 256 by decide)
              clear b6 h26 hrd2'
              by_cases hc8 : c' = 8
              · obtain rfl : z = 8 := by omega
                subst hc8
                have hBD := Lib.hid (show BS W6 W6.heap.size (.slice (some ad) 0 0) (bs.drop 8) by
                  have e : bs.drop 8 = [] := List.drop_eq_nil_of_le (by rw [hbl.out]; decide)
                  rw [e]
                  exact ⟨_, 0, rfl, by simp, by unfold maxLen; omega, fun i hi => by simp at hi⟩)
                go_upto_region 14 with fail
                rw [← hW6.out, ← hg6.out]
                go_wp2_with fail
                refine (CopyBytes_any _ (bs.take 8) _ (by rw [hl8.out]; omega) hT6.out).mono ?_
                rintro e7 w7 ⟨v7, rfl, own7, b7⟩
                have E7 := Lib.hid b7
                replace own7 := Lib.hid own7
                clear b7
                go_wp2_with (first
                  | (at_builtin; refine wpList_cat rfl _ _ rfl _ v7 (.slice (some ⟨g6, 0, none⟩) 5 5) (bs.take 8) M.extra rfl own7.out rfl (hE6.out.later E7.out) ?_ E7.out.size ?_; (rw [hl8.out, hle5.out]; omega); intro v8 w8 own8 gr8; have E8 := Lib.hid (E7.out.grown gr8 E7.out.size (fun q hq => (own7.out.lt q hq).1)); replace own8 := Lib.hid own8; clear gr8)
                  | (at_builtin; refine wpList_cat rfl _ _ rfl _ v8 (.slice (some ad) 0 0) (bs.take 8 ++ M.extra) (bs.drop 8) rfl own8.out rfl (hBD.out.later E8.out) ?_ E8.out.size ?_; (rw [List.length_append, hl8.out, hle5.out, hld.out]; omega); intro v9 w9 own9 gr9; have E9 := Lib.hid (E8.out.grown gr9 E8.out.size (fun q hq => (own8.out.lt q hq).1)); replace own9 := Lib.hid own9; clear gr9)
                  | (at_builtin; refine wpList_cat rfl _ _ rfl _ v9 (.slice (some ⟨g6, 0, none⟩) 5 5) (bs.take 8 ++ M.extra ++ bs.drop 8) M.extra rfl own9.out rfl (hE6.out.later E9.out) ?_ E9.out.size ?_; (rw [List.length_append, List.length_append, hl8.out, hle5.out, hld.out]; omega); intro v10 w10 own10 gr10; have E10 := Lib.hid (E9.out.grown gr10 E9.out.size (fun q hq => (own9.out.lt q hq).1)); replace own10 := Lib.hid own10; clear gr10))
                refine (dec_mod _ _ x.1 _ (own_BS own10.out (cat_lt6 (cat_lt6 (cat_lt6 (fun b hb => hall.out b (List.mem_of_mem_take hb)) he256.out) (fun b hb => hall.out b (List.mem_of_mem_drop hb))) he256.out)) hex.out).mono ?_
                rintro e11 w11 ⟨cs11, rfl, hsz11, hMA11, b11⟩
                obtain ⟨G0, gc0, G1, gc1, G2, gc2, G3, gc3, G4, gc4, G5, gc5, G6, gc6, G8, gc8, G9, gc9, rfl⟩ := (hMA11.ten hsz11).form
                have E11 := E10.out.trans (b11.mono E10.out.size)
                obtain ⟨W12, hW12⟩ : ∃ W12, W12 = w11.alloc (.cells #[.slice G0 x.1.types.length gc0, .slice G1 x.1.imports.length gc1, .slice G2 x.1.funcs.length gc2, .slice G3 x.1.tables.length gc3, .slice G4 x.1.memories.length gc4, .slice G5 x.1.globals.length gc5, .slice G6 x.1.exports.length gc6, .int .i64 x.1.start, .slice G8 x.1.elems.length gc8, .slice G9 x.1.datas.length gc9] 32) := ⟨_, rfl⟩
                have b12 : Below w11.heap.size w11 W12 := by rw [hW12]; exact (Below.refl _ _).alloc (Nat.le_refl _) _
                have E12 := Lib.hid (E11.trans (b12.mono E11.size))
                have hG := Lib.hid (MTen.agree (hMA11.ten hsz11) (below_agree b12) (up_lt b12))
                have hM12 := Lib.hid (show W12.heap[w11.heap.size]? = some (.cells #[.slice G0 x.1.types.length gc0, .slice G1 x.1.imports.length gc1, .slice G2 x.1.funcs.length gc2, .slice G3 x.1.tables.length gc3, .slice G4 x.1.memories.length gc4, .slice G5 x.1.globals.length gc5, .slice G6 x.1.exports.length gc6, .int .i64 x.1.start, .slice G8 x.1.elems.length gc8, .slice G9 x.1.datas.length gc9] 32 (0, 0)) by rw [hW12]; exact heap_alloc_new w11 _)
                have hl12 : w11.heap.size < W12.heap.size := by rw [hW12]; simp
                obtain ⟨g12, hg12⟩ : ∃ g12, g12 = w11.heap.size := ⟨_, rfl⟩
                rw [← hg12] at hM12 hl12
                have D12 := Lib.hid (D6.out.trans (E12.out.mono D6.out.size))
                have hb12 := Lib.hid (hb6.out.later E12.out)
                replace hW12 := Lib.hid hW12
                replace hg12 := Lib.hid hg12
                clear hMA11 hsz11 b11 b12 E11 own7 own8 own9 own10 E7 E8 E9 E10 hE6 hT6 hBD
                go_upto_region 17 with fail
                rw [← hW12.out, ← hg12.out]
                go_wp2_with fail
                refine (CopyBytes_any _ bs _ (by rw [hbl.out]; omega) hb12.out).mono ?_
                rintro e13 w13 ⟨v13, rfl, own13, b13⟩
                obtain ⟨W14, hW14⟩ : ∃ W14, W14 = w13.alloc (.cells #[.int .u8 0] 5) := ⟨_, rfl⟩
                have b14 : Below w13.heap.size w13 W14 := by rw [hW14]; exact (Below.refl _ _).alloc (Nat.le_refl _) _
                have F14 := Lib.hid (b13.trans (b14.mono b13.size))
                have hZ := Lib.hid (lit_BS6 W14 [0] #[.int .u8 0] 5 w13.heap.size 1 1 rfl (by decide) (by rw [hW14]; exact heap_alloc_new w13 _) (by rw [hW14]; simp) rfl (by omega) (by unfold maxLen; omega))
                have own14 := Lib.hid (show W14.ownsRow W12.heap.size 5 1 v13 bs.length (vals bs) by rw [hW14]; exact own13.alloc _)
                replace hW14 := Lib.hid hW14
                clear b13 b14 own13
                go_wp2_with (at_builtin; rw [← hW14.out]; refine wpList_cat rfl _ _ rfl _ v13 (.slice (some ⟨w13.heap.size, 0, none⟩) 1 1) bs [0] rfl own14.out rfl hZ.out ?_ F14.out.size ?_; (rw [hbl.out]; simp only [List.length_cons, List.length_nil]; omega); intro v15 w15 own15 gr15; have F15 := Lib.hid (F14.out.grown gr15 F14.out.size (fun q hq => (own14.out.lt q hq).1)); replace own15 := Lib.hid own15; clear gr15)
                refine (dec_none _ _ _ (own_BS own15.out (cat_lt6 hall.out (by decide))) hrd3'.out).mono ?_
                rintro e16 w16 ⟨rfl, b16⟩
                unfold mod0V
                obtain ⟨W17, hW17⟩ : ∃ W17, W17 = w16.alloc (.cells #[.slice none 0 0, .slice none 0 0, .slice none 0 0, .slice none 0 0, .slice none 0 0, .slice none 0 0, .slice none 0 0, .int .i64 0, .slice none 0 0, .slice none 0 0] 32) := ⟨_, rfl⟩
                have b17 : Below w16.heap.size w16 W17 := by rw [hW17]; exact (Below.refl _ _).alloc (Nat.le_refl _) _
                have F16 := F15.out.trans (b16.mono F15.out.size)
                have F17 := Lib.hid (F16.trans (b17.mono F16.size))
                have D17 := Lib.hid (D12.out.trans (F17.out.mono D12.out.size))
                have heq17 := Lib.hid (EqModule_same x.1 _ _ W17 (MTen.agree hG.out (below_agree F17.out) (up_lt F17.out)) (MTen.agree hme.out (below_agree D17.out) (up_lt D17.out)))
                replace hW17 := Lib.hid hW17
                clear b16 b17 F16 own14 own15 F14 F15 hZ
                go_upto_region 18 with fail
                rw [← hW17.out]
                have hcell := fun j => cell_of_row W17 P j _ _ (0, 0) ((D17.out.block P hPl).trans hPc.out)
                have p0 : W17.cell? ⟨P, 0, none⟩ = some (.slice A0 x.1.types.length c0) := by rw [hcell]; rfl
                have p1 : W17.cell? ⟨P, 1, none⟩ = some (.slice A1 x.1.imports.length c1) := by rw [hcell]; rfl
                have p2 : W17.cell? ⟨P, 2, none⟩ = some (.slice A2 x.1.funcs.length c2) := by rw [hcell]; rfl
                have p3 : W17.cell? ⟨P, 3, none⟩ = some (.slice A3 x.1.tables.length c3) := by rw [hcell]; rfl
                have p4 : W17.cell? ⟨P, 4, none⟩ = some (.slice A4 x.1.memories.length c4) := by rw [hcell]; rfl
                have p5 : W17.cell? ⟨P, 5, none⟩ = some (.slice A5 x.1.globals.length c5) := by rw [hcell]; rfl
                have p6 : W17.cell? ⟨P, 6, none⟩ = some (.slice A6 x.1.exports.length c6) := by rw [hcell]; rfl
                have p7 : W17.cell? ⟨P, 7, none⟩ = some (.int .i64 x.1.start) := by rw [hcell]; rfl
                have p8 : W17.cell? ⟨P, 8, none⟩ = some (.slice A8 x.1.elems.length c8) := by rw [hcell]; rfl
                have p9 : W17.cell? ⟨P, 9, none⟩ = some (.slice A9 x.1.datas.length c9) := by rw [hcell]; rfl
                clear hcell
                have hcell := fun j => cell_of_row W17 g12 j _ _ (0, 0) ((F17.out.block g12 hl12).trans hM12.out)
                have s0 : W17.cell? ⟨g12, 0, none⟩ = some (.slice G0 x.1.types.length gc0) := by rw [hcell]; rfl
                have s1 : W17.cell? ⟨g12, 1, none⟩ = some (.slice G1 x.1.imports.length gc1) := by rw [hcell]; rfl
                have s2 : W17.cell? ⟨g12, 2, none⟩ = some (.slice G2 x.1.funcs.length gc2) := by rw [hcell]; rfl
                have s3 : W17.cell? ⟨g12, 3, none⟩ = some (.slice G3 x.1.tables.length gc3) := by rw [hcell]; rfl
                have s4 : W17.cell? ⟨g12, 4, none⟩ = some (.slice G4 x.1.memories.length gc4) := by rw [hcell]; rfl
                have s5 : W17.cell? ⟨g12, 5, none⟩ = some (.slice G5 x.1.globals.length gc5) := by rw [hcell]; rfl
                have s6 : W17.cell? ⟨g12, 6, none⟩ = some (.slice G6 x.1.exports.length gc6) := by rw [hcell]; rfl
                have s7 : W17.cell? ⟨g12, 7, none⟩ = some (.int .i64 x.1.start) := by rw [hcell]; rfl
                have s8 : W17.cell? ⟨g12, 8, none⟩ = some (.slice G8 x.1.elems.length gc8) := by rw [hcell]; rfl
                have s9 : W17.cell? ⟨g12, 9, none⟩ = some (.slice G9 x.1.datas.length gc9) := by rw [hcell]; rfl
                clear hcell
                go_wp2_with (go_at_call 11; refine (num_any _ _).mono ?_; rintro e wn ⟨rfl, rfl⟩)
                clear p0 s0 p1 s1 p2 s2 p3 s3 p4 s4 p5 s5 p6 s6 p7 s7 p8 s8 p9 s9
                refine heq17.out.mono ?_
                clear heq17
                rintro e18 w18 ⟨rfl, b18⟩
                have D18 := Lib.hid (D17.out.trans (b18.mono D17.out.size))
                clear b18 F17 hG hM12
                have dT := Lib.hid (b0.out.trans (D18.out.mono b0.out.size))
                have hBT := Lib.hid (hB0.out.later D18.out)
                have hcell := fun j => cell_of_row w18 P j _ _ (0, 0) ((D18.out.block P hPl).trans hPc.out)
                have q10 : w18.cell? ⟨P, 10, none⟩ = some (.slice AB x.2.length cB) := by rw [hcell]; rfl
                clear hcell
                go_wp2_with (go_at_call 11; refine (num_any _ _).mono ?_; rintro e wn ⟨rfl, rfl⟩)
                refine (MDecode_any _ x.2 _ hBT.out).mono ?_
                rintro eT wU (⟨mT, csT, hrd, rfl, hsz, hMA, bU⟩ | ⟨hrd, rfl, bU⟩)
                · obtain ⟨T0, tc0, T1, tc1, T2, tc2, T3, tc3, T4, tc4, T5, tc5, T6, tc6, T8, tc8, T9, tc9, rfl⟩ := (hMA.ten hsz).form
                  have DU := Lib.hid (D18.out.trans (bU.mono D18.out.size))
                  obtain ⟨hso, hsl, _⟩ := M.rdModule_sound hrd
                  have hlg := M.light_of hso
                  obtain ⟨W7, hW7⟩ : ∃ W7, W7 = wU.alloc (.cells #[.slice T0 mT.types.length tc0, .slice T1 mT.imports.length tc1, .slice T2 mT.funcs.length tc2, .slice T3 mT.tables.length tc3, .slice T4 mT.memories.length tc4, .slice T5 mT.globals.length tc5, .slice T6 mT.exports.length tc6, .int .i64 mT.start, .slice T8 mT.elems.length tc8, .slice T9 mT.datas.length tc9] 32) := ⟨_, rfl⟩
                  have b7 : Below wU.heap.size wU W7 := by rw [hW7]; exact (Below.refl _ _).alloc (Nat.le_refl _) _
                  have hen7 := Lib.hid (Encode_any W7 _ mT (MIn.agree (mIn_at hMA hsz hlg (by omega)) (below_agree b7) (up_lt b7)))
                  have D7 := Lib.hid (DU.out.trans (b7.mono DU.out.size))
                  have hle7 : (8 + (M.topYs (ysM mT) 11 1).length) ≤ x.2.length := hsl
                  have hok7 : M.topOk (okM mT) (ysM mT) 11 1 ∧ 8 + (M.topYs (ysM mT) 11 1).length ≤ 65536 := ⟨hso, by omega⟩
                  replace hok7 := Lib.hid hok7
                  replace hW7 := Lib.hid hW7
                  clear hrd hMA hsz bU hlg hso hsl b7 q10
                  go_wp2_with (go_at_call 11; refine (num_any _ _).mono ?_; rintro e wn ⟨rfl, rfl⟩)
                  rw [← hW7.out]
                  refine hen7.out.mono ?_
                  rintro e8 w8 (⟨_, ⟨A8', c8', rfl, _⟩, b8⟩ | ⟨hno, _, _⟩)
                  · obtain ⟨N8, hN8⟩ : ∃ N8, N8 = (mhead ++ M.topYs (ysM mT) 11 1).length := ⟨_, rfl⟩
                    have hN9 : N8 ≤ x.2.length := by rw [hN8, List.length_append]; exact hle7
                    rw [← hN8]
                    have t8 : (N8 : Int) ≤ (x.2.length : Int) := by omega
                    have t9 : decide ((x.2.length : Int) < (N8 : Int)) = false := decide_eq_false (by omega)
                    have D8 := Lib.hid (D7.out.trans (b8.mono D7.out.size))
                    have d8 := Lib.hid (b0.out.trans (D8.out.mono b0.out.size))
                    clear hen7 hN8 b8
                    have hcell := fun j => cell_of_row w8 P j _ _ (0, 0) ((D8.out.block P hPl).trans hPc.out)
                    have r10 : w8.cell? ⟨P, 10, none⟩ = some (.slice AB x.2.length cB) := by rw [hcell]; rfl
                    clear hcell
                    go_wp2_with (go_at_call 11; refine (num_any _ _).mono ?_; rintro e wn ⟨rfl, rfl⟩)
                    refine ⟨⟨k + 1, by omega, by omega, by go_num, d8.out⟩, by simp [intOf]; omega⟩
                  · exact absurd hok7.out hno
                · have dU := Lib.hid (dT.out.trans (bU.mono dT.out.size))
                  unfold mod0V
                  clear hrd bU q10
                  go_wp2_with (go_at_call 11; refine (num_any _ _).mono ?_; rintro e wn ⟨rfl, rfl⟩)
                  have dV := Lib.hid (dU.out.alloc dU.out.size (.cells #[.slice none 0 0, .slice none 0 0, .slice none 0 0, .slice none 0 0, .slice none 0 0, .slice none 0 0, .slice none 0 0, .int .i64 0, .slice none 0 0, .slice none 0 0] 32))
                  refine ⟨⟨k + 1, by omega, by omega, by go_num, dV.out⟩, by simp [intOf]; omega⟩
              · have hc9 : 8 < c' := by omega
                have hc10 : (8 : Int) < (c' : Int) := by omega
                have hBD := Lib.hid (hb6.out.drop8 (by rw [hbl.out]; omega) hc9)
                go_upto_region 14 with fail
                rw [← hW6.out, ← hg6.out]
                go_wp2_with fail
                refine (CopyBytes_any _ (bs.take 8) _ (by rw [hl8.out]; omega) hT6.out).mono ?_
                rintro e7 w7 ⟨v7, rfl, own7, b7⟩
                have E7 := Lib.hid b7
                replace own7 := Lib.hid own7
                clear b7
                go_wp2_with (first
                  | (at_builtin; refine wpList_cat rfl _ _ rfl _ v7 (.slice (some ⟨g6, 0, none⟩) 5 5) (bs.take 8) M.extra rfl own7.out rfl (hE6.out.later E7.out) ?_ E7.out.size ?_; (rw [hl8.out, hle5.out]; omega); intro v8 w8 own8 gr8; have E8 := Lib.hid (E7.out.grown gr8 E7.out.size (fun q hq => (own7.out.lt q hq).1)); replace own8 := Lib.hid own8; clear gr8)
                  | (at_builtin; refine wpList_cat rfl _ _ rfl _ v8 (.slice (some ⟨ad.block, ad.off + 8, none⟩) (z.toNat - 8) (c' - 8)) (bs.take 8 ++ M.extra) (bs.drop 8) rfl own8.out rfl (hBD.out.later E8.out) ?_ E8.out.size ?_; (rw [List.length_append, hl8.out, hle5.out, hld.out]; omega); intro v9 w9 own9 gr9; have E9 := Lib.hid (E8.out.grown gr9 E8.out.size (fun q hq => (own8.out.lt q hq).1)); replace own9 := Lib.hid own9; clear gr9)
                  | (at_builtin; refine wpList_cat rfl _ _ rfl _ v9 (.slice (some ⟨g6, 0, none⟩) 5 5) (bs.take 8 ++ M.extra ++ bs.drop 8) M.extra rfl own9.out rfl (hE6.out.later E9.out) ?_ E9.out.size ?_; (rw [List.length_append, List.length_append, hl8.out, hle5.out, hld.out]; omega); intro v10 w10 own10 gr10; have E10 := Lib.hid (E9.out.grown gr10 E9.out.size (fun q hq => (own9.out.lt q hq).1)); replace own10 := Lib.hid own10; clear gr10))
                refine (dec_mod _ _ x.1 _ (own_BS own10.out (cat_lt6 (cat_lt6 (cat_lt6 (fun b hb => hall.out b (List.mem_of_mem_take hb)) he256.out) (fun b hb => hall.out b (List.mem_of_mem_drop hb))) he256.out)) hex.out).mono ?_
                rintro e11 w11 ⟨cs11, rfl, hsz11, hMA11, b11⟩
                obtain ⟨G0, gc0, G1, gc1, G2, gc2, G3, gc3, G4, gc4, G5, gc5, G6, gc6, G8, gc8, G9, gc9, rfl⟩ := (hMA11.ten hsz11).form
                have E11 := E10.out.trans (b11.mono E10.out.size)
                obtain ⟨W12, hW12⟩ : ∃ W12, W12 = w11.alloc (.cells #[.slice G0 x.1.types.length gc0, .slice G1 x.1.imports.length gc1, .slice G2 x.1.funcs.length gc2, .slice G3 x.1.tables.length gc3, .slice G4 x.1.memories.length gc4, .slice G5 x.1.globals.length gc5, .slice G6 x.1.exports.length gc6, .int .i64 x.1.start, .slice G8 x.1.elems.length gc8, .slice G9 x.1.datas.length gc9] 32) := ⟨_, rfl⟩
                have b12 : Below w11.heap.size w11 W12 := by rw [hW12]; exact (Below.refl _ _).alloc (Nat.le_refl _) _
                have E12 := Lib.hid (E11.trans (b12.mono E11.size))
                have hG := Lib.hid (MTen.agree (hMA11.ten hsz11) (below_agree b12) (up_lt b12))
                have hM12 := Lib.hid (show W12.heap[w11.heap.size]? = some (.cells #[.slice G0 x.1.types.length gc0, .slice G1 x.1.imports.length gc1, .slice G2 x.1.funcs.length gc2, .slice G3 x.1.tables.length gc3, .slice G4 x.1.memories.length gc4, .slice G5 x.1.globals.length gc5, .slice G6 x.1.exports.length gc6, .int .i64 x.1.start, .slice G8 x.1.elems.length gc8, .slice G9 x.1.datas.length gc9] 32 (0, 0)) by rw [hW12]; exact heap_alloc_new w11 _)
                have hl12 : w11.heap.size < W12.heap.size := by rw [hW12]; simp
                obtain ⟨g12, hg12⟩ : ∃ g12, g12 = w11.heap.size := ⟨_, rfl⟩
                rw [← hg12] at hM12 hl12
                have D12 := Lib.hid (D6.out.trans (E12.out.mono D6.out.size))
                have hb12 := Lib.hid (hb6.out.later E12.out)
                replace hW12 := Lib.hid hW12
                replace hg12 := Lib.hid hg12
                clear hMA11 hsz11 b11 b12 E11 own7 own8 own9 own10 E7 E8 E9 E10 hE6 hT6 hBD
                go_upto_region 17 with fail
                rw [← hW12.out, ← hg12.out]
                go_wp2_with fail
                refine (CopyBytes_any _ bs _ (by rw [hbl.out]; omega) hb12.out).mono ?_
                rintro e13 w13 ⟨v13, rfl, own13, b13⟩
                obtain ⟨W14, hW14⟩ : ∃ W14, W14 = w13.alloc (.cells #[.int .u8 0] 5) := ⟨_, rfl⟩
                have b14 : Below w13.heap.size w13 W14 := by rw [hW14]; exact (Below.refl _ _).alloc (Nat.le_refl _) _
                have F14 := Lib.hid (b13.trans (b14.mono b13.size))
                have hZ := Lib.hid (lit_BS6 W14 [0] #[.int .u8 0] 5 w13.heap.size 1 1 rfl (by decide) (by rw [hW14]; exact heap_alloc_new w13 _) (by rw [hW14]; simp) rfl (by omega) (by unfold maxLen; omega))
                have own14 := Lib.hid (show W14.ownsRow W12.heap.size 5 1 v13 bs.length (vals bs) by rw [hW14]; exact own13.alloc _)
                replace hW14 := Lib.hid hW14
                clear b13 b14 own13
                go_wp2_with (at_builtin; rw [← hW14.out]; refine wpList_cat rfl _ _ rfl _ v13 (.slice (some ⟨w13.heap.size, 0, none⟩) 1 1) bs [0] rfl own14.out rfl hZ.out ?_ F14.out.size ?_; (rw [hbl.out]; simp only [List.length_cons, List.length_nil]; omega); intro v15 w15 own15 gr15; have F15 := Lib.hid (F14.out.grown gr15 F14.out.size (fun q hq => (own14.out.lt q hq).1)); replace own15 := Lib.hid own15; clear gr15)
                refine (dec_none _ _ _ (own_BS own15.out (cat_lt6 hall.out (by decide))) hrd3'.out).mono ?_
                rintro e16 w16 ⟨rfl, b16⟩
                unfold mod0V
                obtain ⟨W17, hW17⟩ : ∃ W17, W17 = w16.alloc (.cells #[.slice none 0 0, .slice none 0 0, .slice none 0 0, .slice none 0 0, .slice none 0 0, .slice none 0 0, .slice none 0 0, .int .i64 0, .slice none 0 0, .slice none 0 0] 32) := ⟨_, rfl⟩
                have b17 : Below w16.heap.size w16 W17 := by rw [hW17]; exact (Below.refl _ _).alloc (Nat.le_refl _) _
                have F16 := F15.out.trans (b16.mono F15.out.size)
                have F17 := Lib.hid (F16.trans (b17.mono F16.size))
                have D17 := Lib.hid (D12.out.trans (F17.out.mono D12.out.size))
                have heq17 := Lib.hid (EqModule_same x.1 _ _ W17 (MTen.agree hG.out (below_agree F17.out) (up_lt F17.out)) (MTen.agree hme.out (below_agree D17.out) (up_lt D17.out)))
                replace hW17 := Lib.hid hW17
                clear b16 b17 F16 own14 own15 F14 F15 hZ
                go_upto_region 18 with fail
                rw [← hW17.out]
                have hcell := fun j => cell_of_row W17 P j _ _ (0, 0) ((D17.out.block P hPl).trans hPc.out)
                have p0 : W17.cell? ⟨P, 0, none⟩ = some (.slice A0 x.1.types.length c0) := by rw [hcell]; rfl
                have p1 : W17.cell? ⟨P, 1, none⟩ = some (.slice A1 x.1.imports.length c1) := by rw [hcell]; rfl
                have p2 : W17.cell? ⟨P, 2, none⟩ = some (.slice A2 x.1.funcs.length c2) := by rw [hcell]; rfl
                have p3 : W17.cell? ⟨P, 3, none⟩ = some (.slice A3 x.1.tables.length c3) := by rw [hcell]; rfl
                have p4 : W17.cell? ⟨P, 4, none⟩ = some (.slice A4 x.1.memories.length c4) := by rw [hcell]; rfl
                have p5 : W17.cell? ⟨P, 5, none⟩ = some (.slice A5 x.1.globals.length c5) := by rw [hcell]; rfl
                have p6 : W17.cell? ⟨P, 6, none⟩ = some (.slice A6 x.1.exports.length c6) := by rw [hcell]; rfl
                have p7 : W17.cell? ⟨P, 7, none⟩ = some (.int .i64 x.1.start) := by rw [hcell]; rfl
                have p8 : W17.cell? ⟨P, 8, none⟩ = some (.slice A8 x.1.elems.length c8) := by rw [hcell]; rfl
                have p9 : W17.cell? ⟨P, 9, none⟩ = some (.slice A9 x.1.datas.length c9) := by rw [hcell]; rfl
                clear hcell
                have hcell := fun j => cell_of_row W17 g12 j _ _ (0, 0) ((F17.out.block g12 hl12).trans hM12.out)
                have s0 : W17.cell? ⟨g12, 0, none⟩ = some (.slice G0 x.1.types.length gc0) := by rw [hcell]; rfl
                have s1 : W17.cell? ⟨g12, 1, none⟩ = some (.slice G1 x.1.imports.length gc1) := by rw [hcell]; rfl
                have s2 : W17.cell? ⟨g12, 2, none⟩ = some (.slice G2 x.1.funcs.length gc2) := by rw [hcell]; rfl
                have s3 : W17.cell? ⟨g12, 3, none⟩ = some (.slice G3 x.1.tables.length gc3) := by rw [hcell]; rfl
                have s4 : W17.cell? ⟨g12, 4, none⟩ = some (.slice G4 x.1.memories.length gc4) := by rw [hcell]; rfl
                have s5 : W17.cell? ⟨g12, 5, none⟩ = some (.slice G5 x.1.globals.length gc5) := by rw [hcell]; rfl
                have s6 : W17.cell? ⟨g12, 6, none⟩ = some (.slice G6 x.1.exports.length gc6) := by rw [hcell]; rfl
                have s7 : W17.cell? ⟨g12, 7, none⟩ = some (.int .i64 x.1.start) := by rw [hcell]; rfl
                have s8 : W17.cell? ⟨g12, 8, none⟩ = some (.slice G8 x.1.elems.length gc8) := by rw [hcell]; rfl
                have s9 : W17.cell? ⟨g12, 9, none⟩ = some (.slice G9 x.1.datas.length gc9) := by rw [hcell]; rfl
                clear hcell
                go_wp2_with (go_at_call 11; refine (num_any _ _).mono ?_; rintro e wn ⟨rfl, rfl⟩)
                clear p0 s0 p1 s1 p2 s2 p3 s3 p4 s4 p5 s5 p6 s6 p7 s7 p8 s8 p9 s9
                refine heq17.out.mono ?_
                clear heq17
                rintro e18 w18 ⟨rfl, b18⟩
                have D18 := Lib.hid (D17.out.trans (b18.mono D17.out.size))
                clear b18 F17 hG hM12
                have dT := Lib.hid (b0.out.trans (D18.out.mono b0.out.size))
                have hBT := Lib.hid (hB0.out.later D18.out)
                have hcell := fun j => cell_of_row w18 P j _ _ (0, 0) ((D18.out.block P hPl).trans hPc.out)
                have q10 : w18.cell? ⟨P, 10, none⟩ = some (.slice AB x.2.length cB) := by rw [hcell]; rfl
                clear hcell
                go_wp2_with (go_at_call 11; refine (num_any _ _).mono ?_; rintro e wn ⟨rfl, rfl⟩)
                refine (MDecode_any _ x.2 _ hBT.out).mono ?_
                rintro eT wU (⟨mT, csT, hrd, rfl, hsz, hMA, bU⟩ | ⟨hrd, rfl, bU⟩)
                · obtain ⟨T0, tc0, T1, tc1, T2, tc2, T3, tc3, T4, tc4, T5, tc5, T6, tc6, T8, tc8, T9, tc9, rfl⟩ := (hMA.ten hsz).form
                  have DU := Lib.hid (D18.out.trans (bU.mono D18.out.size))
                  obtain ⟨hso, hsl, _⟩ := M.rdModule_sound hrd
                  have hlg := M.light_of hso
                  obtain ⟨W7, hW7⟩ : ∃ W7, W7 = wU.alloc (.cells #[.slice T0 mT.types.length tc0, .slice T1 mT.imports.length tc1, .slice T2 mT.funcs.length tc2, .slice T3 mT.tables.length tc3, .slice T4 mT.memories.length tc4, .slice T5 mT.globals.length tc5, .slice T6 mT.exports.length tc6, .int .i64 mT.start, .slice T8 mT.elems.length tc8, .slice T9 mT.datas.length tc9] 32) := ⟨_, rfl⟩
                  have b7 : Below wU.heap.size wU W7 := by rw [hW7]; exact (Below.refl _ _).alloc (Nat.le_refl _) _
                  have hen7 := Lib.hid (Encode_any W7 _ mT (MIn.agree (mIn_at hMA hsz hlg (by omega)) (below_agree b7) (up_lt b7)))
                  have D7 := Lib.hid (DU.out.trans (b7.mono DU.out.size))
                  have hle7 : (8 + (M.topYs (ysM mT) 11 1).length) ≤ x.2.length := hsl
                  have hok7 : M.topOk (okM mT) (ysM mT) 11 1 ∧ 8 + (M.topYs (ysM mT) 11 1).length ≤ 65536 := ⟨hso, by omega⟩
                  replace hok7 := Lib.hid hok7
                  replace hW7 := Lib.hid hW7
                  clear hrd hMA hsz bU hlg hso hsl b7 q10
                  go_wp2_with (go_at_call 11; refine (num_any _ _).mono ?_; rintro e wn ⟨rfl, rfl⟩)
                  rw [← hW7.out]
                  refine hen7.out.mono ?_
                  rintro e8 w8 (⟨_, ⟨A8', c8', rfl, _⟩, b8⟩ | ⟨hno, _, _⟩)
                  · obtain ⟨N8, hN8⟩ : ∃ N8, N8 = (mhead ++ M.topYs (ysM mT) 11 1).length := ⟨_, rfl⟩
                    have hN9 : N8 ≤ x.2.length := by rw [hN8, List.length_append]; exact hle7
                    rw [← hN8]
                    have t8 : (N8 : Int) ≤ (x.2.length : Int) := by omega
                    have t9 : decide ((x.2.length : Int) < (N8 : Int)) = false := decide_eq_false (by omega)
                    have D8 := Lib.hid (D7.out.trans (b8.mono D7.out.size))
                    have d8 := Lib.hid (b0.out.trans (D8.out.mono b0.out.size))
                    clear hen7 hN8 b8
                    have hcell := fun j => cell_of_row w8 P j _ _ (0, 0) ((D8.out.block P hPl).trans hPc.out)
                    have r10 : w8.cell? ⟨P, 10, none⟩ = some (.slice AB x.2.length cB) := by rw [hcell]; rfl
                    clear hcell
                    go_wp2_with (go_at_call 11; refine (num_any _ _).mono ?_; rintro e wn ⟨rfl, rfl⟩)
                    refine ⟨⟨k + 1, by omega, by omega, by go_num, d8.out⟩, by simp [intOf]; omega⟩
                  · exact absurd hok7.out hno
                · have dU := Lib.hid (dT.out.trans (bU.mono dT.out.size))
                  unfold mod0V
                  clear hrd bU q10
                  go_wp2_with (go_at_call 11; refine (num_any _ _).mono ?_; rintro e wn ⟨rfl, rfl⟩)
                  have dV := Lib.hid (dU.out.alloc dU.out.size (.cells #[.slice none 0 0, .slice none 0 0, .slice none 0 0, .slice none 0 0, .slice none 0 0, .slice none 0 0, .slice none 0 0, .int .i64 0, .slice none 0 0, .slice none 0 0] 32))
                  refine ⟨⟨k + 1, by omega, by omega, by go_num, dV.out⟩, by simp [intOf]; omega⟩
            · have h60' : decide (z < 60000) = false := decide_eq_false h60
              have dT := Lib.hid (b0.out.trans (D5.out.mono b0.out.size))
              have hBT := Lib.hid (hB0.out.later D5.out)
              have hcell := fun j => cell_of_row w5 P j _ _ (0, 0) ((D5.out.block P hPl).trans hPc.out)
              have q10 : w5.cell? ⟨P, 10, none⟩ = some (.slice AB x.2.length cB) := by rw [hcell]; rfl
              clear hcell
              go_wp2_with (go_at_call 11; refine (num_any _ _).mono ?_; rintro e wn ⟨rfl, rfl⟩)
              refine (MDecode_any _ x.2 _ hBT.out).mono ?_
              rintro eT wU (⟨mT, csT, hrd, rfl, hsz, hMA, bU⟩ | ⟨hrd, rfl, bU⟩)
              · obtain ⟨T0, tc0, T1, tc1, T2, tc2, T3, tc3, T4, tc4, T5, tc5, T6, tc6, T8, tc8, T9, tc9, rfl⟩ := (hMA.ten hsz).form
                have DU := Lib.hid (D5.out.trans (bU.mono D5.out.size))
                obtain ⟨hso, hsl, _⟩ := M.rdModule_sound hrd
                have hlg := M.light_of hso
                obtain ⟨W7, hW7⟩ : ∃ W7, W7 = wU.alloc (.cells #[.slice T0 mT.types.length tc0, .slice T1 mT.imports.length tc1, .slice T2 mT.funcs.length tc2, .slice T3 mT.tables.length tc3, .slice T4 mT.memories.length tc4, .slice T5 mT.globals.length tc5, .slice T6 mT.exports.length tc6, .int .i64 mT.start, .slice T8 mT.elems.length tc8, .slice T9 mT.datas.length tc9] 32) := ⟨_, rfl⟩
                have b7 : Below wU.heap.size wU W7 := by rw [hW7]; exact (Below.refl _ _).alloc (Nat.le_refl _) _
                have hen7 := Lib.hid (Encode_any W7 _ mT (MIn.agree (mIn_at hMA hsz hlg (by omega)) (below_agree b7) (up_lt b7)))
                have D7 := Lib.hid (DU.out.trans (b7.mono DU.out.size))
                have hle7 : (8 + (M.topYs (ysM mT) 11 1).length) ≤ x.2.length := hsl
                have hok7 : M.topOk (okM mT) (ysM mT) 11 1 ∧ 8 + (M.topYs (ysM mT) 11 1).length ≤ 65536 := ⟨hso, by omega⟩
                replace hok7 := Lib.hid hok7
                replace hW7 := Lib.hid hW7
                clear hrd hMA hsz bU hlg hso hsl b7 q10
                go_wp2_with (go_at_call 11; refine (num_any _ _).mono ?_; rintro e wn ⟨rfl, rfl⟩)
                rw [← hW7.out]
                refine hen7.out.mono ?_
                rintro e8 w8 (⟨_, ⟨A8', c8', rfl, _⟩, b8⟩ | ⟨hno, _, _⟩)
                · obtain ⟨N8, hN8⟩ : ∃ N8, N8 = (mhead ++ M.topYs (ysM mT) 11 1).length := ⟨_, rfl⟩
                  have hN9 : N8 ≤ x.2.length := by rw [hN8, List.length_append]; exact hle7
                  rw [← hN8]
                  have t8 : (N8 : Int) ≤ (x.2.length : Int) := by omega
                  have t9 : decide ((x.2.length : Int) < (N8 : Int)) = false := decide_eq_false (by omega)
                  have D8 := Lib.hid (D7.out.trans (b8.mono D7.out.size))
                  have d8 := Lib.hid (b0.out.trans (D8.out.mono b0.out.size))
                  clear hen7 hN8 b8
                  have hcell := fun j => cell_of_row w8 P j _ _ (0, 0) ((D8.out.block P hPl).trans hPc.out)
                  have r10 : w8.cell? ⟨P, 10, none⟩ = some (.slice AB x.2.length cB) := by rw [hcell]; rfl
                  clear hcell
                  go_wp2_with (go_at_call 11; refine (num_any _ _).mono ?_; rintro e wn ⟨rfl, rfl⟩)
                  refine ⟨⟨k + 1, by omega, by omega, by go_num, d8.out⟩, by simp [intOf]; omega⟩
                · exact absurd hok7.out hno
              · have dU := Lib.hid (dT.out.trans (bU.mono dT.out.size))
                unfold mod0V
                clear hrd bU q10
                go_wp2_with (go_at_call 11; refine (num_any _ _).mono ?_; rintro e wn ⟨rfl, rfl⟩)
                have dV := Lib.hid (dU.out.alloc dU.out.size (.cells #[.slice none 0 0, .slice none 0 0, .slice none 0 0, .slice none 0 0, .slice none 0 0, .slice none 0 0, .slice none 0 0, .int .i64 0, .slice none 0 0, .slice none 0 0] 32))
                refine ⟨⟨k + 1, by omega, by omega, by go_num, dV.out⟩, by simp [intOf]; omega⟩
          · have D2 := Lib.hid (D1.out.trans (b2.mono D1.out.size))
            clear b2
            have dT := Lib.hid (b0.out.trans (D2.out.mono b0.out.size))
            have hBT := Lib.hid (hB0.out.later D2.out)
            have hcell := fun j => cell_of_row w2 P j _ _ (0, 0) ((D2.out.block P hPl).trans hPc.out)
            have q10 : w2.cell? ⟨P, 10, none⟩ = some (.slice AB x.2.length cB) := by rw [hcell]; rfl
            clear hcell
            go_wp2_with (go_at_call 11; refine (num_any _ _).mono ?_; rintro e wn ⟨rfl, rfl⟩)
            refine (MDecode_any _ x.2 _ hBT.out).mono ?_
            rintro eT wU (⟨mT, csT, hrd, rfl, hsz, hMA, bU⟩ | ⟨hrd, rfl, bU⟩)
            · obtain ⟨T0, tc0, T1, tc1, T2, tc2, T3, tc3, T4, tc4, T5, tc5, T6, tc6, T8, tc8, T9, tc9, rfl⟩ := (hMA.ten hsz).form
              have DU := Lib.hid (D2.out.trans (bU.mono D2.out.size))
              obtain ⟨hso, hsl, _⟩ := M.rdModule_sound hrd
              have hlg := M.light_of hso
              obtain ⟨W7, hW7⟩ : ∃ W7, W7 = wU.alloc (.cells #[.slice T0 mT.types.length tc0, .slice T1 mT.imports.length tc1, .slice T2 mT.funcs.length tc2, .slice T3 mT.tables.length tc3, .slice T4 mT.memories.length tc4, .slice T5 mT.globals.length tc5, .slice T6 mT.exports.length tc6, .int .i64 mT.start, .slice T8 mT.elems.length tc8, .slice T9 mT.datas.length tc9] 32) := ⟨_, rfl⟩
              have b7 : Below wU.heap.size wU W7 := by rw [hW7]; exact (Below.refl _ _).alloc (Nat.le_refl _) _
              have hen7 := Lib.hid (Encode_any W7 _ mT (MIn.agree (mIn_at hMA hsz hlg (by omega)) (below_agree b7) (up_lt b7)))
              have D7 := Lib.hid (DU.out.trans (b7.mono DU.out.size))
              have hle7 : (8 + (M.topYs (ysM mT) 11 1).length) ≤ x.2.length := hsl
              have hok7 : M.topOk (okM mT) (ysM mT) 11 1 ∧ 8 + (M.topYs (ysM mT) 11 1).length ≤ 65536 := ⟨hso, by omega⟩
              replace hok7 := Lib.hid hok7
              replace hW7 := Lib.hid hW7
              clear hrd hMA hsz bU hlg hso hsl b7 q10
              go_wp2_with (go_at_call 11; refine (num_any _ _).mono ?_; rintro e wn ⟨rfl, rfl⟩)
              rw [← hW7.out]
              refine hen7.out.mono ?_
              rintro e8 w8 (⟨_, ⟨A8', c8', rfl, _⟩, b8⟩ | ⟨hno, _, _⟩)
              · obtain ⟨N8, hN8⟩ : ∃ N8, N8 = (mhead ++ M.topYs (ysM mT) 11 1).length := ⟨_, rfl⟩
                have hN9 : N8 ≤ x.2.length := by rw [hN8, List.length_append]; exact hle7
                rw [← hN8]
                have t8 : (N8 : Int) ≤ (x.2.length : Int) := by omega
                have t9 : decide ((x.2.length : Int) < (N8 : Int)) = false := decide_eq_false (by omega)
                have D8 := Lib.hid (D7.out.trans (b8.mono D7.out.size))
                have d8 := Lib.hid (b0.out.trans (D8.out.mono b0.out.size))
                clear hen7 hN8 b8
                have hcell := fun j => cell_of_row w8 P j _ _ (0, 0) ((D8.out.block P hPl).trans hPc.out)
                have r10 : w8.cell? ⟨P, 10, none⟩ = some (.slice AB x.2.length cB) := by rw [hcell]; rfl
                clear hcell
                go_wp2_with (go_at_call 11; refine (num_any _ _).mono ?_; rintro e wn ⟨rfl, rfl⟩)
                refine ⟨⟨k + 1, by omega, by omega, by go_num, d8.out⟩, by simp [intOf]; omega⟩
              · exact absurd hok7.out hno
            · have dU := Lib.hid (dT.out.trans (bU.mono dT.out.size))
              unfold mod0V
              clear hrd bU q10
              go_wp2_with (go_at_call 11; refine (num_any _ _).mono ?_; rintro e wn ⟨rfl, rfl⟩)
              have dV := Lib.hid (dU.out.alloc dU.out.size (.cells #[.slice none 0 0, .slice none 0 0, .slice none 0 0, .slice none 0 0, .slice none 0 0, .slice none 0 0, .slice none 0 0, .int .i64 0, .slice none 0 0, .slice none 0 0] 32))
              refine ⟨⟨k + 1, by omega, by omega, by go_num, dV.out⟩, by simp [intOf]; omega⟩
      · have t1 : (k : Int) < (n : Int) := by omega
        have t2 : ¬ (k : Int) < 6 := by omega
        replace hbw := Lib.hid hbw
        go_wp2_with fail
        refine (wakes_any _).mono ?_
        rintro e9 w9 ⟨rfl, b9⟩
        have d9 := Lib.hid (hbw.out.trans (b9.mono hbw.out.size))
        clear b9
        go_wp2_with fail
        go_ret
        exact ⟨rfl, d9.out⟩
    · have t1 : ¬ (k : Int) < (n : Int) := by omega
      replace hbw := Lib.hid hbw
      go_wp2_with fail
      refine (wakes_any _).mono ?_
      rintro e9 w9 ⟨rfl, b9⟩
      have d9 := Lib.hid (hbw.out.trans (b9.mono hbw.out.size))
      clear b9
      go_wp2_with fail
      go_ret
      exact ⟨rfl, d9.out⟩
end Go.Proofs.YtilaheifccjjeaaGreat
