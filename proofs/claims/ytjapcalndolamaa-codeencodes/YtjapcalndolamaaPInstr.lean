/-
  What the page's reader of one instruction answers, for the kinds without a list; condition: the place lies in memory that was there at the call.
-/
import Derived.Test.YtjapcalndolamaaPRead
import Derived.Test.YtjapcalndolamaaWakes
namespace Go.Proofs.Ytjapcalndolamaa
open Go.RowKit
def IsSl (v : Value) : Prop := ∃ A n c, v = .slice A n c
theorem nil_IsSl : IsSl (.slice none 0 0) := ⟨_, _, _, rfl⟩
/-- What an instruction that the page has read is. -/
def PIns (P : Nat) (A : Option Addr) (c : Nat) (bs : List Nat) (res : Option (M.It × List Nat)) (h : M.Hd) (vL vB vE : Value) (B : Nat) (w' : World) : Prop :=
  match res with
  | some (it, r) => it.1 = h ∧ St w' P A c bs (some r) ∧ Rng h ∧ OwnN w' (Since B w') vL h.labels ∧ OwnL w' (Since B w') vB it.2.1 ∧ OwnL w' (Since B w') vE it.2.2
  | none => St w' P A c bs none ∧ IsSl vL ∧ IsSl vB ∧ IsSl vE
def PInsPost (P : Nat) (A : Option Addr) (c : Nat) (bs : List Nat) (res : Option (M.It × List Nat)) (w : World) (e : Ending) (w' : World) : Prop :=
  ∃ h vL vB vE, e = .returned (Item9 h vL vB vE) ∧ Kb (· = P) w w' ∧ PIns P A c bs res h vL vB vE w.heap.size w'
theorem shape_is (op : Int) (k : Nat) (w : World) (hk : M.kind op = k) : Calls Try.prog 52 #[.int .i64 op] w fun e w' => e = .returned (.int .i64 (k : Nat)) ∧ w = w' := by
  subst hk
  exact shape_any op w
theorem PIns.plain {P : Nat} {A : Option Addr} {c : Nat} {bs : List Nat} {h : M.Hd} {r : List Nat} {B : Nat} {w' : World} (hs : St w' P A c bs (some r)) (hR : Rng h) (hl : h.labels = []) : PIns P A c bs (some ((h, .nil, .nil), r)) h (.slice none 0 0) (.slice none 0 0) (.slice none 0 0) B w' :=
  ⟨rfl, hs, hR, by rw [hl]; exact OwnN.nil _ _, OwnL.nil _ _, OwnL.nil _ _⟩
theorem PIns.bad {P : Nat} {A : Option Addr} {c : Nat} {bs : List Nat} {h : M.Hd} {B : Nat} {w' : World} (hs : St w' P A c bs none) : PIns P A c bs none h (.slice none 0 0) (.slice none 0 0) (.slice none 0 0) B w' := ⟨hs, nil_IsSl, nil_IsSl, nil_IsSl⟩
/-- The two rows of the page's reader of an instruction: its answer's and its own. -/
structure Rows2 (w : World) (R : Nat) (h : M.Hd) (vL vB vE : Value) : Prop where
  r : ∃ old : Array Value, w.heap[R]? = some (.cells old 48 (0, 0)) ∧ old.size = 9
  x : w.heap[R + 1]? = some (.cells (item9 h vL vB vE).toArray 48 (0, 0))
theorem Rows2.agree {w w' : World} {R : Nat} {h : M.Hd} {vL vB vE : Value} (hr : Rows2 w R h vL vB vE) (h1 : w'.heap[R]? = w.heap[R]?) (h2 : w'.heap[R + 1]? = w.heap[R + 1]?) : Rows2 w' R h vL vB vE := ⟨by rw [h1]; exact hr.r, by rw [h2]; exact hr.x⟩
theorem Rows2.item {w : World} {R : Nat} {h : M.Hd} {vL vB vE : Value} (hr : Rows2 w R h vL vB vE) : ItemAt w (R + 1) 0 h vL vB vE := item_row hr.x (nine rfl rfl rfl rfl rfl rfl rfl rfl rfl)
theorem Rows2.frozen {w : World} {R : Nat} {h : M.Hd} {vL vB vE : Value} (hr : Rows2 w R h vL vB vE) (j : Nat) : w.frozen? ⟨R + 1, j, none⟩ = false := frozen_of_row w (R + 1) j _ _ hr.x
theorem Rows2.set {w : World} {R j : Nat} {h h' : M.Hd} {vL vB vE vL' vB' vE' u : Value} (hr : Rows2 w R h vL vB vE) (hs : (item9 h vL vB vE).toArray.setIfInBounds j u = (item9 h' vL' vB' vE').toArray) : Rows2 (w.setCell ⟨R + 1, j, none⟩ u) R h' vL' vB' vE' :=
  ⟨by rw [heap_setCell_other w ⟨R + 1, j, none⟩ R u (by show R ≠ R + 1; omega)]; exact hr.r, by rw [heap_setCell_same w (R + 1) j _ _ u hr.x, hs]⟩
theorem Kb.new {P : Nat} {w w0 w' : World} (h0 : Below w.heap.size w w0) (h : Kb (fun k => k = P ∨ w.heap.size ≤ k) w0 w') : Kb (· = P) w w' :=
  ⟨h.os.trans h0.os, h.tape.trans h0.tape, h.output.trans h0.output, Nat.le_trans h0.size h.size, fun k hk hne => (h.block k (Nat.lt_of_lt_of_le hk h0.size) (by omega)).trans (h0.block k hk)⟩
theorem st_set {w : World} {P : Nat} {A : Option Addr} {c : Nat} {bs : List Nat} {o : Option (List Nat)} (h : St w P A c bs o) {p : Addr} (hp : P < p.block) (u : Value) : St (w.setCell p u) P A c bs o := h.agree (fun k hk => Below.heap_setCell _ _ _ _ (by omega)) (by simp)
theorem st_row {w : World} {P : Nat} {A : Option Addr} {c : Nat} {bs : List Nat} {o : Option (List Nat)} (h : St w P A c bs o) {g : Nat} (hp : P < g) (cs : Array Value) : St (w.setRow g cs) P A c bs o := h.agree (fun k hk => setRow_other w g k cs (by omega)) (by simp)
theorem kb_row {T : Nat → Prop} {a b : World} (h : Kb T a b) {g : Nat} (hg : T g) (cs : Array Value) : Kb T a (b.setRow g cs) :=
  ⟨h.os, h.tape, h.output, by simpa using h.size, fun i hi ht => by rw [setRow_other b g i cs (fun e => ht (by rw [e]; exact hg))]; exact h.block i hi ht⟩
theorem all_one {h : M.Hd} {vL vB vE : Value} (h1 : IsSl vL) (h2 : IsSl vB) (h3 : IsSl vE) : (item9 h vL vB vE).toArray.all (·.oneCell') = true := by
  obtain ⟨_, _, _, rfl⟩ := h1
  obtain ⟨_, _, _, rfl⟩ := h2
  obtain ⟨_, _, _, rfl⟩ := h3
  simp [item9, Value.oneCell']
theorem instr_size : (Try.prog.info? 48).map (·.size) = some 9 := by kernel_rfl
namespace M
theorem sV_rng (b : Nat) (o : Option (List Nat)) (h1 : 1 ≤ b) (h2 : b ≤ 64) : -9223372036854775808 ≤ sV b o ∧ sV b o ≤ 9223372036854775807 := by
  have h63 : (2 : Int) ^ (b - 1) ≤ 9223372036854775808 := by
    have := Nat.pow_le_pow_right (n := 2) (by omega) (show b - 1 ≤ 63 by omega)
    have h3 : (2 : Nat) ^ 63 = 9223372036854775808 := by decide
    rw [h3] at this
    rw [← pow_int]; omega
  unfold sV
  cases h : o.bind (sgn b) with
  | none => simp
  | some p =>
    obtain ⟨r, _, hr⟩ := Option.bind_eq_some_iff.1 h
    obtain ⟨v, t⟩ := p
    have := (sgn_short hr).1
    simp only
    omega
theorem ins_0 (sub : Rd) (op : Nat) (r : List Nat) (hk : kind op = 0) : ins sub op r = none := by unfold ins; rw [hk]; rfl
theorem ins_3 (sub : Rd) (op : Nat) (r : List Nat) (hk : kind op = 3) : ins sub op r = (nR (some r)).bind fun t => some (({ hd0 op with ix := nV (some r) }, .nil, .nil), t) := by
  unfold ins nR nV; rw [hk]; simp only [Option.bind_some]; cases num r <;> rfl
theorem ins_5 (sub : Rd) (op : Nat) (r : List Nat) (hk : kind op = 5) : ins sub op r = ((nR (some r)).bind zeroB).bind fun t => some (({ hd0 op with ix := nV (some r) }, .nil, .nil), t) := by
  unfold ins nR nV; rw [hk]; simp only [Option.bind_some]
  cases num r with
  | none => rfl
  | some p => rfl
theorem ins_6 (sub : Rd) (op : Nat) (r : List Nat) (hk : kind op = 6) : ins sub op r = (nR (nR (some r))).bind fun t => some (({ hd0 op with al := nV (some r), ofs := nV (nR (some r)) }, .nil, .nil), t) := by
  unfold ins nR nV; rw [hk]; simp only [Option.bind_some]
  cases num r with
  | none => rfl
  | some p =>
    simp only [Option.bind_some, Option.map_some]
    cases num p.2 <;> rfl
theorem ins_7 (sub : Rd) (op : Nat) (r : List Nat) (hk : kind op = 7) : ins sub op r = ((some r).bind zeroB).bind fun t => some ((hd0 op, .nil, .nil), t) := by
  unfold ins; rw [hk]; rfl
theorem ins_8 (sub : Rd) (op : Nat) (r : List Nat) (hk : kind op = 8) : ins sub op r = (sR 32 (some r)).bind fun t => some (({ hd0 op with val := sV 32 (some r) }, .nil, .nil), t) := by
  unfold ins sR sV; rw [hk]; simp only [Option.bind_some]; cases sgn 32 r <;> rfl
theorem ins_9 (sub : Rd) (op : Nat) (r : List Nat) (hk : kind op = 9) : ins sub op r = (sR 64 (some r)).bind fun t => some (({ hd0 op with val := sV 64 (some r) }, .nil, .nil), t) := by
  unfold ins sR sV; rw [hk]; simp only [Option.bind_some]; cases sgn 64 r <;> rfl
end M
theorem PIns.of {P : Nat} {A : Option Addr} {c : Nat} {bs : List Nat} {h : M.Hd} {o : Option (List Nat)} {B : Nat} {w' : World} (hs : St w' P A c bs o) (hR : Rng h) (hl : h.labels = []) : PIns P A c bs (o.bind fun t => some ((h, .nil, .nil), t)) h (.slice none 0 0) (.slice none 0 0) (.slice none 0 0) B w' := by
  cases o with
  | none => exact PIns.bad hs
  | some r => exact PIns.plain hs hR hl
/-- The two rows, just made. -/
theorem two_start {w : World} {P : Nat} {A : Option Addr} {c : Nat} {bs : List Nat} {o : Option (List Nat)} (h : St w P A c bs o) (op : Int) (Z X : Array Value) (hZ : Z.size = 9) (hX : X = (item9 (M.hd0 op) (.slice none 0 0) (.slice none 0 0) (.slice none 0 0)).toArray) :
    Rows2 ((w.alloc (.cells Z 48)).alloc (.cells X 48)) w.heap.size (M.hd0 op) (.slice none 0 0) (.slice none 0 0) (.slice none 0 0) ∧ St ((w.alloc (.cells Z 48)).alloc (.cells X 48)) P A c bs o ∧ Below w.heap.size w ((w.alloc (.cells Z 48)).alloc (.cells X 48)) := by
  have hbel : Below w.heap.size w ((w.alloc (.cells Z 48)).alloc (.cells X 48)) := ((Below.refl _ _).alloc (Nat.le_refl _) _).alloc (by simp) _
  have hP := h.lt
  subst hX
  exact ⟨⟨⟨Z, heap_alloc2_old w _ _, hZ⟩, heap_alloc2_new w _ _⟩, h.agree (fun k hk => hbel.block k (by omega)) hbel.size, hbel⟩
set_option maxRecDepth 100000 in
set_option maxHeartbeats 4000000 in
theorem pinstr_1 (w : World) (P : Nat) (A : Option Addr) (c : Nat) (bs : List Nat) (o : Option (List Nat)) (op : Nat) (d : Nat) (sub : M.Rd) (h : St w P A c bs o) (hop : op < 256) (hk : M.kind op = 1) :
    Calls Try.prog 50 #[.pointer (some ⟨P, 0, none⟩), .int .i64 (op : Nat), .int .i64 (d : Nat)] w (PInsPost P A c bs (o.bind (M.ins sub op)) w) := by
  replace h := Lib.hid h
  replace hk := Lib.hid hk
  go_enter Try.func50, Try.ntmps50
  go_wp2_with fail
  refine (shape_is _ 1 _ hk.out).mono ?_
  rintro e1 w1 ⟨rfl, rfl⟩
  go_wp2_with fail
  refine bodyPost_ret (results_cell_row rfl _ _ w.heap.size 48 _ (0, 0) _ rfl (heap_alloc2_old w _ _) Try.underlying48 rfl (by kernel_rfl)) rfl ?_
  have hbel : ∀ a b : Obj, Below w.heap.size w ((w.alloc a).alloc b) := fun a b => ((Below.refl _ _).alloc (Nat.le_refl _) a).alloc (by simp) b
  have hP := h.out.lt
  refine ⟨M.hd0 op, _, _, _, rfl, .of_below (hbel _ _), ?_⟩
  have hs : ∀ a b : Obj, St ((w.alloc a).alloc b) P A c bs o := fun a b => h.out.agree (fun k hk => (hbel a b).block k (by omega)) (hbel a b).size
  cases o with
  | none => exact PIns.bad (hs _ _)
  | some r =>
    have e : M.ins sub op r = some ((M.hd0 op, .nil, .nil), r) := by unfold M.ins; rw [hk.out]; rfl
    rw [Option.bind_some, e]
    exact PIns.plain (hs _ _) (by constructor <;> (simp only [M.hd0]; omega)) rfl
theorem pins_end {P : Nat} {A : Option Addr} {c : Nat} {bs : List Nat} {res : Option (M.It × List Nat)} {w w0 w3 : World} {h : M.Hd} {vL vB vE : Value} (b0 : Below w.heap.size w w0) (k : Kb (fun k => k = P ∨ w.heap.size ≤ k) w0 w3)
    (pin : PIns P A c bs res h vL vB vE w.heap.size (w3.setRow w.heap.size (item9 h vL vB vE).toArray)) : PInsPost P A c bs res w (.returned (.agg (item9 h vL vB vE).toArray)) (w3.setRow w.heap.size (item9 h vL vB vE).toArray) :=
  ⟨h, vL, vB, vE, rfl, Kb.new b0 (kb_row k (.inr (Nat.le_refl _)) _), pin⟩
set_option maxRecDepth 100000 in
set_option maxHeartbeats 4000000 in
theorem pinstr_0 (w : World) (P : Nat) (ad : Addr) (c : Nat) (bs : List Nat) (r : List Nat) (op : Nat) (d : Nat) (sub : M.Rd) (h : St w P (some ad) c bs (some r)) (_hop : op < 256) (hk : M.kind op = 0) :
    Calls Try.prog 50 #[.pointer (some ⟨P, 0, none⟩), .int .i64 (op : Nat), .int .i64 (d : Nat)] w (PInsPost P (some ad) c bs (M.ins sub op r) w) := by
  replace h := Lib.hid h
  replace hk := Lib.hid hk
  have hP := h.out.lt
  go_enter Try.func50, Try.ntmps50
  go_wp2_with fail
  refine (shape_is _ 0 _ hk.out).mono ?_
  rintro e1 w1 ⟨rfl, rfl⟩
  obtain ⟨rw0, st0, b0⟩ := two_start h.out (op : Int) zero9 _ rfl rfl
  generalize hw0 : (w.alloc (.cells zero9 48)).alloc _ = w0 at rw0 st0 b0
  rw [show (w.alloc (.cells #[.int .i64 0, .int .i64 0, .int .i64 0, .int .i64 0, .int .i64 0, .int .i64 0, .slice none 0 0, .slice none 0 0, .slice none 0 0] 48)).alloc (.cells #[.int .i64 (op : Nat), .int .i64 0, .int .i64 0, .int .i64 0, .int .i64 0, .int .i64 0, .slice none 0 0, .slice none 0 0, .slice none 0 0] 48) = w0 from hw0]
  clear hw0
  have k0 : Kb (fun k => k = P ∨ w.heap.size ≤ k) w0 w0 := Kb.refl _ _
  have s0 : w.heap.size + 1 < w0.heap.size := (Array.getElem?_eq_some_iff.1 rw0.x).1
  replace b0 := Lib.hid b0
  have hins := Lib.hid (M.ins_0 sub op r hk.out)
  obtain ⟨c2, f2⟩ := st0.bad
  have st1 := st0.fail
  have k1 : Kb (fun k => k = P ∨ w.heap.size ≤ k) w0 (w0.setCell ⟨P, 2, none⟩ (.bool true)) := Kb.setCell (T := fun k => k = P ∨ w.heap.size ≤ k) k0 (p := ⟨P, 2, none⟩) (.inl rfl) _
  have rw1 := rw0.agree (w' := w0.setCell ⟨P, 2, none⟩ (.bool true)) (heap_setCell_other _ _ _ _ (by show w.heap.size ≠ P; omega)) (heap_setCell_other _ _ _ _ (by show w.heap.size + 1 ≠ P; omega))
  clear rw0 st0 k0
  replace rw1 := Lib.hid rw1
  replace st1 := Lib.hid st1
  replace k1 := Lib.hid k1
  go_wp2_with (first
    | (refine wpList_load_row (by rfl) 48 _ (by rfl) (w.heap.size + 1) (by rfl) 48 _ (0, 0) _ rw1.out.x Try.underlying48 rfl instr_size ?_)
    | (refine wpList_store_row (by rfl) 48 _ _ (by rfl) w.heap.size (item9 (M.hd0 (op : Int)) (.slice none 0 0) (.slice none 0 0) (.slice none 0 0)).toArray (by rfl) (by rfl) 48 _ rw1.out.r.choose_spec.1 instr_size (by rw [rw1.out.r.choose_spec.2]; rfl) (all_one nil_IsSl nil_IsSl nil_IsSl) ?_))
  refine bodyPost_ret (results_cell_row rfl _ _ w.heap.size 48 _ (0, 0) _ rfl (setRow_heap _ _ _ _ _ _ rw1.out.r.choose_spec.1) Try.underlying48 rfl instr_size) rfl ?_
  refine pins_end b0.out k1.out ?_
  rw [hins.out]
  exact PIns.bad (st_row st1.out hP _)
set_option maxRecDepth 100000 in
set_option maxHeartbeats 4000000 in
theorem pinstr_3 (w : World) (P : Nat) (ad : Addr) (c : Nat) (bs : List Nat) (r : List Nat) (op : Nat) (d : Nat) (sub : M.Rd) (h : St w P (some ad) c bs (some r)) (hop : op < 256) (hk : M.kind op = 3) :
    Calls Try.prog 50 #[.pointer (some ⟨P, 0, none⟩), .int .i64 (op : Nat), .int .i64 (d : Nat)] w (PInsPost P (some ad) c bs (M.ins sub op r) w) := by
  replace h := Lib.hid h
  replace hk := Lib.hid hk
  have hP := h.out.lt
  go_enter Try.func50, Try.ntmps50
  go_wp2_with fail
  refine (shape_is _ 3 _ hk.out).mono ?_
  rintro e1 w1 ⟨rfl, rfl⟩
  obtain ⟨rw0, st0, b0⟩ := two_start h.out (op : Int) zero9 _ rfl rfl
  generalize hw0 : (w.alloc (.cells zero9 48)).alloc _ = w0 at rw0 st0 b0
  rw [show (w.alloc (.cells #[.int .i64 0, .int .i64 0, .int .i64 0, .int .i64 0, .int .i64 0, .int .i64 0, .slice none 0 0, .slice none 0 0, .slice none 0 0] 48)).alloc (.cells #[.int .i64 (op : Nat), .int .i64 0, .int .i64 0, .int .i64 0, .int .i64 0, .int .i64 0, .slice none 0 0, .slice none 0 0, .slice none 0 0] 48) = w0 from hw0]
  clear hw0
  have k0 : Kb (fun k => k = P ∨ w.heap.size ≤ k) w0 w0 := Kb.refl _ _
  have s0 : w.heap.size + 1 < w0.heap.size := (Array.getElem?_eq_some_iff.1 rw0.x).1
  replace b0 := Lib.hid b0
  have hins := M.ins_3 sub op r hk.out
  replace rw0 := Lib.hid rw0
  replace st0 := Lib.hid st0
  replace k0 := Lib.hid k0
  go_wp2_with fail
  refine (pnumber_any _ P ad c bs (some r) st0.out).mono ?_
  rintro e1 v1 ⟨rfl, st1, kb1⟩
  have s1 : w.heap.size + 1 < v1.heap.size := Nat.lt_of_lt_of_le s0 kb1.size
  have rw1 := rw0.out.agree (kb1.block _ (by have := s1; have := s0; omega) (by omega)) (kb1.block _ (by have := s0; omega) (by omega))
  have k1 : Kb (fun k => k = P ∨ w.heap.size ≤ k) w0 v1 := k0.out.trans (kb1.mono fun _ hk => .inl hk)
  clear kb1
  have hxr1 := M.nV_rng (some r)
  obtain ⟨x1, hx1⟩ : ∃ x, M.nV (some r) = x := ⟨_, rfl⟩
  rw [hx1] at hxr1 hins ⊢
  clear hx1
  obtain ⟨o1, ho1⟩ : ∃ x, M.nR (some r) = x := ⟨_, rfl⟩
  rw [ho1] at st1 hins
  clear ho1
  have cf1 := rw1.item.c2
  have ff1 := rw1.frozen 2
  simp only [Nat.zero_add, M.hd0] at cf1
  have rw2 : Rows2 (v1.setCell ⟨w.heap.size + 1, 2, none⟩ (.int .i64 x1)) w.heap.size { (M.hd0 (op : Int)) with ix := x1 } (.slice none 0 0) (.slice none 0 0) (.slice none 0 0) := rw1.set (j := 2) (u := .int .i64 x1) rfl
  have st2 := st_set st1 (p := ⟨w.heap.size + 1, 2, none⟩) (by show P < w.heap.size + 1; omega) (.int .i64 x1)
  have k2 := Kb.setCell (T := fun k => k = P ∨ w.heap.size ≤ k) k1 (p := ⟨w.heap.size + 1, 2, none⟩) (.inr (Nat.le_succ _)) (.int .i64 x1)
  have s2x : w.heap.size + 1 < (v1.setCell ⟨w.heap.size + 1, 2, none⟩ (.int .i64 x1)).heap.size := by simpa using s1
  clear st1 k1 rw1
  replace hins := Lib.hid hins
  replace rw2 := Lib.hid rw2
  replace st2 := Lib.hid st2
  replace k2 := Lib.hid k2
  go_wp2_with (first
    | (refine wpList_load_row (by rfl) 48 _ (by rfl) (w.heap.size + 1) (by rfl) 48 _ (0, 0) _ rw2.out.x Try.underlying48 rfl instr_size ?_)
    | (refine wpList_store_row (by rfl) 48 _ _ (by rfl) w.heap.size (item9 { (M.hd0 (op : Int)) with ix := x1 } (.slice none 0 0) (.slice none 0 0) (.slice none 0 0)).toArray (by rfl) (by rfl) 48 _ rw2.out.r.choose_spec.1 instr_size (by rw [rw2.out.r.choose_spec.2]; rfl) (all_one nil_IsSl nil_IsSl nil_IsSl) ?_))
  refine bodyPost_ret (results_cell_row rfl _ _ w.heap.size 48 _ (0, 0) _ rfl (setRow_heap _ _ _ _ _ _ rw2.out.r.choose_spec.1) Try.underlying48 rfl instr_size) rfl ?_
  refine pins_end b0.out k2.out ?_
  rw [hins.out]
  exact PIns.of (st_row st2.out hP _) (by constructor <;> (simp only [M.hd0]; omega)) rfl
set_option maxRecDepth 100000 in
set_option maxHeartbeats 4000000 in
theorem pinstr_5 (w : World) (P : Nat) (ad : Addr) (c : Nat) (bs : List Nat) (r : List Nat) (op : Nat) (d : Nat) (sub : M.Rd) (h : St w P (some ad) c bs (some r)) (hop : op < 256) (hk : M.kind op = 5) :
    Calls Try.prog 50 #[.pointer (some ⟨P, 0, none⟩), .int .i64 (op : Nat), .int .i64 (d : Nat)] w (PInsPost P (some ad) c bs (M.ins sub op r) w) := by
  replace h := Lib.hid h
  replace hk := Lib.hid hk
  have hP := h.out.lt
  go_enter Try.func50, Try.ntmps50
  go_wp2_with fail
  refine (shape_is _ 5 _ hk.out).mono ?_
  rintro e1 w1 ⟨rfl, rfl⟩
  obtain ⟨rw0, st0, b0⟩ := two_start h.out (op : Int) zero9 _ rfl rfl
  generalize hw0 : (w.alloc (.cells zero9 48)).alloc _ = w0 at rw0 st0 b0
  rw [show (w.alloc (.cells #[.int .i64 0, .int .i64 0, .int .i64 0, .int .i64 0, .int .i64 0, .int .i64 0, .slice none 0 0, .slice none 0 0, .slice none 0 0] 48)).alloc (.cells #[.int .i64 (op : Nat), .int .i64 0, .int .i64 0, .int .i64 0, .int .i64 0, .int .i64 0, .slice none 0 0, .slice none 0 0, .slice none 0 0] 48) = w0 from hw0]
  clear hw0
  have k0 : Kb (fun k => k = P ∨ w.heap.size ≤ k) w0 w0 := Kb.refl _ _
  have s0 : w.heap.size + 1 < w0.heap.size := (Array.getElem?_eq_some_iff.1 rw0.x).1
  replace b0 := Lib.hid b0
  have hins := M.ins_5 sub op r hk.out
  replace rw0 := Lib.hid rw0
  replace st0 := Lib.hid st0
  replace k0 := Lib.hid k0
  go_wp2_with fail
  refine (pnumber_any _ P ad c bs (some r) st0.out).mono ?_
  rintro e1 v1 ⟨rfl, st1, kb1⟩
  have s1 : w.heap.size + 1 < v1.heap.size := Nat.lt_of_lt_of_le s0 kb1.size
  have rw1 := rw0.out.agree (kb1.block _ (by have := s1; have := s0; omega) (by omega)) (kb1.block _ (by have := s0; omega) (by omega))
  have k1 : Kb (fun k => k = P ∨ w.heap.size ≤ k) w0 v1 := k0.out.trans (kb1.mono fun _ hk => .inl hk)
  clear kb1
  have hxr1 := M.nV_rng (some r)
  obtain ⟨x1, hx1⟩ : ∃ x, M.nV (some r) = x := ⟨_, rfl⟩
  rw [hx1] at hxr1 hins ⊢
  clear hx1
  obtain ⟨o1, ho1⟩ : ∃ x, M.nR (some r) = x := ⟨_, rfl⟩
  rw [ho1] at st1 hins
  clear ho1
  have cf1 := rw1.item.c2
  have ff1 := rw1.frozen 2
  simp only [Nat.zero_add, M.hd0] at cf1
  have rw2 : Rows2 (v1.setCell ⟨w.heap.size + 1, 2, none⟩ (.int .i64 x1)) w.heap.size { (M.hd0 (op : Int)) with ix := x1 } (.slice none 0 0) (.slice none 0 0) (.slice none 0 0) := rw1.set (j := 2) (u := .int .i64 x1) rfl
  have st2 := st_set st1 (p := ⟨w.heap.size + 1, 2, none⟩) (by show P < w.heap.size + 1; omega) (.int .i64 x1)
  have k2 := Kb.setCell (T := fun k => k = P ∨ w.heap.size ≤ k) k1 (p := ⟨w.heap.size + 1, 2, none⟩) (.inr (Nat.le_succ _)) (.int .i64 x1)
  have s2x : w.heap.size + 1 < (v1.setCell ⟨w.heap.size + 1, 2, none⟩ (.int .i64 x1)).heap.size := by simpa using s1
  clear st1 k1 rw1
  replace rw2 := Lib.hid rw2
  replace st2 := Lib.hid st2
  replace k2 := Lib.hid k2
  go_wp2_with fail
  refine (pis_any _ P (some ad) c bs o1 st2.out).mono ?_
  rintro e3 v2 ⟨rfl, st3, kb3⟩
  have s3 : w.heap.size + 1 < v2.heap.size := Nat.lt_of_lt_of_le s2x kb3.size
  have rw3 := rw2.out.agree (kb3.block _ (by have := s3; have := s2x; omega) (by omega)) (kb3.block _ (by have := s2x; omega) (by omega))
  have k3 : Kb (fun k => k = P ∨ w.heap.size ≤ k) w0 v2 := k2.out.trans (kb3.mono fun _ hk => .inl hk)
  clear kb3
  obtain ⟨o2, ho2⟩ : ∃ x, Option.bind o1 M.zeroB = x := ⟨_, rfl⟩
  rw [ho2] at st3 hins
  clear ho2
  have s3x := s3
  replace hins := Lib.hid hins
  replace rw3 := Lib.hid rw3
  replace st3 := Lib.hid st3
  replace k3 := Lib.hid k3
  go_wp2_with (first
    | (refine wpList_load_row (by rfl) 48 _ (by rfl) (w.heap.size + 1) (by rfl) 48 _ (0, 0) _ rw3.out.x Try.underlying48 rfl instr_size ?_)
    | (refine wpList_store_row (by rfl) 48 _ _ (by rfl) w.heap.size (item9 { (M.hd0 (op : Int)) with ix := x1 } (.slice none 0 0) (.slice none 0 0) (.slice none 0 0)).toArray (by rfl) (by rfl) 48 _ rw3.out.r.choose_spec.1 instr_size (by rw [rw3.out.r.choose_spec.2]; rfl) (all_one nil_IsSl nil_IsSl nil_IsSl) ?_))
  refine bodyPost_ret (results_cell_row rfl _ _ w.heap.size 48 _ (0, 0) _ rfl (setRow_heap _ _ _ _ _ _ rw3.out.r.choose_spec.1) Try.underlying48 rfl instr_size) rfl ?_
  refine pins_end b0.out k3.out ?_
  rw [hins.out]
  exact PIns.of (st_row st3.out hP _) (by constructor <;> (simp only [M.hd0]; omega)) rfl
set_option maxRecDepth 100000 in
set_option maxHeartbeats 4000000 in
theorem pinstr_6 (w : World) (P : Nat) (ad : Addr) (c : Nat) (bs : List Nat) (r : List Nat) (op : Nat) (d : Nat) (sub : M.Rd) (h : St w P (some ad) c bs (some r)) (hop : op < 256) (hk : M.kind op = 6) :
    Calls Try.prog 50 #[.pointer (some ⟨P, 0, none⟩), .int .i64 (op : Nat), .int .i64 (d : Nat)] w (PInsPost P (some ad) c bs (M.ins sub op r) w) := by
  replace h := Lib.hid h
  replace hk := Lib.hid hk
  have hP := h.out.lt
  go_enter Try.func50, Try.ntmps50
  go_wp2_with fail
  refine (shape_is _ 6 _ hk.out).mono ?_
  rintro e1 w1 ⟨rfl, rfl⟩
  obtain ⟨rw0, st0, b0⟩ := two_start h.out (op : Int) zero9 _ rfl rfl
  generalize hw0 : (w.alloc (.cells zero9 48)).alloc _ = w0 at rw0 st0 b0
  rw [show (w.alloc (.cells #[.int .i64 0, .int .i64 0, .int .i64 0, .int .i64 0, .int .i64 0, .int .i64 0, .slice none 0 0, .slice none 0 0, .slice none 0 0] 48)).alloc (.cells #[.int .i64 (op : Nat), .int .i64 0, .int .i64 0, .int .i64 0, .int .i64 0, .int .i64 0, .slice none 0 0, .slice none 0 0, .slice none 0 0] 48) = w0 from hw0]
  clear hw0
  have k0 : Kb (fun k => k = P ∨ w.heap.size ≤ k) w0 w0 := Kb.refl _ _
  have s0 : w.heap.size + 1 < w0.heap.size := (Array.getElem?_eq_some_iff.1 rw0.x).1
  replace b0 := Lib.hid b0
  have hins := M.ins_6 sub op r hk.out
  replace rw0 := Lib.hid rw0
  replace st0 := Lib.hid st0
  replace k0 := Lib.hid k0
  go_wp2_with fail
  refine (pnumber_any _ P ad c bs (some r) st0.out).mono ?_
  rintro e1 v1 ⟨rfl, st1, kb1⟩
  have s1 : w.heap.size + 1 < v1.heap.size := Nat.lt_of_lt_of_le s0 kb1.size
  have rw1 := rw0.out.agree (kb1.block _ (by have := s1; have := s0; omega) (by omega)) (kb1.block _ (by have := s0; omega) (by omega))
  have k1 : Kb (fun k => k = P ∨ w.heap.size ≤ k) w0 v1 := k0.out.trans (kb1.mono fun _ hk => .inl hk)
  clear kb1
  have hxr1 := M.nV_rng (some r)
  obtain ⟨x1, hx1⟩ : ∃ x, M.nV (some r) = x := ⟨_, rfl⟩
  rw [hx1] at hxr1 hins ⊢
  clear hx1
  obtain ⟨o1, ho1⟩ : ∃ x, M.nR (some r) = x := ⟨_, rfl⟩
  rw [ho1] at st1 hins
  clear ho1
  have cf1 := rw1.item.c3
  have ff1 := rw1.frozen 3
  simp only [Nat.zero_add, M.hd0] at cf1
  have rw2 : Rows2 (v1.setCell ⟨w.heap.size + 1, 3, none⟩ (.int .i64 x1)) w.heap.size { (M.hd0 (op : Int)) with al := x1 } (.slice none 0 0) (.slice none 0 0) (.slice none 0 0) := rw1.set (j := 3) (u := .int .i64 x1) rfl
  have st2 := st_set st1 (p := ⟨w.heap.size + 1, 3, none⟩) (by show P < w.heap.size + 1; omega) (.int .i64 x1)
  have k2 := Kb.setCell (T := fun k => k = P ∨ w.heap.size ≤ k) k1 (p := ⟨w.heap.size + 1, 3, none⟩) (.inr (Nat.le_succ _)) (.int .i64 x1)
  have s2x : w.heap.size + 1 < (v1.setCell ⟨w.heap.size + 1, 3, none⟩ (.int .i64 x1)).heap.size := by simpa using s1
  clear st1 k1 rw1
  replace rw2 := Lib.hid rw2
  replace st2 := Lib.hid st2
  replace k2 := Lib.hid k2
  go_wp2_with fail
  refine (pnumber_any _ P ad c bs o1 st2.out).mono ?_
  rintro e3 v2 ⟨rfl, st3, kb3⟩
  have s3 : w.heap.size + 1 < v2.heap.size := Nat.lt_of_lt_of_le s2x kb3.size
  have rw3 := rw2.out.agree (kb3.block _ (by have := s3; have := s2x; omega) (by omega)) (kb3.block _ (by have := s2x; omega) (by omega))
  have k3 : Kb (fun k => k = P ∨ w.heap.size ≤ k) w0 v2 := k2.out.trans (kb3.mono fun _ hk => .inl hk)
  clear kb3
  have hxr2 := M.nV_rng o1
  obtain ⟨x2, hx2⟩ : ∃ x, M.nV o1 = x := ⟨_, rfl⟩
  rw [hx2] at hxr2 hins ⊢
  clear hx2
  obtain ⟨o2, ho2⟩ : ∃ x, M.nR o1 = x := ⟨_, rfl⟩
  rw [ho2] at st3 hins
  clear ho2
  have cf2 := rw3.item.c4
  have ff2 := rw3.frozen 4
  simp only [Nat.zero_add, M.hd0] at cf2
  have rw4 : Rows2 (v2.setCell ⟨w.heap.size + 1, 4, none⟩ (.int .i64 x2)) w.heap.size { { (M.hd0 (op : Int)) with al := x1 } with ofs := x2 } (.slice none 0 0) (.slice none 0 0) (.slice none 0 0) := rw3.set (j := 4) (u := .int .i64 x2) rfl
  have st4 := st_set st3 (p := ⟨w.heap.size + 1, 4, none⟩) (by show P < w.heap.size + 1; omega) (.int .i64 x2)
  have k4 := Kb.setCell (T := fun k => k = P ∨ w.heap.size ≤ k) k3 (p := ⟨w.heap.size + 1, 4, none⟩) (.inr (Nat.le_succ _)) (.int .i64 x2)
  have s4x : w.heap.size + 1 < (v2.setCell ⟨w.heap.size + 1, 4, none⟩ (.int .i64 x2)).heap.size := by simpa using s3
  clear st3 k3 rw3
  replace hins := Lib.hid hins
  replace rw4 := Lib.hid rw4
  replace st4 := Lib.hid st4
  replace k4 := Lib.hid k4
  go_wp2_with (first
    | (refine wpList_load_row (by rfl) 48 _ (by rfl) (w.heap.size + 1) (by rfl) 48 _ (0, 0) _ rw4.out.x Try.underlying48 rfl instr_size ?_)
    | (refine wpList_store_row (by rfl) 48 _ _ (by rfl) w.heap.size (item9 { { (M.hd0 (op : Int)) with al := x1 } with ofs := x2 } (.slice none 0 0) (.slice none 0 0) (.slice none 0 0)).toArray (by rfl) (by rfl) 48 _ rw4.out.r.choose_spec.1 instr_size (by rw [rw4.out.r.choose_spec.2]; rfl) (all_one nil_IsSl nil_IsSl nil_IsSl) ?_))
  refine bodyPost_ret (results_cell_row rfl _ _ w.heap.size 48 _ (0, 0) _ rfl (setRow_heap _ _ _ _ _ _ rw4.out.r.choose_spec.1) Try.underlying48 rfl instr_size) rfl ?_
  refine pins_end b0.out k4.out ?_
  rw [hins.out]
  exact PIns.of (st_row st4.out hP _) (by constructor <;> (simp only [M.hd0]; omega)) rfl
set_option maxRecDepth 100000 in
set_option maxHeartbeats 4000000 in
theorem pinstr_7 (w : World) (P : Nat) (ad : Addr) (c : Nat) (bs : List Nat) (r : List Nat) (op : Nat) (d : Nat) (sub : M.Rd) (h : St w P (some ad) c bs (some r)) (hop : op < 256) (hk : M.kind op = 7) :
    Calls Try.prog 50 #[.pointer (some ⟨P, 0, none⟩), .int .i64 (op : Nat), .int .i64 (d : Nat)] w (PInsPost P (some ad) c bs (M.ins sub op r) w) := by
  replace h := Lib.hid h
  replace hk := Lib.hid hk
  have hP := h.out.lt
  go_enter Try.func50, Try.ntmps50
  go_wp2_with fail
  refine (shape_is _ 7 _ hk.out).mono ?_
  rintro e1 w1 ⟨rfl, rfl⟩
  obtain ⟨rw0, st0, b0⟩ := two_start h.out (op : Int) zero9 _ rfl rfl
  generalize hw0 : (w.alloc (.cells zero9 48)).alloc _ = w0 at rw0 st0 b0
  rw [show (w.alloc (.cells #[.int .i64 0, .int .i64 0, .int .i64 0, .int .i64 0, .int .i64 0, .int .i64 0, .slice none 0 0, .slice none 0 0, .slice none 0 0] 48)).alloc (.cells #[.int .i64 (op : Nat), .int .i64 0, .int .i64 0, .int .i64 0, .int .i64 0, .int .i64 0, .slice none 0 0, .slice none 0 0, .slice none 0 0] 48) = w0 from hw0]
  clear hw0
  have k0 : Kb (fun k => k = P ∨ w.heap.size ≤ k) w0 w0 := Kb.refl _ _
  have s0 : w.heap.size + 1 < w0.heap.size := (Array.getElem?_eq_some_iff.1 rw0.x).1
  replace b0 := Lib.hid b0
  have hins := M.ins_7 sub op r hk.out
  replace rw0 := Lib.hid rw0
  replace st0 := Lib.hid st0
  replace k0 := Lib.hid k0
  go_wp2_with fail
  refine (pis_any _ P (some ad) c bs (some r) st0.out).mono ?_
  rintro e1 v1 ⟨rfl, st1, kb1⟩
  have s1 : w.heap.size + 1 < v1.heap.size := Nat.lt_of_lt_of_le s0 kb1.size
  have rw1 := rw0.out.agree (kb1.block _ (by have := s1; have := s0; omega) (by omega)) (kb1.block _ (by have := s0; omega) (by omega))
  have k1 : Kb (fun k => k = P ∨ w.heap.size ≤ k) w0 v1 := k0.out.trans (kb1.mono fun _ hk => .inl hk)
  clear kb1
  obtain ⟨o1, ho1⟩ : ∃ x, Option.bind (some r) M.zeroB = x := ⟨_, rfl⟩
  rw [ho1] at st1 hins
  clear ho1
  have s1x := s1
  replace hins := Lib.hid hins
  replace rw1 := Lib.hid rw1
  replace st1 := Lib.hid st1
  replace k1 := Lib.hid k1
  go_wp2_with (first
    | (refine wpList_load_row (by rfl) 48 _ (by rfl) (w.heap.size + 1) (by rfl) 48 _ (0, 0) _ rw1.out.x Try.underlying48 rfl instr_size ?_)
    | (refine wpList_store_row (by rfl) 48 _ _ (by rfl) w.heap.size (item9 (M.hd0 (op : Int)) (.slice none 0 0) (.slice none 0 0) (.slice none 0 0)).toArray (by rfl) (by rfl) 48 _ rw1.out.r.choose_spec.1 instr_size (by rw [rw1.out.r.choose_spec.2]; rfl) (all_one nil_IsSl nil_IsSl nil_IsSl) ?_))
  refine bodyPost_ret (results_cell_row rfl _ _ w.heap.size 48 _ (0, 0) _ rfl (setRow_heap _ _ _ _ _ _ rw1.out.r.choose_spec.1) Try.underlying48 rfl instr_size) rfl ?_
  refine pins_end b0.out k1.out ?_
  rw [hins.out]
  exact PIns.of (st_row st1.out hP _) (by constructor <;> (simp only [M.hd0]; omega)) rfl
set_option maxRecDepth 100000 in
set_option maxHeartbeats 4000000 in
theorem pinstr_8 (w : World) (P : Nat) (ad : Addr) (c : Nat) (bs : List Nat) (r : List Nat) (op : Nat) (d : Nat) (sub : M.Rd) (h : St w P (some ad) c bs (some r)) (hop : op < 256) (hk : M.kind op = 8) :
    Calls Try.prog 50 #[.pointer (some ⟨P, 0, none⟩), .int .i64 (op : Nat), .int .i64 (d : Nat)] w (PInsPost P (some ad) c bs (M.ins sub op r) w) := by
  replace h := Lib.hid h
  replace hk := Lib.hid hk
  have hP := h.out.lt
  go_enter Try.func50, Try.ntmps50
  go_wp2_with fail
  refine (shape_is _ 8 _ hk.out).mono ?_
  rintro e1 w1 ⟨rfl, rfl⟩
  obtain ⟨rw0, st0, b0⟩ := two_start h.out (op : Int) zero9 _ rfl rfl
  generalize hw0 : (w.alloc (.cells zero9 48)).alloc _ = w0 at rw0 st0 b0
  rw [show (w.alloc (.cells #[.int .i64 0, .int .i64 0, .int .i64 0, .int .i64 0, .int .i64 0, .int .i64 0, .slice none 0 0, .slice none 0 0, .slice none 0 0] 48)).alloc (.cells #[.int .i64 (op : Nat), .int .i64 0, .int .i64 0, .int .i64 0, .int .i64 0, .int .i64 0, .slice none 0 0, .slice none 0 0, .slice none 0 0] 48) = w0 from hw0]
  clear hw0
  have k0 : Kb (fun k => k = P ∨ w.heap.size ≤ k) w0 w0 := Kb.refl _ _
  have s0 : w.heap.size + 1 < w0.heap.size := (Array.getElem?_eq_some_iff.1 rw0.x).1
  replace b0 := Lib.hid b0
  have hins := M.ins_8 sub op r hk.out
  replace rw0 := Lib.hid rw0
  replace st0 := Lib.hid st0
  replace k0 := Lib.hid k0
  go_wp2_with fail
  refine (psigned32_any _ P ad c bs (some r) st0.out).mono ?_
  rintro e1 v1 ⟨rfl, st1, kb1⟩
  have s1 : w.heap.size + 1 < v1.heap.size := Nat.lt_of_lt_of_le s0 kb1.size
  have rw1 := rw0.out.agree (kb1.block _ (by have := s1; have := s0; omega) (by omega)) (kb1.block _ (by have := s0; omega) (by omega))
  have k1 : Kb (fun k => k = P ∨ w.heap.size ≤ k) w0 v1 := k0.out.trans (kb1.mono fun _ hk => .inl hk)
  clear kb1
  have hxr1 := M.sV_rng 32 (some r) (by omega) (by omega)
  obtain ⟨x1, hx1⟩ : ∃ x, M.sV 32 (some r) = x := ⟨_, rfl⟩
  rw [hx1] at hxr1 hins ⊢
  clear hx1
  obtain ⟨o1, ho1⟩ : ∃ x, M.sR 32 (some r) = x := ⟨_, rfl⟩
  rw [ho1] at st1 hins
  clear ho1
  have cf1 := rw1.item.c5
  have ff1 := rw1.frozen 5
  simp only [Nat.zero_add, M.hd0] at cf1
  have rw2 : Rows2 (v1.setCell ⟨w.heap.size + 1, 5, none⟩ (.int .i64 x1)) w.heap.size { (M.hd0 (op : Int)) with val := x1 } (.slice none 0 0) (.slice none 0 0) (.slice none 0 0) := rw1.set (j := 5) (u := .int .i64 x1) rfl
  have st2 := st_set st1 (p := ⟨w.heap.size + 1, 5, none⟩) (by show P < w.heap.size + 1; omega) (.int .i64 x1)
  have k2 := Kb.setCell (T := fun k => k = P ∨ w.heap.size ≤ k) k1 (p := ⟨w.heap.size + 1, 5, none⟩) (.inr (Nat.le_succ _)) (.int .i64 x1)
  have s2x : w.heap.size + 1 < (v1.setCell ⟨w.heap.size + 1, 5, none⟩ (.int .i64 x1)).heap.size := by simpa using s1
  clear st1 k1 rw1
  replace hins := Lib.hid hins
  replace rw2 := Lib.hid rw2
  replace st2 := Lib.hid st2
  replace k2 := Lib.hid k2
  go_wp2_with (first
    | (refine wpList_load_row (by rfl) 48 _ (by rfl) (w.heap.size + 1) (by rfl) 48 _ (0, 0) _ rw2.out.x Try.underlying48 rfl instr_size ?_)
    | (refine wpList_store_row (by rfl) 48 _ _ (by rfl) w.heap.size (item9 { (M.hd0 (op : Int)) with val := x1 } (.slice none 0 0) (.slice none 0 0) (.slice none 0 0)).toArray (by rfl) (by rfl) 48 _ rw2.out.r.choose_spec.1 instr_size (by rw [rw2.out.r.choose_spec.2]; rfl) (all_one nil_IsSl nil_IsSl nil_IsSl) ?_))
  refine bodyPost_ret (results_cell_row rfl _ _ w.heap.size 48 _ (0, 0) _ rfl (setRow_heap _ _ _ _ _ _ rw2.out.r.choose_spec.1) Try.underlying48 rfl instr_size) rfl ?_
  refine pins_end b0.out k2.out ?_
  rw [hins.out]
  exact PIns.of (st_row st2.out hP _) (by constructor <;> (simp only [M.hd0]; omega)) rfl
set_option maxRecDepth 100000 in
set_option maxHeartbeats 4000000 in
theorem pinstr_9 (w : World) (P : Nat) (ad : Addr) (c : Nat) (bs : List Nat) (r : List Nat) (op : Nat) (d : Nat) (sub : M.Rd) (h : St w P (some ad) c bs (some r)) (hop : op < 256) (hk : M.kind op = 9) :
    Calls Try.prog 50 #[.pointer (some ⟨P, 0, none⟩), .int .i64 (op : Nat), .int .i64 (d : Nat)] w (PInsPost P (some ad) c bs (M.ins sub op r) w) := by
  replace h := Lib.hid h
  replace hk := Lib.hid hk
  have hP := h.out.lt
  go_enter Try.func50, Try.ntmps50
  go_wp2_with fail
  refine (shape_is _ 9 _ hk.out).mono ?_
  rintro e1 w1 ⟨rfl, rfl⟩
  obtain ⟨rw0, st0, b0⟩ := two_start h.out (op : Int) zero9 _ rfl rfl
  generalize hw0 : (w.alloc (.cells zero9 48)).alloc _ = w0 at rw0 st0 b0
  rw [show (w.alloc (.cells #[.int .i64 0, .int .i64 0, .int .i64 0, .int .i64 0, .int .i64 0, .int .i64 0, .slice none 0 0, .slice none 0 0, .slice none 0 0] 48)).alloc (.cells #[.int .i64 (op : Nat), .int .i64 0, .int .i64 0, .int .i64 0, .int .i64 0, .int .i64 0, .slice none 0 0, .slice none 0 0, .slice none 0 0] 48) = w0 from hw0]
  clear hw0
  have k0 : Kb (fun k => k = P ∨ w.heap.size ≤ k) w0 w0 := Kb.refl _ _
  have s0 : w.heap.size + 1 < w0.heap.size := (Array.getElem?_eq_some_iff.1 rw0.x).1
  replace b0 := Lib.hid b0
  have hins := M.ins_9 sub op r hk.out
  replace rw0 := Lib.hid rw0
  replace st0 := Lib.hid st0
  replace k0 := Lib.hid k0
  go_wp2_with fail
  refine (psigned64_any _ P ad c bs (some r) st0.out).mono ?_
  rintro e1 v1 ⟨rfl, st1, kb1⟩
  have s1 : w.heap.size + 1 < v1.heap.size := Nat.lt_of_lt_of_le s0 kb1.size
  have rw1 := rw0.out.agree (kb1.block _ (by have := s1; have := s0; omega) (by omega)) (kb1.block _ (by have := s0; omega) (by omega))
  have k1 : Kb (fun k => k = P ∨ w.heap.size ≤ k) w0 v1 := k0.out.trans (kb1.mono fun _ hk => .inl hk)
  clear kb1
  have hxr1 := M.sV_rng 64 (some r) (by omega) (by omega)
  obtain ⟨x1, hx1⟩ : ∃ x, M.sV 64 (some r) = x := ⟨_, rfl⟩
  rw [hx1] at hxr1 hins ⊢
  clear hx1
  obtain ⟨o1, ho1⟩ : ∃ x, M.sR 64 (some r) = x := ⟨_, rfl⟩
  rw [ho1] at st1 hins
  clear ho1
  have cf1 := rw1.item.c5
  have ff1 := rw1.frozen 5
  simp only [Nat.zero_add, M.hd0] at cf1
  have rw2 : Rows2 (v1.setCell ⟨w.heap.size + 1, 5, none⟩ (.int .i64 x1)) w.heap.size { (M.hd0 (op : Int)) with val := x1 } (.slice none 0 0) (.slice none 0 0) (.slice none 0 0) := rw1.set (j := 5) (u := .int .i64 x1) rfl
  have st2 := st_set st1 (p := ⟨w.heap.size + 1, 5, none⟩) (by show P < w.heap.size + 1; omega) (.int .i64 x1)
  have k2 := Kb.setCell (T := fun k => k = P ∨ w.heap.size ≤ k) k1 (p := ⟨w.heap.size + 1, 5, none⟩) (.inr (Nat.le_succ _)) (.int .i64 x1)
  have s2x : w.heap.size + 1 < (v1.setCell ⟨w.heap.size + 1, 5, none⟩ (.int .i64 x1)).heap.size := by simpa using s1
  clear st1 k1 rw1
  replace hins := Lib.hid hins
  replace rw2 := Lib.hid rw2
  replace st2 := Lib.hid st2
  replace k2 := Lib.hid k2
  go_wp2_with (first
    | (refine wpList_load_row (by rfl) 48 _ (by rfl) (w.heap.size + 1) (by rfl) 48 _ (0, 0) _ rw2.out.x Try.underlying48 rfl instr_size ?_)
    | (refine wpList_store_row (by rfl) 48 _ _ (by rfl) w.heap.size (item9 { (M.hd0 (op : Int)) with val := x1 } (.slice none 0 0) (.slice none 0 0) (.slice none 0 0)).toArray (by rfl) (by rfl) 48 _ rw2.out.r.choose_spec.1 instr_size (by rw [rw2.out.r.choose_spec.2]; rfl) (all_one nil_IsSl nil_IsSl nil_IsSl) ?_))
  refine bodyPost_ret (results_cell_row rfl _ _ w.heap.size 48 _ (0, 0) _ rfl (setRow_heap _ _ _ _ _ _ rw2.out.r.choose_spec.1) Try.underlying48 rfl instr_size) rfl ?_
  refine pins_end b0.out k2.out ?_
  rw [hins.out]
  exact PIns.of (st_row st2.out hP _) (by constructor <;> (simp only [M.hd0]; omega)) rfl
end Go.Proofs.Ytjapcalndolamaa
