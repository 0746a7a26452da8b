/-
  The walk over text: the readers, the closures and what the walk keeps up; condition: what is read lies in memory that was there at the call.
-/
import Derived.Test.YtlppgaaepllbiaaTake
import Derived.Laws.EntriesVeiled
namespace Go.Proofs.Ytlppgaaepllbiaa
open Go.RowKit
set_option maxRecDepth 100000 in
theorem one_any (B P : Nat) (ad : Addr) (l c : Nat) (f : Nat → Nat) (w : World) (hz : w.frozen? ⟨P, 0, none⟩ = false) (hc : w.cell? ⟨P, 0, none⟩ = some (.slice (some ad) l c)) (hlc : l ≤ c) (hcm : c ≤ maxLen)
    (hb : Bytes w B (some ad) l f) (hl0 : 1 ≤ l) :
    Calls Try.prog 27 #[.pointer (some ⟨P, 0, none⟩)] w (TakePost B P f l 1 w) := by
  replace hb := Lib.hid hb
  go_enter Try.func27, Try.ntmps27
  go_wp2_with fail
  refine (take_any B P ad l c f 1 _ hz hc hlc hcm hb.out (by omega) (by omega) hl0).mono ?_
  rintro e w1 (⟨p, A', c', h1, rfl, h2⟩ | ⟨h1, rfl, h2⟩)
  · replace h1 := Lib.hid h1
    replace h2 := Lib.hid h2
    go_wp2
    go_ret2
    exact .inl ⟨p, A', c', h1.out, rfl, h2.out⟩
  · replace h1 := Lib.hid h1
    replace h2 := Lib.hid h2
    go_wp2
    go_ret2
    exact .inr ⟨h1.out, rfl, h2.out⟩
set_option maxRecDepth 100000 in
theorem two_any (B P : Nat) (ad : Addr) (l c : Nat) (f : Nat → Nat) (w : World) (hz : w.frozen? ⟨P, 0, none⟩ = false) (hc : w.cell? ⟨P, 0, none⟩ = some (.slice (some ad) l c)) (hlc : l ≤ c) (hcm : c ≤ maxLen)
    (hb : Bytes w B (some ad) l f) (hl0 : 1 ≤ l) :
    Calls Try.prog 29 #[.pointer (some ⟨P, 0, none⟩)] w (TakePost B P f l 2 w) := by
  replace hb := Lib.hid hb
  go_enter Try.func29, Try.ntmps29
  go_wp2_with fail
  refine (take_any B P ad l c f 2 _ hz hc hlc hcm hb.out (by omega) (by omega) hl0).mono ?_
  rintro e w1 (⟨p, A', c', h1, rfl, h2⟩ | ⟨h1, rfl, h2⟩)
  · replace h1 := Lib.hid h1
    replace h2 := Lib.hid h2
    go_wp2
    go_ret2
    exact .inl ⟨p, A', c', h1.out, rfl, h2.out⟩
  · replace h1 := Lib.hid h1
    replace h2 := Lib.hid h2
    go_wp2
    go_ret2
    exact .inr ⟨h1.out, rfl, h2.out⟩
set_option maxRecDepth 100000 in
theorem three_any (B P : Nat) (ad : Addr) (l c : Nat) (f : Nat → Nat) (w : World) (hz : w.frozen? ⟨P, 0, none⟩ = false) (hc : w.cell? ⟨P, 0, none⟩ = some (.slice (some ad) l c)) (hlc : l ≤ c) (hcm : c ≤ maxLen)
    (hb : Bytes w B (some ad) l f) (hl0 : 1 ≤ l) :
    Calls Try.prog 30 #[.pointer (some ⟨P, 0, none⟩)] w (TakePost B P f l 3 w) := by
  replace hb := Lib.hid hb
  go_enter Try.func30, Try.ntmps30
  go_wp2_with fail
  refine (take_any B P ad l c f 3 _ hz hc hlc hcm hb.out (by omega) (by omega) hl0).mono ?_
  rintro e w1 (⟨p, A', c', h1, rfl, h2⟩ | ⟨h1, rfl, h2⟩)
  · replace h1 := Lib.hid h1
    replace h2 := Lib.hid h2
    go_wp2
    go_ret2
    exact .inl ⟨p, A', c', h1.out, rfl, h2.out⟩
  · replace h1 := Lib.hid h1
    replace h2 := Lib.hid h2
    go_wp2
    go_ret2
    exact .inr ⟨h1.out, rfl, h2.out⟩
set_option maxRecDepth 100000 in
theorem four_any (B P : Nat) (ad : Addr) (l c : Nat) (f : Nat → Nat) (w : World) (hz : w.frozen? ⟨P, 0, none⟩ = false) (hc : w.cell? ⟨P, 0, none⟩ = some (.slice (some ad) l c)) (hlc : l ≤ c) (hcm : c ≤ maxLen)
    (hb : Bytes w B (some ad) l f) (hl0 : 1 ≤ l) :
    Calls Try.prog 31 #[.pointer (some ⟨P, 0, none⟩)] w (TakePost B P f l 4 w) := by
  replace hb := Lib.hid hb
  go_enter Try.func31, Try.ntmps31
  go_wp2_with fail
  refine (take_any B P ad l c f 4 _ hz hc hlc hcm hb.out (by omega) (by omega) hl0).mono ?_
  rintro e w1 (⟨p, A', c', h1, rfl, h2⟩ | ⟨h1, rfl, h2⟩)
  · replace h1 := Lib.hid h1
    replace h2 := Lib.hid h2
    go_wp2
    go_ret2
    exact .inl ⟨p, A', c', h1.out, rfl, h2.out⟩
  · replace h1 := Lib.hid h1
    replace h2 := Lib.hid h2
    go_wp2
    go_ret2
    exact .inr ⟨h1.out, rfl, h2.out⟩
def lenAt (w : World) (P : Nat) : Nat := match w.cell? ⟨P, 0, none⟩ with | some (.slice _ l _) => l | _ => 0
theorem check1_any (p : Int) (w : World) : Calls Try.prog 23 #[.int .i32 p] w fun e w' => e = .returned (.tuple #[]) ∧ w = w' := by
  go_enter Try.func23, Try.ntmps23
  go_wp2
  go_end0
  exact ⟨rfl, rfl⟩
theorem i32_info : (Try.prog.info? 21).map (fun i => (i.zero, i.size, i.bytes)) = some (some (.int .i32 0), 1, 4) := by kernel_rfl
theorem u8_info : (Try.prog.info? 5).map (fun i => (i.zero, i.size, i.bytes)) = some (some (.int .u8 0), 1, 1) := by kernel_rfl
theorem own_form {w : World} {base e size n : Nat} {v : Value} {xs : List Value} (h : w.ownsRow base e size v n xs) (hn : 0 < n) : ∃ g cap, v = .slice (some ⟨g, 0, none⟩) n cap ∧ n ≤ cap ∧ cap ≤ maxLen ∧ base ≤ g ∧ g < w.heap.size := by
  rcases h.2 with ⟨_, h0⟩ | ⟨g, cap, cur, hv, hb, _, h1, h2, _⟩
  · omega
  · exact ⟨g, cap, hv, h1, h2, hb, (h.lt g (by rw [hv]; rfl)).2⟩
/-- Nothing but the block of a row of one's own, and one cell L, has turned. -/
def Turned (L base : Nat) (w w' : World) : Prop := w'.os = w.os ∧ w'.tape = w.tape ∧ w'.output = w.output ∧ w.heap.size ≤ w'.heap.size ∧ ∀ k, k < base → k ≠ L → w'.heap[k]? = w.heap[k]?
def Point1Post (L p : Nat) (ps : List Nat) (base : Nat) (w : World) (e : Ending) (w' : World) : Prop :=
  e = .returned (.tuple #[]) ∧ (∃ v', w'.cell? ⟨L, 0, none⟩ = some v' ∧ w'.ownsRow base 21 1 v' (ps ++ [p]).length (pvals (ps ++ [p]))) ∧ w'.frozen? ⟨L, 0, none⟩ = false ∧ Turned L base w w'
theorem points1_any (L : Nat) (p : Nat) (ps : List Nat) (v : Value) (base : Nat) (w : World) (hz : w.frozen? ⟨L, 0, none⟩ = false) (hc : w.cell? ⟨L, 0, none⟩ = some v) (hL : L < base) (hbase : base ≤ w.heap.size)
    (ho : w.ownsRow base 21 1 v ps.length (pvals ps)) (hl : ps.length ≤ 100000) :
   Calls Try.prog 21 #[.int .i32 p, .pointer (some ⟨L, 0, none⟩)] w (Point1Post L p ps base w) := by
  obtain ⟨i0, hi0, hz0, hz1, hz2⟩ := info_parts i32_info
  replace ho := Lib.hid ho
  go_enter Try.func21, Try.ntmps21
  go_wp2_with (first
        | (at_builtin; refine wpList_append_own _ rfl _ _ 25 rfl base 21 i0 (.int .i32 0) 1 4 Try.underlying25 hi0 hz0 hz1 hz2 rfl (by decide) v ps.length (pvals ps) rfl (ho.out.alloc _) ⟨_, 0, none⟩ 1 1 [_] rfl rfl (cell_one_new _ _ _) (fun x hx => by simp at hx; subst hx; rfl) (by unfold maxLen; omega) (by omega) (by simp; omega) ?_
           intro v' w3 hown' hgrow3 hnil3
           obtain ⟨g, cap, rfl, g1, g2, g3, g4⟩ := own_form hown' (by omega)
           have hne : v.ownBlock ≠ some L := fun h => by have := (ho.out.lt L h).1; omega
           have hblk : w3.heap[L]? = w.heap[L]? := by rw [hgrow3.block L (by simp; omega) (fun h => hne h.symm)]; exact Below.heap_alloc _ _ _ (by omega)
           have c3 : w3.cell? ⟨L, 0, none⟩ = some v := by rw [World.cell?_of_block (w := w) hblk]; exact hc
           have z3 : w3.frozen? ⟨L, 0, none⟩ = false := by rw [World.frozen?_of_block (w := w) hblk]; exact hz
           replace hown' := Lib.hid hown'
           replace hgrow3 := Lib.hid hgrow3
           replace hblk := Lib.hid hblk
           clear hnil3))
  go_end0
  have hgs : w3.grownBy (w3.setCell ⟨L, 0, none⟩ (.slice (some ⟨g, 0, none⟩) (ps.length + 1) cap)) (some L) :=
    ⟨rfl, rfl, rfl, by simp [World.setCell], fun k _ hk => Below.heap_setCell _ _ _ _ (fun h => hk (by rw [h]))⟩
  refine ⟨rfl, ⟨.slice (some ⟨g, 0, none⟩) (ps.length + 1) cap, ?_, ?_⟩, ?_, ?_⟩
  · exact World.cell?_setCell_same' _ _ _ (by rw [c3]; rfl)
  · have := hown'.out.kept hgs (.inr (by simp [Value.ownBlock]; omega))
    simpa [pvals] using this
  · simp [z3]
  · refine ⟨hgrow3.out.os, hgrow3.out.tape, hgrow3.out.output, ?_, fun k hk hkL => ?_⟩
    · have := hgrow3.out.size
      have h2 := hgs.size
      simp at this
      omega
    · rw [Below.heap_setCell _ _ _ _ hkL, hgrow3.out.block k (by simp; omega) (fun h => by have := (ho.out.lt k h.symm).1; omega)]
      exact Below.heap_alloc _ _ _ (by omega)
/-- The table of readers of the place P, as it lies in memory. -/
def Readers (w : World) (P : Nat) : Prop :=
  P + 1 < w.heap.size ∧ w.frozen? ⟨P, 0, none⟩ = false ∧ w.cell? ⟨P + 1, 0, none⟩ = some (.func (.func 27) #[.pointer (some ⟨P, 0, none⟩)] #[]) ∧ w.cell? ⟨P + 1, 1, none⟩ = some (.func (.func 28) #[.pointer (some ⟨P, 0, none⟩)] #[]) ∧
  w.cell? ⟨P + 1, 2, none⟩ = some (.func (.func 29) #[.pointer (some ⟨P, 0, none⟩)] #[]) ∧ w.cell? ⟨P + 1, 3, none⟩ = some (.func (.func 30) #[.pointer (some ⟨P, 0, none⟩)] #[]) ∧ w.cell? ⟨P + 1, 4, none⟩ = some (.func (.func 31) #[.pointer (some ⟨P, 0, none⟩)] #[])
theorem Readers.keep {w w' : World} {P : Nat} (h : Readers w P) (hs : w.heap.size ≤ w'.heap.size) (h0 : w'.frozen? ⟨P, 0, none⟩ = w.frozen? ⟨P, 0, none⟩) (h1 : w'.heap[P + 1]? = w.heap[P + 1]?) : Readers w' P := by
  obtain ⟨a, b, c0, c1, c2, c3, c4⟩ := h
  refine ⟨by omega, by rw [h0]; exact b, ?_, ?_, ?_, ?_, ?_⟩
  all_goals rw [World.cell?_of_block (w := w) h1]; assumption
/-- A place and its readers behind one that was taken. -/
theorem Readers.took {w w' : World} {P : Nat} {v : Value} (h : Readers w P) (hb : Below w.heap.size (w.setCell ⟨P, 0, none⟩ v) w') : Readers w' P := by
  have hP := h.1
  refine h.keep (by have := hb.size; simpa using this) ?_ ?_
  · rw [hb.frozen (p := ⟨P, 0, none⟩) (by show P < _; omega)]; simp
  · rw [hb.block _ hP, Below.heap_setCell _ _ _ _ (by show P + 1 ≠ P; omega)]
theorem Bytes.took {w w' : World} {P B l : Nat} {v : Value} {A : Option Addr} {f : Nat → Nat} (h : Bytes w B A l f) (hB : B ≤ P) (hP : P < w.heap.size) (hb : Below w.heap.size (w.setCell ⟨P, 0, none⟩ v) w') : Bytes w' B A l f := by
  intro i hi
  obtain ⟨ad, e, h1, h2, h3⟩ := h i hi
  refine ⟨ad, e, h1, h2, ?_⟩
  rw [hb.cell (p := ad.add i) (by rw [addr_block]; omega), World.cell?_of_block (w := w) (Below.heap_setCell _ _ _ _ (by rw [addr_block]; show ad.block ≠ P; omega))]
  exact h3
theorem below_took {B P : Nat} {w0 w w' : World} {v : Value} (h : Below B w0 w) (hB : B ≤ P) (hP : P < w.heap.size) (hb : Below w.heap.size (w.setCell ⟨P, 0, none⟩ v) w') : Below B w0 w' :=
  (h.setCell (p := ⟨P, 0, none⟩) hB v).trans (hb.mono (by omega))
/-- What the walk over a text keeps up: some points are read, the rest stands at the place. -/
def WRel (X : List Nat → World → Prop) (L : Nat) (bs : List Nat) (w w' : World) : Prop :=
  ∃ (done rest : List Nat) (A' : Option Addr) (l c' : Nat), (∀ p ∈ done, M.IsP p) ∧ bs = M.encs done ++ rest ∧ l = rest.length ∧ w'.cell? ⟨w.heap.size, 0, none⟩ = some (.slice A' l c') ∧ l ≤ c' ∧ c' ≤ maxLen ∧
    Bytes w' L A' l (fun i => rest.getD i 0) ∧ Readers w' w.heap.size ∧ Below L w w' ∧ X done w'
/-- How it ends. -/
def WPost (X : List Nat → World → Prop) (L : Nat) (bs : List Nat) (w : World) (e : Ending) (w' : World) : Prop :=
  ((∃ ps, M.Text bs ps ∧ e = .returned (.int .i64 0) ∧ X ps w') ∨ ((∀ ps, ¬ M.Text bs ps) ∧ e = .returned (.int .i64 100))) ∧ Below L w w'
theorem stuck_by {n : Nat} {rest : List Nat} (hk : M.Kind n (rest.getD 0 0)) (h : ∀ p, ¬ M.TakeOk (fun i => rest.getD i 0) rest.length n p) : ∀ p r, ¬ M.Head rest p r :=
  fun p _ hh => h p (M.take_of_head hk hh).1
theorem stuck_kind {rest : List Nat} (h : (128 ≤ rest.getD 0 0 ∧ rest.getD 0 0 < 192) ∨ 248 ≤ rest.getD 0 0) : ∀ p r, ¬ M.Head rest p r := fun p r hh => by
  have := M.head_kind hh
  unfold M.Kind at this
  omega
theorem lenAt_eq {w : World} {P : Nat} {A : Option Addr} {l c : Nat} (h : w.cell? ⟨P, 0, none⟩ = some (.slice A l c)) : lenAt w P = l := by unfold lenAt; rw [h]
/-- One point further. -/
theorem wrel_step {X : List Nat → World → Prop} {L n p c' : Nat} {bs done rest : List Nat} {A' : Option Addr} {w w1 w2 w3 : World} (hL : L ≤ w.heap.size) (hd : ∀ p ∈ done, M.IsP p) (he : bs = M.encs done ++ rest) (hk : M.Kind n (rest.getD 0 0)) (hlt : ∀ b ∈ rest, b < 256)
    (ht : M.TakeOk (fun i => rest.getD i 0) rest.length n p) (hb : Below w1.heap.size (w1.setCell ⟨w.heap.size, 0, none⟩ (.slice A' (rest.length - n) c')) w2) (h4 : rest.length - n ≤ c') (h5 : c' ≤ maxLen)
    (hA : Bytes w1 L A' (rest.length - n) (fun i => rest.getD (n + i) 0)) (hR : Readers w1 w.heap.size) (hbel : Below L w w1) (hc : (w1.cell? ⟨w.heap.size, 0, none⟩).isSome = true)
    (h3 : Turned L (w.heap.size + 2) w2 w3) (hX : X (done ++ [p]) w3) (hL2 : L < w.heap.size ∨ w2 = w3) : WRel X L bs w w3 ∧ lenAt w3 w.heap.size < rest.length := by
  have hP := hR.1
  obtain ⟨⟨hp, hrest⟩, _⟩ := M.head_of_take hlt hk ht
  have hR2 := hR.took hb
  have hB2 : Below L w w2 := below_took hbel hL (by omega) hb
  have hA2 := hA.took hL (by omega) hb
  have c2 : w2.cell? ⟨w.heap.size, 0, none⟩ = some (.slice A' (rest.length - n) c') := by
    rw [hb.cell (p := ⟨w.heap.size, 0, none⟩) (by show w.heap.size < _; omega)]
    exact World.cell?_setCell_same' _ _ _ hc
  have hn : 1 ≤ n := by unfold M.Kind at hk; omega
  have hl := ht.1
  have key : Readers w3 w.heap.size ∧ w3.cell? ⟨w.heap.size, 0, none⟩ = some (.slice A' (rest.length - n) c') ∧ Bytes w3 L A' (rest.length - n) (fun i => rest.getD (n + i) 0) ∧ Below L w w3 := by
    rcases hL2 with hL2 | rfl
    · obtain ⟨t1, t2, t3, t4, t5⟩ := h3
      refine ⟨hR2.keep t4 ?_ ?_, ?_, ?_, ?_⟩
      · exact World.frozen?_of_block (w := w2) (t5 w.heap.size (by omega) (by omega))
      · exact t5 _ (by omega) (by omega)
      · rw [World.cell?_of_block (w := w2) (t5 w.heap.size (by omega) (by omega))]; exact c2
      · exact hA2.below ⟨t1, t2, t3, t4, fun k hk => t5 k (by omega) (by omega)⟩ (Nat.le_refl _)
      · exact hB2.trans ⟨t1, t2, t3, t4, fun k hk => t5 k (by omega) (by omega)⟩
    · exact ⟨hR2, c2, hA2, hB2⟩
  obtain ⟨k1, k2, k3, k4⟩ := key
  refine ⟨⟨done ++ [p], rest.drop n, A', rest.length - n, c', ?_, ?_, by simp, k2, h4, h5, ?_, k1, k4, hX⟩, by rw [lenAt_eq k2]; omega⟩
  · intro q hq
    rcases List.mem_append.1 hq with h | h
    · exact hd q h
    · simp at h; subst h; exact hp
  · rw [M.encs_snoc, he, List.append_assoc, ← hrest]
  · intro i hi
    have := k3 i hi
    simpa only [getD_drop] using this
theorem bytes_lt {w : World} {B : Nat} {A : Option Addr} {rest : List Nat} (h : Bytes w B A rest.length (fun i => rest.getD i 0)) : ∀ b ∈ rest, b < 256 := by
  intro b hb
  obtain ⟨i, hi, rfl⟩ := List.getElem_of_mem hb
  obtain ⟨_, _, _, h4, _⟩ := h i hi
  simpa [List.getD_eq_getElem?_getD, List.getElem?_eq_getElem hi] using h4
theorem wrel_start {X : List Nat → World → Prop} {L c : Nat} {bs : List Nat} {A : Option Addr} {w : World} {W : World}
    (hL : L ≤ w.heap.size) (h1 : bs.length ≤ c) (h2 : c ≤ maxLen) (h3 : Bytes w L A bs.length (fun i => bs.getD i 0)) (hX : X [] W)
    (hW : W = (w.alloc (.cells #[.slice A bs.length c] 54)).alloc (.cells #[.func (.func 27) #[.pointer (some ⟨w.heap.size, 0, none⟩)] #[], .func (.func 28) #[.pointer (some ⟨w.heap.size, 0, none⟩)] #[], .func (.func 29) #[.pointer (some ⟨w.heap.size, 0, none⟩)] #[], .func (.func 30) #[.pointer (some ⟨w.heap.size, 0, none⟩)] #[], .func (.func 31) #[.pointer (some ⟨w.heap.size, 0, none⟩)] #[]] 57)) :
    WRel X L bs w W := by
  subst hW
  have hb : Below L w ((w.alloc (.cells #[.slice A bs.length c] 54)).alloc (.cells #[.func (.func 27) #[.pointer (some ⟨w.heap.size, 0, none⟩)] #[], .func (.func 28) #[.pointer (some ⟨w.heap.size, 0, none⟩)] #[], .func (.func 29) #[.pointer (some ⟨w.heap.size, 0, none⟩)] #[], .func (.func 30) #[.pointer (some ⟨w.heap.size, 0, none⟩)] #[], .func (.func 31) #[.pointer (some ⟨w.heap.size, 0, none⟩)] #[]] 57)) :=
    ((Below.refl _ _).alloc hL _).alloc (by simp; omega) _
  refine ⟨[], bs, A, bs.length, c, by simp, by simp [M.encs], rfl, ?_, h1, h2, h3.below hb (Nat.le_refl _), ⟨?_, ?_, ?_, ?_, ?_, ?_, ?_⟩, hb, hX⟩
  all_goals simp [go_sem]
def XT (_ : List Nat) (_ : World) : Prop := True
/-- The list that the closure fills, behind some points. -/
def XP (L P : Nat) (done : List Nat) (w : World) : Prop := ∃ v, w.cell? ⟨L, 0, none⟩ = some v ∧ w.frozen? ⟨L, 0, none⟩ = false ∧ w.ownsRow (P + 2) 21 1 v done.length (pvals done)
theorem XP_start {L P : Nat} {w W : World} (hc : w.cell? ⟨L, 0, none⟩ = some (.slice none 0 0)) (hz : w.frozen? ⟨L, 0, none⟩ = false) (hb : Below (L + 1) w W) : XP L P [] W :=
  ⟨.slice none 0 0, by rw [hb.cell (by show L < L + 1; omega)]; exact hc, by rw [hb.frozen (by show L < L + 1; omega)]; exact hz, World.ownsRow_nil _ _ _ _⟩
theorem XP_took {L P : Nat} {done : List Nat} {w w2 : World} {u : Value} (h : XP L P done w) (hL : L < P) (hR : Readers w P) (hb : Below w.heap.size (w.setCell ⟨P, 0, none⟩ u) w2) : XP L P done w2 := by
  obtain ⟨v, a, b, c⟩ := h
  have hP := hR.1
  refine ⟨v, ?_, ?_, ?_⟩
  · rw [hb.cell (p := ⟨L, 0, none⟩) (by show L < _; omega), World.cell?_of_block (w := w) (Below.heap_setCell _ _ _ _ (by show L ≠ P; omega))]; exact a
  · rw [hb.frozen (p := ⟨L, 0, none⟩) (by show L < _; omega)]; simpa using b
  · refine c.kept (row := some P) ⟨hb.os, hb.tape, hb.output, by have := hb.size; simpa using this, fun k hk hne => ?_⟩ (.inr fun h => ?_)
    · rw [hb.block k hk, Below.heap_setCell _ _ _ _ (fun h => hne (by rw [h]))]
    · have := (c.lt P h).1; omega
theorem done_le {bs done rest : List Nat} (h : bs = M.encs done ++ rest) (hl : bs.length ≤ 100000) : done.length ≤ 100000 := by
  have := (M.encs_length_le done).1
  have h2 := congrArg List.length h
  simp only [List.length_append] at h2
  omega
end Go.Proofs.Ytlppgaaepllbiaa
