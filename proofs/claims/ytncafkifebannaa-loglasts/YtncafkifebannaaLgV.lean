/-
  What opening a log answers of any disk, the power going where it may; condition: the disk lies in memory.
-/
import Derived.Test.YtncafkifebannaaLgU
namespace Go.Proofs.Ytncafkifebannaa
open Go.RowKit
theorem M.recs_fit : ∀ (m : Nat) (bs : List Nat), bs.length % 8 = 0 → (M.ents (M.recs m bs)).length ≤ bs.length
  | 0, bs, _ => by simp [M.recs, M.ents]
  | m + 1, bs, h8 => by
    cases hf : M.first bs with
    | none => rw [M.recs_none hf]; simp [M.ents]
    | some r =>
      have h1 := M.first_fit hf h8
      have h2 : M.elen r.length % 8 = 0 := by have := M.pad_ge r.length; unfold M.elen; omega
      have ih := M.recs_fit m (bs.drop (M.elen r.length)) (by rw [List.length_drop]; omega)
      rw [M.recs_some hf]
      simp only [M.ents, List.length_append, M.ent_length]
      rw [List.length_drop] at ih
      omega
theorem M.found_fit {E : List Nat} {n h : Nat} (hE : E.length = n * 64) (h2 : h < 2) : (M.ents (M.found (M.reg E n h))).length ≤ M.cnt n * 64 := by
  have hl := M.reg_length hE h2
  have := M.recs_fit ((M.reg E n h).length + 1) (M.reg E n h) (by omega)
  unfold M.found
  omega
section
variable {w w' : World} {B g r q n cS cE : Nat} {S E : List Nat} {k last : Int}
/-- What lies where a half begins. -/
def M.base (n h : Nat) : Nat := (1 + h * M.cnt n) * 64
/-- What stays of an opening that fails for want of power: the seen bytes are as they were, or a part of the half was laid anew. -/
def M.Torn (E E' : List Nat) (n : Nat) : Prop :=
  E' = E ∨ ∃ h o, h < 2 ∧ M.sec E 0 = M.hd h ∧ o ≤ M.cnt n * 64 ∧ (o = M.cnt n * 64 ∨ o % 64 = 0) ∧ E' = M.lay E (M.base n h) ((M.full (M.found (M.reg E n h)) (M.cnt n * 64)).take o)
/-- What Open answers. -/
def OpPost (w : World) (B g r q n cS cE : Nat) (S E : List Nat) (k last : Int) (e : Ending) (w' : World) : Prop :=
  ((∃ (h G b0 : Nat) (v : Value) (us : List Value) (Z : Nat → Prop) (k' : Int), e = .returned (.tuple #[Mp G, v, .int .i64 0]) ∧ M.sec E 0 = M.hd h ∧ h < 2 ∧ ¬ last ≤ k' ∧ k ≤ k' ∧ k' ≤ k + ((M.cnt n * 64 : Nat) : Int) + 2 ∧
      LAt w' B Z G g r q n cS cE (M.lay E (M.base n h) (M.full (M.found (M.reg E n h)) (M.cnt n * 64))) (M.lay E (M.base n h) (M.full (M.found (M.reg E n h)) (M.cnt n * 64))) k' last h (M.found (M.reg E n h)) ∧
      Rows w' b0 v (M.found (M.reg E n h)) us ∧ (∀ b, Z b → b < b0) ∧ w.heap.size ≤ b0 ∧ (∀ b, Z b → DX g r q b ∨ w.heap.size ≤ b)) ∨
    (e = .returned (.tuple #[.pointer none, .slice none 0 0, .int .i64 100]) ∧ ¬ last ≤ k ∧ (∀ h, h < 2 → M.sec E 0 ≠ M.hd h) ∧ DAt w' B g r q n cS cE S E k last) ∨
    (e = .returned (.tuple #[.pointer none, .slice none 0 0, .int .i64 103]) ∧ ∃ (E' : List Nat) (k' : Int), last ≤ k' ∧ k' ≤ k + ((M.cnt n * 64 : Nat) : Int) + 2 ∧ M.Torn E E' n ∧ DAt w' B g r q n cS cE S E' k' last)) ∧ But (DX g r q) w w'
/-- How far an opening has come. -/
def OpIn (W0 : World) (B G g r q n cS cE : Nat) (S E : List Nat) (k last : Int) (i : Nat) (W : World) : Prop :=
  But (fun b => DX g r q b ∨ b = G) W0 W ∧
  ((i = 0 ∧ LAt W B (fun b => DX g r q b ∨ b = G) G g r q n cS cE S E k last 0 []) ∨
   (i = 1 ∧ ¬ last ≤ k ∧ ∃ h, M.sec E 0 = M.hd h ∧ h < 2 ∧ LAt W B (fun b => DX g r q b ∨ b = G) G g r q n cS cE S E k last h []) ∨
   (i = 2 ∧ ¬ last ≤ k ∧ ∃ h Z, M.sec E 0 = M.hd h ∧ h < 2 ∧ (∀ b, Z b → DX g r q b ∨ b = G ∨ W0.heap.size ≤ b) ∧ LAt W B Z G g r q n cS cE S E k last h (M.found (M.reg E n h))) ∨
   (i = 3 ∧ ∃ h Z k', M.sec E 0 = M.hd h ∧ h < 2 ∧ ¬ last ≤ k' ∧ k ≤ k' ∧ k' ≤ k + ((M.cnt n * 64 : Nat) : Int) + 1 ∧ (∀ b, Z b → DX g r q b ∨ b = G ∨ W0.heap.size ≤ b) ∧
      LAt W B Z G g r q n cS cE S (M.lay E (M.base n h) (M.full (M.found (M.reg E n h)) (M.cnt n * 64))) k' last h (M.found (M.reg E n h))) ∨
   (i = 4 ∧ ∃ h Z k', M.sec E 0 = M.hd h ∧ h < 2 ∧ ¬ last ≤ k' ∧ k ≤ k' ∧ k' ≤ k + ((M.cnt n * 64 : Nat) : Int) + 2 ∧ (∀ b, Z b → DX g r q b ∨ b = G ∨ W0.heap.size ≤ b) ∧
      LAt W B Z G g r q n cS cE (M.lay E (M.base n h) (M.full (M.found (M.reg E n h)) (M.cnt n * 64))) (M.lay E (M.base n h) (M.full (M.found (M.reg E n h)) (M.cnt n * 64))) k' last h (M.found (M.reg E n h))))
/-- How an opening may fail. -/
def OpFl (W0 : World) (B G g r q n cS cE : Nat) (S E : List Nat) (k last : Int) (d : Int) (W : World) : Prop :=
  But (fun b => DX g r q b ∨ b = G) W0 W ∧ ((d = 100 ∧ ¬ last ≤ k ∧ (∀ h, h < 2 → M.sec E 0 ≠ M.hd h) ∧ DAt W B g r q n cS cE S E k last) ∨
    (d = 103 ∧ ∃ (E' : List Nat) (k' : Int), last ≤ k' ∧ k' ≤ k + ((M.cnt n * 64 : Nat) : Int) + 2 ∧ M.Torn E E' n ∧ DAt W B g r q n cS cE S E' k' last))
variable {G : Nat} {W0 W : World}
theorem LAt.disk {Z : Nat → Prop} {h : Nat} {rs : List (List Nat)} (a : LAt w B Z G g r q n cS cE S E k last h rs) : DAt w B g r q n cS cE S E k last := by
  obtain ⟨_, a0, _⟩ := a.v
  exact a0.disk
theorem step0 (a : OpIn W0 B G g r q n cS cE S E k last 0 W) : Calls Try.prog 28 #[Mp G] W fun e w' => (e = .returned (.int .i64 0) ∧ OpIn W0 B G g r q n cS cE S E k last 1 w') ∨ ∃ d : Int, d ≠ 0 ∧ e = .returned (.int .i64 d) ∧ OpFl W0 B G g r q n cS cE S E k last d w' := by
  obtain ⟨hb, ⟨_, a⟩ | ⟨h9, _⟩ | ⟨h9, _⟩ | ⟨h9, _⟩ | ⟨h9, _⟩⟩ := a
  · obtain ⟨v, a0, hh⟩ := a.v
    refine (findHalf_of W a0).mono ?_
    rintro e w' ⟨⟨h, rfl, hon, hs, a1⟩ | ⟨rfl, hon, hs, a1⟩ | ⟨rfl, hoff, a1⟩, x⟩
    · refine .inl ⟨rfl, hb.trans (x.mono fun _ _ e => .inr e), .inr (.inl ⟨rfl, hon, h, hs, a1.h2, ⟨v, a1, hh.to (fun b hb' => x.block b (a.zl b hb'.1) hb'.2.1) (fun _ h => h)⟩, a.zG, a.zD, fun b hb' => Nat.lt_of_lt_of_le (a.zl b hb') x.size, a.ok⟩)⟩
    · exact .inr ⟨100, by decide, rfl, hb.trans (x.mono fun _ _ e => .inr e), .inl ⟨rfl, hon, hs, a1.disk⟩⟩
    · exact .inr ⟨103, by decide, rfl, hb.trans (x.mono fun _ _ e => .inr e), .inr ⟨rfl, E, k, hoff, by omega, .inl rfl, a1.disk⟩⟩
  all_goals omega
theorem step1 (hG : G < W0.heap.size) (hD : ∀ b, DX g r q b → b < W0.heap.size) (a : OpIn W0 B G g r q n cS cE S E k last 1 W) : Calls Try.prog 29 #[Mp G] W fun e w' => (e = .returned (.int .i64 0) ∧ OpIn W0 B G g r q n cS cE S E k last 2 w') ∨ ∃ d : Int, d ≠ 0 ∧ e = .returned (.int .i64 d) ∧ OpFl W0 B G g r q n cS cE S E k last d w' := by
  obtain ⟨hb, ⟨h9, _⟩ | ⟨_, hon, h, hs, h2, a⟩ | ⟨h9, _⟩ | ⟨h9, _⟩ | ⟨h9, _⟩⟩ := a
  · omega
  · refine (findRecords_of W a hon).mono ?_
    rintro e w' ⟨rfl, a1, x⟩
    refine .inl ⟨rfl, hb.trans x, .inr (.inr (.inl ⟨rfl, hon, h, _, hs, h2, fun b hb' => ?_, a1⟩))⟩
    have := hb.size
    rcases hb' with (hb' | hb') | hb'
    · exact .inl hb'
    · exact .inr (.inl hb')
    · exact .inr (.inr (by omega))
  all_goals omega
theorem step2 (hk : 0 ≤ k ∧ k + ((M.cnt n * 64 : Nat) : Int) < 999990) (a : OpIn W0 B G g r q n cS cE S E k last 2 W) : Calls Try.prog 30 #[Mp G] W fun e w' => (e = .returned (.int .i64 0) ∧ OpIn W0 B G g r q n cS cE S E k last 3 w') ∨ ∃ d : Int, d ≠ 0 ∧ e = .returned (.int .i64 d) ∧ OpFl W0 B G g r q n cS cE S E k last d w' := by
  obtain ⟨hb, ⟨h9, _⟩ | ⟨h9, _⟩ | ⟨_, hon, h, Z, hs, h2, hZ, a⟩ | ⟨h9, _⟩ | ⟨h9, _⟩⟩ := a
  · omega
  · omega
  · obtain ⟨v, a0, hh⟩ := a.v
    have hfit := M.found_fit (n := n) a0.disk.lE h2
    have hfl := M.full_length hfit
    refine (lay_of W (M.found (M.reg E n h)) (fun b => Z b ∧ b ≠ G ∧ ¬ DX g r q b) a0 hh.recs (fun b hb' => a.zl b hb'.1) hfit ⟨hk.1, by omega⟩).mono ?_
    rintro e w' ⟨k', j, h3, h4, h5, d, x, h6⟩
    rw [Nat.add_zero] at d
    have hx : But (fun b => DX g r q b ∨ b = G) W0 w' := hb.trans (x.mono fun _ _ e => .inl e)
    rcases h6 with ⟨rfl, h7, h8⟩ | ⟨rfl, h7, h8⟩
    · have htk : (M.full (M.found (M.reg E n h)) (M.cnt n * 64)).take j = M.full (M.found (M.reg E n h)) (M.cnt n * 64) := List.take_of_length_le (by omega)
      rw [htk] at d
      refine .inl ⟨rfl, hx, .inr (.inr (.inr (.inl ⟨rfl, h, Z, k', hs, h2, ?_, h3, ?_, hZ, ⟨v, a0.but d x, hh.to (fun b hb' => x.block b (a.zl b hb'.1) hb'.2.2) (fun _ h => h)⟩, a.zG, a.zD, fun b hb' => Nat.lt_of_lt_of_le (a.zl b hb') x.size, a.ok⟩)))⟩
      · rcases h8 with h8 | h8
        · exact h8
        · omega
      · omega
    · refine .inr ⟨103, by decide, rfl, hx, .inr ⟨rfl, _, k', h7, by omega, .inr ⟨h, j, h2, hs, by omega, by omega, rfl⟩, d⟩⟩
  all_goals omega
theorem step3 (hE : E.length = n * 64) (hk : 0 ≤ k ∧ k + ((M.cnt n * 64 : Nat) : Int) < 999990) (a : OpIn W0 B G g r q n cS cE S E k last 3 W) : Calls Try.prog 31 #[Mp g] W fun e w' => (e = .returned (.int .i64 0) ∧ OpIn W0 B G g r q n cS cE S E k last 4 w') ∨ ∃ d : Int, d ≠ 0 ∧ e = .returned (.int .i64 d) ∧ OpFl W0 B G g r q n cS cE S E k last d w' := by
  obtain ⟨hb, ⟨h9, _⟩ | ⟨h9, _⟩ | ⟨h9, _⟩ | ⟨_, h, Z, k', hs, h2, h3, h4, h5, hZ, a⟩ | ⟨h9, _⟩⟩ := a
  · omega
  · omega
  · omega
  · obtain ⟨v, a0, hh⟩ := a.v
    have hfit := M.found_fit (n := n) (E := E) (h := h) hE h2
    have hfl := M.full_length hfit
    refine (Flush_any W _ (k' + 1) _ a0.disk (by omega) rfl rfl rfl).mono ?_
    rintro e w' ⟨rfl, d, x⟩
    have hx : But (fun b => DX g r q b ∨ b = G) W0 w' := hb.trans (x.mono fun _ _ e => .inl e)
    by_cases h6 : last ≤ k' + 1
    · rw [if_pos h6] at d ⊢
      exact .inr ⟨103, by decide, rfl, hx, .inr ⟨rfl, _, k' + 1, h6, by omega, .inr ⟨h, M.cnt n * 64, h2, hs, by omega, .inl rfl, by rw [List.take_of_length_le (by omega)]⟩, d⟩⟩
    · rw [if_neg h6] at d ⊢
      exact .inl ⟨rfl, hx, .inr (.inr (.inr (.inr ⟨rfl, h, Z, k' + 1, hs, h2, h6, by omega, by omega, hZ, ⟨v, a0.but d x, hh.to (fun b hb' => x.block b (a.zl b hb'.1) hb'.2.2) (fun _ h => h)⟩, a.zG, a.zD, fun b hb' => Nat.lt_of_lt_of_le (a.zl b hb') x.size, a.ok⟩)))⟩
  · omega
set_option maxRecDepth 100000 in
set_option maxHeartbeats 2000000 in
theorem open_of (w : World) (a : DAt w B g r q n cS cE S E k last) (hB : B ≤ w.heap.size) (hk : 0 ≤ k ∧ k + ((M.cnt n * 64 : Nat) : Int) < 999990) : Calls Try.prog 9 #[Mp g] w (OpPost w B g r q n cS cE S E k last) := by
  obtain ⟨G, hG⟩ : ∃ G, G = w.heap.size := ⟨_, rfl⟩
  obtain ⟨W1, hW1⟩ : ∃ W1, W1 = w.alloc (.cells #[Mp g, .int .i64 0, .slice none 0 0, .int .i64 0, .int .i64 0] 62) := ⟨_, rfl⟩
  obtain ⟨gs, hgs⟩ : ∃ gs, gs = W1.heap.size := ⟨_, rfl⟩
  obtain ⟨W0, hW0⟩ : ∃ W0, W0 = W1.alloc (.cells #[.func (.func 28) #[Mp G] #[], .func (.func 29) #[Mp G] #[], .func (.func 30) #[Mp G] #[], .func (.func 31) #[Mp g] #[]] 80) := ⟨_, rfl⟩
  have b1 : Below w.heap.size w W1 := by rw [hW1]; exact (Below.refl _ _).alloc (Nat.le_refl _) _
  have b10 : Below W1.heap.size W1 W0 := by rw [hW0]; exact (Below.refl _ _).alloc (Nat.le_refl _) _
  have b0 : Below w.heap.size w W0 := b1.trans (b10.mono b1.size)
  have hobj1 : W1.heap[G]? = some (.cells #[Mp g, .int .i64 ((0 : Nat) : Int), .slice none 0 0, .int .i64 ((0 : Nat) : Int), .int .i64 ((0 : Nat) : Int)] 62 (0, 0)) := by rw [hW1, hG]; exact heap_alloc_new w _
  have hG1 : G < W1.heap.size := (Array.getElem?_eq_some_iff.1 hobj1).1
  have hobj0 := (b10.block G hG1).trans hobj1
  have hblk : W0.heap[gs]? = some (.cells #[.func (.func 28) #[Mp G] #[], .func (.func 29) #[Mp G] #[], .func (.func 30) #[Mp G] #[], .func (.func 31) #[Mp g] #[]] 80 (0, 0)) := by rw [hW0, hgs]; exact heap_alloc_new W1 _
  have hgl : gs < W0.heap.size := (Array.getElem?_eq_some_iff.1 hblk).1
  have hG0 : G < W0.heap.size := Nat.lt_of_lt_of_le hG1 b10.size
  have hDl : ∀ b, DX g r q b → b < w.heap.size := a.lt
  have hgX : ¬ (DX g r q gs ∨ gs = G) := fun e => by
    rcases e with e | e
    · have := hDl _ e; have := b1.size; omega
    · omega
  have hDG : ¬ DX g r q G := fun e => by have := hDl _ e; omega
  have d0 := a.later b0
  have hE := a.lE
  obtain ⟨st, hst⟩ : ∃ st : List (FuncId × Value), st = [(28, Mp G), (29, Mp G), (30, Mp G), (31, Mp g)] := ⟨_, rfl⟩
  have hA0 : LAt W0 B (fun b => DX g r q b ∨ b = G) G g r q n cS cE S E k last 0 [] := ⟨⟨_, ⟨d0, hobj0, by omega, hDG, by omega⟩, Held.nil _ _ _⟩, .inr rfl, fun _ h => .inl h, fun b hb => by
    rcases hb with hb | rfl
    · have := hDl _ hb; have := b0.size; omega
    · exact hG0, fun r hr => by simp at hr⟩
  have hfin := inOrder_of st gs 4 (OpIn W0 B G g r q n cS cE S E k last) (OpFl W0 B G g r q n cS cE S E k last) (by rw [hst]; simp)
    (fun i W hI j f v hj => by
      rw [cell_of_row W gs j _ _ (0, 0) ((hI.1.block gs hgl hgX).trans hblk)]
      rw [hst] at hj
      match j, hj with
      | 0, hj => cases hj; rfl
      | 1, hj => cases hj; rfl
      | 2, hj => cases hj; rfl
      | 3, hj => cases hj; rfl)
    (fun j f v hj => by
      rw [hst] at hj
      match j, hj with
      | 0, hj => cases hj; exact Try.call28
      | 1, hj => cases hj; exact Try.call29
      | 2, hj => cases hj; exact Try.call30
      | 3, hj => cases hj; exact Try.call31)
    (fun j f v W hj hI => by
      rw [hst] at hj
      match j, hj with
      | 0, hj => cases hj; exact step0 hI
      | 1, hj => cases hj; exact step1 hG0 (fun b hb => by have := hDl b hb; have := b0.size; omega) hI
      | 2, hj => cases hj; exact step2 hk hI
      | 3, hj => cases hj; exact step3 hE hk hI)
    W0 ⟨But.refl _ _, .inl ⟨rfl, hA0⟩⟩
  have hlen : st.length = 4 := by rw [hst]; rfl
  rw [hlen] at hfin
  have hcut : ∀ W, But (fun b => DX g r q b ∨ b = G) W0 W → But (DX g r q) w W := fun W hx => (But.ofBelow (X := DX g r q) b0).trans2 hx (fun i hi e => by
    rcases e with e | e
    · exact e
    · omega)
  have hs0 := b0.size
  replace hcut := Lib.hid hcut
  replace hfin := Lib.hid hfin
  have hDl' := Lib.hid hDl
  clear hA0 d0 hblk hobj0 hobj1 hst hlen hgX hDG hDl
  have hGw : w.heap.size ≤ G := by omega
  have hgs1 : Unit → gs = W1.heap.size := fun _ => hgs
  replace hW1 := Lib.hid hW1
  replace hG := Lib.hid hG
  replace hW0 := Lib.hid hW0
  replace hgs := Lib.hid hgs
  clear hgs1
  go_enter Try.func9, Try.ntmps9
  go_upto_region 4 with fail
  rw [← hW1.out, ← hG.out]
  go_wp2_with fail
  rw [← hW0.out, ← hgs.out]
  refine hfin.out.mono ?_
  rintro e W (⟨rfl, hx, hI⟩ | ⟨d, hd, rfl, hx, hI⟩)
  · obtain ⟨h, Z, k', hs, h2, hon, hk1, hk2, hZ, hA⟩ : ∃ h Z k', M.sec E 0 = M.hd h ∧ h < 2 ∧ ¬ last ≤ k' ∧ k ≤ k' ∧ k' ≤ k + ((M.cnt n * 64 : Nat) : Int) + 2 ∧ (∀ b, Z b → DX g r q b ∨ b = G ∨ W0.heap.size ≤ b) ∧
      LAt W B Z G g r q n cS cE (M.lay E (M.base n h) (M.full (M.found (M.reg E n h)) (M.cnt n * 64))) (M.lay E (M.base n h) (M.full (M.found (M.reg E n h)) (M.cnt n * 64))) k' last h (M.found (M.reg E n h)) := by
      rcases hI with ⟨h9, _⟩ | ⟨h9, _⟩ | ⟨h9, _⟩ | ⟨h9, _⟩ | ⟨_, hI⟩
      · omega
      · omega
      · omega
      · omega
      · exact hI
    obtain ⟨v, a0, hh⟩ := hA.v
    have c2 : W.cell? ⟨G, 2, none⟩ = some v := by rw [cell_of_row W G 2 _ _ (0, 0) a0.obj]; rfl
    have hlr : ∀ r ∈ M.found (M.reg E n h), r.length ≤ 1048576 := fun r hr => (hA.ok r hr).2
    have hfit := M.found_fit (n := n) hE h2
    have hnl := M.ents_len (M.found (M.reg E n h))
    have hn := a.n0
    have hcn : M.cnt n ≤ 8192 := by unfold M.cnt; omega
    have hrc := Lib.hid (records_of W G _ v _ c2 hh.recs (fun b hb => hA.zl b hb.1) hlr (by omega))
    have hpost := Lib.hid (show ∀ e w', GivesL (M.found (M.reg E n h)) W (.returned e) w' → OpPost w B g r q n cS cE S E k last (.returned (.tuple #[Mp G, e, .int .i64 0])) w' from fun e w' ⟨v', us, he, hr, hb⟩ => by
      injection he with he
      subst he
      refine ⟨.inl ⟨h, G, W.heap.size, e, us, Z, k', rfl, hs, h2, hon, hk1, hk2, hA.later hb, hr, hA.zl, ?_, fun b hb' => ?_⟩, (hcut.out W hx).trans (But.ofBelow hb)⟩
      · have := hx.size; omega
      · rcases hZ b hb' with h9 | h9 | h9
        · exact .inl h9
        · exact .inr (by omega)
        · exact .inr (by omega))
    clear hI hA a0 hh c2 hlr hfit hnl hs hon hk1 hk2 hZ hfin
    go_wp2_with fail
    refine hrc.out.mono ?_
    rintro e w' hg
    obtain ⟨v', us, rfl, hr, hb⟩ := hg
    have hp := Lib.hid (hpost.out v' w' ⟨v', us, rfl, hr, hb⟩)
    clear hr hb
    go_wp2_with fail
    go_ret3
    exact hp.out
  · have hdn : (d != 0) = true := by simpa using hd
    have hp := Lib.hid (show OpPost w B g r q n cS cE S E k last (.returned (.tuple #[.pointer none, .slice none 0 0, .int .i64 d])) W from ⟨by
      rcases hI with ⟨rfl, h1, h2, h3⟩ | ⟨rfl, h1⟩
      · exact .inr (.inl ⟨rfl, h1, h2, h3⟩)
      · exact .inr (.inr ⟨rfl, h1⟩), hcut.out W hx⟩)
    clear hI hx hfin hd
    go_wp2_with fail
    go_ret3
    exact hp.out
end
end Go.Proofs.Ytncafkifebannaa
