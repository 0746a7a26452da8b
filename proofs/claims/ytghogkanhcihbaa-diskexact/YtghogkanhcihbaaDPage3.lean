/-
  The page's disk made of an image, whatever troubles; condition: the image lies in a row of its own.
-/
import Derived.Test.YtghogkanhcihbaaDPage2
namespace Go.Proofs.Ytghogkanhcihbaa
open Go.RowKit
theorem CopyBytes_row (v : Value) (bs : List Nat) (w : World) (hn : bs.length ≤ 1000000) (h0 : 0 < bs.length) (h : BS w w.heap.size v bs) :
    Calls Try.prog 6 #[v] w (ClonePost bs w) := by
  refine (CopyBytes_any v bs w hn h).mono ?_
  rintro e w' ⟨u, rfl, hown, hb⟩
  obtain ⟨A, c, rfl, h5, h6⟩ := own_form hown
  obtain ⟨r, cur, rfl, _⟩ := own_at hown h0
  have hr := RowAt.of_own hown h.lt
  exact ⟨r, c, rfl, hr.1, hr.2.1, hb⟩
theorem cell_one_set (w : World) (p : Addr) (y x : Value) (t : TypeId) : ∀ j u, [x][j]? = some u → ((w.setCell p y).alloc (.cells #[x] t)).cell? ((⟨w.heap.size, 0, none⟩ : Addr).add j) = some u := by
  have e : w.heap.size = (w.setCell p y).heap.size := by simp
  rw [e]
  exact cell_one_new _ _ _
/-- What the page's New leaves. -/
def PNewPost (S : List Nat) (ts : List Int) (n : Nat) (w : World) (e : Ending) (w' : World) : Prop :=
  ∃ g vs ve vt ss es, e = .returned (Mp g) ∧ PRaw w' w.heap.size g vs ve vt ss es ts n n false 0 ∧ Secs w' w.heap.size n ss S ∧ Secs w' w.heap.size n es S ∧ Below w.heap.size w w'
theorem Secs.push {w w' : World} {B j r c : Nat} {ss : List Value} {S : List Nat} {X : Nat → Prop} (h : Secs w B j ss S) (hl : ss.length = j) (hb : But X w w') (hX : ∀ r c bs, RowAt w r c bs → ¬ X r) (hr : RowAt w r c (M.sec S j)) (hB : B ≤ r) : Secs w' B (j + 1) (ss ++ [.slice (some ⟨r, 0, none⟩) 64 c]) S := fun i hi => by
  by_cases e : i = j
  · subst e
    refine ⟨r, c, ?_, hr.but hb (hX r c _ hr), hB⟩
    rw [List.getElem?_append_right (by omega), hl, Nat.sub_self]
    rfl
  · obtain ⟨r1, c1, h1, h2, h3⟩ := h i (by omega)
    exact ⟨r1, c1, by rw [List.getElem?_append_left (by omega)]; exact h1, h2.but hb (hX r1 c1 _ h2), h3⟩
set_option maxRecDepth 100000 in
set_option maxHeartbeats 2000000 in
theorem pNew_any (w : World) (rI cI : Nat) (vt0 : Value) (S : List Nat) (ts : List Int) (n : Nat) (hn : 0 < n ∧ n ≤ 16384) (hl : S.length = n * 64) (hI : RowAt w rI cI S) (ht : NS w w.heap.size vt0 ts) (hts : ts.length ≤ 1000000) :
    Calls Try.prog 12 #[.slice (some ⟨rI, 0, none⟩) (n * 64) cI, vt0] w (PNewPost S ts n w) := by
  obtain ⟨i0, hi0, hz0, hz1, hz2⟩ := info_parts sl_info
  obtain ⟨k1, k2⟩ := hI.le
  rw [hl] at k1
  have hIr := hI.lt
  unfold maxLen at k2
  replace ht := Lib.hid ht
  replace hI := Lib.hid hI
  replace hl := Lib.hid hl
  go_enter Try.func12, Try.ntmps12
  go_wp2_with fail
  refine (CopyTroubles_any vt0 ts w hts ht.out).mono ?_
  rintro e1 w1 ⟨vt, rfl, rt, b1⟩
  obtain ⟨At, ct, rfl, _, _⟩ := own_form rt
  obtain ⟨m, hm⟩ : ∃ m, m = ts.length := ⟨_, rfl⟩
  have hm2 := Lib.hid hm
  rw [← hm] at rt ⊢
  have hb0 : Below w.heap.size w (w1.alloc (.cells #[.slice none 0 0, .slice none 0 0, .slice At m ct, .bool false, .int .i64 0] 65)) := b1.alloc b1.size _
  have P0 : PRaw (w1.alloc (.cells #[.slice none 0 0, .slice none 0 0, .slice At m ct, .bool false, .int .i64 0] 65)) w.heap.size w1.heap.size (.slice none 0 0) (.slice none 0 0) (.slice At m ct) [] [] ts 0 0 false 0 :=
    ⟨heap_alloc_new w1 _, b1.size, World.ownsRow_nil _ _ _ _, World.ownsRow_nil _ _ _ _, by rw [← hm]; exact rt.alloc _, fun q e => by cases e⟩
  clear hm rt b1
  replace hb0 := Lib.hid hb0
  replace P0 := Lib.hid P0
  have hz := Lib.hid (fun W => (fun i hi => by omega : Secs W w.heap.size 0 [] S))
  go_wp2_with fail
  obtain ⟨W1, hW1⟩ : ∃ W1, W1 = w1.alloc (.cells #[.slice none 0 0, .slice none 0 0, .slice At m ct, .bool false, .int .i64 0] 65) := ⟨_, rfl⟩
  rw [← hW1] at hb0 P0 ⊢
  clear hW1
  obtain ⟨g, hg⟩ : ∃ g, g = w1.heap.size := ⟨_, rfl⟩
  rw [← hg] at P0 ⊢
  clear hg
  go_loopw [6] (fun i w' => ∃ (j : Nat) (vs ve : Value) (ss es : List Value), j ≤ n ∧ i = .int .i64 ((j : Int) * 64) ∧ PRaw w' w.heap.size g vs ve (.slice At m ct) ss es ts j j false 0 ∧ Secs w' w.heap.size j ss S ∧ Secs w' w.heap.size j es S ∧ Below w.heap.size w w') (fun i _ => n * 64 - (intOf i).toNat)
  case atStart => exact ⟨0, _, _, [], [], by omega, rfl, P0.out, hz.out _, hz.out _, hb0.out⟩
  case round =>
    clear P0 hb0
    obtain ⟨j, vs, ve, ss, es, hj, rfl, hP, hs, he, hb⟩ := hrel
    by_cases hlt : j < n
    · have hp := (hI.out.later hb).part (j * 64) 64 (cI - j * 64) (by rw [hl.out]; omega) (by unfold maxLen; omega)
      have hsl := Lib.hid (M.sec_length (bs := S) (i := j) (by rw [hl.out]; omega))
      obtain ⟨bs, hbs⟩ : ∃ bs, bs = M.sec S j := ⟨_, rfl⟩
      rw [show List.take 64 (List.drop (j * 64) S) = bs from hbs.symm] at hp
      rw [← hbs] at hsl
      replace hbs := Lib.hid hbs
      have t0 : (0 : Int) ≤ (j : Int) * 64 := by omega
      have t1 : (j : Int) * 64 < (n : Int) * 64 := by omega
      have t2 : (j : Int) * 64 + 64 ≤ (cI : Int) := by omega
      have hle : j * 64 + 64 - j * 64 = 64 := by omega
      have hcs : ss.length = j := by have := hP.rs.1; omega
      have hce : es.length = j := by have := hP.re.1; omega
      replace hcs := Lib.hid hcs
      replace hce := Lib.hid hce
      replace hp := Lib.hid hp
      replace hP := Lib.hid hP
      replace hs := Lib.hid hs
      replace he := Lib.hid he
      replace hb := Lib.hid hb
      go_wp2_with fail
      refine (CopyBytes_row _ bs _ (by rw [hsl.out]; omega) (by rw [hsl.out]; omega) hp.out).mono ?_
      rintro e2 w2 ⟨r2, c2, rfl, q2, g2, b2⟩
      rw [hsl.out]
      rw [hbs.out] at q2
      have P2 := hP.out.later b2
      have s2 := Lib.hid (hs.out.later b2)
      have e2' := Lib.hid (he.out.later b2)
      have hb2 := Lib.hid (hb.out.trans (b2.mono hb.out.size))
      have gB2 := Lib.hid (Nat.le_trans hb.out.size g2)
      have c0 := P2.c0
      have hsz2 : w.heap.size ≤ w2.heap.size := hb2.out.size
      replace q2 := Lib.hid q2
      replace P2 := Lib.hid P2
      clear b2 g2 hP hs he hb hp
      go_wp2_with (first
        | (at_builtin; refine wpList_append_own_at _ rfl _ _ 63 rfl w.heap.size 26 i0 (.slice none 0 0) 1 24 Try.underlying63 hi0 hz0 hz1 hz2 rfl (by decide) ve j es rfl (P3.out.re.alloc _) ⟨_, 0, none⟩ 1 1 [_] rfl rfl (cell_one_set _ _ _ _ _) (fun x hx => by simp at hx; subst hx; rfl) (by unfold maxLen; omega) (by omega) (by simp; omega) ?_; intro v4 w4 hown4 hgrow4 hnil4 hat4; obtain ⟨A4, c4, rfl, _, _⟩ := own_form hown4; obtain ⟨o4, P4, x4⟩ := P3.out.pushE _ hgrow4 hown4 hat4; have c41 : w4.cell? ⟨g, 1, none⟩ = some ve := (by rw [cell_of_row w4 g 1 _ _ (0, 0) o4]; rfl); have f41 := frozen_of_row w4 g 1 _ _ o4; replace P4 := Lib.hid P4; replace x4 := Lib.hid x4; clear hown4 hgrow4 hnil4 hat4 o4)
        | (at_builtin; refine wpList_append_own_at _ rfl _ _ 63 rfl w.heap.size 26 i0 (.slice none 0 0) 1 24 Try.underlying63 hi0 hz0 hz1 hz2 rfl (by decide) vs j ss rfl (P2.out.rs.alloc _) ⟨_, 0, none⟩ 1 1 [_] rfl rfl (cell_one_new _ _ _) (fun x hx => by simp at hx; subst hx; rfl) (by unfold maxLen; omega) (by omega) (by simp; omega) ?_; intro v3 w3 hown3 hgrow3 hnil3 hat3; obtain ⟨A3, c3, rfl, _, _⟩ := own_form hown3; obtain ⟨o3, P3, x3⟩ := P2.out.pushS _ hgrow3 hown3 hat3; have c30 : w3.cell? ⟨g, 0, none⟩ = some vs := (by rw [cell_of_row w3 g 0 _ _ (0, 0) o3]; rfl); have f30 := frozen_of_row w3 g 0 _ _ o3; have c31 := P3.c1; have hsz3 : w.heap.size ≤ w3.heap.size := Nat.le_trans hsz2 (by have h := x3.size; simpa using h); replace P3 := Lib.hid P3; replace x3 := Lib.hid x3; clear hown3 hgrow3 hnil3 hat3 o3))
      have s3 := s2.out.push hcs.out x3.out (fun r c bs hr => P2.out.sec_ne hr) q2.out gB2.out
      have s4 := s3.but x4.out (fun r c bs hr _ => P3.out.sec_ne hr)
      have e3 := e2'.out.but x3.out (fun r c bs hr _ => P2.out.sec_ne hr)
      have q3 := q2.out.but x3.out (P2.out.sec_ne q2.out)
      have e4 := e3.push hce.out x4.out (fun r c bs hr => P3.out.sec_ne hr) q3 gB2.out
      have b3 := x3.out.below P2.out.ft hsz2
      have b4 := hb2.out.trans (b3.trans (x4.out.below P3.out.ft (Nat.le_trans hsz2 b3.size)))
      exact ⟨⟨j + 1, _, _, _, _, by omega, by rw [show (((j + 1 : Nat) : Int)) * 64 = (j : Int) * 64 + 64 by omega], P4.out, s4, e4, b4⟩, by simp [intOf]; omega⟩
    · obtain rfl : j = n := by omega
      replace hP := Lib.hid hP
      replace hs := Lib.hid hs
      replace he := Lib.hid he
      replace hb := Lib.hid hb
      go_wp2_with fail
      go_ret
      exact ⟨_, _, _, _, _, _, rfl, hP.out, hs.out, he.out, hb.out⟩
end Go.Proofs.Ytghogkanhcihbaa
