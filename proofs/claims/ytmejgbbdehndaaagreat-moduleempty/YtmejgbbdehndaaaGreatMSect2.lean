/-
  What the program's reader of all sections answers; condition: the place and the draft lie in memory that was there at the call.
-/
import Derived.Test.YtmejgbbdehndaaaGreatMSect
import Derived.Laws.EntriesVeiled
namespace Go.Proofs.YtmejgbbdehndaaaGreat
open Go.RowKit
def secTab : Array Value := #[.func (.func 124) #[] #[], .func (.func 125) #[] #[], .func (.func 126) #[] #[], .func (.func 127) #[] #[], .func (.func 128) #[] #[], .func (.func 129) #[] #[], .func (.func 130) #[] #[], .func (.func 131) #[] #[], .func (.func 132) #[] #[], .func (.func 133) #[] #[], .func (.func 134) #[] #[], .func (.func 135) #[] #[]]
theorem Dst.same {w W : World} {S : Nat → Prop} {D last : Nat} {d : M.Dm} {cur : Array Value} (s : Same w W) (h : Dst w S D last d cur) : Dst W S D last d cur := h.keepAll (fun k _ => by rw [s.heap]) (fun _ hb => hb) (by rw [s.heap]) (h.f2.keep (fun _ _ _ _ _ => by rw [s.heap]) (fun _ _ ht => ht) rfl)
theorem SecOk.at {id f : Nat} (h : SecOk id f) {B P D last : Nat} {d : M.Dm} {cur : Array Value} {S : Nat → Prop} {bs : List Nat} {w W : World} (s : Same w W) (h1 : PAt B w P bs) (h2 : Dst w S D last d cur) (h3 : id = 0 ∨ last < id) (h4 : D ≠ P) (h5 : B ≤ D) (h6 : ¬ S P) (h7 : ¬ S D) (h8 : ∀ k, S k → k < w.heap.size) (h9 : ∀ v, cur[2]? = some v → v.ownBlock ≠ some P) :
    Calls Tryz.prog f #[.pointer (some ⟨D, 0, none⟩), .pointer (some ⟨P, 0, none⟩)] W (SecPost id B P D S last d bs w) :=
  (h B P D last d cur S bs W (s.pat h1) (h2.same s) h3 h4 h5 h6 h7 (by rw [s.heap]; exact h8) h9).mono fun e w' hp => by
    rcases hp with ⟨d', r, cur', T, q1, q2, q3, q4, q4', q5⟩ | ⟨q1, q2, q3⟩
    · exact .inl ⟨d', r, cur', T, q1, q2, q3, by rw [← s.heap]; exact q4, q4', s.kb q5⟩
    · exact .inr ⟨q1, q2, s.kb q3⟩
set_option maxRecDepth 100000 in
set_option maxHeartbeats 8000000 in
theorem sec1_any (id B P D last rb ib db : Nat) (d : M.Dm) (cur : Array Value) (S : Nat → Prop) (bs : List Nat) (w : World) (hid : id < 12) (hp : PAt B w P bs) (hD : Dst w S D last d cur) (hl : id = 0 ∨ last < id) (hne : D ≠ P) (hB : B ≤ D) (h6 : ¬ S P) (h7 : ¬ S D) (h8 : ∀ k, S k → k < w.heap.size) (h9 : ∀ v, cur[2]? = some v → v.ownBlock ≠ some P)
    (ht : w.heap[rb]? = some (.cells secTab 148 (0, 0))) (hi : w.cell? ⟨ib, 0, none⟩ = some (.int .i64 (id : Nat))) (hd : w.cell? ⟨db, 0, none⟩ = some (.pointer (some ⟨D, 0, none⟩))) :
    Calls Tryz.prog 101 #[.pointer (some ⟨P, 0, none⟩), .pointer (some ⟨rb, 0, none⟩), .pointer (some ⟨ib, 0, none⟩), .pointer (some ⟨db, 0, none⟩)] w (SecPost id B P D S last d bs w) := by
  have hc : id = 0 ∨ id = 1 ∨ id = 2 ∨ id = 3 ∨ id = 4 ∨ id = 5 ∨ id = 6 ∨ id = 7 ∨ id = 8 ∨ id = 9 ∨ id = 10 ∨ id = 11 := by omega
  clear hid
  rcases hc with rfl | rfl | rfl | rfl | rfl | rfl | rfl | rfl | rfl | rfl | rfl | rfl
  · have tc : w.cell? ⟨rb, 0, none⟩ = some (.func (.func 124) #[] #[]) := (cell_row ht 0).trans rfl
    have cN := Lib.hid (fun (W : World) (s : Same w W) => sec_0.at s hp hD hl hne hB h6 h7 h8 h9)
    clear hp hD h6 h7 h8 h9 ht hl
    simp only [Int.natCast_zero, Int.cast_ofNat_Int] at hi
    go_enter Tryz.func101, Tryz.ntmps101
    go_wp2_with fail
    go_still_tail 5, (by kernel_rfl)
    change wpList _ _ _ _ _ w.drew
    go_wp2_with fail
    refine Calls.mono (cN.out _ (same_drew _)) ?_
    intro e1 w1 hq
    rcases hq with ⟨d', r, cur', T, q1, rfl, q3⟩ | ⟨q1, rfl, q3⟩
    all_goals
      replace q1 := Lib.hid q1
      replace q3 := Lib.hid q3
      go_wp2_with fail
      go_ret
      first | exact .inl ⟨d', r, cur', T, q1.out, rfl, q3.out⟩ | exact .inr ⟨q1.out, rfl, q3.out⟩
  · have tc : w.cell? ⟨rb, 1, none⟩ = some (.func (.func 125) #[] #[]) := (cell_row ht 1).trans rfl
    have cN := Lib.hid (fun (W : World) (s : Same w W) => sec_1.at s hp hD hl hne hB h6 h7 h8 h9)
    clear hp hD h6 h7 h8 h9 ht hl
    simp only [Int.natCast_zero, Int.cast_ofNat_Int] at hi
    go_enter Tryz.func101, Tryz.ntmps101
    go_wp2_with fail
    go_still_tail 5, (by kernel_rfl)
    change wpList _ _ _ _ _ w.drew
    go_wp2_with fail
    refine Calls.mono (cN.out _ (same_drew _)) ?_
    intro e1 w1 hq
    rcases hq with ⟨d', r, cur', T, q1, rfl, q3⟩ | ⟨q1, rfl, q3⟩
    all_goals
      replace q1 := Lib.hid q1
      replace q3 := Lib.hid q3
      go_wp2_with fail
      go_ret
      first | exact .inl ⟨d', r, cur', T, q1.out, rfl, q3.out⟩ | exact .inr ⟨q1.out, rfl, q3.out⟩
  · have tc : w.cell? ⟨rb, 2, none⟩ = some (.func (.func 126) #[] #[]) := (cell_row ht 2).trans rfl
    have cN := Lib.hid (fun (W : World) (s : Same w W) => sec_2.at s hp hD hl hne hB h6 h7 h8 h9)
    clear hp hD h6 h7 h8 h9 ht hl
    simp only [Int.natCast_zero, Int.cast_ofNat_Int] at hi
    go_enter Tryz.func101, Tryz.ntmps101
    go_wp2_with fail
    go_still_tail 5, (by kernel_rfl)
    change wpList _ _ _ _ _ w.drew
    go_wp2_with fail
    refine Calls.mono (cN.out _ (same_drew _)) ?_
    intro e1 w1 hq
    rcases hq with ⟨d', r, cur', T, q1, rfl, q3⟩ | ⟨q1, rfl, q3⟩
    all_goals
      replace q1 := Lib.hid q1
      replace q3 := Lib.hid q3
      go_wp2_with fail
      go_ret
      first | exact .inl ⟨d', r, cur', T, q1.out, rfl, q3.out⟩ | exact .inr ⟨q1.out, rfl, q3.out⟩
  · have tc : w.cell? ⟨rb, 3, none⟩ = some (.func (.func 127) #[] #[]) := (cell_row ht 3).trans rfl
    have cN := Lib.hid (fun (W : World) (s : Same w W) => sec_3.at s hp hD hl hne hB h6 h7 h8 h9)
    clear hp hD h6 h7 h8 h9 ht hl
    simp only [Int.natCast_zero, Int.cast_ofNat_Int] at hi
    go_enter Tryz.func101, Tryz.ntmps101
    go_wp2_with fail
    go_still_tail 5, (by kernel_rfl)
    change wpList _ _ _ _ _ w.drew
    go_wp2_with fail
    refine Calls.mono (cN.out _ (same_drew _)) ?_
    intro e1 w1 hq
    rcases hq with ⟨d', r, cur', T, q1, rfl, q3⟩ | ⟨q1, rfl, q3⟩
    all_goals
      replace q1 := Lib.hid q1
      replace q3 := Lib.hid q3
      go_wp2_with fail
      go_ret
      first | exact .inl ⟨d', r, cur', T, q1.out, rfl, q3.out⟩ | exact .inr ⟨q1.out, rfl, q3.out⟩
  · have tc : w.cell? ⟨rb, 4, none⟩ = some (.func (.func 128) #[] #[]) := (cell_row ht 4).trans rfl
    have cN := Lib.hid (fun (W : World) (s : Same w W) => sec_4.at s hp hD hl hne hB h6 h7 h8 h9)
    clear hp hD h6 h7 h8 h9 ht hl
    simp only [Int.natCast_zero, Int.cast_ofNat_Int] at hi
    go_enter Tryz.func101, Tryz.ntmps101
    go_wp2_with fail
    go_still_tail 5, (by kernel_rfl)
    change wpList _ _ _ _ _ w.drew
    go_wp2_with fail
    refine Calls.mono (cN.out _ (same_drew _)) ?_
    intro e1 w1 hq
    rcases hq with ⟨d', r, cur', T, q1, rfl, q3⟩ | ⟨q1, rfl, q3⟩
    all_goals
      replace q1 := Lib.hid q1
      replace q3 := Lib.hid q3
      go_wp2_with fail
      go_ret
      first | exact .inl ⟨d', r, cur', T, q1.out, rfl, q3.out⟩ | exact .inr ⟨q1.out, rfl, q3.out⟩
  · have tc : w.cell? ⟨rb, 5, none⟩ = some (.func (.func 129) #[] #[]) := (cell_row ht 5).trans rfl
    have cN := Lib.hid (fun (W : World) (s : Same w W) => sec_5.at s hp hD hl hne hB h6 h7 h8 h9)
    clear hp hD h6 h7 h8 h9 ht hl
    simp only [Int.natCast_zero, Int.cast_ofNat_Int] at hi
    go_enter Tryz.func101, Tryz.ntmps101
    go_wp2_with fail
    go_still_tail 5, (by kernel_rfl)
    change wpList _ _ _ _ _ w.drew
    go_wp2_with fail
    refine Calls.mono (cN.out _ (same_drew _)) ?_
    intro e1 w1 hq
    rcases hq with ⟨d', r, cur', T, q1, rfl, q3⟩ | ⟨q1, rfl, q3⟩
    all_goals
      replace q1 := Lib.hid q1
      replace q3 := Lib.hid q3
      go_wp2_with fail
      go_ret
      first | exact .inl ⟨d', r, cur', T, q1.out, rfl, q3.out⟩ | exact .inr ⟨q1.out, rfl, q3.out⟩
  · have tc : w.cell? ⟨rb, 6, none⟩ = some (.func (.func 130) #[] #[]) := (cell_row ht 6).trans rfl
    have cN := Lib.hid (fun (W : World) (s : Same w W) => sec_6.at s hp hD hl hne hB h6 h7 h8 h9)
    clear hp hD h6 h7 h8 h9 ht hl
    simp only [Int.natCast_zero, Int.cast_ofNat_Int] at hi
    go_enter Tryz.func101, Tryz.ntmps101
    go_wp2_with fail
    go_still_tail 5, (by kernel_rfl)
    change wpList _ _ _ _ _ w.drew
    go_wp2_with fail
    refine Calls.mono (cN.out _ (same_drew _)) ?_
    intro e1 w1 hq
    rcases hq with ⟨d', r, cur', T, q1, rfl, q3⟩ | ⟨q1, rfl, q3⟩
    all_goals
      replace q1 := Lib.hid q1
      replace q3 := Lib.hid q3
      go_wp2_with fail
      go_ret
      first | exact .inl ⟨d', r, cur', T, q1.out, rfl, q3.out⟩ | exact .inr ⟨q1.out, rfl, q3.out⟩
  · have tc : w.cell? ⟨rb, 7, none⟩ = some (.func (.func 131) #[] #[]) := (cell_row ht 7).trans rfl
    have cN := Lib.hid (fun (W : World) (s : Same w W) => sec_7.at s hp hD hl hne hB h6 h7 h8 h9)
    clear hp hD h6 h7 h8 h9 ht hl
    simp only [Int.natCast_zero, Int.cast_ofNat_Int] at hi
    go_enter Tryz.func101, Tryz.ntmps101
    go_wp2_with fail
    go_still_tail 5, (by kernel_rfl)
    change wpList _ _ _ _ _ w.drew
    go_wp2_with fail
    refine Calls.mono (cN.out _ (same_drew _)) ?_
    intro e1 w1 hq
    rcases hq with ⟨d', r, cur', T, q1, rfl, q3⟩ | ⟨q1, rfl, q3⟩
    all_goals
      replace q1 := Lib.hid q1
      replace q3 := Lib.hid q3
      go_wp2_with fail
      go_ret
      first | exact .inl ⟨d', r, cur', T, q1.out, rfl, q3.out⟩ | exact .inr ⟨q1.out, rfl, q3.out⟩
  · have tc : w.cell? ⟨rb, 8, none⟩ = some (.func (.func 132) #[] #[]) := (cell_row ht 8).trans rfl
    have cN := Lib.hid (fun (W : World) (s : Same w W) => sec_8.at s hp hD hl hne hB h6 h7 h8 h9)
    clear hp hD h6 h7 h8 h9 ht hl
    simp only [Int.natCast_zero, Int.cast_ofNat_Int] at hi
    go_enter Tryz.func101, Tryz.ntmps101
    go_wp2_with fail
    go_still_tail 5, (by kernel_rfl)
    change wpList _ _ _ _ _ w.drew
    go_wp2_with fail
    refine Calls.mono (cN.out _ (same_drew _)) ?_
    intro e1 w1 hq
    rcases hq with ⟨d', r, cur', T, q1, rfl, q3⟩ | ⟨q1, rfl, q3⟩
    all_goals
      replace q1 := Lib.hid q1
      replace q3 := Lib.hid q3
      go_wp2_with fail
      go_ret
      first | exact .inl ⟨d', r, cur', T, q1.out, rfl, q3.out⟩ | exact .inr ⟨q1.out, rfl, q3.out⟩
  · have tc : w.cell? ⟨rb, 9, none⟩ = some (.func (.func 133) #[] #[]) := (cell_row ht 9).trans rfl
    have cN := Lib.hid (fun (W : World) (s : Same w W) => sec_9.at s hp hD hl hne hB h6 h7 h8 h9)
    clear hp hD h6 h7 h8 h9 ht hl
    simp only [Int.natCast_zero, Int.cast_ofNat_Int] at hi
    go_enter Tryz.func101, Tryz.ntmps101
    go_wp2_with fail
    go_still_tail 5, (by kernel_rfl)
    change wpList _ _ _ _ _ w.drew
    go_wp2_with fail
    refine Calls.mono (cN.out _ (same_drew _)) ?_
    intro e1 w1 hq
    rcases hq with ⟨d', r, cur', T, q1, rfl, q3⟩ | ⟨q1, rfl, q3⟩
    all_goals
      replace q1 := Lib.hid q1
      replace q3 := Lib.hid q3
      go_wp2_with fail
      go_ret
      first | exact .inl ⟨d', r, cur', T, q1.out, rfl, q3.out⟩ | exact .inr ⟨q1.out, rfl, q3.out⟩
  · have tc : w.cell? ⟨rb, 10, none⟩ = some (.func (.func 134) #[] #[]) := (cell_row ht 10).trans rfl
    have cN := Lib.hid (fun (W : World) (s : Same w W) => sec_10.at s hp hD hl hne hB h6 h7 h8 h9)
    clear hp hD h6 h7 h8 h9 ht hl
    simp only [Int.natCast_zero, Int.cast_ofNat_Int] at hi
    go_enter Tryz.func101, Tryz.ntmps101
    go_wp2_with fail
    go_still_tail 5, (by kernel_rfl)
    change wpList _ _ _ _ _ w.drew
    go_wp2_with fail
    refine Calls.mono (cN.out _ (same_drew _)) ?_
    intro e1 w1 hq
    rcases hq with ⟨d', r, cur', T, q1, rfl, q3⟩ | ⟨q1, rfl, q3⟩
    all_goals
      replace q1 := Lib.hid q1
      replace q3 := Lib.hid q3
      go_wp2_with fail
      go_ret
      first | exact .inl ⟨d', r, cur', T, q1.out, rfl, q3.out⟩ | exact .inr ⟨q1.out, rfl, q3.out⟩
  · have tc : w.cell? ⟨rb, 11, none⟩ = some (.func (.func 135) #[] #[]) := (cell_row ht 11).trans rfl
    have cN := Lib.hid (fun (W : World) (s : Same w W) => sec_11.at s hp hD hl hne hB h6 h7 h8 h9)
    clear hp hD h6 h7 h8 h9 ht hl
    simp only [Int.natCast_zero, Int.cast_ofNat_Int] at hi
    go_enter Tryz.func101, Tryz.ntmps101
    go_wp2_with fail
    go_still_tail 5, (by kernel_rfl)
    change wpList _ _ _ _ _ w.drew
    go_wp2_with fail
    refine Calls.mono (cN.out _ (same_drew _)) ?_
    intro e1 w1 hq
    rcases hq with ⟨d', r, cur', T, q1, rfl, q3⟩ | ⟨q1, rfl, q3⟩
    all_goals
      replace q1 := Lib.hid q1
      replace q3 := Lib.hid q3
      go_wp2_with fail
      go_ret
      first | exact .inl ⟨d', r, cur', T, q1.out, rfl, q3.out⟩ | exact .inr ⟨q1.out, rfl, q3.out⟩
end Go.Proofs.YtmejgbbdehndaaaGreat
