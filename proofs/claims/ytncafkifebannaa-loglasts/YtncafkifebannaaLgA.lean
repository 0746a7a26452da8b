/-
  What the log's smallest functions answer: how many bytes an entry has, sums, numbers in four bytes; condition: the bytes lie in memory.
-/
import Derived.Test.YtncafkifebannaaDOps
import Derived.Test.YtncafkifebannaaLgO
import Derived.BigQuiet
namespace Go.Proofs.Ytncafkifebannaa
open Go.RowKit
theorem entryLen_any (A : Option Addr) (n c : Nat) (w : World) (hn : n ≤ 140737488355328) : Calls Try.prog 54 #[.slice A n c] w fun e w' => e = .returned (.int .i64 ((M.elen n : Nat) : Int)) ∧ w' = w := by
  go_enter Try.func54, Try.ntmps54
  go_wp2_with fail
  go_ret
  refine ⟨ret_int ?_, rfl⟩
  unfold M.elen M.pad
  omega
theorem sum_any (v : Value) (bs : List Nat) (w : World) (h : BS w w.heap.size v bs) (hn : bs.length ≤ 1048576) : Calls Try.prog 60 #[v] w fun e w' => e = .returned (.int .i64 ((M.chk bs : Nat) : Int)) ∧ w' = w := by
  have hlt := h.lt
  obtain ⟨A, c, rfl, a1, a2, ha⟩ := h
  obtain ⟨n, hN⟩ : ∃ n, n = bs.length := ⟨_, rfl⟩
  rw [← hN] at a1 ha hn ⊢
  have hst := Lib.hid (show ∀ k, k < n → (bs.take (k + 1)).sum = (bs.take k).sum + bs.getD k 0 from fun k hk => M.sum_take_succ bs k (by omega))
  have hle := Lib.hid (show ∀ k, (bs.take k).sum ≤ 267386880 from fun k => by
    have h1 := M.sum_le (bs := bs.take k) (fun b hb => hlt b (List.mem_of_mem_take hb))
    have h2 : (bs.take k).length ≤ bs.length := by rw [List.length_take]; omega
    omega)
  have hall := Lib.hid (show (bs.take n).sum = bs.sum by rw [hN, List.take_length])
  replace hN := Lib.hid hN
  replace ha := Lib.hid ha
  clear hlt
  unfold M.chk
  go_enter Try.func60, Try.ntmps60
  go_wp2_with fail
  go_loopw [3, 8] (fun s i w' => ∃ k : Nat, k ≤ n ∧ i = .int .i64 k ∧ s = .int .i64 ((1 + (bs.take k).sum : Nat) : Int) ∧ w' = w) (fun _ i _ => n - (intOf i).toNat)
  case atStart => exact ⟨0, by omega, rfl, by simp, rfl⟩
  case round =>
    obtain ⟨k, hk, rfl, rfl, rfl⟩ := hrel
    by_cases hlt : k < n
    · obtain ⟨ad, rfl, _, hx, q1⟩ := ha.out k hlt
      have t0 : (0 : Int) ≤ (k : Int) := by omega
      have t1 : (k : Int) < (n : Int) := by omega
      have s1 := hst.out k hlt
      have s2 := hle.out k
      have s3 := hle.out (k + 1)
      obtain ⟨x, hxx⟩ : ∃ x, x = bs.getD k 0 := ⟨_, rfl⟩
      replace q1 : wr.cell? (ad.add k) = some (Value.int .u8 (x : Int)) := by rw [hxx]; exact q1
      replace hx : x < 256 := by rw [hxx]; exact hx
      rw [← hxx] at s1
      obtain ⟨S, hS⟩ : ∃ S, S = (bs.take k).sum := ⟨_, rfl⟩
      rw [← hS] at s1 s2 ⊢
      clear hxx
      go_wp2_with fail
      exact ⟨⟨k + 1, by omega, by go_num, congrArg (Value.int .i64) (by omega), by first | rfl | trivial⟩, by simp [intOf]; omega⟩
    · obtain rfl : k = n := by omega
      go_wp2_with fail
      go_ret
      exact ⟨ret_int (by rw [hall.out]), rfl⟩
/-- Four bytes of a number are written. -/
theorem putNumber_any (w : World) (r c o m d x : Nat) (bs : List Nat) (h : RowAt w r c bs) (hm : 4 ≤ m ∧ o + 4 ≤ bs.length) (hx : x < 4294967296) :
    Calls Try.prog 59 #[.slice (some ⟨r, o, none⟩) m d, .int .i64 (x : Int)] w fun e w' => e = .returned (.tuple #[]) ∧ RowAt w' r c (M.lay bs o (M.by4 x)) ∧ But (· = r) w w' := by
  go_enter Try.func59, Try.ntmps59
  go_wp2_with fail
  go_loopw [5] (fun i w' => ∃ k : Nat, k ≤ 4 ∧ i = .int .i64 k ∧ RowAt w' r c (M.lay bs o ((M.by4 x).take k)) ∧ But (· = r) w w') (fun i _ => 4 - (intOf i).toNat)
  case atStart => exact ⟨0, by omega, rfl, by rw [List.take_zero, M.lay_nil _ _ (by omega)]; exact h, But.refl _ _⟩
  case round =>
    clear h
    obtain ⟨k, hk, rfl, hr, hb⟩ := hrel
    by_cases hlt : k < 4
    · have t0 : (0 : Int) ≤ (k : Int) := by omega
      have t1 : (k : Int) < (m : Int) := by omega
      have t2 : (k : Int) < 4 := by omega
      have hl : (M.lay bs o ((M.by4 x).take k)).length = bs.length := M.lay_length (by rw [List.length_take, M.by4_length]; omega)
      have q1 := hr.cell (o + k) (by omega)
      have q2 := hr.f (o + k)
      have hs := hr.set (o + k) (x / 2 ^ (8 * k) % 256) (by omega) (Nat.mod_lt _ (by omega))
      rw [M.lay_by4 bs o x k hlt hm.2] at hs
      have hs' := Lib.hid (show RowAt (wr.setCell ⟨r, o + k, none⟩ (.int .u8 ((x : Int) / 2 ^ (8 * k) % 256))) r c (M.lay bs o ((M.by4 x).take (k + 1))) by
        have e : (((x / 2 ^ (8 * k) % 256 : Nat) : Int)) = (x : Int) / 2 ^ (8 * k) % 256 := cast_by x k
        rw [← e]; exact hs)
      have hb' := Lib.hid (hb.trans (But.setCell wr r (o + k) (.int .u8 ((x : Int) / 2 ^ (8 * k) % 256))))
      clear hs hr hl hb
      go_wp2_with fail
      exact ⟨⟨k + 1, by omega, by go_num, hs'.out, hb'.out⟩, by clear hx; simp [intOf]; omega⟩
    · obtain rfl : k = 4 := by omega
      rw [List.take_of_length_le (by rw [M.by4_length]; omega)] at hr
      go_wp2_with fail
      go_end0
      exact ⟨rfl, hr, hb⟩
/-- The number of four bytes. -/
theorem number_any (v : Value) (bs : List Nat) (w : World) (h : BS w w.heap.size v bs) (hn : 4 ≤ bs.length) : Calls Try.prog 63 #[v] w fun e w' => e = .returned (.int .i64 ((M.val4 bs : Nat) : Int)) ∧ w' = w := by
  have hol := Lib.hid (or_low4 bs (fun i => by
    rw [List.getD_eq_getElem?_getD]
    cases e : bs[i]? with
    | none => simp
    | some x => exact h.lt x (List.mem_of_getElem? e)))
  obtain ⟨A, c, rfl, a1, a2, ha⟩ := h
  obtain ⟨n, hN⟩ : ∃ n, n = bs.length := ⟨_, rfl⟩
  rw [← hN] at a1 ha hn ⊢
  replace hN := Lib.hid hN
  replace ha := Lib.hid ha
  go_enter Try.func63, Try.ntmps63
  go_wp2_with fail
  go_loopw [3, 5] (fun s i w' => ∃ k : Nat, k ≤ 4 ∧ i = .int .i64 k ∧ s = .int .i64 ((M.low4 bs k : Nat) : Int) ∧ w' = w) (fun _ i _ => 4 - (intOf i).toNat)
  case atStart => exact ⟨0, by omega, rfl, rfl, rfl⟩
  case round =>
    obtain ⟨k, hk, rfl, rfl, rfl⟩ := hrel
    by_cases hlt : k < 4
    · obtain ⟨ad, rfl, _, hx, q1⟩ := ha.out k (by omega)
      have t0 : (0 : Int) ≤ (k : Int) := by omega
      have t1 : (k : Int) < (n : Int) := by omega
      have t2 : (k : Int) < 4 := by omega
      obtain ⟨x, hxx⟩ : ∃ x, x = bs.getD k 0 := ⟨_, rfl⟩
      replace q1 : wr.cell? (ad.add k) = some (Value.int .u8 (x : Int)) := by rw [hxx]; exact q1
      replace hx : x < 256 := by rw [hxx]; exact hx
      have hor := hol.out k hlt
      rw [← hxx] at hor
      replace hor := Lib.hid hor
      clear hxx
      go_wp2_with fail
      refine ⟨⟨k + 1, by omega, by go_num, by rw [hor.out], by first | rfl | trivial⟩, by simp [intOf]; omega⟩
    · obtain rfl : k = 4 := by omega
      go_wp2_with fail
      go_ret
      exact ⟨rfl, by first | rfl | trivial⟩
end Go.Proofs.Ytncafkifebannaa
