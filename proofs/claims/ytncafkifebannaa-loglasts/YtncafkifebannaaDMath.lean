/-
  A disk in plain words: sectors of a row of bytes, a sector written, what a crash may leave; no program is named.
-/
import Derived.Laws.CopyOwn
namespace Go.Proofs.Ytncafkifebannaa.M
open Go
/-- Sector i of bytes. -/
def sec (bs : List Nat) (i : Nat) : List Nat := (bs.drop (i * 64)).take 64
theorem sec_length {bs : List Nat} {i : Nat} (h : i * 64 + 64 ≤ bs.length) : (sec bs i).length = 64 := by
  unfold sec; rw [List.length_take, List.length_drop]; omega
/-- Bytes laid over others from a place on. -/
def lay (bs : List Nat) (a : Nat) (xs : List Nat) : List Nat := splice bs a xs
theorem lay_length {bs xs : List Nat} {a : Nat} (h : a + xs.length ≤ bs.length) : (lay bs a xs).length = bs.length := length_splice bs a xs h
theorem lay_lt {bs xs : List Nat} {a : Nat} (h1 : ∀ b ∈ bs, b < 256) (h2 : ∀ b ∈ xs, b < 256) : ∀ b ∈ lay bs a xs, b < 256 := by
  intro b hb
  unfold lay splice at hb
  rcases List.mem_append.1 hb with hb | hb
  · exact h1 b (List.mem_of_mem_take hb)
  · rcases List.mem_append.1 hb with hb | hb
    · exact h2 b hb
    · exact h1 b (List.mem_of_mem_drop hb)
theorem lay_get {bs xs : List Nat} {a : Nat} (h : a + xs.length ≤ bs.length) (j : Nat) : (lay bs a xs)[j]? = if a ≤ j ∧ j < a + xs.length then xs[j - a]? else bs[j]? := by
  unfold lay splice
  by_cases h1 : j < a
  · rw [if_neg (by omega), List.getElem?_append_left (by rw [List.length_take]; omega), List.getElem?_take_of_lt h1]
  · rw [List.getElem?_append_right (by rw [List.length_take]; omega), List.length_take, Nat.min_eq_left (by omega)]
    by_cases h2 : j < a + xs.length
    · rw [if_pos (by omega), List.getElem?_append_left (by omega)]
    · rw [if_neg (by omega), List.getElem?_append_right (by omega), List.getElem?_drop]
      congr 1; omega
theorem sec_get (bs : List Nat) (i j : Nat) : (sec bs i)[j]? = if j < 64 then bs[i * 64 + j]? else none := by
  unfold sec
  by_cases h : j < 64
  · rw [if_pos h, List.getElem?_take_of_lt h, List.getElem?_drop]
  · rw [if_neg h]
    exact List.getElem?_eq_none (by rw [List.length_take]; omega)
theorem sec_lay {bs xs : List Nat} {i : Nat} (hx : xs.length = 64) (h : i * 64 + 64 ≤ bs.length) (j : Nat) : sec (lay bs (i * 64) xs) j = if j = i then xs else sec bs j := by
  apply List.ext_getElem?
  intro k
  rw [sec_get, lay_get (by omega)]
  by_cases hj : j = i
  · subst hj
    rw [if_pos rfl]
    by_cases hk : k < 64
    · rw [if_pos hk, if_pos (by omega), Nat.add_sub_cancel_left]
    · rw [if_neg hk]
      exact (List.getElem?_eq_none (by omega)).symm
  · rw [if_neg hj, sec_get]
    by_cases hk : k < 64
    · rw [if_pos hk, if_pos hk, if_neg (by omega)]
    · rw [if_neg hk, if_neg hk]
theorem sec_lay_same {bs xs : List Nat} {i : Nat} (hx : xs.length = 64) (h : i * 64 + 64 ≤ bs.length) : sec (lay bs (i * 64) xs) i = xs := by rw [sec_lay hx h, if_pos rfl]
theorem sec_lay_other {bs xs : List Nat} {i j : Nat} (hx : xs.length = 64) (h : i * 64 + 64 ≤ bs.length) (hj : j ≠ i) : sec (lay bs (i * 64) xs) j = sec bs j := by rw [sec_lay hx h, if_neg hj]
theorem sec_lt {bs : List Nat} (h : ∀ b ∈ bs, b < 256) (i : Nat) : ∀ b ∈ sec bs i, b < 256 := fun b hb => h b (List.mem_of_mem_drop (List.mem_of_mem_take hb))
theorem sec_app0 (a b : List Nat) (h : a.length = 64) : sec (a ++ b) 0 = a := by
  unfold sec
  rw [Nat.zero_mul, List.drop_zero, List.take_left' h]
theorem sec_appS (a b : List Nat) (h : a.length = 64) (j : Nat) : sec (a ++ b) (j + 1) = sec b j := by
  unfold sec
  rw [show (j + 1) * 64 = a.length + j * 64 by omega, List.drop_append]
  rw [List.drop_eq_nil_of_le (by omega), List.nil_append, Nat.add_sub_cancel_left]
/-- What a sector may be found as, and the picks behind it. -/
def pick (s e : List Nat) (ps : List Int) : List Nat × List Int := if s = e then (s, ps) else match ps with | [] => (s, []) | p :: r => (if p % 2 = 1 then e else s, r)
/-- What may be found of n sectors from i on. -/
def crash (S E : List Nat) : Nat → Nat → List Int → List Nat
  | 0, _, _ => []
  | n + 1, i, ps => (pick (sec S i) (sec E i) ps).1 ++ crash S E n (i + 1) (pick (sec S i) (sec E i) ps).2
theorem pick_or (s e : List Nat) (ps : List Int) : (pick s e ps).1 = s ∨ (pick s e ps).1 = e := by
  unfold pick
  split
  · exact .inl rfl
  · split
    · exact .inl rfl
    · split
      · exact .inr rfl
      · exact .inl rfl
theorem crash_length {S E : List Nat} : ∀ {n i : Nat} {ps : List Int}, (i + n) * 64 ≤ S.length → (i + n) * 64 ≤ E.length → (crash S E n i ps).length = n * 64
  | 0, _, _, _, _ => rfl
  | n + 1, i, ps, h1, h2 => by
    unfold crash
    rw [List.length_append, crash_length (by omega) (by omega)]
    have h3 : (pick (sec S i) (sec E i) ps).1.length = 64 := by
      rcases pick_or (sec S i) (sec E i) ps with h | h
      · rw [h]; exact sec_length (by omega)
      · rw [h]; exact sec_length (by omega)
    omega
theorem crash_sec {S E : List Nat} : ∀ {n i : Nat} {ps : List Int} (j : Nat), (i + n) * 64 ≤ S.length → (i + n) * 64 ≤ E.length → j < n → sec (crash S E n i ps) j = sec S (i + j) ∨ sec (crash S E n i ps) j = sec E (i + j)
  | 0, _, _, j, _, _, hj => by omega
  | n + 1, i, ps, j, h1, h2, hj => by
    have h3 : (pick (sec S i) (sec E i) ps).1.length = 64 := by
      rcases pick_or (sec S i) (sec E i) ps with h | h
      · rw [h]; exact sec_length (by omega)
      · rw [h]; exact sec_length (by omega)
    unfold crash
    cases j with
    | zero =>
      rw [sec_app0 _ _ h3]
      exact pick_or _ _ _
    | succ j =>
      rw [sec_appS _ _ h3, show i + (j + 1) = (i + 1) + j by omega]
      exact crash_sec j (by omega) (by omega) (by omega)
theorem crash_lt {S E : List Nat} (h1 : ∀ b ∈ S, b < 256) (h2 : ∀ b ∈ E, b < 256) : ∀ {n i : Nat} {ps : List Int}, ∀ b ∈ crash S E n i ps, b < 256
  | 0, _, _, b, hb => by cases hb
  | n + 1, i, ps, b, hb => by
    unfold crash at hb
    rcases List.mem_append.1 hb with hb | hb
    · rcases pick_or (sec S i) (sec E i) ps with h | h
      · rw [h] at hb; exact sec_lt h1 i b hb
      · rw [h] at hb; exact sec_lt h2 i b hb
    · exact crash_lt h1 h2 b hb
/-- The sector of a byte. -/
def pat (b : Int) : List Nat := (List.range 64).map fun i : Nat => ((b + (i : Int)) % 256).toNat
theorem pat_length (b : Int) : (pat b).length = 64 := by simp [pat]
theorem pat_get (b : Int) (i : Nat) (h : i < 64) : (pat b).getD i 0 = ((b + i) % 256).toNat := by
  rw [List.getD_eq_getElem?_getD]
  simp [pat, h]
theorem pat_lt (b : Int) : ∀ x ∈ pat b, x < 256 := by
  intro x hx
  obtain ⟨i, _, rfl⟩ := List.mem_map.1 hx
  omega
theorem pat_mod (b : Int) : pat (b % 256) = pat b := by
  unfold pat
  refine List.map_congr_left fun i _ => ?_
  congr 1
  omega
/-- What is written so far. -/
def half (b : Int) (k : Nat) : List Nat := (pat b).take k ++ List.replicate (64 - k) 0
theorem half_zero (b : Int) : half b 0 = List.replicate 64 0 := by simp [half]
theorem half_all (b : Int) : half b 64 = pat b := by
  unfold half
  rw [List.take_of_length_le (by rw [pat_length]; omega)]; simp
theorem half_step (b : Int) (k : Nat) (h : k < 64) : (half b k).set k ((b + k) % 256).toNat = half b (k + 1) := by
  unfold half
  have h1 : ((pat b).take k).length = k := by rw [List.length_take, pat_length]; omega
  rw [List.set_append_right _ _ (by omega), h1, Nat.sub_self, List.take_add_one, List.append_assoc]
  congr 1
  have e : (pat b)[k]? = some ((b + k) % 256).toNat := by
    have := pat_get b k h
    rw [List.getD_eq_getElem?_getD, List.getElem?_eq_getElem (by rw [pat_length]; exact h)] at this
    rw [List.getElem?_eq_getElem (by rw [pat_length]; exact h)]
    exact congrArg some this
  rw [e]
  rw [show 64 - k = (64 - (k + 1)) + 1 by omega, List.replicate_succ, List.set_cons_zero]
  rfl
theorem half_length (b : Int) (k : Nat) (h : k ≤ 64) : (half b k).length = 64 := by
  unfold half; rw [List.length_append, List.length_take, pat_length, List.length_replicate]; omega
/-- The sector of a byte, or noughts. -/
def fill (b : Int) : List Nat := if b < 0 then List.replicate 64 0 else pat b
theorem fill_length (b : Int) : (fill b).length = 64 := by unfold fill; split; simp; exact pat_length b
/-- The first of the troubles. -/
def least (ts : List Int) : Int := ts.foldl min 9223372036854775807
theorem least_step (ts : List Int) (k : Nat) (h : k < ts.length) : least (ts.take (k + 1)) = min (least (ts.take k)) (ts.getD k 0) := by
  unfold least
  rw [List.take_add_one, List.foldl_append, List.getElem?_eq_getElem h, List.getD_eq_getElem?_getD, List.getElem?_eq_getElem h]
  rfl
theorem foldl_min_le (ts : List Int) : ∀ (a j : Int), ts.foldl min a ≤ j ↔ a ≤ j ∨ ∃ t ∈ ts, t ≤ j := by
  induction ts with
  | nil => intro a j; simp
  | cons x r ih =>
    intro a j
    rw [List.foldl_cons, ih]
    simp only [List.mem_cons, exists_eq_or_imp]
    constructor
    · rintro (h | h)
      · by_cases hx : x ≤ j
        · exact .inr (.inl hx)
        · exact .inl (by omega)
      · exact .inr (.inr h)
    · rintro (h | h | h)
      · exact .inl (by omega)
      · exact .inl (by omega)
      · exact .inr h
theorem least_le (ts : List Int) (j : Int) (h : j < 9223372036854775807) : least ts ≤ j ↔ ∃ t ∈ ts, t ≤ j := by
  unfold least
  rw [foldl_min_le]
  constructor
  · rintro (h1 | h1)
    · omega
    · exact h1
  · exact .inr
theorem least_rg (ts : List Int) (h : ∀ t ∈ ts, 1 ≤ t) : 1 ≤ least ts ∧ least ts ≤ 9223372036854775807 := by
  constructor
  · by_cases e : 1 ≤ least ts
    · exact e
    · obtain ⟨t, h1, h2⟩ := (least_le ts 0 (by omega)).1 (by omega)
      have := h t h1
      omega
  · exact (foldl_min_le ts _ _).2 (.inl (by omega))
end Go.Proofs.Ytncafkifebannaa.M
