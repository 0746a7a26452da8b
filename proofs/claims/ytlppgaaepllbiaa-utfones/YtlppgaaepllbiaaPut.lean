/-
  What package utf's writer of one point puts behind bytes of one's own, for every point by as few bytes as may be; no condition beyond that.
-/
import Derived.Test.YtlppgaaepllbiaaRef
namespace Go.Proofs.Ytlppgaaepllbiaa
open Go.RowKit
/-- One byte put behind bytes of one's own, within a region that draws. -/
theorem step_push {ops : Array Oper} {o : Oper} {a : Act} {w : World} {K : Act → World → Prop} {Q : Exit → Act → World → Prop} {E : Prop} (hgd : o.guard = none) (s x : Operand)
    (ho : o.op = .call { callee := .builtin .append, args := #[s, x], argTypes := #[24, 24] }) (base : Nat) (v : Value) (bs : List Nat) (hs : a.eval s = v) (hown : w.ownsRow base 5 1 v bs.length (vals bs))
    (ad : Addr) (y : Nat) (hx : a.eval x = .slice (some ad) 1 1) (hA : w.cell? ad = some (.int .u8 (y : Int))) (h63 : bs.length + 1 ≤ 140737488355328) (hbase : base ≤ w.heap.size)
    (h : ∀ v' w', w'.ownsRow base 5 1 v' (bs ++ [y]).length (vals (bs ++ [y])) → w.grownBy w' v.ownBlock → K (a.put o.dst v') w') :
    if Region.wanted o (yielded ops a.tmps) = true then Oper.wp Try.prog o a w K Q else E := by
  have hw : Region.wanted o (yielded ops a.tmps) = true := by simp [Region.wanted, hgd]
  rw [if_pos hw]
  obtain ⟨i0, hi0, hz0, hz1, hz2⟩ := info_parts u8_info
  obtain ⟨v', w', h1, h2, h3, _⟩ := run_append_own_at (P := Try.prog) w base 24 o.type 5 i0 _ 1 1 Try.underlying24 hi0 hz0 hz1 hz2 rfl (by omega) v bs.length (vals bs) hown ad 1 1 [.int .u8 (y : Int)]
    rfl (fun j u hu => by
      match j, hu with
      | 0, hu => simp at hu; subst hu; simpa [Addr.add] using hA) (fun u hu => by simp at hu; subst hu; rfl) (by unfold maxLen; omega) (by omega) hbase
  unfold Oper.wp execOp
  simp only [ho, resolve, invoke, builtin, Sem.run_bind, Sem.run_pure, Result.andThen_ok, List.map_toArray, List.map_cons, List.map_nil, hs, hx, h1]
  refine h v' w' ?_ h3
  rw [vals_append, List.length_append]
  exact h2
theorem mark_1 (w : World) : Calls Try.prog 33 #[.int .i64 1] w fun e w' => e = .returned (.int .u8 0) ∧ w = w' := firstMark_any 1 w (by omega) (by omega)
theorem mark_2 (w : World) : Calls Try.prog 33 #[.int .i64 2] w fun e w' => e = .returned (.int .u8 192) ∧ w = w' := firstMark_any 2 w (by omega) (by omega)
theorem mark_3 (w : World) : Calls Try.prog 33 #[.int .i64 3] w fun e w' => e = .returned (.int .u8 224) ∧ w = w' := firstMark_any 3 w (by omega) (by omega)
theorem mark_4 (w : World) : Calls Try.prog 33 #[.int .i64 4] w fun e w' => e = .returned (.int .u8 240) ∧ w = w' := firstMark_any 4 w (by omega) (by omega)
def PutPost (pre : List Nat) (p base : Nat) (w : World) (e : Ending) (w' : World) : Prop := ∃ v', e = .returned v' ∧ w'.ownsRow base 5 1 v' (pre ++ M.enc p).length (vals (pre ++ M.enc p)) ∧ Below base w w'
theorem head_byte (m : Nat) (y : Int) (z : Nat) (hm : m = 0 ∨ m = 192 ∨ m = 224 ∨ m = 240) (h0 : 0 ≤ y) (h1 : m = 0 → y < 128) (h2 : m = 192 → y < 32) (h3 : m = 224 → y < 16) (h4 : m = 240 → y < 8) (hz : (m : Int) + y = (z : Int)) :
    bits .or .u8 (m : Int) (IntKind.u8.wrap y) = (z : Int) := by
  have hlt : y < 128 := by rcases hm with h | h | h | h <;> omega
  have e : IntKind.u8.wrap y = y := by rw [IntKind.wrap_u8]; omega
  rw [e]
  rcases hm with rfl | rfl | rfl | rfl
  · obtain ⟨q, rfl⟩ := Int.eq_ofNat_of_zero_le h0
    rw [u8_or_nat _ _ (by omega) (by omega), Nat.zero_or]
    omega
  · rw [← hz]; exact u8_or192 _ h0 (h2 rfl)
  · rw [← hz]; exact u8_or224 _ h0 (h3 rfl)
  · rw [← hz]; exact u8_or240 _ h0 (h4 rfl)
theorem enc_take1 (p : Nat) (z : Nat) (h : (M.enc p).getD 0 0 = z) : (M.enc p).take 1 = [z] := by
  have hl := M.enc_length p
  have h2 := M.wid_range p
  rw [take_succ' _ 0 (by omega), h]; rfl
def PRel1 (pre : List Nat) (p base : Nat) (w : World) (b i : Value) (w' : World) : Prop := Below base w w' ∧ ((i = .int .i64 (-1) ∧ w'.ownsRow base 5 1 b (pre ++ (M.enc p).take 1).length (vals (pre ++ (M.enc p).take 1))))
set_option maxRecDepth 100000 in
theorem put_1 (v : Value) (pre : List Nat) (x : Int) (p base : Nat) (w : World) (hx : x.toNat = p) (h1 : 0 ≤ x) (h2 : x < 128) (ho : w.ownsRow base 5 1 v pre.length (vals pre)) (hl : pre.length ≤ 100000) (hb : base ≤ w.heap.size) :
    Calls Try.prog 25 #[v, .int .i32 x, .int .i64 1] w (PutPost pre p base w) := by
  obtain ⟨i0, hi0, hz0, hz1, hz2⟩ := info_parts u8_info
  have hwd := Lib.hid (show M.wid p = 1 by unfold M.wid; rw [if_pos (by omega)])
  have hh := Lib.hid (head_byte 0 x (p) (by omega) (by omega) (by omega) (by omega) (by omega) (by omega) (by omega))
  have he1 := Lib.hid (enc_take1 p (p) (by rw [M.enc1 (by omega)]; rfl))
  replace hx := Lib.hid hx
  replace ho := Lib.hid ho
  have k0 : IntKind.i64.wrap 0 = 0 := by decide
  go_enter Try.func25, Try.ntmps25
  go_wp2_with fail
  go_region_held3 (fun _ => True) (trivial)
    (first
      | (go_at_call 33; (with_reducible refine (mark_1 _).mono ?_); rintro e w2 ⟨rfl, rfl⟩)
      | (refine step_push rfl _ _ rfl base v pre (by rfl) (ho.out.drew.alloc _) ⟨w.heap.size, 0, none⟩ (p) (by rfl) (by simpa using hh.out) (by omega) (by simp; omega) ?_; intro v3 w3 o3 g3))
  have hb3 : Below base w w3 := (((Below.refl _ _).drew).alloc (by simpa using hb) _).grown g3 (by simp; omega) (fun q hq => (ho.out.lt q hq).1)
  replace o3 := Lib.hid o3
  clear g3
  go_wp2
  go_loopw [0, 7] (fun b i w' => PRel1 pre p base w b i w') (fun _ i _ => (intOf i + 1).toNat)
  case atStart =>
    have := o3.out
    rw [← he1.out] at this
    exact ⟨hb3, ⟨rfl, this⟩⟩
  case round =>
    obtain ⟨hbr, ⟨rfl, hown⟩⟩ := hrel
    · -- end
      replace hown := Lib.hid hown
      go_wp2
      go_ret
      refine ⟨_, rfl, ?_, hbr⟩
      have := hown.out
      rw [List.take_of_length_le (by rw [M.enc_length, hwd.out]; omega)] at this
      exact this
def PRel2 (pre : List Nat) (p base : Nat) (w : World) (b i : Value) (w' : World) : Prop := Below base w w' ∧ ((i = .int .i64 0 ∧ w'.ownsRow base 5 1 b (pre ++ (M.enc p).take 1).length (vals (pre ++ (M.enc p).take 1))) ∨ (i = .int .i64 (-1) ∧ w'.ownsRow base 5 1 b (pre ++ (M.enc p).take 2).length (vals (pre ++ (M.enc p).take 2))))
set_option maxRecDepth 100000 in
theorem put_2 (v : Value) (pre : List Nat) (x : Int) (p base : Nat) (w : World) (hx : x.toNat = p) (h1 : 128 ≤ x) (h2 : x < 2048) (ho : w.ownsRow base 5 1 v pre.length (vals pre)) (hl : pre.length ≤ 100000) (hb : base ≤ w.heap.size) :
    Calls Try.prog 25 #[v, .int .i32 x, .int .i64 2] w (PutPost pre p base w) := by
  obtain ⟨i0, hi0, hz0, hz1, hz2⟩ := info_parts u8_info
  have hwd := Lib.hid (show M.wid p = 2 by unfold M.wid; rw [if_neg (by omega), if_pos (by omega)])
  have hh := Lib.hid (head_byte 192 (x / 64) (192 + p / 64) (by omega) (by omega) (by omega) (by omega) (by omega) (by omega) (by omega))
  have he1 := Lib.hid (enc_take1 p (192 + p / 64) (by rw [M.enc2 (by omega) (by omega)]; rfl))
  replace hx := Lib.hid hx
  replace ho := Lib.hid ho
  have k1 : IntKind.i64.wrap 1 = 1 := by decide
  have k6 : IntKind.i64.wrap 6 = 6 := by decide
  have kw : IntKind.u8.wrap (x / 64) = (x / 64) := by rw [IntKind.wrap_u8]; omega
  have kv : bits .or .u8 192 (x / 64) = 192 + (x / 64) := u8_or192 _ (by omega) (by omega)
  replace hh := Lib.hid (show (192 : Int) + (x / 64) = ((192 + p / 64 : Nat) : Int) by have e := hx.out; omega)
  go_enter Try.func25, Try.ntmps25
  go_wp2_with fail
  go_region_held3 (fun _ => True) (trivial)
    (first
      | (go_at_call 33; (with_reducible refine (mark_2 _).mono ?_); rintro e w2 ⟨rfl, rfl⟩)
      | (refine step_push rfl _ _ rfl base v pre (by rfl) (ho.out.drew.alloc _) ⟨w.heap.size, 0, none⟩ (192 + p / 64) (by rfl) (by simpa using hh.out) (by omega) (by simp; omega) ?_; intro v3 w3 o3 g3))
  have hb3 : Below base w w3 := (((Below.refl _ _).drew).alloc (by simpa using hb) _).grown g3 (by simp; omega) (fun q hq => (ho.out.lt q hq).1)
  replace o3 := Lib.hid o3
  clear g3
  go_wp2
  go_loopw [0, 7] (fun b i w' => PRel2 pre p base w b i w') (fun _ i _ => (intOf i + 1).toNat)
  case atStart =>
    have := o3.out
    rw [← he1.out] at this
    exact ⟨hb3, .inl ⟨rfl, this⟩⟩
  case round =>
    obtain ⟨hbr, ⟨rfl, hown⟩ | ⟨rfl, hown⟩⟩ := hrel
    · -- i = 0
      have hty := Lib.hid (show (128 : Int) + x % 64 = (((M.enc p).getD 1 0 : Nat) : Int) by
        have e := hx.out
        rw [M.enc2 (by omega) (by omega)]; simp; omega)
      have hlen : (pre ++ (M.enc p).take 1).length ≤ 100004 := by
        have := M.enc_length p
        have h9 := M.wid_range p
        rw [List.length_append, List.length_take]; omega
      replace hown := Lib.hid hown
      obtain ⟨L, hL⟩ : ∃ L, L = pre ++ (M.enc p).take 1 := ⟨_, rfl⟩
      rw [← hL] at hown hlen
      replace hL := Lib.hid hL
      go_wp2_with (first
        | (at_builtin; refine wpList_append_own _ rfl _ _ 24 rfl base 5 i0 (.int .u8 0) 1 1 Try.underlying24 hi0 hz0 hz1 hz2 rfl (by decide) u0 L.length (vals L) rfl (hown.out.alloc _) ⟨_, 0, none⟩ 1 1 [_] rfl rfl (cell_one_new _ _ _) (fun x hx => by simp at hx; subst hx; rfl) (by unfold maxLen; omega) (by omega) (by have := hbr.size; simp; omega) ?_; intro v' w4 hown' hgrow3 hnil3))
      refine ⟨⟨(hbr.alloc (by have := hbr.size; omega) _).grown hgrow3 (by have := hbr.size; simp; omega) (fun q hq => (hown.out.lt q hq).1), .inr (⟨rfl, ?_⟩)⟩, by simp [intOf]⟩
      have e2 : (pre ++ (M.enc p).take 2) = L ++ [(M.enc p).getD 1 0] := by
        rw [hL.out, List.append_assoc, ← take_succ' (M.enc p) 1 (by rw [M.enc_length]; rw [hwd.out]; omega)]
      rw [e2, vals_append, List.length_append]
      simp only [hty.out] at hown'
      exact hown'
    · -- end
      replace hown := Lib.hid hown
      go_wp2
      go_ret
      refine ⟨_, rfl, ?_, hbr⟩
      have := hown.out
      rw [List.take_of_length_le (by rw [M.enc_length, hwd.out]; omega)] at this
      exact this
def PRel3 (pre : List Nat) (p base : Nat) (w : World) (b i : Value) (w' : World) : Prop := Below base w w' ∧ ((i = .int .i64 1 ∧ w'.ownsRow base 5 1 b (pre ++ (M.enc p).take 1).length (vals (pre ++ (M.enc p).take 1))) ∨ (i = .int .i64 0 ∧ w'.ownsRow base 5 1 b (pre ++ (M.enc p).take 2).length (vals (pre ++ (M.enc p).take 2))) ∨ (i = .int .i64 (-1) ∧ w'.ownsRow base 5 1 b (pre ++ (M.enc p).take 3).length (vals (pre ++ (M.enc p).take 3))))
set_option maxRecDepth 100000 in
theorem put_3 (v : Value) (pre : List Nat) (x : Int) (p base : Nat) (w : World) (hx : x.toNat = p) (h1 : 2048 ≤ x) (h2 : x < 65536) (ho : w.ownsRow base 5 1 v pre.length (vals pre)) (hl : pre.length ≤ 100000) (hb : base ≤ w.heap.size) :
    Calls Try.prog 25 #[v, .int .i32 x, .int .i64 3] w (PutPost pre p base w) := by
  obtain ⟨i0, hi0, hz0, hz1, hz2⟩ := info_parts u8_info
  have hwd := Lib.hid (show M.wid p = 3 by unfold M.wid; rw [if_neg (by omega), if_neg (by omega), if_pos (by omega)])
  have hh := Lib.hid (head_byte 224 (x / 4096) (224 + p / 4096) (by omega) (by omega) (by omega) (by omega) (by omega) (by omega) (by omega))
  have he1 := Lib.hid (enc_take1 p (224 + p / 4096) (by rw [M.enc3 (by omega) (by omega)]; rfl))
  replace hx := Lib.hid hx
  replace ho := Lib.hid ho
  have k2 : IntKind.i64.wrap 2 = 2 := by decide
  have k12 : IntKind.i64.wrap 12 = 12 := by decide
  have kw : IntKind.u8.wrap (x / 4096) = (x / 4096) := by rw [IntKind.wrap_u8]; omega
  have kv : bits .or .u8 224 (x / 4096) = 224 + (x / 4096) := u8_or224 _ (by omega) (by omega)
  replace hh := Lib.hid (show (224 : Int) + (x / 4096) = ((224 + p / 4096 : Nat) : Int) by have e := hx.out; omega)
  go_enter Try.func25, Try.ntmps25
  go_wp2_with fail
  go_region_held3 (fun _ => True) (trivial)
    (first
      | (go_at_call 33; (with_reducible refine (mark_3 _).mono ?_); rintro e w2 ⟨rfl, rfl⟩)
      | (refine step_push rfl _ _ rfl base v pre (by rfl) (ho.out.drew.alloc _) ⟨w.heap.size, 0, none⟩ (224 + p / 4096) (by rfl) (by simpa using hh.out) (by omega) (by simp; omega) ?_; intro v3 w3 o3 g3))
  have hb3 : Below base w w3 := (((Below.refl _ _).drew).alloc (by simpa using hb) _).grown g3 (by simp; omega) (fun q hq => (ho.out.lt q hq).1)
  replace o3 := Lib.hid o3
  clear g3
  go_wp2
  go_loopw [0, 7] (fun b i w' => PRel3 pre p base w b i w') (fun _ i _ => (intOf i + 1).toNat)
  case atStart =>
    have := o3.out
    rw [← he1.out] at this
    exact ⟨hb3, .inl ⟨rfl, this⟩⟩
  case round =>
    obtain ⟨hbr, ⟨rfl, hown⟩ | ⟨rfl, hown⟩ | ⟨rfl, hown⟩⟩ := hrel
    · -- i = 1
      have hty := Lib.hid (show (128 : Int) + (x / 64) % 64 = (((M.enc p).getD 1 0 : Nat) : Int) by
        have e := hx.out
        rw [M.enc3 (by omega) (by omega)]; simp; omega)
      have hlen : (pre ++ (M.enc p).take 1).length ≤ 100004 := by
        have := M.enc_length p
        have h9 := M.wid_range p
        rw [List.length_append, List.length_take]; omega
      replace hown := Lib.hid hown
      obtain ⟨L, hL⟩ : ∃ L, L = pre ++ (M.enc p).take 1 := ⟨_, rfl⟩
      rw [← hL] at hown hlen
      replace hL := Lib.hid hL
      go_wp2_with (first
        | (at_builtin; refine wpList_append_own _ rfl _ _ 24 rfl base 5 i0 (.int .u8 0) 1 1 Try.underlying24 hi0 hz0 hz1 hz2 rfl (by decide) u0 L.length (vals L) rfl (hown.out.alloc _) ⟨_, 0, none⟩ 1 1 [_] rfl rfl (cell_one_new _ _ _) (fun x hx => by simp at hx; subst hx; rfl) (by unfold maxLen; omega) (by omega) (by have := hbr.size; simp; omega) ?_; intro v' w4 hown' hgrow3 hnil3))
      refine ⟨⟨(hbr.alloc (by have := hbr.size; omega) _).grown hgrow3 (by have := hbr.size; simp; omega) (fun q hq => (hown.out.lt q hq).1), .inr (.inl ⟨rfl, ?_⟩)⟩, by simp [intOf]⟩
      have e2 : (pre ++ (M.enc p).take 2) = L ++ [(M.enc p).getD 1 0] := by
        rw [hL.out, List.append_assoc, ← take_succ' (M.enc p) 1 (by rw [M.enc_length]; rw [hwd.out]; omega)]
      rw [e2, vals_append, List.length_append]
      simp only [hty.out] at hown'
      exact hown'
    · -- i = 0
      have hty := Lib.hid (show (128 : Int) + x % 64 = (((M.enc p).getD 2 0 : Nat) : Int) by
        have e := hx.out
        rw [M.enc3 (by omega) (by omega)]; simp; omega)
      have hlen : (pre ++ (M.enc p).take 2).length ≤ 100004 := by
        have := M.enc_length p
        have h9 := M.wid_range p
        rw [List.length_append, List.length_take]; omega
      replace hown := Lib.hid hown
      obtain ⟨L, hL⟩ : ∃ L, L = pre ++ (M.enc p).take 2 := ⟨_, rfl⟩
      rw [← hL] at hown hlen
      replace hL := Lib.hid hL
      go_wp2_with (first
        | (at_builtin; refine wpList_append_own _ rfl _ _ 24 rfl base 5 i0 (.int .u8 0) 1 1 Try.underlying24 hi0 hz0 hz1 hz2 rfl (by decide) u0 L.length (vals L) rfl (hown.out.alloc _) ⟨_, 0, none⟩ 1 1 [_] rfl rfl (cell_one_new _ _ _) (fun x hx => by simp at hx; subst hx; rfl) (by unfold maxLen; omega) (by omega) (by have := hbr.size; simp; omega) ?_; intro v' w4 hown' hgrow3 hnil3))
      refine ⟨⟨(hbr.alloc (by have := hbr.size; omega) _).grown hgrow3 (by have := hbr.size; simp; omega) (fun q hq => (hown.out.lt q hq).1), .inr (.inr (⟨rfl, ?_⟩))⟩, by simp [intOf]⟩
      have e2 : (pre ++ (M.enc p).take 3) = L ++ [(M.enc p).getD 2 0] := by
        rw [hL.out, List.append_assoc, ← take_succ' (M.enc p) 2 (by rw [M.enc_length]; rw [hwd.out]; omega)]
      rw [e2, vals_append, List.length_append]
      simp only [hty.out] at hown'
      exact hown'
    · -- end
      replace hown := Lib.hid hown
      go_wp2
      go_ret
      refine ⟨_, rfl, ?_, hbr⟩
      have := hown.out
      rw [List.take_of_length_le (by rw [M.enc_length, hwd.out]; omega)] at this
      exact this
def PRel4 (pre : List Nat) (p base : Nat) (w : World) (b i : Value) (w' : World) : Prop := Below base w w' ∧ ((i = .int .i64 2 ∧ w'.ownsRow base 5 1 b (pre ++ (M.enc p).take 1).length (vals (pre ++ (M.enc p).take 1))) ∨ (i = .int .i64 1 ∧ w'.ownsRow base 5 1 b (pre ++ (M.enc p).take 2).length (vals (pre ++ (M.enc p).take 2))) ∨ (i = .int .i64 0 ∧ w'.ownsRow base 5 1 b (pre ++ (M.enc p).take 3).length (vals (pre ++ (M.enc p).take 3))) ∨ (i = .int .i64 (-1) ∧ w'.ownsRow base 5 1 b (pre ++ (M.enc p).take 4).length (vals (pre ++ (M.enc p).take 4))))
set_option maxRecDepth 100000 in
theorem put_4 (v : Value) (pre : List Nat) (x : Int) (p base : Nat) (w : World) (hx : x.toNat = p) (h1 : 65536 ≤ x) (h2 : x < 1114112) (ho : w.ownsRow base 5 1 v pre.length (vals pre)) (hl : pre.length ≤ 100000) (hb : base ≤ w.heap.size) :
    Calls Try.prog 25 #[v, .int .i32 x, .int .i64 4] w (PutPost pre p base w) := by
  obtain ⟨i0, hi0, hz0, hz1, hz2⟩ := info_parts u8_info
  have hwd := Lib.hid (show M.wid p = 4 by unfold M.wid; rw [if_neg (by omega), if_neg (by omega), if_neg (by omega)])
  have hh := Lib.hid (head_byte 240 (x / 262144) (240 + p / 262144) (by omega) (by omega) (by omega) (by omega) (by omega) (by omega) (by omega))
  have he1 := Lib.hid (enc_take1 p (240 + p / 262144) (by rw [M.enc4 (by omega)]; rfl))
  replace hx := Lib.hid hx
  replace ho := Lib.hid ho
  have k3 : IntKind.i64.wrap 3 = 3 := by decide
  have k18 : IntKind.i64.wrap 18 = 18 := by decide
  have kw : IntKind.u8.wrap (x / 262144) = (x / 262144) := by rw [IntKind.wrap_u8]; omega
  have kv : bits .or .u8 240 (x / 262144) = 240 + (x / 262144) := u8_or240 _ (by omega) (by omega)
  replace hh := Lib.hid (show (240 : Int) + (x / 262144) = ((240 + p / 262144 : Nat) : Int) by have e := hx.out; omega)
  go_enter Try.func25, Try.ntmps25
  go_wp2_with fail
  go_region_held3 (fun _ => True) (trivial)
    (first
      | (go_at_call 33; (with_reducible refine (mark_4 _).mono ?_); rintro e w2 ⟨rfl, rfl⟩)
      | (refine step_push rfl _ _ rfl base v pre (by rfl) (ho.out.drew.alloc _) ⟨w.heap.size, 0, none⟩ (240 + p / 262144) (by rfl) (by simpa using hh.out) (by omega) (by simp; omega) ?_; intro v3 w3 o3 g3))
  have hb3 : Below base w w3 := (((Below.refl _ _).drew).alloc (by simpa using hb) _).grown g3 (by simp; omega) (fun q hq => (ho.out.lt q hq).1)
  replace o3 := Lib.hid o3
  clear g3
  go_wp2
  go_loopw [0, 7] (fun b i w' => PRel4 pre p base w b i w') (fun _ i _ => (intOf i + 1).toNat)
  case atStart =>
    have := o3.out
    rw [← he1.out] at this
    exact ⟨hb3, .inl ⟨rfl, this⟩⟩
  case round =>
    obtain ⟨hbr, ⟨rfl, hown⟩ | ⟨rfl, hown⟩ | ⟨rfl, hown⟩ | ⟨rfl, hown⟩⟩ := hrel
    · -- i = 2
      have hty := Lib.hid (show (128 : Int) + (x / 4096) % 64 = (((M.enc p).getD 1 0 : Nat) : Int) by
        have e := hx.out
        rw [M.enc4 (by omega)]; simp; omega)
      have hlen : (pre ++ (M.enc p).take 1).length ≤ 100004 := by
        have := M.enc_length p
        have h9 := M.wid_range p
        rw [List.length_append, List.length_take]; omega
      replace hown := Lib.hid hown
      obtain ⟨L, hL⟩ : ∃ L, L = pre ++ (M.enc p).take 1 := ⟨_, rfl⟩
      rw [← hL] at hown hlen
      replace hL := Lib.hid hL
      go_wp2_with (first
        | (at_builtin; refine wpList_append_own _ rfl _ _ 24 rfl base 5 i0 (.int .u8 0) 1 1 Try.underlying24 hi0 hz0 hz1 hz2 rfl (by decide) u0 L.length (vals L) rfl (hown.out.alloc _) ⟨_, 0, none⟩ 1 1 [_] rfl rfl (cell_one_new _ _ _) (fun x hx => by simp at hx; subst hx; rfl) (by unfold maxLen; omega) (by omega) (by have := hbr.size; simp; omega) ?_; intro v' w4 hown' hgrow3 hnil3))
      refine ⟨⟨(hbr.alloc (by have := hbr.size; omega) _).grown hgrow3 (by have := hbr.size; simp; omega) (fun q hq => (hown.out.lt q hq).1), .inr (.inl ⟨rfl, ?_⟩)⟩, by simp [intOf]⟩
      have e2 : (pre ++ (M.enc p).take 2) = L ++ [(M.enc p).getD 1 0] := by
        rw [hL.out, List.append_assoc, ← take_succ' (M.enc p) 1 (by rw [M.enc_length]; rw [hwd.out]; omega)]
      rw [e2, vals_append, List.length_append]
      simp only [hty.out] at hown'
      exact hown'
    · -- i = 1
      have hty := Lib.hid (show (128 : Int) + (x / 64) % 64 = (((M.enc p).getD 2 0 : Nat) : Int) by
        have e := hx.out
        rw [M.enc4 (by omega)]; simp; omega)
      have hlen : (pre ++ (M.enc p).take 2).length ≤ 100004 := by
        have := M.enc_length p
        have h9 := M.wid_range p
        rw [List.length_append, List.length_take]; omega
      replace hown := Lib.hid hown
      obtain ⟨L, hL⟩ : ∃ L, L = pre ++ (M.enc p).take 2 := ⟨_, rfl⟩
      rw [← hL] at hown hlen
      replace hL := Lib.hid hL
      go_wp2_with (first
        | (at_builtin; refine wpList_append_own _ rfl _ _ 24 rfl base 5 i0 (.int .u8 0) 1 1 Try.underlying24 hi0 hz0 hz1 hz2 rfl (by decide) u0 L.length (vals L) rfl (hown.out.alloc _) ⟨_, 0, none⟩ 1 1 [_] rfl rfl (cell_one_new _ _ _) (fun x hx => by simp at hx; subst hx; rfl) (by unfold maxLen; omega) (by omega) (by have := hbr.size; simp; omega) ?_; intro v' w4 hown' hgrow3 hnil3))
      refine ⟨⟨(hbr.alloc (by have := hbr.size; omega) _).grown hgrow3 (by have := hbr.size; simp; omega) (fun q hq => (hown.out.lt q hq).1), .inr (.inr (.inl ⟨rfl, ?_⟩))⟩, by simp [intOf]⟩
      have e2 : (pre ++ (M.enc p).take 3) = L ++ [(M.enc p).getD 2 0] := by
        rw [hL.out, List.append_assoc, ← take_succ' (M.enc p) 2 (by rw [M.enc_length]; rw [hwd.out]; omega)]
      rw [e2, vals_append, List.length_append]
      simp only [hty.out] at hown'
      exact hown'
    · -- i = 0
      have hty := Lib.hid (show (128 : Int) + x % 64 = (((M.enc p).getD 3 0 : Nat) : Int) by
        have e := hx.out
        rw [M.enc4 (by omega)]; simp; omega)
      have hlen : (pre ++ (M.enc p).take 3).length ≤ 100004 := by
        have := M.enc_length p
        have h9 := M.wid_range p
        rw [List.length_append, List.length_take]; omega
      replace hown := Lib.hid hown
      obtain ⟨L, hL⟩ : ∃ L, L = pre ++ (M.enc p).take 3 := ⟨_, rfl⟩
      rw [← hL] at hown hlen
      replace hL := Lib.hid hL
      go_wp2_with (first
        | (at_builtin; refine wpList_append_own _ rfl _ _ 24 rfl base 5 i0 (.int .u8 0) 1 1 Try.underlying24 hi0 hz0 hz1 hz2 rfl (by decide) u0 L.length (vals L) rfl (hown.out.alloc _) ⟨_, 0, none⟩ 1 1 [_] rfl rfl (cell_one_new _ _ _) (fun x hx => by simp at hx; subst hx; rfl) (by unfold maxLen; omega) (by omega) (by have := hbr.size; simp; omega) ?_; intro v' w4 hown' hgrow3 hnil3))
      refine ⟨⟨(hbr.alloc (by have := hbr.size; omega) _).grown hgrow3 (by have := hbr.size; simp; omega) (fun q hq => (hown.out.lt q hq).1), .inr (.inr (.inr (⟨rfl, ?_⟩)))⟩, by simp [intOf]⟩
      have e2 : (pre ++ (M.enc p).take 4) = L ++ [(M.enc p).getD 3 0] := by
        rw [hL.out, List.append_assoc, ← take_succ' (M.enc p) 3 (by rw [M.enc_length]; rw [hwd.out]; omega)]
      rw [e2, vals_append, List.length_append]
      simp only [hty.out] at hown'
      exact hown'
    · -- end
      replace hown := Lib.hid hown
      go_wp2
      go_ret
      refine ⟨_, rfl, ?_, hbr⟩
      have := hown.out
      rw [List.take_of_length_le (by rw [M.enc_length, hwd.out]; omega)] at this
      exact this
end Go.Proofs.Ytlppgaaepllbiaa
