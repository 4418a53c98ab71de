/- The walks of order.layInt and order.lay. -/
import Derived.Test.YtlldamgnfaikhaaDoorOMem
import Derived.Laws.Bits64
import Derived.Laws.Bits64b
import Derived.Deep.RegionHeldLaw
import Derived.Deep.RegionLaw
import Derived.Deep.RegionHeld3
namespace Go.Proofs.YtlldamgnfaikhaaDoor
open Go.RowKit Go.Sort

theorem xor_low {x : Nat} (h : x < 9223372036854775808) : x ^^^ 9223372036854775808 = x + 9223372036854775808 := by
  have h' : x < 2 ^ 63 := h
  show x ^^^ 2 ^ 63 = x + 2 ^ 63
  rw [Nat.add_comm]
  apply Nat.eq_of_testBit_eq
  intro i
  rw [Nat.testBit_xor, Nat.testBit_two_pow]
  rcases Nat.lt_trichotomy i 63 with hi | rfl | hi
  · rw [Nat.testBit_two_pow_add_gt hi]
    have : decide (63 = i) = false := by simp; omega
    rw [this, Bool.xor_false]
  · rw [Nat.testBit_two_pow_add_eq, Nat.testBit_lt_two_pow h']; rfl
  · have hp : 2 ^ 64 ≤ 2 ^ i := Nat.pow_le_pow_right (by decide) hi
    have e1 : x.testBit i = false := Nat.testBit_lt_two_pow (Nat.lt_of_lt_of_le (by omega) hp)
    have e2 : (2 ^ 63 + x).testBit i = false := Nat.testBit_lt_two_pow (Nat.lt_of_lt_of_le (by omega) hp)
    have e3 : decide (63 = i) = false := by simp; omega
    rw [e1, e2, e3]; rfl
theorem xor_top {x : Nat} (h : x < 18446744073709551616) : x ^^^ 9223372036854775808 = (x + 9223372036854775808) % 18446744073709551616 := by
  by_cases hl : x < 9223372036854775808
  · rw [xor_low hl]; omega
  · have := xor_low (x := x - 9223372036854775808) (by omega)
    have e : x = (x - 9223372036854775808) ^^^ 9223372036854775808 := by rw [this]; omega
    rw [e, Nat.xor_assoc, Nat.xor_self, Nat.xor_zero, ← e]; omega
theorem turned_ {n : Int} (h : inI n) : bits BinOp.xor IntKind.u64 (IntKind.u64.wrap n) 9223372036854775808 = ((word n : Nat) : Int) := by
  obtain ⟨h1, h2⟩ := h
  obtain ⟨m, hm, hlt⟩ : ∃ m : Nat, IntKind.u64.wrap n = (m : Int) ∧ m < 18446744073709551616 := ⟨(n % 18446744073709551616).toNat, by show n % 18446744073709551616 = _; omega, by omega⟩
  have hm2 : n % 18446744073709551616 = (m : Int) := hm
  rw [hm]
  have := bits_xor_u64_nat m 9223372036854775808 hlt (by decide)
  refine this.trans ?_
  rw [xor_top hlt]
  unfold word
  omega
theorem be_get : ∀ (k x i : Nat), i < k → (be k x)[i]? = some (UInt8.ofNat (x / 256 ^ (k - 1 - i) % 256))
  | 0, _, _, h => by omega
  | k + 1, x, 0, _ => by rw [be]; simp
  | k + 1, x, i + 1, h => by
    rw [be, List.getElem?_cons_succ, be_get k x i (by omega)]
    congr 5
    omega
theorem be_take (x i : Nat) (h : i < 8) : ns ((be 8 x).take (i + 1)) = ns ((be 8 x).take i) ++ [x / 2 ^ (8 * (7 - i)) % 256] := by
  rw [List.take_add_one, be_get 8 x i h, show (8 - 1 - i) = 7 - i by omega, show (256 : Nat) = 2 ^ 8 from rfl, ← Nat.pow_mul]
  simp [ns]
theorem cast_byte (W j : Nat) : (W : Int) / 2 ^ j % 256 = ((W / 2 ^ j % 256 : Nat) : Int) := by simp
set_option maxHeartbeats 1000000 in
theorem layInt_ (N : Nat) (n : Int) (v : Value) (xs : List Nat) (w : World) (hN : N ≤ w.heap.size) (hn : inI n) (hl : xs.length + 8 ≤ 140737488355328) (hown : Own w N v xs) :
    Calls Tryd.prog 60 #[v, .int .i64 n] w fun e w' => ∃ v', e = .returned v' ∧ Own w' N v' (xs ++ ns (be 8 (word n))) ∧ Below N w w' := by
  have ht := turned_ hn
  have hW : word n < 18446744073709551616 := by unfold word; obtain ⟨_, _⟩ := hn; omega
  generalize word n = W at *
  have HO := Lib.hid hown
  have HB := Lib.hid (Below.refl N w)
  clear hown
  go_enter Tryd.func60, Tryd.ntmps60
  go_wp2_with fail
  go_loopw [0, 10] (fun ov iv wr => ∃ i : Nat, i ≤ 8 ∧ iv = .int .i64 i ∧ Hid (Own wr N ov (xs ++ ns ((be 8 W).take i))) ∧ Hid (Below N w wr)) (fun _ iv _ => 8 - (intOf iv).toNat)
  case atStart => exact ⟨0, by omega, rfl, by simpa [ns] using HO, HB⟩
  case round =>
    obtain ⟨i, hi, rfl, HA, HBw⟩ := hrel
    by_cases hlt : i < 8
    · have hlt2 : (i : Int) < 8 := by omega
      have HF := Lib.hid (be_take W i hlt)
      have hln : (xs ++ ns ((be 8 W).take i)).length + 1 ≤ 140737488355328 := by
        rw [List.length_append]; simp [ns, be_len]; omega
      go_wp2_with (first
        | (at_builtin; refine wpList_append_one N _ w rfl _ _ rfl _ (xs ++ ns ((be 8 W).take i)) rfl (.inl (HA.out.on ((Below.refl _ _).alloc (Nat.le_refl _) _))) wr.heap.size (W / 2 ^ (8 * (7 - i)) % 256) rfl (by rw [← cast_byte]; simp [go_sem]) hln hN (below_stepN hN HBw.out ((Below.refl _ _).alloc (Nat.le_refl _) _)) ?_
           intro v' w2 hown hb2
           have HO2 := Lib.hid hown
           have Hb2 := Lib.hid hb2
           clear hown hb2 HA HBw)
        | fail)
      refine ⟨⟨i + 1, by omega, by go_num, ?_, Hb2⟩, by simp [intOf]; omega⟩
      rw [HF.out, ← List.append_assoc]
      exact HO2
    · obtain rfl : i = 8 := by omega
      have e1 : (be 8 W).take 8 = be 8 W := List.take_of_length_le (by rw [be_len]; exact Nat.le_refl _)
      rw [e1] at HA
      go_wp2_with fail
      go_ret
      exact ⟨_, rfl, HA.out, HBw.out⟩
theorem strCells_vals (s : ByteArray) : Lib.strCells s = vals (ns s.data.toList) := by
  unfold Lib.strCells vals ns
  rw [List.map_map]
  rfl
/-- append(row, text...). -/
theorem wpList_append_str (N : Nat) (w w0 : World) {ops : Array Oper} {rest : List Oper} {o : Oper} {act : Act} {Q : Exit → Act → World → Prop} (hgd : o.guard = none) (s x : Operand)
    (ho : o.op = .call { callee := .builtin .append, args := #[s, x], argTypes := #[26, 9] }) (v : Value) (es : List Nat) (hs : act.eval s = v) (hown : Own w N v es)
    (t : ByteArray) (hx : act.eval x = .string t) (hlen : es.length + t.size ≤ 140737488355328) (hN : N ≤ w0.heap.size) (hb : Below N w0 w)
    (hK : ∀ v' w', Own w' N v' (es ++ ns t.data.toList) → Below N w0 w' → wpList Tryd.prog ops Q rest (act.put o.dst v') w') : wpList Tryd.prog ops Q (o :: rest) act w := by
  obtain ⟨i0, hi, hz0, hz1, hz2⟩ := info_parts infoB
  refine Lib.wpList_append_own_string w hgd s x 26 9 ho N 5 i0 Tryd.underlying26 Tryd.underlying9 hi hz0 hz1 hz2 v es.length (vals es) hs hown t hx (by unfold maxLen; omega) hlen (Nat.le_trans hN hb.size) ?_
  intro v' w' h1 h2 _
  rw [strCells_vals] at h1
  exact hK v' w' (own_join rfl (by rw [ns_length, ← size_list]) h1) (below_grow hN hb hown h2)
/-- Two bytes that lie behind one another. -/
theorem two_in {w : World} {B c d : Nat} (h : w.cell? ⟨B, 0, none⟩ = some (.int .u8 (c : Int))) (h2 : w.cell? ⟨B, 1, none⟩ = some (.int .u8 (d : Int))) : BytesIn w (some ⟨B, 0, none⟩) [c, d] := by
  intro i hi
  simp at hi
  rcases (by omega : i = 0 ∨ i = 1) with rfl | rfl
  · exact ⟨B, 0, rfl, h⟩
  · exact ⟨B, 0, rfl, h2⟩
/-- append(row, bytes...) at a step of a region that draws its order. -/
theorem step_append_bytes (N : Nat) (w w0 : World) {ops : Array Oper} {o : Oper} {act : Act} {K : Act → World → Prop} {Q : Exit → Act → World → Prop} {E : Prop} (hgd : o.guard = none) (s x : Operand)
    (ho : o.op = .call { callee := .builtin .append, args := #[s, x], argTypes := #[26, 26] }) (v : Value) (es ys : List Nat) (hs : act.eval s = v) (hown : Own w N v es)
    (B m : Nat) (hx : act.eval x = .slice (some ⟨B, 0, none⟩) m m) (hm : ys.length = m) (hin : BytesIn w (some ⟨B, 0, none⟩) ys) (hlen : es.length + ys.length ≤ 140737488355328) (hN : N ≤ w0.heap.size) (hb : Below N w0 w)
    (hK : ∀ v' w', Own w' N v' (es ++ ys) → Below N w0 w' → (∀ p : Addr, p.block < w.heap.size → some p.block ≠ v.ownBlock → w'.cell? p = w.cell? p) → K (act.put o.dst v') w') : if Region.wanted o (yielded ops act.tmps) = true then Oper.wp Tryd.prog o act w K Q else E := by
  have hw : Region.wanted o (yielded ops act.tmps) = true := by simp [Region.wanted, hgd]
  rw [if_pos hw]
  exact wp_append_bytes w s x ho N v es ys hs hown (some ⟨B, 0, none⟩) m m hx hm (fun h => by cases h) hin hlen (Nat.le_trans hN hb.size) fun v' w' h1 h2 => hK v' w' h1 (below_grow hN hb hown h2) (fun p hp hne => h2.cell_far p hp hne)
theorem Own.far {w : World} {base B : Nat} {v : Value} {xs : List Nat} (h : Own w base v xs) (hB : w.heap.size ≤ B) : some B ≠ v.ownBlock := fun e => by
  have := (World.ownsRow.lt h B e.symm).2
  omega
theorem one_new (w : World) (c : Int) (n : Nat) (hc : c = (n : Int)) : BytesIn (w.alloc (.cells #[.int .u8 c] 5)) (some ⟨w.heap.size, 0, none⟩) [n] := by
  subst hc
  exact one_in (by simp [go_sem])
theorem two_new (w : World) (c d : Nat) : BytesIn (w.alloc (.cells #[.int .u8 (c : Int), .int .u8 (d : Int)] 5)) (some ⟨w.heap.size, 0, none⟩) [c, d] := two_in (by simp [go_sem]) (by simp [go_sem])
theorem one_at (w : World) (B : Nat) (hB : w.heap.size = B) (n : Nat) : BytesIn (w.alloc (.cells #[.int .u8 (n : Int)] 5)) (some ⟨B, 0, none⟩) [n] := by subst hB; exact one_new w _ n rfl
theorem two_at (w : World) (B : Nat) (hB : w.heap.size = B) (c d : Nat) : BytesIn (w.alloc (.cells #[.int .u8 (c : Int), .int .u8 (d : Int)] 5)) (some ⟨B, 0, none⟩) [c, d] := by subst hB; exact two_new w c d
set_option maxHeartbeats 1000000 in
theorem lay_int (N : Nat) (n : Int) (t : ByteArray) (b : Bool) (v : Value) (xs : List Nat) (w : World) (hN : N ≤ w.heap.size) (hn : inI n) (hl : xs.length + 5000 ≤ 140737488355328) (hown : Own w N v xs) :
    Calls Tryd.prog 43 #[v, .agg #[.int .i64 1, .int .i64 n, .string t, .bool b]] w fun e w' => ∃ v', e = .returned v' ∧ Own w' N v' (xs ++ ns (encV ⟨1, n, t, b⟩)) ∧ Below N w w' := by
  obtain ⟨YS, hY⟩ : ∃ YS, YS = xs ++ [2] := ⟨_, rfl⟩
  obtain ⟨ZS, hZ⟩ : ∃ ZS, ZS = xs ++ ns (encV ⟨1, n, t, b⟩) := ⟨_, rfl⟩
  have HL : Hid (∀ (v : Value) (W : World), Own W N v YS → Below N w W → Calls Tryd.prog 60 #[v, .int .i64 n] W fun e w' => ∃ v', e = .returned v' ∧ Own w' N v' ZS ∧ Below N w w') := fun v W h1 h2 =>
    (layInt_ N n v YS W (Nat.le_trans hN h2.size) hn (by rw [hY]; simp; omega) h1).mono fun e w' ⟨v', he, ho, hb⟩ => ⟨v', he, by rw [hZ]; rw [hY, List.append_assoc] at ho; exact ho, h2.trans hb⟩
  have HY : Hid (∀ (v' : Value) (W : World), Own W N v' (xs ++ [2]) → Own W N v' YS) := fun v' W h => by rw [hY]; exact h
  have hal : Below w.heap.size w (w.alloc (.cells #[.int .i64 1, .int .i64 n, .string t, .bool b] 47)) := (Below.refl _ _).alloc (Nat.le_refl _) _
  have HO := Lib.hid (hown.on hal)
  have HB := Lib.hid (hal.mono hN)
  have HNE := Lib.hid (hown.far (B := w.heap.size) (Nat.le_refl _))
  have HP : In4 (w.alloc (.cells #[.int .i64 1, .int .i64 n, .string t, .bool b] 47)) w.heap.size 0 1 n t b := in4_new w 1 n t b _
  obtain ⟨p0, p1, p2, p3⟩ := HP
  have HS : Hid (w.heap.size < (w.alloc (.cells #[.int .i64 1, .int .i64 n, .string t, .bool b] 47)).heap.size) := by
    show _ < _
    simp
  have HN := Lib.hid hN
  rw [← hZ]
  clear hown hn hal hN hY hZ
  go_enter Tryd.func43, Tryd.ntmps43
  go_wp2_with fail
  generalize w.alloc (.cells #[.int .i64 1, .int .i64 n, .string t, .bool b] 47) = W1 at *
  have hne := World.new_ne W1 ⟨w.heap.size, 1, none⟩ p1
  have K1 : Hid (∀ W', Below W1.heap.size W1 W' → W'.cell? ⟨w.heap.size, 1, none⟩ = some (.int .i64 n)) := fun W' hW => (hW.cell (p := ⟨w.heap.size, 1, none⟩) HS.out).trans p1
  have K2 : ∀ o, (W1.alloc o).cell? ⟨w.heap.size, 1, none⟩ = some (.int .i64 n) := fun o => K1.out _ ((Below.refl _ _).alloc (Nat.le_refl _) _)
  refine wp_region_noPanic ?_
  go_region_law (first
      | (refine step_append_bytes N _ w rfl _ _ rfl _ xs [2] rfl (HO.out.on (by first | exact ((Below.refl _ _).alloc (Nat.le_refl _) _).drew | exact (Below.refl _ _).drew.alloc (Nat.le_refl _) _ | exact (Below.refl _ _).alloc (Nat.le_refl _) _)) _ 1 rfl rfl (one_new _ 2 2 rfl) (by simp; omega) HN.out (below_stepN HN.out HB.out (by first | exact ((Below.refl _ _).alloc (Nat.le_refl _) _).drew | exact (Below.refl _ _).drew.alloc (Nat.le_refl _) _ | exact (Below.refl _ _).alloc (Nat.le_refl _) _)) ?_
         intro v' w2 hown hb2 hfar
         have HO2 := Lib.hid (HY.out _ _ hown)
         have HB2 := Lib.hid hb2
         have hS2 : w2.cell? ⟨w.heap.size, 1, none⟩ = some (.int .i64 n) := (hfar ⟨w.heap.size, 1, none⟩ (by have := HS.out; show w.heap.size < _; simp; omega) HNE.out).trans (K1.out _ (by first | exact ((Below.refl _ _).alloc (Nat.le_refl _) _).drew | exact (Below.refl _ _).drew.alloc (Nat.le_refl _) _ | exact (Below.refl _ _).alloc (Nat.le_refl _) _))
         clear hown hb2 hfar)
      | (go_simp; go_at_call 60; refine (HL.out _ _ HO2.out HB2.out).mono ?_; rintro e w3 ⟨v3, rfl, ho3, hb3⟩))
  all_goals (refine NoPanic.normal ?_; go_wp2_with fail; go_ret; exact ⟨_, rfl, ho3, hb3⟩)
/-- append(row, text...) at a step of a region that draws its order. -/
theorem step_append_str (N : Nat) (w w0 : World) {ops : Array Oper} {o : Oper} {act : Act} {K : Act → World → Prop} {Q : Exit → Act → World → Prop} {E : Prop} (hgd : o.guard = none) (s x : Operand)
    (ho : o.op = .call { callee := .builtin .append, args := #[s, x], argTypes := #[26, 9] }) (v : Value) (es : List Nat) (hs : act.eval s = v) (hown : Own w N v es)
    (t : ByteArray) (hx : act.eval x = .string t) (hlen : es.length + t.size ≤ 140737488355328) (hN : N ≤ w0.heap.size) (hb : Below N w0 w)
    (hK : ∀ v' w', Own w' N v' (es ++ ns t.data.toList) → Below N w0 w' → K (act.put o.dst v') w') : if Region.wanted o (yielded ops act.tmps) = true then Oper.wp Tryd.prog o act w K Q else E := by
  have hw : Region.wanted o (yielded ops act.tmps) = true := by simp [Region.wanted, hgd]
  rw [if_pos hw]
  obtain ⟨i0, hi, hz0, hz1, hz2⟩ := info_parts infoB
  obtain ⟨v', w', hr, h2, h3, h4⟩ := Lib.run_append_own_string (P := Tryd.prog) w N 26 9 o.type 5 i0 Tryd.underlying26 Tryd.underlying9 hi hz0 hz1 hz2 v es.length (vals es) hown t (by unfold maxLen; omega) hlen (Nat.le_trans hN hb.size)
  rw [strCells_vals] at h2
  unfold Oper.wp execOp
  simp only [ho, resolve, invoke, builtin, Sem.run_bind, Sem.run_pure, Result.andThen_ok, List.map_toArray, List.map_cons, List.map_nil, hs, hx, hr]
  exact hK v' w' (own_join rfl (by rw [ns_length, ← size_list]) h2) (below_grow hN hb hown h3)
set_option maxHeartbeats 1000000 in
theorem lay_text (N : Nat) (n : Int) (t : ByteArray) (b : Bool) (v : Value) (xs : List Nat) (w : World) (hN : N ≤ w.heap.size) (ht : t.size ≤ 4096) (hl : xs.length + 5000 ≤ 140737488355328) (hown : Own w N v xs) :
    Calls Tryd.prog 43 #[v, .agg #[.int .i64 2, .int .i64 n, .string t, .bool b]] w fun e w' => ∃ v', e = .returned v' ∧ Own w' N v' (xs ++ ns (encV ⟨2, n, t, b⟩)) ∧ Below N w w' := by
  obtain ⟨YS, hY⟩ : ∃ YS, YS = xs ++ [3] := ⟨_, rfl⟩
  obtain ⟨XS, hX⟩ : ∃ XS, XS = YS ++ ns t.data.toList := ⟨_, rfl⟩
  obtain ⟨ZS, hZ⟩ : ∃ ZS, ZS = xs ++ ns (encV ⟨2, n, t, b⟩) := ⟨_, rfl⟩
  have hyl : YS.length + t.size ≤ 140737488355328 := by rw [hY]; simp; omega
  have hxl : XS.length + (⟨#[0]⟩ : ByteArray).size ≤ 140737488355328 := by rw [hX, List.length_append, ns_length, ← size_list]; show _ + 1 ≤ _; rw [hY]; simp; omega
  have HY : Hid (∀ (v' : Value) (W : World), Own W N v' (xs ++ [3]) → Own W N v' YS) := fun v' W h => by rw [hY]; exact h
  have HX : Hid (∀ (v' : Value) (W : World), Own W N v' (YS ++ ns t.data.toList) → Own W N v' XS) := fun v' W h => by rw [hX]; exact h
  have HZ : Hid (∀ (v' : Value) (W : World), Own W N v' (XS ++ ns (⟨#[0]⟩ : ByteArray).data.toList) → Own W N v' ZS) := fun v' W h => by
    rw [hX, hY] at h
    rw [hZ]
    have e : xs ++ [3] ++ ns t.data.toList ++ ns (⟨#[0]⟩ : ByteArray).data.toList = xs ++ ns (encV ⟨2, n, t, b⟩) := by
      rw [List.append_assoc, List.append_assoc, ns_append]; rfl
    rw [← e]; exact h
  have hal : Below w.heap.size w (w.alloc (.cells #[.int .i64 2, .int .i64 n, .string t, .bool b] 47)) := (Below.refl _ _).alloc (Nat.le_refl _) _
  have HO := Lib.hid (hown.on hal)
  have HB := Lib.hid (hal.mono hN)
  have HNE := Lib.hid (hown.far (B := w.heap.size) (Nat.le_refl _))
  have HP : In4 (w.alloc (.cells #[.int .i64 2, .int .i64 n, .string t, .bool b] 47)) w.heap.size 0 2 n t b := in4_new w 2 n t b _
  obtain ⟨p0, p1, p2, p3⟩ := HP
  have HS : Hid (w.heap.size < (w.alloc (.cells #[.int .i64 2, .int .i64 n, .string t, .bool b] 47)).heap.size) := by
    show _ < _
    simp
  have HN := Lib.hid hN
  rw [← hZ]
  clear hown hal hN hY hZ hX
  go_enter Tryd.func43, Tryd.ntmps43
  go_wp2_with fail
  generalize w.alloc (.cells #[.int .i64 2, .int .i64 n, .string t, .bool b] 47) = W1 at *
  have hne := World.new_ne W1 ⟨w.heap.size, 2, none⟩ p2
  have K1 : Hid (∀ W', Below W1.heap.size W1 W' → W'.cell? ⟨w.heap.size, 2, none⟩ = some (.string t)) := fun W' hW => (hW.cell (p := ⟨w.heap.size, 2, none⟩) HS.out).trans p2
  have K2 : ∀ o, (W1.alloc o).cell? ⟨w.heap.size, 2, none⟩ = some (.string t) := fun o => K1.out _ ((Below.refl _ _).alloc (Nat.le_refl _) _)
  refine wp_region_noPanic ?_
  go_region_law (first
      | (refine step_append_bytes N _ w rfl _ _ rfl _ xs [3] rfl (HO.out.on (by first | exact ((Below.refl _ _).alloc (Nat.le_refl _) _).drew | exact (Below.refl _ _).drew.alloc (Nat.le_refl _) _ | exact (Below.refl _ _).alloc (Nat.le_refl _) _)) _ 1 rfl rfl (one_new _ 3 3 rfl) (by simp; omega) HN.out (below_stepN HN.out HB.out (by first | exact ((Below.refl _ _).alloc (Nat.le_refl _) _).drew | exact (Below.refl _ _).drew.alloc (Nat.le_refl _) _ | exact (Below.refl _ _).alloc (Nat.le_refl _) _)) ?_
         intro v' w2 hown hb2 hfar
         have HO2 := Lib.hid (HY.out _ _ hown)
         have HB2 := Lib.hid hb2
         have hS2 : w2.cell? ⟨w.heap.size, 2, none⟩ = some (.string t) := (hfar ⟨w.heap.size, 2, none⟩ (by have := HS.out; show w.heap.size < _; simp; omega) HNE.out).trans (K1.out _ (by first | exact ((Below.refl _ _).alloc (Nat.le_refl _) _).drew | exact (Below.refl _ _).drew.alloc (Nat.le_refl _) _ | exact (Below.refl _ _).alloc (Nat.le_refl _) _))
         clear hown hb2 hfar)
      | (refine step_append_str N _ w rfl _ _ rfl _ YS rfl HO2.out t rfl hyl HN.out HB2.out ?_
         intro v3 w3 hown hb3
         have HO3 := Lib.hid (HX.out _ _ hown)
         have HB3 := Lib.hid hb3
         clear hown hb3)
      | (refine step_append_str N _ w rfl _ _ rfl _ XS rfl HO3.out ⟨#[0]⟩ rfl hxl HN.out HB3.out ?_
         intro v4 w4 hown hb4
         have HO4 := Lib.hid (HZ.out _ _ hown)
         have HB4 := Lib.hid hb4
         clear hown hb4))
  all_goals (refine NoPanic.normal ?_; go_wp2_with fail; go_ret; exact ⟨_, rfl, HO4.out, HB4.out⟩)
set_option maxHeartbeats 1000000 in
theorem lay_true (N : Nat) (n : Int) (t : ByteArray) (v : Value) (xs : List Nat) (w : World) (hN : N ≤ w.heap.size) (hl : xs.length + 5000 ≤ 140737488355328) (hown : Own w N v xs) :
    Calls Tryd.prog 43 #[v, .agg #[.int .i64 3, .int .i64 n, .string t, .bool true]] w fun e w' => ∃ v', e = .returned v' ∧ Own w' N v' (xs ++ ns (encV ⟨3, n, t, true⟩)) ∧ Below N w w' := by
  obtain ⟨ZS, hZ⟩ : ∃ ZS, ZS = xs ++ ns (encV ⟨3, n, t, true⟩) := ⟨_, rfl⟩
  have HZ : Hid (∀ (v' : Value) (W : World), Own W N v' (xs ++ [4, 1]) → Own W N v' ZS) := fun v' W h => by rw [hZ]; exact h
  have hal : Below w.heap.size w (w.alloc (.cells #[.int .i64 3, .int .i64 n, .string t, .bool true] 47)) := (Below.refl _ _).alloc (Nat.le_refl _) _
  have HO := Lib.hid (hown.on hal)
  have HB := Lib.hid (hal.mono hN)
  have HNE := Lib.hid (hown.far (B := w.heap.size) (Nat.le_refl _))
  have HP : In4 (w.alloc (.cells #[.int .i64 3, .int .i64 n, .string t, .bool true] 47)) w.heap.size 0 3 n t true := in4_new w 3 n t true _
  obtain ⟨p0, p1, p2, p3⟩ := HP
  have HS : Hid (w.heap.size < (w.alloc (.cells #[.int .i64 3, .int .i64 n, .string t, .bool true] 47)).heap.size) := by
    show _ < _
    simp
  have HN := Lib.hid hN
  rw [← hZ]
  clear hown hal hN hZ
  go_enter Tryd.func43, Tryd.ntmps43
  go_wp2_with (first
    | (at_builtin; refine wpList_append_bytes _ rfl _ _ rfl N _ xs [4, 1] rfl (HO.out.on (by first | exact ((Below.refl _ _).alloc (Nat.le_refl _) _).drew | exact (Below.refl _ _).drew.alloc (Nat.le_refl _) _ | exact (Below.refl _ _).alloc (Nat.le_refl _) _)) (some ⟨_, 0, none⟩) 2 2 rfl rfl (fun h => by cases h) (two_at _ _ (by simp) 4 1) (by simp; omega) (Nat.le_trans HN.out (Nat.le_trans HB.out.size (by simp))) ?_
       intro v' w2 hown hg
       have HO2 := Lib.hid (HZ.out _ _ hown)
       have HB2 := Lib.hid (below_grow HN.out (below_stepN HN.out HB.out (by first | exact ((Below.refl _ _).alloc (Nat.le_refl _) _).drew | exact (Below.refl _ _).drew.alloc (Nat.le_refl _) _ | exact (Below.refl _ _).alloc (Nat.le_refl _) _)) (HO.out.on (by first | exact ((Below.refl _ _).alloc (Nat.le_refl _) _).drew | exact (Below.refl _ _).drew.alloc (Nat.le_refl _) _ | exact (Below.refl _ _).alloc (Nat.le_refl _) _)) hg)
       clear hown hg)
    | fail)
  go_ret
  exact ⟨_, rfl, HO2.out, HB2.out⟩
set_option maxHeartbeats 1000000 in
theorem lay_false (N : Nat) (n : Int) (t : ByteArray) (v : Value) (xs : List Nat) (w : World) (hN : N ≤ w.heap.size) (hl : xs.length + 5000 ≤ 140737488355328) (hown : Own w N v xs) :
    Calls Tryd.prog 43 #[v, .agg #[.int .i64 3, .int .i64 n, .string t, .bool false]] w fun e w' => ∃ v', e = .returned v' ∧ Own w' N v' (xs ++ ns (encV ⟨3, n, t, false⟩)) ∧ Below N w w' := by
  obtain ⟨ZS, hZ⟩ : ∃ ZS, ZS = xs ++ ns (encV ⟨3, n, t, false⟩) := ⟨_, rfl⟩
  have HZ : Hid (∀ (v' : Value) (W : World), Own W N v' (xs ++ [4, 0]) → Own W N v' ZS) := fun v' W h => by rw [hZ]; exact h
  have hal : Below w.heap.size w (w.alloc (.cells #[.int .i64 3, .int .i64 n, .string t, .bool false] 47)) := (Below.refl _ _).alloc (Nat.le_refl _) _
  have HO := Lib.hid (hown.on hal)
  have HB := Lib.hid (hal.mono hN)
  have HNE := Lib.hid (hown.far (B := w.heap.size) (Nat.le_refl _))
  have HP : In4 (w.alloc (.cells #[.int .i64 3, .int .i64 n, .string t, .bool false] 47)) w.heap.size 0 3 n t false := in4_new w 3 n t false _
  obtain ⟨p0, p1, p2, p3⟩ := HP
  have HS : Hid (w.heap.size < (w.alloc (.cells #[.int .i64 3, .int .i64 n, .string t, .bool false] 47)).heap.size) := by
    show _ < _
    simp
  have HN := Lib.hid hN
  rw [← hZ]
  clear hown hal hN hZ
  go_enter Tryd.func43, Tryd.ntmps43
  go_wp2_with (first
    | (at_builtin; refine wpList_append_bytes _ rfl _ _ rfl N _ xs [4, 0] rfl (HO.out.on (by first | exact ((Below.refl _ _).alloc (Nat.le_refl _) _).drew | exact (Below.refl _ _).drew.alloc (Nat.le_refl _) _ | exact (Below.refl _ _).alloc (Nat.le_refl _) _)) (some ⟨_, 0, none⟩) 2 2 rfl rfl (fun h => by cases h) (two_at _ _ (by simp) 4 0) (by simp; omega) (Nat.le_trans HN.out (Nat.le_trans HB.out.size (by simp))) ?_
       intro v' w2 hown hg
       have HO2 := Lib.hid (HZ.out _ _ hown)
       have HB2 := Lib.hid (below_grow HN.out (below_stepN HN.out HB.out (by first | exact ((Below.refl _ _).alloc (Nat.le_refl _) _).drew | exact (Below.refl _ _).drew.alloc (Nat.le_refl _) _ | exact (Below.refl _ _).alloc (Nat.le_refl _) _)) (HO.out.on (by first | exact ((Below.refl _ _).alloc (Nat.le_refl _) _).drew | exact (Below.refl _ _).drew.alloc (Nat.le_refl _) _ | exact (Below.refl _ _).alloc (Nat.le_refl _) _)) hg)
       clear hown hg)
    | fail)
  go_ret
  exact ⟨_, rfl, HO2.out, HB2.out⟩
set_option maxHeartbeats 1000000 in
theorem lay_null (N : Nat) (k n : Int) (t : ByteArray) (b : Bool) (v : Value) (xs : List Nat) (w : World) (hN : N ≤ w.heap.size) (h1 : k ≠ 1) (h2 : k ≠ 2) (h3 : k ≠ 3) (hl : xs.length + 5000 ≤ 140737488355328) (hown : Own w N v xs) :
    Calls Tryd.prog 43 #[v, .agg #[.int .i64 k, .int .i64 n, .string t, .bool b]] w fun e w' => ∃ v', e = .returned v' ∧ Own w' N v' (xs ++ [1]) ∧ Below N w w' := by
  obtain ⟨ZS, hZ⟩ : ∃ ZS, ZS = xs ++ [1] := ⟨_, rfl⟩
  have HZ : Hid (∀ (v' : Value) (W : World), Own W N v' (xs ++ [1]) → Own W N v' ZS) := fun v' W h => by rw [hZ]; exact h
  have hal : Below w.heap.size w (w.alloc (.cells #[.int .i64 k, .int .i64 n, .string t, .bool b] 47)) := (Below.refl _ _).alloc (Nat.le_refl _) _
  have HO := Lib.hid (hown.on hal)
  have HB := Lib.hid (hal.mono hN)
  have HNE := Lib.hid (hown.far (B := w.heap.size) (Nat.le_refl _))
  have HP : In4 (w.alloc (.cells #[.int .i64 k, .int .i64 n, .string t, .bool b] 47)) w.heap.size 0 k n t b := in4_new w k n t b _
  obtain ⟨p0, p1, p2, p3⟩ := HP
  have HS : Hid (w.heap.size < (w.alloc (.cells #[.int .i64 k, .int .i64 n, .string t, .bool b] 47)).heap.size) := by
    show _ < _
    simp
  have HN := Lib.hid hN
  rw [← hZ]
  clear hown hal hN hZ
  go_enter Tryd.func43, Tryd.ntmps43
  go_wp2_with (first
    | (at_builtin; refine wpList_append_bytes _ rfl _ _ rfl N _ xs [1] rfl (HO.out.on (by first | exact ((Below.refl _ _).alloc (Nat.le_refl _) _).drew | exact (Below.refl _ _).drew.alloc (Nat.le_refl _) _ | exact (Below.refl _ _).alloc (Nat.le_refl _) _)) (some ⟨_, 0, none⟩) 1 1 rfl rfl (fun h => by cases h) (one_at _ _ (by simp) 1) (by simp; omega) (Nat.le_trans HN.out (Nat.le_trans HB.out.size (by simp))) ?_
       intro v' w2 hown hg
       have HO2 := Lib.hid (HZ.out _ _ hown)
       have HB2 := Lib.hid (below_grow HN.out (below_stepN HN.out HB.out (by first | exact ((Below.refl _ _).alloc (Nat.le_refl _) _).drew | exact (Below.refl _ _).drew.alloc (Nat.le_refl _) _ | exact (Below.refl _ _).alloc (Nat.le_refl _) _)) (HO.out.on (by first | exact ((Below.refl _ _).alloc (Nat.le_refl _) _).drew | exact (Below.refl _ _).drew.alloc (Nat.le_refl _) _ | exact (Below.refl _ _).alloc (Nat.le_refl _) _)) hg)
       clear hown hg)
    | fail)
  go_ret
  exact ⟨_, rfl, HO2.out, HB2.out⟩
/-- What lay lays. -/
theorem lay_ (N : Nat) (k n : Int) (t : ByteArray) (b : Bool) (v : Value) (xs : List Nat) (w : World) (hN : N ≤ w.heap.size) (hv : validN ⟨k, n, t, b⟩ = 0) (hn : inI n) (hl : xs.length + 5000 ≤ 140737488355328) (hown : Own w N v xs) :
    Calls Tryd.prog 43 #[v, .agg #[.int .i64 k, .int .i64 n, .string t, .bool b]] w fun e w' => ∃ v', e = .returned v' ∧ Own w' N v' (xs ++ ns (encV ⟨k, n, t, b⟩)) ∧ Below N w w' := by
  have hk := valid_kind (fit_of_valid hv)
  simp only at hk
  rcases hk with rfl | rfl | rfl | rfl
  · exact lay_null N 0 n t b v xs w hN (by decide) (by decide) (by decide) hl hown
  · exact lay_int N n t b v xs w hN hn hl hown
  · exact lay_text N n t b v xs w hN (size_of_valid hv) hl hown
  · cases b
    · exact lay_false N n t v xs w hN hl hown
    · exact lay_true N n t v xs w hN hl hown
end Go.Proofs.YtlldamgnfaikhaaDoor
