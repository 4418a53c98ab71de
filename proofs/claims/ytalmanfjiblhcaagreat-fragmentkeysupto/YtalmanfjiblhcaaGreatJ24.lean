/- The walks of order.layInt and order.lay; The walk of order.Encode; How columns and tables lie in memory. -/
import Derived.Test.YtalmanfjiblhcaaGreatJ2
import Derived.Laws.Bits64
import Derived.Laws.Bits64b
import Derived.Deep.RegionHeldLaw
import Derived.Deep.RegionLaw
import Derived.Deep.RegionHeld3
import Derived.Test.YtalmanfjiblhcaaGreatJ3
namespace Go.Proofs.YtalmanfjiblhcaaGreat.Rw
open Go.RowKit Go.Sort
theorem xor_low {x : Nat} (h : x < 9223372036854775808) : x ^^^ 9223372036854775808 = x + 9223372036854775808 := by
 have h' : x < 2 ^ 63 := h
 show x ^^^ 2 ^ 63 = x + 2 ^ 63
 rw [Nat.add_comm]
 apply Nat.eq_of_testBit_eq
 intro i
 rw [Nat.testBit_xor, Nat.testBit_two_pow]
 rcases Nat.lt_trichotomy i 63 with hi | rfl | hi
 · rw [Nat.testBit_two_pow_add_gt hi]
   have : decide (63 = i) = false := by simp; omega
   rw [this, Bool.xor_false]
 · rw [Nat.testBit_two_pow_add_eq, Nat.testBit_lt_two_pow h']; rfl
 · have hp : 2 ^ 64 ≤ 2 ^ i := Nat.pow_le_pow_right (by decide) hi
   have e1 : x.testBit i = false := Nat.testBit_lt_two_pow (Nat.lt_of_lt_of_le (by omega) hp)
   have e2 : (2 ^ 63 + x).testBit i = false := Nat.testBit_lt_two_pow (Nat.lt_of_lt_of_le (by omega) hp)
   have e3 : decide (63 = i) = false := by simp; omega
   rw [e1, e2, e3]; rfl
theorem xor_top {x : Nat} (h : x < 18446744073709551616) : x ^^^ 9223372036854775808 = (x + 9223372036854775808) % 18446744073709551616 := by
 by_cases hl : x < 9223372036854775808
 · rw [xor_low hl]; omega
 · have := xor_low (x := x - 9223372036854775808) (by omega)
   have e : x = (x - 9223372036854775808) ^^^ 9223372036854775808 := by rw [this]; omega
   rw [e, Nat.xor_assoc, Nat.xor_self, Nat.xor_zero, ← e]; omega
theorem turned_ {n : Int} (h : inI n) : bits BinOp.xor IntKind.u64 (IntKind.u64.wrap n) 9223372036854775808 = ((word n : Nat) : Int) := by
 obtain ⟨h1, h2⟩ := h
 obtain ⟨m, hm, hlt⟩ : ∃ m : Nat, IntKind.u64.wrap n = (m : Int) ∧ m < 18446744073709551616 := ⟨(n % 18446744073709551616).toNat, by show n % 18446744073709551616 = _; omega, by omega⟩
 have hm2 : n % 18446744073709551616 = (m : Int) := hm
 rw [hm]
 have := bits_xor_u64_nat m 9223372036854775808 hlt (by decide)
 refine this.trans ?_
 rw [xor_top hlt]
 unfold word
 omega
theorem be_get : ∀ (k x i : Nat), i < k → (be k x)[i]? = some (UInt8.ofNat (x / 256 ^ (k - 1 - i) % 256))
 | 0, _, _, h => by omega
 | k + 1, x, 0, _ => by rw [be]; simp
 | k + 1, x, i + 1, h => by
   rw [be, List.getElem?_cons_succ, be_get k x i (by omega)]
   congr 5
   omega
theorem be_take (x i : Nat) (h : i < 8) : ns ((be 8 x).take (i + 1)) = ns ((be 8 x).take i) ++ [x / 2 ^ (8 * (7 - i)) % 256] := by
 rw [List.take_add_one, be_get 8 x i h, show (8 - 1 - i) = 7 - i by omega, show (256 : Nat) = 2 ^ 8 from rfl, ← Nat.pow_mul]
 simp [ns]
theorem cast_byte (W j : Nat) : (W : Int) / 2 ^ j % 256 = ((W / 2 ^ j % 256 : Nat) : Int) := by simp
set_option maxRecDepth 100000 in
set_option maxHeartbeats 1000000 in
theorem layInt_ (N : Nat) (n : Int) (v : Value) (xs : List Nat) (w : World) (hN : N ≤ w.heap.size) (hn : inI n) (hl : xs.length + 8 ≤ 140737488355328) (hown : Own w N v xs) :
 Calls Tryz.prog 135 #[v, .int .i64 n] w fun e w' => ∃ v', e = .returned v' ∧ Own w' N v' (xs ++ ns (be 8 (word n))) ∧ Below N w w' := by
 have ht := turned_ hn
 have hW : word n < 18446744073709551616 := by unfold word; obtain ⟨_, _⟩ := hn; omega
 generalize word n = W at *
 have HO := Lib.hid hown
 have HB := Lib.hid (Below.refl N w)
 clear hown
 go_enter Tryz.func135, Tryz.ntmps135
 go_wp2_with fail
 go_loopw [0, 10] (fun ov iv wr => ∃ i : Nat, i ≤ 8 ∧ iv = .int .i64 i ∧ Hid (Own wr N ov (xs ++ ns ((be 8 W).take i))) ∧ Hid (Below N w wr)) (fun _ iv _ => 8 - (intOf iv).toNat)
 case atStart => exact ⟨0, by omega, rfl, by simpa [ns] using HO, HB⟩
 case round =>
  obtain ⟨i, hi, rfl, HA, HBw⟩ := hrel
  by_cases hlt : i < 8
  · have hlt2 : (i : Int) < 8 := by omega
    have HF := Lib.hid (be_take W i hlt)
    have hln : (xs ++ ns ((be 8 W).take i)).length + 1 ≤ 140737488355328 := by
     rw [List.length_append]; simp [ns, be_len]; omega
    go_wp2_with (first
     | (at_builtin; refine wpList_append_one N _ w rfl _ _ rfl _ (xs ++ ns ((be 8 W).take i)) rfl (.inl (HA.out.on ((Below.refl _ _).alloc (Nat.le_refl _) _))) wr.heap.size (W / 2 ^ (8 * (7 - i)) % 256) rfl (by rw [← cast_byte]; simp [go_sem]) hln hN (below_stepN hN HBw.out ((Below.refl _ _).alloc (Nat.le_refl _) _)) ?_
        intro v' w2 hown hb2
        have HO2 := Lib.hid hown
        have Hb2 := Lib.hid hb2
        clear hown hb2 HA HBw)
     | fail)
    refine ⟨⟨i + 1, by omega, by go_num, ?_, Hb2⟩, by simp [intOf]; omega⟩
    rw [HF.out, ← List.append_assoc]
    exact HO2
  · obtain rfl : i = 8 := by omega
    have e1 : (be 8 W).take 8 = be 8 W := List.take_of_length_le (by rw [be_len]; exact Nat.le_refl _)
    rw [e1] at HA
    go_wp2_with fail
    go_ret
    exact ⟨_, rfl, HA.out, HBw.out⟩
theorem strCells_vals (s : ByteArray) : Lib.strCells s = vals (ns s.data.toList) := by
 unfold Lib.strCells vals ns
 rw [List.map_map]
 rfl
theorem wpList_append_str (N : Nat) (w w0 : World) {ops : Array Oper} {rest : List Oper} {o : Oper} {act : Act} {Q : Exit → Act → World → Prop} (hgd : o.guard = none) (s x : Operand)
 (ho : o.op = .call { callee := .builtin .append, args := #[s, x], argTypes := #[79, 9] }) (v : Value) (es : List Nat) (hs : act.eval s = v) (hown : Own w N v es)
 (t : ByteArray) (hx : act.eval x = .string t) (hlen : es.length + t.size ≤ 140737488355328) (hN : N ≤ w0.heap.size) (hb : Below N w0 w)
 (hK : ∀ v' w', Own w' N v' (es ++ ns t.data.toList) → Below N w0 w' → wpList Tryz.prog ops Q rest (act.put o.dst v') w') : wpList Tryz.prog ops Q (o :: rest) act w := by
 obtain ⟨i0, hi, hz0, hz1, hz2⟩ := info_parts infoB
 refine Lib.wpList_append_own_string w hgd s x 79 9 ho N 5 i0 Tryz.underlying79 Tryz.underlying9 hi hz0 hz1 hz2 v es.length (vals es) hs hown t hx (by unfold maxLen; omega) hlen (Nat.le_trans hN hb.size) ?_
 intro v' w' h1 h2 _
 rw [strCells_vals] at h1
 exact hK v' w' (own_join rfl (by rw [ns_length, ← size_list]) h1) (below_grow hN hb hown h2)
theorem two_in {w : World} {B c d : Nat} (h : w.cell? ⟨B, 0, none⟩ = some (.int .u8 (c : Int))) (h2 : w.cell? ⟨B, 1, none⟩ = some (.int .u8 (d : Int))) : BytesIn w (some ⟨B, 0, none⟩) [c, d] := by
 intro i hi
 simp at hi
 rcases (by omega : i = 0 ∨ i = 1) with rfl | rfl
 · exact ⟨B, 0, rfl, h⟩
 · exact ⟨B, 0, rfl, h2⟩
theorem step_append_bytes (N : Nat) (w w0 : World) {ops : Array Oper} {o : Oper} {act : Act} {K : Act → World → Prop} {Q : Exit → Act → World → Prop} {E : Prop} (hgd : o.guard = none) (s x : Operand)
 (ho : o.op = .call { callee := .builtin .append, args := #[s, x], argTypes := #[79, 79] }) (v : Value) (es ys : List Nat) (hs : act.eval s = v) (hown : Own w N v es)
 (B m : Nat) (hx : act.eval x = .slice (some ⟨B, 0, none⟩) m m) (hm : ys.length = m) (hin : BytesIn w (some ⟨B, 0, none⟩) ys) (hlen : es.length + ys.length ≤ 140737488355328) (hN : N ≤ w0.heap.size) (hb : Below N w0 w)
 (hK : ∀ v' w', Own w' N v' (es ++ ys) → Below N w0 w' → (∀ p : Addr, p.block < w.heap.size → some p.block ≠ v.ownBlock → w'.cell? p = w.cell? p) → K (act.put o.dst v') w') : if Region.wanted o (yielded ops act.tmps) = true then Oper.wp Tryz.prog o act w K Q else E := by
 have hw : Region.wanted o (yielded ops act.tmps) = true := by simp [Region.wanted, hgd]
 rw [if_pos hw]
 exact wp_append_bytes w s x ho N v es ys hs hown (some ⟨B, 0, none⟩) m m hx hm (fun h => by cases h) hin hlen (Nat.le_trans hN hb.size) fun v' w' h1 h2 => hK v' w' h1 (below_grow hN hb hown h2) (fun p hp hne => h2.cell_far p hp hne)
theorem Own.far {w : World} {base B : Nat} {v : Value} {xs : List Nat} (h : Own w base v xs) (hB : w.heap.size ≤ B) : some B ≠ v.ownBlock := fun e => by
 have := (World.ownsRow.lt h B e.symm).2
 omega
theorem one_new (w : World) (c : Int) (n : Nat) (hc : c = (n : Int)) : BytesIn (w.alloc (.cells #[.int .u8 c] 5)) (some ⟨w.heap.size, 0, none⟩) [n] := by
 subst hc
 exact one_in (by simp [go_sem])
theorem two_new (w : World) (c d : Nat) : BytesIn (w.alloc (.cells #[.int .u8 (c : Int), .int .u8 (d : Int)] 5)) (some ⟨w.heap.size, 0, none⟩) [c, d] := two_in (by simp [go_sem]) (by simp [go_sem])
theorem one_at (w : World) (B : Nat) (hB : w.heap.size = B) (n : Nat) : BytesIn (w.alloc (.cells #[.int .u8 (n : Int)] 5)) (some ⟨B, 0, none⟩) [n] := by subst hB; exact one_new w _ n rfl
theorem two_at (w : World) (B : Nat) (hB : w.heap.size = B) (c d : Nat) : BytesIn (w.alloc (.cells #[.int .u8 (c : Int), .int .u8 (d : Int)] 5)) (some ⟨B, 0, none⟩) [c, d] := by subst hB; exact two_new w c d
set_option maxRecDepth 100000 in
set_option maxHeartbeats 1000000 in
theorem lay_int (N : Nat) (n : Int) (t : ByteArray) (b : Bool) (v : Value) (xs : List Nat) (w : World) (hN : N ≤ w.heap.size) (hn : inI n) (hl : xs.length + 5000 ≤ 140737488355328) (hown : Own w N v xs) :
 Calls Tryz.prog 109 #[v, .agg #[.int .i64 1, .int .i64 n, .string t, .bool b]] w fun e w' => ∃ v', e = .returned v' ∧ Own w' N v' (xs ++ ns (encV ⟨1, n, t, b⟩)) ∧ Below N w w' := by
 obtain ⟨YS, hY⟩ : ∃ YS, YS = xs ++ [2] := ⟨_, rfl⟩
 obtain ⟨ZS, hZ⟩ : ∃ ZS, ZS = xs ++ ns (encV ⟨1, n, t, b⟩) := ⟨_, rfl⟩
 have HL : Hid (∀ (v : Value) (W : World), Own W N v YS → Below N w W → Calls Tryz.prog 135 #[v, .int .i64 n] W fun e w' => ∃ v', e = .returned v' ∧ Own w' N v' ZS ∧ Below N w w') := fun v W h1 h2 =>
  (layInt_ N n v YS W (Nat.le_trans hN h2.size) hn (by rw [hY]; simp; omega) h1).mono fun e w' ⟨v', he, ho, hb⟩ => ⟨v', he, by rw [hZ]; rw [hY, List.append_assoc] at ho; exact ho, h2.trans hb⟩
 have HY : Hid (∀ (v' : Value) (W : World), Own W N v' (xs ++ [2]) → Own W N v' YS) := fun v' W h => by rw [hY]; exact h
 have hal : Below w.heap.size w (w.alloc (.cells #[.int .i64 1, .int .i64 n, .string t, .bool b] 73)) := (Below.refl _ _).alloc (Nat.le_refl _) _
 have HO := Lib.hid (hown.on hal)
 have HB := Lib.hid (hal.mono hN)
 have HNE := Lib.hid (hown.far (B := w.heap.size) (Nat.le_refl _))
 have HP : In4 (w.alloc (.cells #[.int .i64 1, .int .i64 n, .string t, .bool b] 73)) w.heap.size 0 1 n t b := in4_new w 1 n t b _
 obtain ⟨p0, p1, p2, p3⟩ := HP
 have HS : Hid (w.heap.size < (w.alloc (.cells #[.int .i64 1, .int .i64 n, .string t, .bool b] 73)).heap.size) := by
  show _ < _
  simp
 have HN := Lib.hid hN
 rw [← hZ]
 clear hown hn hal hN hY hZ
 go_enter Tryz.func109, Tryz.ntmps109
 go_wp2_with fail
 generalize w.alloc (.cells #[.int .i64 1, .int .i64 n, .string t, .bool b] 73) = W1 at *
 have hne := World.new_ne W1 ⟨w.heap.size, 1, none⟩ p1
 have K1 : Hid (∀ W', Below W1.heap.size W1 W' → W'.cell? ⟨w.heap.size, 1, none⟩ = some (.int .i64 n)) := fun W' hW => (hW.cell (p := ⟨w.heap.size, 1, none⟩) HS.out).trans p1
 have K2 : ∀ o, (W1.alloc o).cell? ⟨w.heap.size, 1, none⟩ = some (.int .i64 n) := fun o => K1.out _ ((Below.refl _ _).alloc (Nat.le_refl _) _)
 refine wp_region_noPanic ?_
 go_region_law (first
  | (refine step_append_bytes N _ w rfl _ _ rfl _ xs [2] rfl (HO.out.on (by first | exact ((Below.refl _ _).alloc (Nat.le_refl _) _).drew | exact (Below.refl _ _).drew.alloc (Nat.le_refl _) _ | exact (Below.refl _ _).alloc (Nat.le_refl _) _)) _ 1 rfl rfl (one_new _ 2 2 rfl) (by simp; omega) HN.out (below_stepN HN.out HB.out (by first | exact ((Below.refl _ _).alloc (Nat.le_refl _) _).drew | exact (Below.refl _ _).drew.alloc (Nat.le_refl _) _ | exact (Below.refl _ _).alloc (Nat.le_refl _) _)) ?_
     intro v' w2 hown hb2 hfar
     have HO2 := Lib.hid (HY.out _ _ hown)
     have HB2 := Lib.hid hb2
     have hS2 : w2.cell? ⟨w.heap.size, 1, none⟩ = some (.int .i64 n) := (hfar ⟨w.heap.size, 1, none⟩ (by have := HS.out; show w.heap.size < _; simp; omega) HNE.out).trans (K1.out _ (by first | exact ((Below.refl _ _).alloc (Nat.le_refl _) _).drew | exact (Below.refl _ _).drew.alloc (Nat.le_refl _) _ | exact (Below.refl _ _).alloc (Nat.le_refl _) _))
     clear hown hb2 hfar)
  | (go_simp; go_at_call 135; refine (HL.out _ _ HO2.out HB2.out).mono ?_; rintro e w3 ⟨v3, rfl, ho3, hb3⟩))
 all_goals (refine NoPanic.normal ?_; go_wp2_with fail; go_ret; exact ⟨_, rfl, ho3, hb3⟩)
theorem step_append_str (N : Nat) (w w0 : World) {ops : Array Oper} {o : Oper} {act : Act} {K : Act → World → Prop} {Q : Exit → Act → World → Prop} {E : Prop} (hgd : o.guard = none) (s x : Operand)
 (ho : o.op = .call { callee := .builtin .append, args := #[s, x], argTypes := #[79, 9] }) (v : Value) (es : List Nat) (hs : act.eval s = v) (hown : Own w N v es)
 (t : ByteArray) (hx : act.eval x = .string t) (hlen : es.length + t.size ≤ 140737488355328) (hN : N ≤ w0.heap.size) (hb : Below N w0 w)
 (hK : ∀ v' w', Own w' N v' (es ++ ns t.data.toList) → Below N w0 w' → K (act.put o.dst v') w') : if Region.wanted o (yielded ops act.tmps) = true then Oper.wp Tryz.prog o act w K Q else E := by
 have hw : Region.wanted o (yielded ops act.tmps) = true := by simp [Region.wanted, hgd]
 rw [if_pos hw]
 obtain ⟨i0, hi, hz0, hz1, hz2⟩ := info_parts infoB
 obtain ⟨v', w', hr, h2, h3, h4⟩ := Lib.run_append_own_string (P := Tryz.prog) w N 79 9 o.type 5 i0 Tryz.underlying79 Tryz.underlying9 hi hz0 hz1 hz2 v es.length (vals es) hown t (by unfold maxLen; omega) hlen (Nat.le_trans hN hb.size)
 rw [strCells_vals] at h2
 unfold Oper.wp execOp
 simp only [ho, resolve, invoke, builtin, Sem.run_bind, Sem.run_pure, Result.andThen_ok, List.map_toArray, List.map_cons, List.map_nil, hs, hx, hr]
 exact hK v' w' (own_join rfl (by rw [ns_length, ← size_list]) h2) (below_grow hN hb hown h3)
set_option maxRecDepth 100000 in
set_option maxHeartbeats 1000000 in
theorem lay_text (N : Nat) (n : Int) (t : ByteArray) (b : Bool) (v : Value) (xs : List Nat) (w : World) (hN : N ≤ w.heap.size) (ht : t.size ≤ 4096) (hl : xs.length + 5000 ≤ 140737488355328) (hown : Own w N v xs) :
 Calls Tryz.prog 109 #[v, .agg #[.int .i64 2, .int .i64 n, .string t, .bool b]] w fun e w' => ∃ v', e = .returned v' ∧ Own w' N v' (xs ++ ns (encV ⟨2, n, t, b⟩)) ∧ Below N w w' := by
 obtain ⟨YS, hY⟩ : ∃ YS, YS = xs ++ [3] := ⟨_, rfl⟩
 obtain ⟨XS, hX⟩ : ∃ XS, XS = YS ++ ns t.data.toList := ⟨_, rfl⟩
 obtain ⟨ZS, hZ⟩ : ∃ ZS, ZS = xs ++ ns (encV ⟨2, n, t, b⟩) := ⟨_, rfl⟩
 have hyl : YS.length + t.size ≤ 140737488355328 := by rw [hY]; simp; omega
 have hxl : XS.length + (⟨#[0]⟩ : ByteArray).size ≤ 140737488355328 := by rw [hX, List.length_append, ns_length, ← size_list]; show _ + 1 ≤ _; rw [hY]; simp; omega
 have HY : Hid (∀ (v' : Value) (W : World), Own W N v' (xs ++ [3]) → Own W N v' YS) := fun v' W h => by rw [hY]; exact h
 have HX : Hid (∀ (v' : Value) (W : World), Own W N v' (YS ++ ns t.data.toList) → Own W N v' XS) := fun v' W h => by rw [hX]; exact h
 have HZ : Hid (∀ (v' : Value) (W : World), Own W N v' (XS ++ ns (⟨#[0]⟩ : ByteArray).data.toList) → Own W N v' ZS) := fun v' W h => by
  rw [hX, hY] at h
  rw [hZ]
  have e : xs ++ [3] ++ ns t.data.toList ++ ns (⟨#[0]⟩ : ByteArray).data.toList = xs ++ ns (encV ⟨2, n, t, b⟩) := by
   rw [List.append_assoc, List.append_assoc, ns_append]; rfl
  rw [← e]; exact h
 have hal : Below w.heap.size w (w.alloc (.cells #[.int .i64 2, .int .i64 n, .string t, .bool b] 73)) := (Below.refl _ _).alloc (Nat.le_refl _) _
 have HO := Lib.hid (hown.on hal)
 have HB := Lib.hid (hal.mono hN)
 have HNE := Lib.hid (hown.far (B := w.heap.size) (Nat.le_refl _))
 have HP : In4 (w.alloc (.cells #[.int .i64 2, .int .i64 n, .string t, .bool b] 73)) w.heap.size 0 2 n t b := in4_new w 2 n t b _
 obtain ⟨p0, p1, p2, p3⟩ := HP
 have HS : Hid (w.heap.size < (w.alloc (.cells #[.int .i64 2, .int .i64 n, .string t, .bool b] 73)).heap.size) := by
  show _ < _
  simp
 have HN := Lib.hid hN
 rw [← hZ]
 clear hown hal hN hY hZ hX
 go_enter Tryz.func109, Tryz.ntmps109
 go_wp2_with fail
 generalize w.alloc (.cells #[.int .i64 2, .int .i64 n, .string t, .bool b] 73) = W1 at *
 have hne := World.new_ne W1 ⟨w.heap.size, 2, none⟩ p2
 have K1 : Hid (∀ W', Below W1.heap.size W1 W' → W'.cell? ⟨w.heap.size, 2, none⟩ = some (.string t)) := fun W' hW => (hW.cell (p := ⟨w.heap.size, 2, none⟩) HS.out).trans p2
 have K2 : ∀ o, (W1.alloc o).cell? ⟨w.heap.size, 2, none⟩ = some (.string t) := fun o => K1.out _ ((Below.refl _ _).alloc (Nat.le_refl _) _)
 refine wp_region_noPanic ?_
 go_region_law (first
  | (refine step_append_bytes N _ w rfl _ _ rfl _ xs [3] rfl (HO.out.on (by first | exact ((Below.refl _ _).alloc (Nat.le_refl _) _).drew | exact (Below.refl _ _).drew.alloc (Nat.le_refl _) _ | exact (Below.refl _ _).alloc (Nat.le_refl _) _)) _ 1 rfl rfl (one_new _ 3 3 rfl) (by simp; omega) HN.out (below_stepN HN.out HB.out (by first | exact ((Below.refl _ _).alloc (Nat.le_refl _) _).drew | exact (Below.refl _ _).drew.alloc (Nat.le_refl _) _ | exact (Below.refl _ _).alloc (Nat.le_refl _) _)) ?_
     intro v' w2 hown hb2 hfar
     have HO2 := Lib.hid (HY.out _ _ hown)
     have HB2 := Lib.hid hb2
     have hS2 : w2.cell? ⟨w.heap.size, 2, none⟩ = some (.string t) := (hfar ⟨w.heap.size, 2, none⟩ (by have := HS.out; show w.heap.size < _; simp; omega) HNE.out).trans (K1.out _ (by first | exact ((Below.refl _ _).alloc (Nat.le_refl _) _).drew | exact (Below.refl _ _).drew.alloc (Nat.le_refl _) _ | exact (Below.refl _ _).alloc (Nat.le_refl _) _))
     clear hown hb2 hfar)
  | (refine step_append_str N _ w rfl _ _ rfl _ YS rfl HO2.out t rfl hyl HN.out HB2.out ?_
     intro v3 w3 hown hb3
     have HO3 := Lib.hid (HX.out _ _ hown)
     have HB3 := Lib.hid hb3
     clear hown hb3)
  | (refine step_append_str N _ w rfl _ _ rfl _ XS rfl HO3.out ⟨#[0]⟩ rfl hxl HN.out HB3.out ?_
     intro v4 w4 hown hb4
     have HO4 := Lib.hid (HZ.out _ _ hown)
     have HB4 := Lib.hid hb4
     clear hown hb4))
 all_goals (refine NoPanic.normal ?_; go_wp2_with fail; go_ret; exact ⟨_, rfl, HO4.out, HB4.out⟩)
set_option maxRecDepth 100000 in
set_option maxHeartbeats 1000000 in
theorem lay_true (N : Nat) (n : Int) (t : ByteArray) (v : Value) (xs : List Nat) (w : World) (hN : N ≤ w.heap.size) (hl : xs.length + 5000 ≤ 140737488355328) (hown : Own w N v xs) :
 Calls Tryz.prog 109 #[v, .agg #[.int .i64 3, .int .i64 n, .string t, .bool true]] w fun e w' => ∃ v', e = .returned v' ∧ Own w' N v' (xs ++ ns (encV ⟨3, n, t, true⟩)) ∧ Below N w w' := by
 obtain ⟨ZS, hZ⟩ : ∃ ZS, ZS = xs ++ ns (encV ⟨3, n, t, true⟩) := ⟨_, rfl⟩
 have HZ : Hid (∀ (v' : Value) (W : World), Own W N v' (xs ++ [4, 1]) → Own W N v' ZS) := fun v' W h => by rw [hZ]; exact h
 have hal : Below w.heap.size w (w.alloc (.cells #[.int .i64 3, .int .i64 n, .string t, .bool true] 73)) := (Below.refl _ _).alloc (Nat.le_refl _) _
 have HO := Lib.hid (hown.on hal)
 have HB := Lib.hid (hal.mono hN)
 have HNE := Lib.hid (hown.far (B := w.heap.size) (Nat.le_refl _))
 have HP : In4 (w.alloc (.cells #[.int .i64 3, .int .i64 n, .string t, .bool true] 73)) w.heap.size 0 3 n t true := in4_new w 3 n t true _
 obtain ⟨p0, p1, p2, p3⟩ := HP
 have HS : Hid (w.heap.size < (w.alloc (.cells #[.int .i64 3, .int .i64 n, .string t, .bool true] 73)).heap.size) := by
  show _ < _
  simp
 have HN := Lib.hid hN
 rw [← hZ]
 clear hown hal hN hZ
 go_enter Tryz.func109, Tryz.ntmps109
 go_wp2_with (first
  | (at_builtin; refine wpList_append_bytes _ rfl _ _ rfl N _ xs [4, 1] rfl (HO.out.on (by first | exact ((Below.refl _ _).alloc (Nat.le_refl _) _).drew | exact (Below.refl _ _).drew.alloc (Nat.le_refl _) _ | exact (Below.refl _ _).alloc (Nat.le_refl _) _)) (some ⟨_, 0, none⟩) 2 2 rfl rfl (fun h => by cases h) (two_at _ _ (by simp) 4 1) (by simp; omega) (Nat.le_trans HN.out (Nat.le_trans HB.out.size (by simp))) ?_
     intro v' w2 hown hg
     have HO2 := Lib.hid (HZ.out _ _ hown)
     have HB2 := Lib.hid (below_grow HN.out (below_stepN HN.out HB.out (by first | exact ((Below.refl _ _).alloc (Nat.le_refl _) _).drew | exact (Below.refl _ _).drew.alloc (Nat.le_refl _) _ | exact (Below.refl _ _).alloc (Nat.le_refl _) _)) (HO.out.on (by first | exact ((Below.refl _ _).alloc (Nat.le_refl _) _).drew | exact (Below.refl _ _).drew.alloc (Nat.le_refl _) _ | exact (Below.refl _ _).alloc (Nat.le_refl _) _)) hg)
     clear hown hg)
  | fail)
 go_ret
 exact ⟨_, rfl, HO2.out, HB2.out⟩
set_option maxRecDepth 100000 in
set_option maxHeartbeats 1000000 in
theorem lay_false (N : Nat) (n : Int) (t : ByteArray) (v : Value) (xs : List Nat) (w : World) (hN : N ≤ w.heap.size) (hl : xs.length + 5000 ≤ 140737488355328) (hown : Own w N v xs) :
 Calls Tryz.prog 109 #[v, .agg #[.int .i64 3, .int .i64 n, .string t, .bool false]] w fun e w' => ∃ v', e = .returned v' ∧ Own w' N v' (xs ++ ns (encV ⟨3, n, t, false⟩)) ∧ Below N w w' := by
 obtain ⟨ZS, hZ⟩ : ∃ ZS, ZS = xs ++ ns (encV ⟨3, n, t, false⟩) := ⟨_, rfl⟩
 have HZ : Hid (∀ (v' : Value) (W : World), Own W N v' (xs ++ [4, 0]) → Own W N v' ZS) := fun v' W h => by rw [hZ]; exact h
 have hal : Below w.heap.size w (w.alloc (.cells #[.int .i64 3, .int .i64 n, .string t, .bool false] 73)) := (Below.refl _ _).alloc (Nat.le_refl _) _
 have HO := Lib.hid (hown.on hal)
 have HB := Lib.hid (hal.mono hN)
 have HNE := Lib.hid (hown.far (B := w.heap.size) (Nat.le_refl _))
 have HP : In4 (w.alloc (.cells #[.int .i64 3, .int .i64 n, .string t, .bool false] 73)) w.heap.size 0 3 n t false := in4_new w 3 n t false _
 obtain ⟨p0, p1, p2, p3⟩ := HP
 have HS : Hid (w.heap.size < (w.alloc (.cells #[.int .i64 3, .int .i64 n, .string t, .bool false] 73)).heap.size) := by
  show _ < _
  simp
 have HN := Lib.hid hN
 rw [← hZ]
 clear hown hal hN hZ
 go_enter Tryz.func109, Tryz.ntmps109
 go_wp2_with (first
  | (at_builtin; refine wpList_append_bytes _ rfl _ _ rfl N _ xs [4, 0] rfl (HO.out.on (by first | exact ((Below.refl _ _).alloc (Nat.le_refl _) _).drew | exact (Below.refl _ _).drew.alloc (Nat.le_refl _) _ | exact (Below.refl _ _).alloc (Nat.le_refl _) _)) (some ⟨_, 0, none⟩) 2 2 rfl rfl (fun h => by cases h) (two_at _ _ (by simp) 4 0) (by simp; omega) (Nat.le_trans HN.out (Nat.le_trans HB.out.size (by simp))) ?_
     intro v' w2 hown hg
     have HO2 := Lib.hid (HZ.out _ _ hown)
     have HB2 := Lib.hid (below_grow HN.out (below_stepN HN.out HB.out (by first | exact ((Below.refl _ _).alloc (Nat.le_refl _) _).drew | exact (Below.refl _ _).drew.alloc (Nat.le_refl _) _ | exact (Below.refl _ _).alloc (Nat.le_refl _) _)) (HO.out.on (by first | exact ((Below.refl _ _).alloc (Nat.le_refl _) _).drew | exact (Below.refl _ _).drew.alloc (Nat.le_refl _) _ | exact (Below.refl _ _).alloc (Nat.le_refl _) _)) hg)
     clear hown hg)
  | fail)
 go_ret
 exact ⟨_, rfl, HO2.out, HB2.out⟩
set_option maxRecDepth 100000 in
set_option maxHeartbeats 1000000 in
theorem lay_null (N : Nat) (k n : Int) (t : ByteArray) (b : Bool) (v : Value) (xs : List Nat) (w : World) (hN : N ≤ w.heap.size) (h1 : k ≠ 1) (h2 : k ≠ 2) (h3 : k ≠ 3) (hl : xs.length + 5000 ≤ 140737488355328) (hown : Own w N v xs) :
 Calls Tryz.prog 109 #[v, .agg #[.int .i64 k, .int .i64 n, .string t, .bool b]] w fun e w' => ∃ v', e = .returned v' ∧ Own w' N v' (xs ++ [1]) ∧ Below N w w' := by
 obtain ⟨ZS, hZ⟩ : ∃ ZS, ZS = xs ++ [1] := ⟨_, rfl⟩
 have HZ : Hid (∀ (v' : Value) (W : World), Own W N v' (xs ++ [1]) → Own W N v' ZS) := fun v' W h => by rw [hZ]; exact h
 have hal : Below w.heap.size w (w.alloc (.cells #[.int .i64 k, .int .i64 n, .string t, .bool b] 73)) := (Below.refl _ _).alloc (Nat.le_refl _) _
 have HO := Lib.hid (hown.on hal)
 have HB := Lib.hid (hal.mono hN)
 have HNE := Lib.hid (hown.far (B := w.heap.size) (Nat.le_refl _))
 have HP : In4 (w.alloc (.cells #[.int .i64 k, .int .i64 n, .string t, .bool b] 73)) w.heap.size 0 k n t b := in4_new w k n t b _
 obtain ⟨p0, p1, p2, p3⟩ := HP
 have HS : Hid (w.heap.size < (w.alloc (.cells #[.int .i64 k, .int .i64 n, .string t, .bool b] 73)).heap.size) := by
  show _ < _
  simp
 have HN := Lib.hid hN
 rw [← hZ]
 clear hown hal hN hZ
 go_enter Tryz.func109, Tryz.ntmps109
 go_wp2_with (first
  | (at_builtin; refine wpList_append_bytes _ rfl _ _ rfl N _ xs [1] rfl (HO.out.on (by first | exact ((Below.refl _ _).alloc (Nat.le_refl _) _).drew | exact (Below.refl _ _).drew.alloc (Nat.le_refl _) _ | exact (Below.refl _ _).alloc (Nat.le_refl _) _)) (some ⟨_, 0, none⟩) 1 1 rfl rfl (fun h => by cases h) (one_at _ _ (by simp) 1) (by simp; omega) (Nat.le_trans HN.out (Nat.le_trans HB.out.size (by simp))) ?_
     intro v' w2 hown hg
     have HO2 := Lib.hid (HZ.out _ _ hown)
     have HB2 := Lib.hid (below_grow HN.out (below_stepN HN.out HB.out (by first | exact ((Below.refl _ _).alloc (Nat.le_refl _) _).drew | exact (Below.refl _ _).drew.alloc (Nat.le_refl _) _ | exact (Below.refl _ _).alloc (Nat.le_refl _) _)) (HO.out.on (by first | exact ((Below.refl _ _).alloc (Nat.le_refl _) _).drew | exact (Below.refl _ _).drew.alloc (Nat.le_refl _) _ | exact (Below.refl _ _).alloc (Nat.le_refl _) _)) hg)
     clear hown hg)
  | fail)
 go_ret
 exact ⟨_, rfl, HO2.out, HB2.out⟩
theorem lay_ (N : Nat) (k n : Int) (t : ByteArray) (b : Bool) (v : Value) (xs : List Nat) (w : World) (hN : N ≤ w.heap.size) (hv : validN ⟨k, n, t, b⟩ = 0) (hn : inI n) (hl : xs.length + 5000 ≤ 140737488355328) (hown : Own w N v xs) :
 Calls Tryz.prog 109 #[v, .agg #[.int .i64 k, .int .i64 n, .string t, .bool b]] w fun e w' => ∃ v', e = .returned v' ∧ Own w' N v' (xs ++ ns (encV ⟨k, n, t, b⟩)) ∧ Below N w w' := by
 have hk := valid_kind (fit_of_valid hv)
 simp only at hk
 rcases hk with rfl | rfl | rfl | rfl
 · exact lay_null N 0 n t b v xs w hN (by decide) (by decide) (by decide) hl hown
 · exact lay_int N n t b v xs w hN hn hl hown
 · exact lay_text N n t b v xs w hN (size_of_valid hv) hl hown
 · cases b
   · exact lay_false N n t v xs w hN hl hown
   · exact lay_true N n t v xs w hN hl hown
end Go.Proofs.YtalmanfjiblhcaaGreat.Rw
namespace Go.Proofs.YtalmanfjiblhcaaGreat.Rw
open Go.RowKit Go.Sort
theorem ValsIn.get {w : World} {a : Option Addr} {vs : List Val} (h : ValsIn w a vs) (i : Nat) (hi : i < vs.length) : ∃ b o, a = some ⟨b, o, none⟩ ∧ ∃ k n t bb, vs[i] = ⟨k, n, t, bb⟩ ∧ In4 w b (o + i * 4) k n t bb := by
 obtain ⟨b, o, e, h1⟩ := h i hi
 exact ⟨b, o, e, _, _, _, _, rfl, h1⟩
theorem errL_bad {vs : List Val} {i : Nat} (hi : i < vs.length) (h : ∀ j (h : j < vs.length), j < i → validN vs[j] = 0) {E : Int} (hE : validN vs[i] = E) (h0 : E ≠ 0) : errL vs = E ∧ txtL vs = [] := by
 have e : errL vs = E := by
  unfold errL
  rw [encE_at vs vs.length i h, List.drop_eq_getElem_cons hi, encE, hE, if_pos h0]
 exact ⟨e, by rw [txtL, e, if_neg h0]⟩
theorem errL_long {vs : List Val} (h : ∀ j (h : j < vs.length), validN vs[j] = 0) (hl : 16 < vs.length) : errL vs = 2 ∧ txtL vs = [] := by
 have e : errL vs = 2 := by
  unfold errL
  rw [encE_at vs vs.length vs.length (fun j hj _ => h j hj), List.drop_length, encE, if_pos hl]
 exact ⟨e, by rw [txtL, e, if_neg (by decide)]⟩
theorem errL_ok {vs : List Val} (h : ∀ j (h : j < vs.length), validN vs[j] = 0) (hl : vs.length ≤ 16) : errL vs = 0 ∧ txtL vs = encL vs := by
 have e : errL vs = 0 := (errL_zero vs).2 ⟨fun v hv => by obtain ⟨j, hj, rfl⟩ := List.getElem_of_mem hv; exact h j hj, hl⟩
 exact ⟨e, by rw [txtL, e, if_pos rfl]⟩
theorem enc_take {vs : List Val} {i : Nat} (hi : i < vs.length) : ns (encL (vs.take (i + 1))) = ns (encL (vs.take i)) ++ ns (encV vs[i]) := by
 rw [List.take_add_one, List.getElem?_eq_getElem hi, ns_append]
 show ns (encL (vs.take i ++ [vs[i]])) = _
 rw [encL_snoc]
theorem enc_take_len {vs : List Val} (h : ∀ j (h : j < vs.length), validN vs[j] = 0) (hl : vs.length ≤ 16) (i : Nat) : (ns (encL (vs.take i))).length ≤ 65568 := by
 rw [ns_length]
 have := encL_len (vs.take i) (fun v hv => by
  obtain ⟨j, hj, rfl⟩ := List.getElem_of_mem (List.mem_of_mem_take hv)
  exact h j hj)
 have h2 : (vs.take i).length ≤ vs.length := List.length_take_le' _ _
 omega
set_option maxHeartbeats 1000000 in
theorem encode_ (a : Option Addr) (c : Nat) (vs : List Val) (w : World) (h : ValsIn w a vs) (hw : ∀ x ∈ vs, inI x.n) (hlen : vs.length ≤ 140737488355328) :
 Calls Tryz.prog 74 #[.slice a vs.length c] w fun e w' => e = .returned (.tuple #[.string ⟨(txtL vs).toArray⟩, errV 77 (errL vs)]) ∧ Below w.heap.size w w' := by
 obtain ⟨L, hL⟩ : ∃ L, vs.length = L := ⟨_, rfl⟩
 have HL := Lib.hid hL
 have HI := Lib.hid h
 have HW := Lib.hid hw
 rw [hL] at hlen
 rw [hL]
 obtain ⟨R, hR⟩ : ∃ R : Value × Value, R = (.string ⟨(txtL vs).toArray⟩, errV 77 (errL vs)) := ⟨_, rfl⟩
 have HR : Hid (R = (.string ⟨(txtL vs).toArray⟩, errV 77 (errL vs))) := hR
 rw [show (Value.string ⟨(txtL vs).toArray⟩) = R.1 by rw [hR], show errV 77 (errL vs) = R.2 by rw [hR]]
 clear h hw hL hR
 go_enter Tryz.func74, Tryz.ntmps74
 go_wp2_with fail
 go_loopw [12] (fun iv wr => ∃ i : Nat, i ≤ L ∧ iv = .int .i64 i ∧ Hid (∀ j (h : j < vs.length), j < i → validN vs[j] = 0) ∧ Hid (Below w.heap.size w wr)) (fun iv _ => L - (intOf iv).toNat)
 case atStart => exact ⟨0, Nat.zero_le _, rfl, fun j _ hj => by omega, Below.refl _ _⟩
 case round =>
  obtain ⟨i, hi, rfl, HV, HBw⟩ := hrel
  by_cases hlt : i < L
  · have hlt2 : (i : Int) < (L : Int) := by omega
    have hi2 : i < vs.length := by rw [HL.out]; exact hlt
    obtain ⟨b, o, rfl, k, n, t, bb, hvi, hin⟩ := ValsIn.get (HI.out.on HBw.out) i hi2
    obtain ⟨p0, p1, p2, p3⟩ := hin
    have HC : Hid (∀ W, Calls Tryz.prog 108 #[.agg #[.int .i64 k, .int .i64 n, .string t, .bool bb]] W fun e w' => e = .returned (errV 77 (validN ⟨k, n, t, bb⟩)) ∧ Below W.heap.size W w') := fun W => valid_ k n t bb W
    by_cases h0 : validN ⟨k, n, t, bb⟩ = 0
    · have h0' : errV 77 (validN ⟨k, n, t, bb⟩) = .nilIface := by rw [errV, if_pos h0]
      rw [h0'] at HC
      have HV2 : Hid (∀ j (h : j < vs.length), j < i + 1 → validN vs[j] = 0) := fun j hj hji => by
       rcases Nat.lt_or_ge j i with hh | hh
       · exact HV.out j hj hh
       · obtain rfl : j = i := by omega
         rw [hvi]; exact h0
      clear h0 h0' hvi HV hi2
      go_wp2_with fail
      refine (HC.out _).mono ?_
      rintro e w1 ⟨rfl, hb1⟩
      have HB1 : Hid (Below w.heap.size w w1) := below_step (below_step HBw.out ((Below.refl _ _).alloc (Nat.le_refl _) _)) hb1
      clear hb1 HBw p0 p1 p2 p3
      go_wp2_with fail
      go_roundw
      case rel => exact ⟨i + 1, by omega, by go_num, HV2, HB1⟩
      case measure => simp [intOf]; omega
    · obtain ⟨E, hE⟩ : ∃ E, validN ⟨k, n, t, bb⟩ = E := ⟨_, rfl⟩
      have h0' : errV 77 (validN ⟨k, n, t, bb⟩) = .iface 77 (.int .i64 E) := by rw [errV, if_neg h0, hE]
      have HF : Hid (R = (.string ⟨#[]⟩, .iface 77 (.int .i64 E))) := by
       obtain ⟨e1, e2⟩ := errL_bad hi2 HV.out (E := E) (by rw [hvi]; exact hE) (by rw [← hE]; exact h0)
       show _ = _
       rw [HR.out, e1, e2, errV, if_neg (by rw [← hE]; exact h0)]
      rw [h0'] at HC
      clear h0 h0' hvi HV hi2 hE
      go_wp2_with fail
      refine (HC.out _).mono ?_
      rintro e w1 ⟨rfl, hb1⟩
      have HB1 : Hid (Below w.heap.size w w1) := below_step (below_step HBw.out ((Below.refl _ _).alloc (Nat.le_refl _) _)) hb1
      clear hb1 HBw p0 p1 p2 p3
      go_wp2_with fail
      exact bodyPost_ret (v := .tuple #[.string ⟨#[]⟩, .iface 77 (.int .i64 E)]) (by simp [results, Tryz.results74, go_sem]) rfl ⟨by rw [HF.out], HB1.out⟩
  · obtain rfl : i = L := by omega
    by_cases h16 : 16 < i
    · have h16' : (16 : Int) < (i : Int) := by omega
      have HF : Hid (R = (.string ⟨#[]⟩, .iface 77 (.int .i64 2))) := by
       obtain ⟨e1, e2⟩ := errL_long (fun j hj => HV.out j hj (by rw [← HL.out]; exact hj)) (by rw [HL.out]; exact h16)
       show _ = _
       rw [HR.out, e1, e2, errV, if_neg (by decide)]
      clear HV
      go_wp2_with fail
      exact bodyPost_ret (v := .tuple #[.string ⟨#[]⟩, .iface 77 (.int .i64 2)]) (by simp [results, Tryz.results74, go_sem]) rfl ⟨by rw [HF.out], HBw.out⟩
    · have h16' : (i : Int) ≤ 16 := by omega
      have HA : Hid (∀ j (h : j < vs.length), validN vs[j] = 0) := fun j hj => HV.out j hj (by rw [← HL.out]; exact hj)
      have HF : Hid (R = (.string ⟨(encL vs).toArray⟩, .nilIface)) := by
       obtain ⟨e1, e2⟩ := errL_ok HA.out (by rw [HL.out]; omega)
       show _ = _
       rw [HR.out, e1, e2, errV, if_pos rfl]
      have HLn : Hid (∀ j, (ns (encL (vs.take j))).length ≤ 65568) := fun j => enc_take_len HA.out (by rw [HL.out]; omega) j
      clear HV HR
      go_wp2_with fail
      go_loopw [7, 28] (fun ov jv wx => ∃ j : Nat, j ≤ i ∧ jv = .int .i64 j ∧ Hid (Own wx w.heap.size ov (ns (encL (vs.take j)))) ∧ Hid (Below w.heap.size w wx)) (fun _ jv _ => i - (intOf jv).toNat)
      case atStart => exact ⟨0, Nat.zero_le _, rfl, own_nil _ _, HBw⟩
      case round =>
       clear HBw
       obtain ⟨j, hj, rfl, HO, HBx⟩ := hrel
       by_cases hjl : j < i
       · have hjl2 : (j : Int) < (i : Int) := by omega
         have hj2 : j < vs.length := by rw [HL.out]; exact hjl
         obtain ⟨b, o, rfl, k, n, t, bb, hvi, hin⟩ := ValsIn.get (HI.out.on HBx.out) j hj2
         obtain ⟨p0, p1, p2, p3⟩ := hin
         have hv0 : validN ⟨k, n, t, bb⟩ = 0 := by rw [← hvi]; exact HA.out j hj2
         have hn0 : inI n := by have := HW.out vs[j] (List.getElem_mem hj2); rw [hvi] at this; exact this
         obtain ⟨XS, hXS⟩ : ∃ XS, XS = ns (encL (vs.take j)) := ⟨_, rfl⟩
         have hxl : XS.length ≤ 65568 := by rw [hXS]; exact HLn.out j
         rw [← hXS] at HO
         have HLY : Hid (∀ W, Below wr.heap.size wr W → Calls Tryz.prog 109 #[_, .agg #[.int .i64 k, .int .i64 n, .string t, .bool bb]] W fun e w' => ∃ v', e = .returned v' ∧ Own w' w.heap.size v' (ns (encL (vs.take (j + 1)))) ∧ Below w.heap.size w w') := fun W hW =>
          (lay_ w.heap.size k n t bb _ XS W (Nat.le_trans HBx.out.size hW.size) hv0 hn0 (by omega) (HO.out.on hW)).mono fun e w' ⟨v', he, ho, hb⟩ => ⟨v', he, by rw [enc_take hj2, ← hXS, hvi]; exact ho, (below_step HBx.out hW).trans hb⟩
         clear hvi hv0 hn0 hxl hXS HO
         go_wp2_with fail
         refine (HLY.out _ ((Below.refl _ _).alloc (Nat.le_refl _) _)).mono ?_
         rintro e w1 ⟨v1, rfl, ho1, hb1⟩
         have HO1 := Lib.hid ho1
         have HB1 := Lib.hid hb1
         clear ho1 hb1 HLY HBx p0 p1 p2 p3 hj2
         go_wp2_with fail
         go_roundw
         case rel => exact ⟨j + 1, by omega, by go_num, HO1, HB1⟩
         case measure => simp [intOf]; omega
       · obtain rfl : j = i := by omega
         have e1 : vs.take j = vs := List.take_of_length_le (by rw [HL.out]; exact Nat.le_refl _)
         rw [e1] at HO
         obtain ⟨a', c', rfl, hbi, _⟩ := HO.out.bytes
         have kv := conv_ wr a' _ c' _ rfl hbi
         rw [bs_ns] at kv
         generalize (ns (encL vs)).length = LL at *
         clear HO hbi e1 HLn HA
         go_wp2_with fail
         exact bodyPost_ret (v := .tuple #[.string ⟨(encL vs).toArray⟩, .nilIface]) (by simp [results, Tryz.results74, go_sem]) rfl ⟨by rw [HF.out], HBx.out⟩
end Go.Proofs.YtalmanfjiblhcaaGreat.Rw
namespace Go.Proofs.YtalmanfjiblhcaaGreat.Rw
open Go.RowKit Go.Sort
def InC (w : World) (blk off : Nat) (c : Col) : Prop :=
 w.cell? ⟨blk, off, none⟩ = some (.string c.nm) ∧ w.cell? ⟨blk, off + 1, none⟩ = some (.int .i64 c.k) ∧ w.cell? ⟨blk, off + 2, none⟩ = some (.bool c.key) ∧ w.cell? ⟨blk, off + 3, none⟩ = some (.bool c.nul)
theorem InC.on {w w' : World} {blk off : Nat} {c : Col} (h : InC w blk off c) (hb : Below w.heap.size w w') : InC w' blk off c := by
 obtain ⟨h0, h1, h2, h3⟩ := h
 exact ⟨(hb.cell (block_lt_of_cell h0)).trans h0, (hb.cell (block_lt_of_cell h1)).trans h1, (hb.cell (block_lt_of_cell h2)).trans h2, (hb.cell (block_lt_of_cell h3)).trans h3⟩
theorem inC_new (w : World) (c : Col) (ty : TypeId) : InC (w.alloc (.cells #[.string c.nm, .int .i64 c.k, .bool c.key, .bool c.nul] ty)) w.heap.size 0 c := by
 refine ⟨?_, ?_, ?_, ?_⟩ <;> simp [go_sem]
def ColsIn (w : World) (a : Option Addr) (cs : List Col) : Prop :=
 ∀ i (h : i < cs.length), ∃ b o, a = some ⟨b, o, none⟩ ∧ InC w b (o + i * 4) cs[i]
theorem ColsIn.on {w w' : World} {a : Option Addr} {cs : List Col} (h : ColsIn w a cs) (hb : Below w.heap.size w w') : ColsIn w' a cs := by
 intro i hi
 obtain ⟨b, o, e, h1⟩ := h i hi
 exact ⟨b, o, e, h1.on hb⟩
theorem ColsIn.get {w : World} {a : Option Addr} {cs : List Col} (h : ColsIn w a cs) (i : Nat) (hi : i < cs.length) : ∃ b o, a = some ⟨b, o, none⟩ ∧ ∃ nm k y nl, cs[i] = ⟨nm, k, y, nl⟩ ∧ InC w b (o + i * 4) ⟨nm, k, y, nl⟩ := by
 obtain ⟨b, o, e, h1⟩ := h i hi
 exact ⟨b, o, e, _, _, _, _, rfl, h1⟩
theorem colsIn_nil (w : World) (a : Option Addr) : ColsIn w a [] := fun i hi => by simp at hi
def agC (c : Col) : Value := .agg #[.string c.nm, .int .i64 c.k, .bool c.key, .bool c.nul]
def InT (w : World) (blk : Nat) (nm : ByteArray) (a : Option Addr) (n c : Nat) : Prop :=
 w.cell? ⟨blk, 0, none⟩ = some (.string nm) ∧ w.cell? ⟨blk, 1, none⟩ = some (.slice a n c)
theorem InT.on {w w' : World} {blk : Nat} {nm : ByteArray} {a : Option Addr} {n c : Nat} (h : InT w blk nm a n c) (hb : Below w.heap.size w w') : InT w' blk nm a n c := by
 obtain ⟨h0, h1⟩ := h
 exact ⟨(hb.cell (block_lt_of_cell h0)).trans h0, (hb.cell (block_lt_of_cell h1)).trans h1⟩
theorem inT_new (w : World) (nm : ByteArray) (a : Option Addr) (n c : Nat) (ty : TypeId) : InT (w.alloc (.cells #[.string nm, .slice a n c] ty)) w.heap.size nm a n c := by
 refine ⟨?_, ?_⟩ <;> simp [go_sem]
theorem below_alloc1 (w : World) (o : Obj) : Below w.heap.size w (w.alloc o) := (Below.refl _ _).alloc (Nat.le_refl _) _
end Go.Proofs.YtalmanfjiblhcaaGreat.Rw
