/- The walks of the document's Valid and Compare; The walk of the document's Encode. -/
import Derived.Test.YtalmanfjiblhcaaGreatJ1
import Derived.Test.YtalmanfjiblhcaaGreatJ24
namespace Go.Proofs.YtalmanfjiblhcaaGreat.Rw
open Go.RowKit Go.Sort
theorem rv_low (k n : Int) (t : ByteArray) (b : Bool) (w : World) (h : k < 0) : Calls Tryz.prog 58 #[.agg #[.int .i64 k, .int .i64 n, .string t, .bool b]] w fun e w' => e = .returned (.int .i64 3) ∧ Below w.heap.size w w' := by
 go_enter Tryz.func58, Tryz.ntmps58
 go_wp2_with fail
 go_ret
 exact ⟨rfl, (Below.refl _ _).alloc (Nat.le_refl _) _⟩
theorem rv_high (k n : Int) (t : ByteArray) (b : Bool) (w : World) (h : 3 < k) : Calls Tryz.prog 58 #[.agg #[.int .i64 k, .int .i64 n, .string t, .bool b]] w fun e w' => e = .returned (.int .i64 3) ∧ Below w.heap.size w w' := by
 go_enter Tryz.func58, Tryz.ntmps58
 go_wp2_with fail
 go_ret
 exact ⟨rfl, (Below.refl _ _).alloc (Nat.le_refl _) _⟩
theorem rv_n0 (n : Int) (t : ByteArray) (b : Bool) (w : World) (h : (n != 0) = true) : Calls Tryz.prog 58 #[.agg #[.int .i64 0, .int .i64 n, .string t, .bool b]] w fun e w' => e = .returned (.int .i64 3) ∧ Below w.heap.size w w' := by
 go_enter Tryz.func58, Tryz.ntmps58
 go_wp2_with fail
 go_ret
 exact ⟨rfl, (Below.refl _ _).alloc (Nat.le_refl _) _⟩
theorem rv_n2 (n : Int) (t : ByteArray) (b : Bool) (w : World) (h : (n != 0) = true) : Calls Tryz.prog 58 #[.agg #[.int .i64 2, .int .i64 n, .string t, .bool b]] w fun e w' => e = .returned (.int .i64 3) ∧ Below w.heap.size w w' := by
 go_enter Tryz.func58, Tryz.ntmps58
 go_wp2_with fail
 go_ret
 exact ⟨rfl, (Below.refl _ _).alloc (Nat.le_refl _) _⟩
theorem rv_n3 (n : Int) (t : ByteArray) (b : Bool) (w : World) (h : (n != 0) = true) : Calls Tryz.prog 58 #[.agg #[.int .i64 3, .int .i64 n, .string t, .bool b]] w fun e w' => e = .returned (.int .i64 3) ∧ Below w.heap.size w w' := by
 go_enter Tryz.func58, Tryz.ntmps58
 go_wp2_with fail
 go_ret
 exact ⟨rfl, (Below.refl _ _).alloc (Nat.le_refl _) _⟩
theorem rv_t0 (t : ByteArray) (b : Bool) (w : World) (h : (t.toList == []) = false) : Calls Tryz.prog 58 #[.agg #[.int .i64 0, .int .i64 0, .string t, .bool b]] w fun e w' => e = .returned (.int .i64 3) ∧ Below w.heap.size w w' := by
 go_enter Tryz.func58, Tryz.ntmps58
 go_wp2_with fail
 go_ret
 exact ⟨rfl, (Below.refl _ _).alloc (Nat.le_refl _) _⟩
theorem rv_t1 (n : Int) (t : ByteArray) (b : Bool) (w : World) (h : (t.toList == []) = false) : Calls Tryz.prog 58 #[.agg #[.int .i64 1, .int .i64 n, .string t, .bool b]] w fun e w' => e = .returned (.int .i64 3) ∧ Below w.heap.size w w' := by
 go_enter Tryz.func58, Tryz.ntmps58
 go_wp2_with fail
 go_ret
 exact ⟨rfl, (Below.refl _ _).alloc (Nat.le_refl _) _⟩
theorem rv_t3 (t : ByteArray) (b : Bool) (w : World) (h : (t.toList == []) = false) : Calls Tryz.prog 58 #[.agg #[.int .i64 3, .int .i64 0, .string t, .bool b]] w fun e w' => e = .returned (.int .i64 3) ∧ Below w.heap.size w w' := by
 go_enter Tryz.func58, Tryz.ntmps58
 go_wp2_with fail
 go_ret
 exact ⟨rfl, (Below.refl _ _).alloc (Nat.le_refl _) _⟩
theorem rv_b0 (w : World) : Calls Tryz.prog 58 #[.agg #[.int .i64 0, .int .i64 0, .string ⟨#[]⟩, .bool true]] w fun e w' => e = .returned (.int .i64 3) ∧ Below w.heap.size w w' := by
 go_enter Tryz.func58, Tryz.ntmps58
 go_wp2_with fail
 go_ret
 exact ⟨rfl, (Below.refl _ _).alloc (Nat.le_refl _) _⟩
theorem rv_b1 (n : Int) (w : World) : Calls Tryz.prog 58 #[.agg #[.int .i64 1, .int .i64 n, .string ⟨#[]⟩, .bool true]] w fun e w' => e = .returned (.int .i64 3) ∧ Below w.heap.size w w' := by
 go_enter Tryz.func58, Tryz.ntmps58
 go_wp2_with fail
 go_ret
 exact ⟨rfl, (Below.refl _ _).alloc (Nat.le_refl _) _⟩
theorem rv_b2 (t : ByteArray) (w : World) : Calls Tryz.prog 58 #[.agg #[.int .i64 2, .int .i64 0, .string t, .bool true]] w fun e w' => e = .returned (.int .i64 3) ∧ Below w.heap.size w w' := by
 go_enter Tryz.func58, Tryz.ntmps58
 go_wp2_with fail
 go_ret
 exact ⟨rfl, (Below.refl _ _).alloc (Nat.le_refl _) _⟩
theorem rv_ok0 (w : World) : Calls Tryz.prog 58 #[.agg #[.int .i64 0, .int .i64 0, .string ⟨#[]⟩, .bool false]] w fun e w' => e = .returned (.int .i64 0) ∧ Below w.heap.size w w' := by
 go_enter Tryz.func58, Tryz.ntmps58
 go_wp2_with fail
 refine wp_loop_rounds 1 ?_
 rw [rounds_succ]
 go_wp2_with fail
 go_ret
 exact ⟨rfl, (Below.refl _ _).alloc (Nat.le_refl _) _⟩
theorem rv_ok1 (n : Int) (w : World) : Calls Tryz.prog 58 #[.agg #[.int .i64 1, .int .i64 n, .string ⟨#[]⟩, .bool false]] w fun e w' => e = .returned (.int .i64 0) ∧ Below w.heap.size w w' := by
 go_enter Tryz.func58, Tryz.ntmps58
 go_wp2_with fail
 refine wp_loop_rounds 1 ?_
 rw [rounds_succ]
 go_wp2_with fail
 go_ret
 exact ⟨rfl, (Below.refl _ _).alloc (Nat.le_refl _) _⟩
theorem rv_ok3t (w : World) : Calls Tryz.prog 58 #[.agg #[.int .i64 3, .int .i64 0, .string ⟨#[]⟩, .bool true]] w fun e w' => e = .returned (.int .i64 0) ∧ Below w.heap.size w w' := by
 go_enter Tryz.func58, Tryz.ntmps58
 go_wp2_with fail
 refine wp_loop_rounds 1 ?_
 rw [rounds_succ]
 go_wp2_with fail
 go_ret
 exact ⟨rfl, (Below.refl _ _).alloc (Nat.le_refl _) _⟩
theorem rv_ok3f (w : World) : Calls Tryz.prog 58 #[.agg #[.int .i64 3, .int .i64 0, .string ⟨#[]⟩, .bool false]] w fun e w' => e = .returned (.int .i64 0) ∧ Below w.heap.size w w' := by
 go_enter Tryz.func58, Tryz.ntmps58
 go_wp2_with fail
 refine wp_loop_rounds 1 ?_
 rw [rounds_succ]
 go_wp2_with fail
 go_ret
 exact ⟨rfl, (Below.refl _ _).alloc (Nat.le_refl _) _⟩
theorem rv_long (t : ByteArray) (w : World) (hl : 4096 < t.size) : Calls Tryz.prog 58 #[.agg #[.int .i64 2, .int .i64 0, .string t, .bool false]] w fun e w' => e = .returned (.int .i64 2) ∧ Below w.heap.size w w' := by
 have hl2 : (4096 : Int) < (t.size : Int) := by omega
 go_enter Tryz.func58, Tryz.ntmps58
 go_wp2_with fail
 go_ret
 exact ⟨rfl, (Below.refl _ _).alloc (Nat.le_refl _) _⟩
set_option maxHeartbeats 1000000 in
theorem rv_short (t : ByteArray) (w : World) (hl : t.size ≤ 4096) : Calls Tryz.prog 58 #[.agg #[.int .i64 2, .int .i64 0, .string t, .bool false]] w fun e w' => e = .returned (.int .i64 (if t.data.toList.all okB = false then 3 else 0)) ∧ Below w.heap.size w w' := by
 obtain ⟨E, hE⟩ : ∃ E : Int, (if t.data.toList.all okB = false then (3 : Int) else 0) = E := ⟨_, rfl⟩
 rw [hE]
 have HBAD : Hid (∀ (j : Nat) (h : j < t.size), ¬ (32 ≤ t[j].toNat ∧ t[j].toNat ≤ 126) → (3 : Int) = E) := fun j h hn => by
  have : t.data.toList.all okB = false := by
   cases e : t.data.toList.all okB
   · rfl
   · exact absurd (all_get.1 e j h) hn
  rw [← hE, if_pos this]
 have HGOOD : Hid ((∀ (j : Nat) (h : j < t.size), 32 ≤ t[j].toNat ∧ t[j].toNat ≤ 126) → (0 : Int) = E) := fun hh => by
  rw [← hE, all_get.2 hh]; rfl
 clear hE
 have hl2 : ¬ (4096 : Int) < (t.size : Int) := by omega
 obtain ⟨p0, p1, p2, p3⟩ := in4_new w 2 0 t false 73
 have HB0 : Hid (Below w.heap.size w (w.alloc (.cells #[.int .i64 2, .int .i64 0, .string t, .bool false] 73))) := (Below.refl _ _).alloc (Nat.le_refl _) _
 go_enter Tryz.func58, Tryz.ntmps58
 go_wp2_with fail
 generalize w.alloc (.cells #[.int .i64 2, .int .i64 0, .string t, .bool false] 73) = W2 at *
 go_loopw [3] (fun iv wr => ∃ i : Nat, i ≤ t.size ∧ Hid (∀ (j : Nat) (h : j < t.size), j < i → 32 ≤ t[j].toNat ∧ t[j].toNat ≤ 126) ∧ iv = .int .i64 i ∧ wr = W2) (fun iv _ => t.size - (intOf iv).toNat)
 case atStart => exact ⟨0, by omega, fun j _ hj => by omega, rfl, rfl⟩
 case round =>
  obtain ⟨i, hi, HH, rfl, rfl⟩ := hrel
  by_cases hlt : i < t.size
  · have hlt2 : (i : Int) < (t.size : Int) := by omega
    rcases (by omega : t[i].toNat < 32 ∨ (32 ≤ t[i].toNat ∧ t[i].toNat ≤ 126) ∨ 126 < t[i].toNat) with h1 | ⟨h1, h2⟩ | h1
    · go_wp2_with fail
      go_ret
      exact ⟨ret_int (HBAD.out i hlt (by omega)), HB0.out⟩
    · go_wp2_with fail
      refine ⟨⟨i + 1, by omega, fun j hj hji => ?_, by go_num, trivial⟩, by simp [intOf]; omega⟩
      by_cases e : j = i
      · subst e; exact ⟨h1, h2⟩
      · exact HH.out j hj (by omega)
    · go_wp2_with fail
      go_ret
      exact ⟨ret_int (HBAD.out i hlt (by omega)), HB0.out⟩
  · obtain rfl : i = t.size := by omega
    go_wp2_with fail
    go_ret
    exact ⟨ret_int (HGOOD.out fun j hj => HH.out j hj hj), HB0.out⟩
theorem txt_ne {t : ByteArray} (h : t ≠ ⟨#[]⟩) : (t.toList == []) = false := by
 rw [Lib.toList_data, beq_eq_false_iff_ne]
 exact fun e => h (ba_ext e)
theorem rvalid_ (k n : Int) (t : ByteArray) (b : Bool) (w : World) : Calls Tryz.prog 58 #[.agg #[.int .i64 k, .int .i64 n, .string t, .bool b]] w fun e w' => e = .returned (.int .i64 (validN ⟨k, n, t, b⟩)) ∧ Below w.heap.size w w' := by
 have hz : ∀ {x : ByteArray}, x ≠ ⟨#[]⟩ → ¬ x.size = 0 := fun h e => h (ba_empty e)
 have bad : fit ⟨k, n, t, b⟩ = false → validN ⟨k, n, t, b⟩ = 3 := fun h => by rw [validN, if_pos h]
 have good0 : fit ⟨k, n, t, b⟩ = true → t = ⟨#[]⟩ → validN ⟨k, n, t, b⟩ = 0 := fun h e => by
  rw [validN, if_neg (by rw [h]; decide)]; subst e; rfl
 by_cases k0 : k = 0
 · subst k0
   by_cases hn : n = 0
   · subst hn
     by_cases ht : t = ⟨#[]⟩
     · subst ht
       cases b
       · exact rv_ok0 w
       · exact rv_b0 w
     · rw [bad (by simp [fit, hz ht])]; exact rv_t0 t b w (txt_ne ht)
   · rw [bad (by simp [fit, hn])]; exact rv_n0 n t b w (by simpa using hn)
 by_cases k1 : k = 1
 · subst k1
   by_cases ht : t = ⟨#[]⟩
   · subst ht
     cases b
     · rw [good0 (by simp [fit]; rfl) rfl]; exact rv_ok1 n w
     · rw [bad (by simp [fit])]; exact rv_b1 n w
   · rw [bad (by simp [fit, hz ht])]; exact rv_t1 n t b w (txt_ne ht)
 by_cases k2 : k = 2
 · subst k2
   by_cases hn : n = 0
   · subst hn
     cases b
     · have hf : fit ⟨2, 0, t, false⟩ = true := rfl
       by_cases hl : 4096 < t.size
       · rw [validN, if_neg (by rw [hf]; decide), if_pos hl]; exact rv_long t w hl
       · rw [validN, if_neg (by rw [hf]; decide), if_neg hl]; exact rv_short t w (by omega)
     · rw [bad (by simp [fit])]; exact rv_b2 t w
   · rw [bad (by simp [fit, hn])]; exact rv_n2 n t b w (by simpa using hn)
 by_cases k3 : k = 3
 · subst k3
   by_cases hn : n = 0
   · subst hn
     by_cases ht : t = ⟨#[]⟩
     · subst ht
       cases b
       · exact rv_ok3f w
       · exact rv_ok3t w
     · rw [bad (by simp [fit, hz ht])]; exact rv_t3 t b w (txt_ne ht)
   · rw [bad (by simp [fit, hn])]; exact rv_n3 n t b w (by simpa using hn)
 · rw [bad (by simp [fit, k0, k1, k2, k3])]
   rcases (by omega : k < 0 ∨ 3 < k) with h | h
   · exact rv_low k n t b w h
   · exact rv_high k n t b w h
end Go.Proofs.YtalmanfjiblhcaaGreat.Rw
namespace Go.Proofs.YtalmanfjiblhcaaGreat.Rw
open Go.RowKit Go.Sort
def Kp (W : World) (B : Nat) (v : Val) : Prop := ∃ z, W.heap[B]? = some (.cells #[.int .i64 v.k, .int .i64 v.n, .string v.t, .bool v.b] 73 z)
theorem Kp.lt {W : World} {B : Nat} {v : Val} (h : Kp W B v) : B < W.heap.size := by
 obtain ⟨z, hz⟩ := h
 rcases Nat.lt_or_ge B W.heap.size with hl | hl
 · exact hl
 · rw [Array.getElem?_eq_none hl] at hz; cases hz
theorem Kp.on {W W' : World} {B : Nat} {v : Val} (h : Kp W B v) (hb : Below W.heap.size W W') : Kp W' B v := by
 have hl := h.lt
 obtain ⟨z, hz⟩ := h
 exact ⟨z, (hb.block B hl).trans hz⟩
theorem kp_new (w : World) (v : Val) : Kp (w.alloc (.cells #[.int .i64 v.k, .int .i64 v.n, .string v.t, .bool v.b] 73)) w.heap.size v := ⟨_, heap_alloc_new w _⟩
theorem Kp.in4 {W : World} {B : Nat} {v : Val} (h : Kp W B v) : In4 W B 0 v.k v.n v.t v.b := by
 obtain ⟨z, hz⟩ := h
 refine ⟨?_, ?_, ?_, ?_⟩ <;> simp [World.cell?, hz]
theorem Kp.far {W : World} {N B : Nat} {v : Val} {r : Value} {xs : List Nat} (h : Kp W B v) (ho : Own W N r xs) : some B ≠ r.ownBlock := by
 intro e
 obtain ⟨z, hz⟩ := h
 rcases ho.2 with ⟨rfl, _⟩ | ⟨g, cap, cur, rfl, _, hg, _⟩
 · simp [Value.ownBlock] at e
 · simp [Value.ownBlock] at e
   subst e
   rw [hz] at hg
   simp at hg
theorem Kp.grown {W W' : World} {N B : Nat} {v : Val} {r : Value} {xs : List Nat} (h : Kp W B v) (ho : Own W N r xs) (hg : W.grownBy W' r.ownBlock) : Kp W' B v := by
 have hl := h.lt
 have hf := h.far ho
 obtain ⟨z, hz⟩ := h
 exact ⟨z, (hg.block B hl hf).trans hz⟩
theorem wpList_append_kp (N : Nat) (w w0 : World) {ops : Array Oper} {rest : List Oper} {o : Oper} {act : Act} {Q : Exit → Act → World → Prop} (hgd : o.guard = none) (s x : Operand)
 (ho : o.op = .call { callee := .builtin .append, args := #[s, x], argTypes := #[79, 79] }) (r : Value) (es : List Nat) (hs : act.eval s = r) (hown : Own w N r es)
 (B c : Nat) (hx : act.eval x = .slice (some ⟨B, 0, none⟩) 1 1) (hc : w.cell? ⟨B, 0, none⟩ = some (.int .u8 (c : Int))) (hlen : es.length + 1 ≤ 140737488355328) (hN : N ≤ w0.heap.size) (hb : Below N w0 w) (K : Nat) (v : Val) (hk : Kp w K v)
 (hK : ∀ v' w', Own w' N v' (es ++ [c]) → Below N w0 w' → Kp w' K v → wpList Tryz.prog ops Q rest (act.put o.dst v') w') : wpList Tryz.prog ops Q (o :: rest) act w :=
 wpList_append_bytes w hgd s x ho N r es [c] hs hown (some ⟨B, 0, none⟩) 1 1 hx rfl (fun h => by cases h) (one_in hc) hlen (Nat.le_trans hN hb.size) fun v' w' h1 h2 => hK v' w' h1 (below_grow hN hb hown h2) (hk.grown hown h2)
theorem xor128_all : ∀ x : Fin 256, bits .xor .u8 (x.val : Int) 128 = (((x.val + 128) % 256 : Nat) : Int) := by decide +kernel
theorem xor128 {x : Nat} (h : x < 256) : bits .xor .u8 (x : Int) 128 = (((x + 128) % 256 : Nat) : Int) := xor128_all ⟨x, h⟩
theorem word_u {n : Int} (h : inI n) : ∃ u : Nat, IntKind.u64.wrap n = (u : Int) ∧ u < 18446744073709551616 ∧ word n = (u + 9223372036854775808) % 18446744073709551616 := by
 obtain ⟨h1, h2⟩ := h
 refine ⟨(n % 18446744073709551616).toNat, ?_, by omega, by unfold word; omega⟩
 show n % 18446744073709551616 = _
 omega
theorem byte_low {u m : Nat} (hm : m < 7) : (u + 9223372036854775808) % 18446744073709551616 / 2 ^ (8 * m) % 256 = u / 2 ^ (8 * m) % 256 := by
 rcases (by omega : m = 0 ∨ m = 1 ∨ m = 2 ∨ m = 3 ∨ m = 4 ∨ m = 5 ∨ m = 6) with rfl | rfl | rfl | rfl | rfl | rfl | rfl <;> simp only [Nat.reduceMul, Nat.reducePow] <;> omega
theorem byte_top (u : Nat) : (u + 9223372036854775808) % 18446744073709551616 / 2 ^ 56 % 256 = (u / 2 ^ 56 % 256 + 128) % 256 := by
 simp only [Nat.reducePow]; omega
theorem be_at (x m : Nat) (h : m < 8) : ns ((be 8 x).take (8 - m)) = ns ((be 8 x).take (7 - m)) ++ [x / 2 ^ (8 * m) % 256] := by
 have := be_take x (7 - m) (by omega)
 rw [show 7 - m + 1 = 8 - m by omega, show 7 - (7 - m) = m by omega] at this
 exact this
set_option maxRecDepth 100000 in
set_option maxHeartbeats 2000000 in
theorem oencode_ (a : Option Addr) (c : Nat) (vs : List Val) (w : World) (h : ValsIn w a vs) (hw : ∀ x ∈ vs, inI x.n) (hlen : vs.length ≤ 140737488355328) :
 Calls Tryz.prog 32 #[.slice a vs.length c] w fun e w' => e = .returned (.tuple #[.string ⟨(txtL vs).toArray⟩, .int .i64 (errL vs)]) ∧ Below w.heap.size w w' := by
 obtain ⟨L, hL⟩ : ∃ L, vs.length = L := ⟨_, rfl⟩
 have HL := Lib.hid hL
 have HI := Lib.hid h
 have HW := Lib.hid hw
 rw [hL] at hlen
 rw [hL]
 obtain ⟨R, hR⟩ : ∃ R : Value × Value, R = (.string ⟨(txtL vs).toArray⟩, .int .i64 (errL vs)) := ⟨_, rfl⟩
 have HR : Hid (R = (.string ⟨(txtL vs).toArray⟩, .int .i64 (errL vs))) := hR
 rw [show (Value.string ⟨(txtL vs).toArray⟩) = R.1 by rw [hR], show Value.int .i64 (errL vs) = R.2 by rw [hR]]
 clear h hw hL hR
 go_enter Tryz.func32, Tryz.ntmps32
 go_wp2_with fail
 go_loopw [4] (fun iv wr => ∃ i : Nat, i ≤ L ∧ iv = .int .i64 i ∧ Hid (∀ j (h : j < vs.length), j < i → validN vs[j] = 0) ∧ Hid (Below w.heap.size w wr)) (fun iv _ => L - (intOf iv).toNat)
 case atStart => exact ⟨0, Nat.zero_le _, rfl, fun j _ hj => by omega, Below.refl _ _⟩
 case round =>
  obtain ⟨i, hi, rfl, HV, HBw⟩ := hrel
  by_cases hlt : i < L
  · have hlt2 : (i : Int) < (L : Int) := by omega
    have hi2 : i < vs.length := by rw [HL.out]; exact hlt
    obtain ⟨b, o, rfl, k, n, t, bb, hvi, hin⟩ := ValsIn.get (HI.out.on HBw.out) i hi2
    obtain ⟨p0, p1, p2, p3⟩ := hin
    obtain ⟨E, hE⟩ : ∃ E, validN ⟨k, n, t, bb⟩ = E := ⟨_, rfl⟩
    have HC : Hid (∀ W, Calls Tryz.prog 58 #[.agg #[.int .i64 k, .int .i64 n, .string t, .bool bb]] W fun e w' => e = .returned (.int .i64 E) ∧ Below W.heap.size W w') := fun W => by rw [← hE]; exact rvalid_ k n t bb W
    by_cases h0 : E = 0
    · have HV2 : Hid (∀ j (h : j < vs.length), j < i + 1 → validN vs[j] = 0) := fun j hj hji => by
       rcases Nat.lt_or_ge j i with hh | hh
       · exact HV.out j hj hh
       · obtain rfl : j = i := by omega
         rw [hvi, hE]; exact h0
      subst h0
      clear hvi HV hi2 hE
      go_wp2_with fail
      refine (HC.out _).mono ?_
      rintro e w1 ⟨rfl, hb1⟩
      have HB1 : Hid (Below w.heap.size w w1) := below_step HBw.out hb1
      clear hb1 HBw p0 p1 p2 p3
      go_wp2_with fail
      go_roundw
      case rel => exact ⟨i + 1, by omega, by go_num, HV2, HB1⟩
      case measure => simp [intOf]; omega
    · have HF : Hid (R = (.string ⟨#[]⟩, .int .i64 E)) := by
       obtain ⟨e1, e2⟩ := errL_bad hi2 HV.out (E := E) (by rw [hvi]; exact hE) h0
       show _ = _
       rw [HR.out, e1, e2]
      have h0' : (E != 0) = true := by simpa using h0
      clear hvi HV hi2 hE
      go_wp2_with fail
      refine (HC.out _).mono ?_
      rintro e w1 ⟨rfl, hb1⟩
      have HB1 : Hid (Below w.heap.size w w1) := below_step HBw.out hb1
      clear hb1 HBw p0 p1 p2 p3
      go_wp2_with fail
      exact bodyPost_ret (v := .tuple #[.string ⟨#[]⟩, .int .i64 E]) (by simp [results, Tryz.results32, go_sem]) rfl ⟨by rw [HF.out], HB1.out⟩
  · obtain rfl : i = L := by omega
    by_cases h16 : 16 < i
    · have h16' : (16 : Int) < (i : Int) := by omega
      have HF : Hid (R = (.string ⟨#[]⟩, .int .i64 2)) := by
       obtain ⟨e1, e2⟩ := errL_long (fun j hj => HV.out j hj (by rw [← HL.out]; exact hj)) (by rw [HL.out]; exact h16)
       show _ = _
       rw [HR.out, e1, e2]
      clear HV
      go_wp2_with fail
      exact bodyPost_ret (v := .tuple #[.string ⟨#[]⟩, .int .i64 2]) (by simp [results, Tryz.results32, go_sem]) rfl ⟨by rw [HF.out], HBw.out⟩
    · have h16' : (i : Int) ≤ 16 := by omega
      have HA : Hid (∀ j (h : j < vs.length), validN vs[j] = 0) := fun j hj => HV.out j hj (by rw [← HL.out]; exact hj)
      have HF : Hid (R = (.string ⟨(encL vs).toArray⟩, .int .i64 0)) := by
       obtain ⟨e1, e2⟩ := errL_ok HA.out (by rw [HL.out]; omega)
       show _ = _
       rw [HR.out, e1, e2]
      have HLn : Hid (∀ j, (ns (encL (vs.take j))).length ≤ 65568) := fun j => enc_take_len HA.out (by rw [HL.out]; omega) j
      clear HV HR
      go_wp2_with fail
      go_loopw [6, 7] (fun ov jv wx => ∃ j : Nat, j ≤ i ∧ jv = .int .i64 j ∧ Hid (Own wx w.heap.size ov (ns (encL (vs.take j)))) ∧ Hid (Below w.heap.size w wx)) (fun _ jv _ => i - (intOf jv).toNat)
      case atStart => exact ⟨0, Nat.zero_le _, rfl, own_nil _ _, HBw⟩
      case round =>
       clear HBw
       obtain ⟨j, hj, rfl, HO, HBx⟩ := hrel
       by_cases hjl : j < i
       · have hjl2 : (j : Int) < (i : Int) := by omega
         have hj2 : j < vs.length := by rw [HL.out]; exact hjl
         obtain ⟨b, o, rfl, k, n, t, bb, hvi, hin⟩ := ValsIn.get (HI.out.on HBx.out) j hj2
         obtain ⟨p0, p1, p2, p3⟩ := hin
         have hv0 : validN ⟨k, n, t, bb⟩ = 0 := by rw [← hvi]; exact HA.out j hj2
         have hn0 : inI n := by have := HW.out vs[j] (List.getElem_mem hj2); rw [hvi] at this; exact this
         obtain ⟨XS, hXS⟩ : ∃ XS, XS = ns (encL (vs.take j)) := ⟨_, rfl⟩
         have hxl : XS.length ≤ 65568 := by rw [hXS]; exact HLn.out j
         rw [← hXS] at HO
         have HZ : Hid (∀ (W : World) (r : Value), Own W w.heap.size r (XS ++ ns (encV ⟨k, n, t, bb⟩)) → Own W w.heap.size r (ns (encL (vs.take (j + 1))))) := fun W r hh => by rw [enc_take hj2, ← hXS, hvi]; exact hh
         have hts := size_of_valid hv0
         simp only at hts
         have hk := valid_kind (fit_of_valid hv0)
         simp only at hk
         have hbx := HBx.out.size
         have HNx := Lib.hid hbx
         clear hvi hv0 hXS hj2 HA HLn hbx
         rcases hk with rfl | rfl | rfl | rfl
         · go_wp2_with (first
            | (at_builtin; refine wpList_append_kp w.heap.size _ w rfl _ _ rfl _ XS rfl (HO.out.on (((Below.refl _ _).alloc (Nat.le_refl _) _).alloc (by simp) _)) (wr.heap.size + 1) 1 rfl (by simp [go_sem]) (by omega) (Nat.le_refl _) (below_step HBx.out (((Below.refl _ _).alloc (Nat.le_refl _) _).alloc (by simp) _)) wr.heap.size ⟨0, n, t, bb⟩ ((kp_new wr ⟨0, n, t, bb⟩).on ((Below.refl _ _).alloc (Nat.le_refl _) _)) ?_
               intro v2 w2 hown hb2 hk2
               have HO2 := Lib.hid hown
               have HB2 := Lib.hid hb2
               have HK2 := Lib.hid hk2
               obtain ⟨q0, q1, q2, q3⟩ := hk2.in4
               clear hown hb2 hk2 p0 p1 p2 p3 HO HBx)
            | fail)
           go_roundw
           case rel => exact ⟨j + 1, by omega, by go_num, HZ.out _ _ (by have := HO2.out; exact this), HB2⟩
           case measure => simp [intOf]; omega
         · obtain ⟨u, hu, hul, hwu⟩ := word_u hn0
           have HWU : Hid (∀ m, m < 8 → ns ((be 8 (word n)).take (8 - m)) = ns ((be 8 (word n)).take (7 - m)) ++ [word n / 2 ^ (8 * m) % 256]) := fun m hm => be_at (word n) m hm
           rw [hwu] at HWU
           have HZ1 : Hid (∀ (W : World) (r : Value), Own W w.heap.size r (XS ++ [2] ++ ns ((be 8 ((u + 9223372036854775808) % 18446744073709551616)).take 8)) → Own W w.heap.size r (ns (encL (vs.take (j + 1))))) := fun W r hh => HZ.out W r (by
            rw [List.take_of_length_le (by rw [be_len]; exact Nat.le_refl _), ← hwu, List.append_assoc] at hh
            exact hh)
           have hbl : ∀ m, (ns ((be 8 ((u + 9223372036854775808) % 18446744073709551616)).take m)).length ≤ 8 := fun m => by
            rw [ns_length]; have := List.length_take_le' m (be 8 ((u + 9223372036854775808) % 18446744073709551616)); rw [be_len] at this; exact this
           have HX := Lib.hid (fun m (hm : m < 7) => byte_low (u := u) hm)
           have HT := Lib.hid (byte_top u)
           generalize be 8 ((u + 9223372036854775808) % 18446744073709551616) = BE at *
           have hx7 : bits .xor .u8 ((u : Int) / 72057594037927936 % 256) 128 = (((u / 2 ^ 56 % 256 + 128) % 256 : Nat) : Int) := by
            have := xor128 (x := u / 2 ^ 56 % 256) (by omega)
            rw [← this]; congr 1
           have hx7c : bits .xor .u8 ((u : Int) / 72057594037927936) 128 = ((u : Int) / 72057594037927936 + 128) % 256 := by
            have := xor128 (x := u / 72057594037927936) (by omega)
            have e : ((u / 72057594037927936 : Nat) : Int) = (u : Int) / 72057594037927936 := by omega
            rw [e] at this
            rw [this]; omega
           have hx7b : bits .xor .u8 ((u : Int) / 2 ^ 56 % 256) 128 = (((u / 2 ^ 56 % 256 + 128) % 256 : Nat) : Int) := by
            have := xor128 (x := u / 2 ^ 56 % 256) (by omega)
            rw [← this]; congr 1
           clear hn0 hwu HZ
           go_wp2_with (first
            | (at_builtin; refine wpList_append_kp w.heap.size _ w rfl _ _ rfl _ XS rfl (HO.out.on (((Below.refl _ _).alloc (Nat.le_refl _) _).alloc (by simp) _)) (wr.heap.size + 1) 2 rfl (by simp [go_sem]) (by omega) (Nat.le_refl _) (below_step HBx.out (((Below.refl _ _).alloc (Nat.le_refl _) _).alloc (by simp) _)) wr.heap.size ⟨1, n, t, bb⟩ ((kp_new wr ⟨1, n, t, bb⟩).on ((Below.refl _ _).alloc (Nat.le_refl _) _)) ?_
               intro v2 w2 hown hb2 hk2
               have HO2 := Lib.hid hown
               have HB2 := Lib.hid hb2
               have HK2 := Lib.hid hk2
               obtain ⟨q0, q1, q2, q3⟩ := hk2.in4
               clear hown hb2 hk2 p0 p1 p2 p3 HO HBx)
            | fail)
           go_loopw [6, 9] (fun ov kv wy => ∃ m : Nat, m ≤ 8 ∧ kv = .int .i64 ((m : Int) - 1) ∧ Hid (Own wy w.heap.size ov (XS ++ [2] ++ ns (BE.take (8 - m)))) ∧ Hid (Below w.heap.size w wy) ∧ Hid (Kp wy wr.heap.size ⟨1, n, t, bb⟩)) (fun _ kv _ => (intOf kv + 1).toNat)
           case atStart => exact ⟨8, Nat.le_refl _, rfl, by have := HO2; simpa [ns] using this, HB2, HK2⟩
           case round =>
            clear q0 q1 q2 q3 HO2 HB2 HK2
            obtain ⟨m, hm, rfl, HOy, HBy, HKy⟩ := hrel
            cases m with
            | zero =>
              go_wp2_with fail
              go_roundw
              case rel => exact ⟨j + 1, by omega, by go_num, HZ1.out _ _ HOy.out, HBy⟩
              case measure => simp [intOf]; omega
            | succ q =>
              have em : (((q + 1 : Nat) : Int) - 1) = (q : Int) := by omega
              rw [em]
              obtain ⟨q0, q1, q2, q3⟩ := HKy.out.in4
              have hq8 : q < 8 := by omega
              have hes := hbl (8 - (q + 1))
              have hln : (XS ++ [2] ++ ns (BE.take (8 - (q + 1)))).length + 1 ≤ 140737488355328 := by simp only [List.length_append, List.length_singleton]; omega
              by_cases hq7 : q = 7
              · subst hq7
                have HBYTE : Hid ((u + 9223372036854775808) % 18446744073709551616 / 2 ^ (8 * 7) % 256 = (u / 2 ^ 56 % 256 + 128) % 256) := HT.out
                go_wp2_with (first
                 | (at_builtin; refine wpList_append_kp w.heap.size _ w rfl _ _ rfl _ (XS ++ [2] ++ ns (BE.take (8 - (7 + 1)))) rfl (HOy.out.on ((Below.refl _ _).alloc (Nat.le_refl _) _)) wr.heap.size ((u / 2 ^ 56 % 256 + 128) % 256) rfl (by first | (simp [go_sem]; done) | (simp [go_sem]; omega)) hln (Nat.le_refl _) (below_step HBy.out ((Below.refl _ _).alloc (Nat.le_refl _) _)) _ ⟨1, n, t, bb⟩ (HKy.out.on ((Below.refl _ _).alloc (Nat.le_refl _) _)) ?_
                    intro v3 w3 hown hb3 hk3
                    have HO3 := Lib.hid hown
                    have HB3 := Lib.hid hb3
                    have HK3 := Lib.hid hk3
                    clear hown hb3 hk3 q0 q1 q2 q3)
                 | fail)
                go_roundw
                case rel =>
                 refine ⟨7, by omega, by go_num, ?_, HB3, HK3⟩
                 rw [HWU.out 7 hq8, HBYTE.out, ← List.append_assoc, show 7 - 7 = 8 - (7 + 1) by omega]
                 exact HO3
                case measure => simp [intOf]
              · have hq7' : ((q : Int) == 7) = false := by simp; omega
                have HBYTE := Lib.hid (HX.out q (by omega))
                go_wp2_with (first
                 | (at_builtin; refine wpList_append_kp w.heap.size _ w rfl _ _ rfl _ (XS ++ [2] ++ ns (BE.take (8 - (q + 1)))) rfl (HOy.out.on ((Below.refl _ _).alloc (Nat.le_refl _) _)) wr.heap.size (u / 2 ^ (8 * q) % 256) rfl (by rw [← cast_byte]; simp [go_sem]) hln (Nat.le_refl _) (below_step HBy.out ((Below.refl _ _).alloc (Nat.le_refl _) _)) _ ⟨1, n, t, bb⟩ (HKy.out.on ((Below.refl _ _).alloc (Nat.le_refl _) _)) ?_
                    intro v3 w3 hown hb3 hk3
                    have HO3 := Lib.hid hown
                    have HB3 := Lib.hid hb3
                    have HK3 := Lib.hid hk3
                    clear hown hb3 hk3 q0 q1 q2 q3)
                 | fail)
                go_roundw
                case rel =>
                 refine ⟨q, by omega, by go_num, ?_, HB3, HK3⟩
                 rw [HWU.out q hq8, HBYTE.out, ← List.append_assoc, show 7 - q = 8 - (q + 1) by omega]
                 exact HO3
                case measure => simp [intOf]
         · go_wp2_with (first
            | (at_builtin; refine wpList_append_kp w.heap.size _ w rfl _ _ rfl _ XS rfl (HO.out.on (((Below.refl _ _).alloc (Nat.le_refl _) _).alloc (by simp) _)) (wr.heap.size + 1) 3 rfl (by simp [go_sem]) (by omega) (Nat.le_refl _) (below_step HBx.out (((Below.refl _ _).alloc (Nat.le_refl _) _).alloc (by simp) _)) wr.heap.size ⟨2, n, t, bb⟩ ((kp_new wr ⟨2, n, t, bb⟩).on ((Below.refl _ _).alloc (Nat.le_refl _) _)) ?_
               intro v2 w2 hown hb2 hk2
               have HO2 := Lib.hid hown
               have HB2 := Lib.hid hb2
               have HK2 := Lib.hid hk2
               obtain ⟨q0, q1, q2, q3⟩ := hk2.in4
               clear hown hb2 hk2 p0 p1 p2 p3 HO HBx)
            | (at_builtin; refine wpList_append_str w.heap.size _ w rfl _ _ rfl _ (XS ++ [3]) rfl HO2.out t rfl (by simp; omega) (Nat.le_refl _) HB2.out ?_
               intro v3 w3 hown hb3
               have HO3 := Lib.hid hown
               have HB3 := Lib.hid hb3
               clear hown hb3 q0 q1 q2 q3)
            | (at_builtin; refine wpList_append_one w.heap.size _ w rfl _ _ rfl _ (XS ++ [3] ++ ns t.data.toList) rfl (.inl (HO3.out.on ((Below.refl _ _).alloc (Nat.le_refl _) _))) w3.heap.size 0 rfl (by simp [go_sem]) (by simp [ns]; rw [size_list] at hts; simp at hts; omega) (Nat.le_refl _) (below_step HB3.out ((Below.refl _ _).alloc (Nat.le_refl _) _)) ?_
               intro v4 w4 hown hb4
               have HO4 := Lib.hid hown
               have HB4 := Lib.hid hb4
               clear hown hb4)
            | fail)
           go_roundw
           case rel => exact ⟨j + 1, by omega, by go_num, HZ.out _ _ (by have := HO4.out; rw [List.append_assoc, List.append_assoc] at this; have e : [3] ++ (ns t.data.toList ++ [0]) = ns (encV ⟨2, n, t, bb⟩) := (by show _ = ns (3 :: (t.data.toList ++ [0])); simp [ns]); rw [e] at this; exact this), HB4⟩
           case measure => simp [intOf]; omega
         · cases bb
           · go_wp2_with (first
              | (at_builtin; refine wpList_append_kp w.heap.size _ w rfl _ _ rfl _ XS rfl (HO.out.on (((Below.refl _ _).alloc (Nat.le_refl _) _).alloc (by simp) _)) (wr.heap.size + 1) 4 rfl (by simp [go_sem]) (by omega) (Nat.le_refl _) (below_step HBx.out (((Below.refl _ _).alloc (Nat.le_refl _) _).alloc (by simp) _)) wr.heap.size ⟨3, n, t, false⟩ ((kp_new wr ⟨3, n, t, false⟩).on ((Below.refl _ _).alloc (Nat.le_refl _) _)) ?_
                 intro v2 w2 hown hb2 hk2
                 have HO2 := Lib.hid hown
                 have HB2 := Lib.hid hb2
                 have HK2 := Lib.hid hk2
                 obtain ⟨q0, q1, q2, q3⟩ := hk2.in4
                 clear hown hb2 hk2 p0 p1 p2 p3 HO HBx)
              | (at_builtin; refine wpList_append_one w.heap.size _ w rfl _ _ rfl _ (XS ++ [4]) rfl (.inl (HO2.out.on ((Below.refl _ _).alloc (Nat.le_refl _) _))) w2.heap.size 0 rfl (by simp [go_sem]) (by simp; omega) (Nat.le_refl _) (below_step HB2.out ((Below.refl _ _).alloc (Nat.le_refl _) _)) ?_
                 intro v3 w3 hown hb3
                 have HO3 := Lib.hid hown
                 have HB3 := Lib.hid hb3
                 clear hown hb3 q0 q1 q2 q3)
              | fail)
             go_roundw
             case rel => exact ⟨j + 1, by omega, by go_num, HZ.out _ _ (by have := HO3.out; rw [List.append_assoc] at this; exact this), HB3⟩
             case measure => simp [intOf]; omega
           · go_wp2_with (first
              | (at_builtin; refine wpList_append_kp w.heap.size _ w rfl _ _ rfl _ XS rfl (HO.out.on (((Below.refl _ _).alloc (Nat.le_refl _) _).alloc (by simp) _)) (wr.heap.size + 1) 4 rfl (by simp [go_sem]) (by omega) (Nat.le_refl _) (below_step HBx.out (((Below.refl _ _).alloc (Nat.le_refl _) _).alloc (by simp) _)) wr.heap.size ⟨3, n, t, true⟩ ((kp_new wr ⟨3, n, t, true⟩).on ((Below.refl _ _).alloc (Nat.le_refl _) _)) ?_
                 intro v2 w2 hown hb2 hk2
                 have HO2 := Lib.hid hown
                 have HB2 := Lib.hid hb2
                 have HK2 := Lib.hid hk2
                 obtain ⟨q0, q1, q2, q3⟩ := hk2.in4
                 clear hown hb2 hk2 p0 p1 p2 p3 HO HBx)
              | (at_builtin; refine wpList_append_one w.heap.size _ w rfl _ _ rfl _ (XS ++ [4]) rfl (.inl (HO2.out.on ((Below.refl _ _).alloc (Nat.le_refl _) _))) w2.heap.size 1 rfl (by simp [go_sem]) (by simp; omega) (Nat.le_refl _) (below_step HB2.out ((Below.refl _ _).alloc (Nat.le_refl _) _)) ?_
                 intro v3 w3 hown hb3
                 have HO3 := Lib.hid hown
                 have HB3 := Lib.hid hb3
                 clear hown hb3 q0 q1 q2 q3)
              | fail)
             go_roundw
             case rel => exact ⟨j + 1, by omega, by go_num, HZ.out _ _ (by have := HO3.out; rw [List.append_assoc] at this; exact this), HB3⟩
             case measure => simp [intOf]; omega
       · obtain rfl : j = i := by omega
         have e1 : vs.take j = vs := List.take_of_length_le (by rw [HL.out]; exact Nat.le_refl _)
         rw [e1] at HO
         obtain ⟨a', c', rfl, hbi, _⟩ := HO.out.bytes
         have kv := conv_ wr a' _ c' _ rfl hbi
         rw [bs_ns] at kv
         generalize (ns (encL vs)).length = LL at *
         clear HO hbi e1 HLn HA
         go_wp2_with fail
         exact bodyPost_ret (v := .tuple #[.string ⟨(encL vs).toArray⟩, .int .i64 0]) (by simp [results, Tryz.results32, go_sem]) rfl ⟨by rw [HF.out], HBx.out⟩
end Go.Proofs.YtalmanfjiblhcaaGreat.Rw
