/- The walk of value.Valid; Plain facts on bytes read as values: what the document reads of a text, and that it meets the values whose text it is. No program is in it; Plain facts on bytes read as values by the program: one value at the begin of a text; what is read and may be was laid. No program is in it. -/
import Derived.Test.YtalmanfjiblhcaaGreatJ0
namespace Go.Proofs.YtalmanfjiblhcaaGreat.Rw
open Go.RowKit Go.Sort
def namR (v : Val) : Val := if v.k = 1 then vInt v.n else if v.k = 2 then ⟨2, 0, v.t, false⟩ else if v.k = 3 then vBool v.b else vNull
set_option maxHeartbeats 400000 in
theorem named_ (k n : Int) (t : ByteArray) (b : Bool) (w : World) : Calls Tryz.prog 134 #[.agg #[.int .i64 k, .int .i64 n, .string t, .bool b]] w fun e w' => e = .returned (agV (namR ⟨k, n, t, b⟩)) ∧ Below w.heap.size w w' := by
 have HI : Hid (∀ W, Calls Tryz.prog 149 #[.int .i64 n] W fun e w' => e = .returned (.agg #[.int .i64 1, .int .i64 n, .string ⟨#[]⟩, .bool false]) ∧ Below W.heap.size W w') := fun W => int_ n W
 have HT : Hid (∀ W, Calls Tryz.prog 151 #[.string t] W fun e w' => e = .returned (.agg #[.int .i64 2, .int .i64 0, .string t, .bool false]) ∧ Below W.heap.size W w') := fun W => text_ t W
 have HBo : Hid (∀ W, Calls Tryz.prog 152 #[.bool b] W fun e w' => e = .returned (.agg #[.int .i64 3, .int .i64 0, .string ⟨#[]⟩, .bool b]) ∧ Below W.heap.size W w') := fun W => bool_ b W
 have HNU : Hid (∀ W, Calls Tryz.prog 121 #[] W fun e w' => e = .returned (.agg #[.int .i64 0, .int .i64 0, .string ⟨#[]⟩, .bool false]) ∧ Below W.heap.size W w') := fun W => null_ W
 by_cases h1 : k = 1
 · subst h1
   have e1 : namR ⟨1, n, t, b⟩ = ⟨1, n, ⟨#[]⟩, false⟩ := by simp [namR, vInt]
   rw [e1]
   simp only [agV]
   have F0 := Lib.hid (fr1_start w 1 n t b 73)
   go_enter Tryz.func134, Tryz.ntmps134
   go_wp2_with fail
   refine (HI.out _).mono ?_
   rintro e w1 ⟨rfl, hb1⟩
   have F1 := Lib.hid (F0.out.on hb1)
   clear F0 hb1
   obtain ⟨⟨p0, p1, p2, p3⟩, ⟨r0, r1, r2, r3⟩, ⟨f0, f1, f2, f3⟩, hbw, hsz⟩ := F1.out
   go_wp2_with fail
   refine bodyPost_ret (v := .agg #[.int .i64 1, .int .i64 n, .string ⟨#[]⟩, .bool false]) ?_ rfl ⟨rfl, four_set hbw (w.heap.size + 1) (by omega) _ _ _ _⟩
   simp [results, Tryz.results134, go_sem, r0, r1, r2, r3]
 by_cases h2 : k = 2
 · subst h2
   have e1 : namR ⟨2, n, t, b⟩ = ⟨2, 0, t, false⟩ := by simp [namR]
   rw [e1]
   simp only [agV]
   have F0 := Lib.hid (fr1_start w 2 n t b 73)
   go_enter Tryz.func134, Tryz.ntmps134
   go_wp2_with fail
   refine (HT.out _).mono ?_
   rintro e w1 ⟨rfl, hb1⟩
   have F1 := Lib.hid (F0.out.on hb1)
   clear F0 hb1
   obtain ⟨⟨p0, p1, p2, p3⟩, ⟨r0, r1, r2, r3⟩, ⟨f0, f1, f2, f3⟩, hbw, hsz⟩ := F1.out
   go_wp2_with fail
   refine bodyPost_ret (v := .agg #[.int .i64 2, .int .i64 0, .string t, .bool false]) ?_ rfl ⟨rfl, four_set hbw (w.heap.size + 1) (by omega) _ _ _ _⟩
   simp [results, Tryz.results134, go_sem, r0, r1, r2, r3]
 by_cases h3 : k = 3
 · subst h3
   have e1 : namR ⟨3, n, t, b⟩ = ⟨3, 0, ⟨#[]⟩, b⟩ := by simp [namR, vBool]
   rw [e1]
   simp only [agV]
   have F0 := Lib.hid (fr1_start w 3 n t b 73)
   go_enter Tryz.func134, Tryz.ntmps134
   go_wp2_with fail
   refine (HBo.out _).mono ?_
   rintro e w1 ⟨rfl, hb1⟩
   have F1 := Lib.hid (F0.out.on hb1)
   clear F0 hb1
   obtain ⟨⟨p0, p1, p2, p3⟩, ⟨r0, r1, r2, r3⟩, ⟨f0, f1, f2, f3⟩, hbw, hsz⟩ := F1.out
   go_wp2_with fail
   refine bodyPost_ret (v := .agg #[.int .i64 3, .int .i64 0, .string ⟨#[]⟩, .bool b]) ?_ rfl ⟨rfl, four_set hbw (w.heap.size + 1) (by omega) _ _ _ _⟩
   simp [results, Tryz.results134, go_sem, r0, r1, r2, r3]
 · have e1 : namR ⟨k, n, t, b⟩ = ⟨0, 0, ⟨#[]⟩, false⟩ := by simp [namR, vNull, h1, h2, h3]
   rw [e1]
   simp only [agV]
   have F0 := Lib.hid (fr1_start w k n t b 73)
   go_enter Tryz.func134, Tryz.ntmps134
   go_wp2_with fail
   refine (HNU.out _).mono ?_
   rintro e w1 ⟨rfl, hb1⟩
   have F1 := Lib.hid (F0.out.on hb1)
   clear F0 hb1
   obtain ⟨⟨p0, p1, p2, p3⟩, ⟨r0, r1, r2, r3⟩, ⟨f0, f1, f2, f3⟩, hbw, hsz⟩ := F1.out
   go_wp2_with fail
   refine bodyPost_ret (v := .agg #[.int .i64 0, .int .i64 0, .string ⟨#[]⟩, .bool false]) ?_ rfl ⟨rfl, four_set hbw (w.heap.size + 1) (by omega) _ _ _ _⟩
   simp [results, Tryz.results134, go_sem, r0, r1, r2, r3]
theorem valid_form (k n : Int) (t : ByteArray) (b : Bool) (w : World) (hs : sameV k n t b (namR ⟨k, n, t, b⟩).k (namR ⟨k, n, t, b⟩).n (namR ⟨k, n, t, b⟩).t (namR ⟨k, n, t, b⟩).b = false) :
 Calls Tryz.prog 108 #[.agg #[.int .i64 k, .int .i64 n, .string t, .bool b]] w fun e w' => e = .returned (.iface 77 (.int .i64 3)) ∧ Below w.heap.size w w' := by
 have HN : Hid (∀ W, Calls Tryz.prog 134 #[.agg #[.int .i64 k, .int .i64 n, .string t, .bool b]] W fun e w' => e = .returned (agV (namR ⟨k, n, t, b⟩)) ∧ Below W.heap.size W w') := fun W => named_ k n t b W
 have hEQ : ∀ W, (Op.equalIn 10000 73 (.agg #[.int .i64 k, .int .i64 n, .string t, .bool b]) (agV (namR ⟨k, n, t, b⟩))).run Tryz.prog W = .ok false W := fun W => by rw [← hs]; exact eqIn_ W k n t b _ _ _ _
 have hGD := guardV
 clear hs
 generalize namR ⟨k, n, t, b⟩ = V0 at *
 obtain ⟨k', n', t', b'⟩ := V0
 simp only [agV] at *
 obtain ⟨p0, p1, p2, p3⟩ := in4_new w k n t b 73
 have HB0 : Hid (Below w.heap.size w (w.alloc (.cells #[.int .i64 k, .int .i64 n, .string t, .bool b] 73))) := (Below.refl _ _).alloc (Nat.le_refl _) _
 go_enter Tryz.func108, Tryz.ntmps108
 go_wp2_with fail
 generalize w.alloc (.cells #[.int .i64 k, .int .i64 n, .string t, .bool b] 73) = V at *
 have k0 := cell_regrown p0
 have k1 := cell_regrown p1
 have k2 := cell_regrown p2
 have k3 := cell_regrown p3
 refine wp_region_quiet_below (by kernel_rfl) (by kernel_rfl) ?_
 repeat (go_big_quiet_step (first | (go_at_call 134; exact Calls.regrown_of (HN.out _))))
 refine wpQuiet_nil ?_
 intro _ hw'
 obtain ⟨⟨dq, osq⟩, hw''⟩ := hw'
 subst hw''
 have hbq := Lib.hid (below_step HB0.out (below_regrown V dq osq))
 replace k0 := k0 dq osq
 replace k1 := k1 dq osq
 replace k2 := k2 dq osq
 replace k3 := k3 dq osq
 generalize grow (redrawn V dq) osq = W2 at *
 clear HN hEQ hGD p0 p1 p2 p3 HB0
 go_wp2_with fail
 go_ret
 exact ⟨rfl, hbq.out⟩
theorem valid_long (k n : Int) (t : ByteArray) (b : Bool) (w : World) (hs : sameV k n t b (namR ⟨k, n, t, b⟩).k (namR ⟨k, n, t, b⟩).n (namR ⟨k, n, t, b⟩).t (namR ⟨k, n, t, b⟩).b = true) (hl : 4096 < t.size) :
 Calls Tryz.prog 108 #[.agg #[.int .i64 k, .int .i64 n, .string t, .bool b]] w fun e w' => e = .returned (.iface 77 (.int .i64 2)) ∧ Below w.heap.size w w' := by
 have hl2 : (4096 : Int) < (t.size : Int) := by omega
 have HN : Hid (∀ W, Calls Tryz.prog 134 #[.agg #[.int .i64 k, .int .i64 n, .string t, .bool b]] W fun e w' => e = .returned (agV (namR ⟨k, n, t, b⟩)) ∧ Below W.heap.size W w') := fun W => named_ k n t b W
 have hEQ : ∀ W, (Op.equalIn 10000 73 (.agg #[.int .i64 k, .int .i64 n, .string t, .bool b]) (agV (namR ⟨k, n, t, b⟩))).run Tryz.prog W = .ok true W := fun W => by rw [← hs]; exact eqIn_ W k n t b _ _ _ _
 have hGD := guardV
 clear hs
 generalize namR ⟨k, n, t, b⟩ = V0 at *
 obtain ⟨k', n', t', b'⟩ := V0
 simp only [agV] at *
 obtain ⟨p0, p1, p2, p3⟩ := in4_new w k n t b 73
 have HB0 : Hid (Below w.heap.size w (w.alloc (.cells #[.int .i64 k, .int .i64 n, .string t, .bool b] 73))) := (Below.refl _ _).alloc (Nat.le_refl _) _
 go_enter Tryz.func108, Tryz.ntmps108
 go_wp2_with fail
 generalize w.alloc (.cells #[.int .i64 k, .int .i64 n, .string t, .bool b] 73) = V at *
 have k0 := cell_regrown p0
 have k1 := cell_regrown p1
 have k2 := cell_regrown p2
 have k3 := cell_regrown p3
 refine wp_region_quiet_below (by kernel_rfl) (by kernel_rfl) ?_
 repeat (go_big_quiet_step (first | (go_at_call 134; exact Calls.regrown_of (HN.out _))))
 refine wpQuiet_nil ?_
 intro _ hw'
 obtain ⟨⟨dq, osq⟩, hw''⟩ := hw'
 subst hw''
 have hbq := Lib.hid (below_step HB0.out (below_regrown V dq osq))
 replace k0 := k0 dq osq
 replace k1 := k1 dq osq
 replace k2 := k2 dq osq
 replace k3 := k3 dq osq
 generalize grow (redrawn V dq) osq = W2 at *
 clear HN hEQ hGD p0 p1 p2 p3 HB0
 go_wp2_with fail
 go_ret
 exact ⟨rfl, hbq.out⟩
theorem all_get {t : ByteArray} : t.data.toList.all okB = true ↔ ∀ (j : Nat) (h : j < t.size), 32 ≤ t[j].toNat ∧ t[j].toNat ≤ 126 := by
 rw [List.all_eq_true]
 constructor
 · intro h j hj
   have := h t.data[j] (Array.getElem_mem_toList _)
   simp only [okB, Bool.and_eq_true, decide_eq_true_eq] at this
   exact this
 · intro h x hx
   obtain ⟨j, hj, rfl⟩ := List.getElem_of_mem hx
   have := h j (by simpa using hj)
   simp only [okB, Bool.and_eq_true, decide_eq_true_eq]
   exact this
set_option maxHeartbeats 1000000 in
theorem valid_short (k n : Int) (t : ByteArray) (b : Bool) (w : World) (hs : sameV k n t b (namR ⟨k, n, t, b⟩).k (namR ⟨k, n, t, b⟩).n (namR ⟨k, n, t, b⟩).t (namR ⟨k, n, t, b⟩).b = true) (hl : t.size ≤ 4096) :
 Calls Tryz.prog 108 #[.agg #[.int .i64 k, .int .i64 n, .string t, .bool b]] w fun e w' => e = .returned (errV 77 (if t.data.toList.all okB = false then 3 else 0)) ∧ Below w.heap.size w w' := by
 obtain ⟨E, hE⟩ : ∃ E : Int, (if t.data.toList.all okB = false then (3 : Int) else 0) = E := ⟨_, rfl⟩
 rw [hE]
 have HBAD : Hid (∀ (j : Nat) (h : j < t.size), ¬ (32 ≤ t[j].toNat ∧ t[j].toNat ≤ 126) → Ending.returned (.iface 77 (.int .i64 3)) = .returned (errV 77 E)) := fun j h hn => by
  have : t.data.toList.all okB = false := by
   cases e : t.data.toList.all okB
   · rfl
   · exact absurd (all_get.1 e j h) hn
  rw [← hE, if_pos this]; rfl
 have HGOOD : Hid ((∀ (j : Nat) (h : j < t.size), 32 ≤ t[j].toNat ∧ t[j].toNat ≤ 126) → Ending.returned .nilIface = .returned (errV 77 E)) := fun hh => by
  rw [← hE, all_get.2 hh]; rfl
 clear hE
 have hl2 : ¬ (4096 : Int) < (t.size : Int) := by omega
 have HN : Hid (∀ W, Calls Tryz.prog 134 #[.agg #[.int .i64 k, .int .i64 n, .string t, .bool b]] W fun e w' => e = .returned (agV (namR ⟨k, n, t, b⟩)) ∧ Below W.heap.size W w') := fun W => named_ k n t b W
 have hEQ : ∀ W, (Op.equalIn 10000 73 (.agg #[.int .i64 k, .int .i64 n, .string t, .bool b]) (agV (namR ⟨k, n, t, b⟩))).run Tryz.prog W = .ok true W := fun W => by rw [← hs]; exact eqIn_ W k n t b _ _ _ _
 have hGD := guardV
 clear hs
 generalize namR ⟨k, n, t, b⟩ = V0 at *
 obtain ⟨k', n', t', b'⟩ := V0
 simp only [agV] at *
 obtain ⟨p0, p1, p2, p3⟩ := in4_new w k n t b 73
 have HB0 : Hid (Below w.heap.size w (w.alloc (.cells #[.int .i64 k, .int .i64 n, .string t, .bool b] 73))) := (Below.refl _ _).alloc (Nat.le_refl _) _
 go_enter Tryz.func108, Tryz.ntmps108
 go_wp2_with fail
 generalize w.alloc (.cells #[.int .i64 k, .int .i64 n, .string t, .bool b] 73) = V at *
 have k0 := cell_regrown p0
 have k1 := cell_regrown p1
 have k2 := cell_regrown p2
 have k3 := cell_regrown p3
 refine wp_region_quiet_below (by kernel_rfl) (by kernel_rfl) ?_
 repeat (go_big_quiet_step (first | (go_at_call 134; exact Calls.regrown_of (HN.out _))))
 refine wpQuiet_nil ?_
 intro _ hw'
 obtain ⟨⟨dq, osq⟩, hw''⟩ := hw'
 subst hw''
 have hbq := Lib.hid (below_step HB0.out (below_regrown V dq osq))
 replace k0 := k0 dq osq
 replace k1 := k1 dq osq
 replace k2 := k2 dq osq
 replace k3 := k3 dq osq
 generalize grow (redrawn V dq) osq = W2 at *
 clear HN hEQ hGD p0 p1 p2 p3 HB0
 go_wp2_with fail
 go_loopw [17] (fun iv wr => ∃ i : Nat, i ≤ t.size ∧ Hid (∀ (j : Nat) (h : j < t.size), j < i → 32 ≤ t[j].toNat ∧ t[j].toNat ≤ 126) ∧ iv = .int .i64 i ∧ wr = W2) (fun iv _ => t.size - (intOf iv).toNat)
 case atStart => exact ⟨0, by omega, fun j _ hj => by omega, rfl, rfl⟩
 case round =>
  obtain ⟨i, hi, HH, rfl, rfl⟩ := hrel
  by_cases hlt : i < t.size
  · have hlt2 : (i : Int) < (t.size : Int) := by omega
    rcases (by omega : t[i].toNat < 32 ∨ (32 ≤ t[i].toNat ∧ t[i].toNat ≤ 126) ∨ 126 < t[i].toNat) with h1 | ⟨h1, h2⟩ | h1
    · go_wp2_with fail
      go_ret
      exact ⟨HBAD.out i hlt (by omega), hbq.out⟩
    · go_wp2_with fail
      refine ⟨⟨i + 1, by omega, fun j hj hji => ?_, by go_num, trivial⟩, by simp [intOf]; omega⟩
      by_cases e : j = i
      · subst e; exact ⟨h1, h2⟩
      · exact HH.out j hj (by omega)
    · go_wp2_with fail
      go_ret
      exact ⟨HBAD.out i hlt (by omega), hbq.out⟩
  · obtain rfl : i = t.size := by omega
    go_wp2_with fail
    go_ret
    exact ⟨HGOOD.out fun j hj => HH.out j hj hj, hbq.out⟩
theorem same_named (v : Val) : sameV v.k v.n v.t v.b (namR v).k (namR v).n (namR v).t (namR v).b = fit v := by
 obtain ⟨k, n, t, b⟩ := v
 rw [Bool.eq_iff_iff, sameV_iff]
 have hz : t = ⟨#[]⟩ ↔ t.size = 0 := ⟨fun e => by rw [e]; rfl, ba_empty⟩
 simp only [namR, vInt, vBool, vNull, fit]
 by_cases h1 : k = 1
 · subst h1; simp [hz]
 by_cases h2 : k = 2
 · subst h2; simp
 by_cases h3 : k = 3
 · subst h3; simp [hz]
 · simp [h1, h2, h3, hz, and_assoc]
theorem valid_ (k n : Int) (t : ByteArray) (b : Bool) (w : World) :
 Calls Tryz.prog 108 #[.agg #[.int .i64 k, .int .i64 n, .string t, .bool b]] w fun e w' => e = .returned (errV 77 (validN ⟨k, n, t, b⟩)) ∧ Below w.heap.size w w' := by
 have hs := same_named ⟨k, n, t, b⟩
 cases hf : fit ⟨k, n, t, b⟩
 · rw [hf] at hs
   have e : validN ⟨k, n, t, b⟩ = 3 := by rw [validN, if_pos hf]
   rw [e]
   exact valid_form k n t b w hs
 · rw [hf] at hs
   by_cases hl : 4096 < t.size
   · have e : validN ⟨k, n, t, b⟩ = 2 := by rw [validN, if_neg (by rw [hf]; decide), if_pos hl]
     rw [e]
     exact valid_long k n t b w hs hl
   · have e : validN ⟨k, n, t, b⟩ = if t.data.toList.all okB = false then 3 else 0 := by rw [validN, if_neg (by rw [hf]; decide), if_neg hl]
     rw [e]
     exact valid_short k n t b w hs (by omega)
end Go.Proofs.YtalmanfjiblhcaaGreat.Rw
namespace Go.Proofs.YtalmanfjiblhcaaGreat.Rw
open Go.Lib
end Go.Proofs.YtalmanfjiblhcaaGreat.Rw
namespace Go.Proofs.YtalmanfjiblhcaaGreat.Rw
open Go.Lib
theorem encL_cons (v : Val) (l : List Val) : encL (v :: l) = encV v ++ encL l := by rw [encL, List.flatMap_cons]; rfl
def encE : List Val → Nat → Int
 | [], n => if 16 < n then 2 else 0
 | v :: l, n => if validN v ≠ 0 then validN v else encE l n
def errL (l : List Val) : Int := encE l l.length
def txtL (l : List Val) : List UInt8 := if errL l = 0 then encL l else []
theorem encE_zero : ∀ (l : List Val) (n : Nat), encE l n = 0 ↔ (∀ v ∈ l, validN v = 0) ∧ n ≤ 16
 | [], n => by
   rw [encE]
   constructor
   · intro h; split at h
     · cases h
     · exact ⟨fun v hv => by simp at hv, by omega⟩
   · rintro ⟨_, h⟩; rw [if_neg (by omega)]
 | v :: l, n => by
   rw [encE]
   constructor
   · intro h
     split at h
     · exact absurd h ‹_›
     · rename_i h0
       obtain ⟨h1, h2⟩ := (encE_zero l n).1 h
       refine ⟨fun x hx => ?_, h2⟩
       rcases List.mem_cons.1 hx with rfl | hx
       · simpa using h0
       · exact h1 x hx
   · rintro ⟨h1, h2⟩
     rw [if_neg (fun e => e (h1 v (by simp)))]
     exact (encE_zero l n).2 ⟨fun x hx => h1 x (by simp [hx]), h2⟩
theorem errL_zero (l : List Val) : errL l = 0 ↔ (∀ v ∈ l, validN v = 0) ∧ l.length ≤ 16 := encE_zero l l.length
theorem encE_at : ∀ (l : List Val) (n i : Nat), (∀ j (h : j < l.length), j < i → validN l[j] = 0) → encE l n = encE (l.drop i) n
 | [], n, i, _ => by simp
 | v :: l, n, 0, _ => rfl
 | v :: l, n, i + 1, h => by
   have h0 : validN v = 0 := h 0 (by simp) (by omega)
   rw [encE, if_neg (fun e => e h0), List.drop_succ_cons]
   exact encE_at l n i (fun j hj hi => h (j + 1) (by simp; omega) (by omega))
theorem encV_len {v : Val} (h : validN v = 0) : (encV v).length ≤ 4098 := by
 have hs : v.t.data.toList.length ≤ 4096 := by
  unfold validN at h
  split at h
  · cases h
  · split at h
    · cases h
    · rename_i h2
      have : v.t.size ≤ 4096 := by omega
      simpa using this
 rw [encV, List.length_cons]
 unfold body
 split
 · rw [be_len]; omega
 · split
   · rw [List.length_append]; simp at hs ⊢; omega
   · split <;> simp
theorem encL_len : ∀ (l : List Val), (∀ v ∈ l, validN v = 0) → (encL l).length ≤ 4098 * l.length
 | [], _ => Nat.le_refl _
 | v :: l, h => by
   have h1 := encV_len (h v (by simp))
   have h2 := encL_len l (fun x hx => h x (by simp [hx]))
   rw [encL_cons, List.length_append, List.length_cons]; omega
theorem encL_snoc (l : List Val) (v : Val) : encL (l ++ [v]) = encL l ++ encV v := by rw [enc_append, encL_cons]; simp [encL]
end Go.Proofs.YtalmanfjiblhcaaGreat.Rw
