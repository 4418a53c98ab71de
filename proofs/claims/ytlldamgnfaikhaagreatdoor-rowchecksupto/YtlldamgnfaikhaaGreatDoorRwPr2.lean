/- The walks of the document's Digits and Print. -/
import Derived.Test.YtlldamgnfaikhaaGreatDoorRwPr1
import Derived.Test.YtlldamgnfaikhaaGreatDoorOV3
import Derived.Test.YtlldamgnfaikhaaGreatDoorOMem
import Derived.Test.YtlldamgnfaikhaaGreatDoorTMem
namespace Go.Proofs.YtlldamgnfaikhaaGreatDoor
open Go.RowKit Go.Sort

def strOf : Value → ByteArray | .string s => s | _ => ⟨#[]⟩
/-- One digit of the ten. -/
theorem digit_at {d : Nat} (h : d < 10) : (⟨#[48, 49, 50, 51, 52, 53, 54, 55, 56, 57]⟩ : ByteArray).extract d (d + 1) = ⟨#[UInt8.ofNat (48 + d)]⟩ := by
  have key : ∀ m : Nat, m < 10 → (⟨#[48, 49, 50, 51, 52, 53, 54, 55, 56, 57]⟩ : ByteArray).extract m (m + 1) = ⟨#[UInt8.ofNat (48 + m)]⟩ := by decide +kernel
  exact key d h
theorem cons_ba (c : UInt8) (l : List UInt8) : (⟨#[c]⟩ ++ ⟨l.toArray⟩ : ByteArray) = ⟨(c :: l).toArray⟩ := by
  apply ba_ext; rw [ba_append]; simp
theorem nil_ba (s : ByteArray) : (⟨#[]⟩ ++ s : ByteArray) = s := by
  apply ba_ext; rw [ba_append]; simp
set_option maxHeartbeats 1000000 in
theorem dig_neg (n : Int) (w : World) (h : n < 0) (hn : inI n) : Calls Tryz.prog 35 #[.int .i64 n] w fun e w' => e = .returned (.string ⟨(Lib.itoa n).toArray⟩) ∧ w' = w := by
  have h1 := hn.1; have h2 := hn.2
  obtain ⟨U, hU⟩ : ∃ U : Nat, n.natAbs = U := ⟨_, rfl⟩
  have hU2 : U < 10000000000000000000 := by omega
  have HI : Hid (Lib.itoa n = 45 :: Lib.decDigits U) := by
    show _ = _
    rw [← hU]; unfold Lib.itoa; rw [if_pos h]
  have hx : IntKind.u64.wrap (-IntKind.u64.wrap n) = (U : Int) := by simp [IntKind.wrap, IntKind.bits, IntKind.signed]; omega
  rw [HI.out]
  clear HI
  go_enter Tryz.func35, Tryz.ntmps35
  go_wp2_with fail
  go_loopw [3, 5] (fun xv sv wr => ∃ (X : Nat) (L : List UInt8), X ≤ U ∧ L.length ≤ 40 ∧ Hid (Lib.decDigits U = Lib.decDigits X ++ L) ∧ xv = .int .u64 X ∧ sv = .string ⟨L.toArray⟩ ∧ wr = w) (fun xv _ _ => (intOf xv).toNat)
  case atStart => exact ⟨U, [], Nat.le_refl _, by simp, by simp [Hid], by simp, rfl, rfl⟩
  case round =>
    obtain ⟨X, L, hX, hL, HD, rfl, rfl, rfl⟩ := hrel
    have hd := Nat.mod_lt X (show 0 < 10 by decide)
    by_cases h10 : X < 10
    · go_wp2_with fail
      go_ret
      refine ⟨?_, rfl⟩
      have e : (({ data := #[45] } : ByteArray) ++ (({ data := #[48, 49, 50, 51, 52, 53, 54, 55, 56, 57] } : ByteArray).extract (X % 10) (X % 10 + 1) ++ { data := L.toArray }) : ByteArray) = ⟨(45 :: Lib.decDigits U).toArray⟩ := by
        rw [digit_at hd, cons_ba, cons_ba, HD.out, dec_last h10, Nat.mod_eq_of_lt h10]
        rfl
      exact congrArg (fun x => Ending.returned (Value.string x)) e
    · go_wp2_with fail
      have HD2 : Lib.decDigits U = Lib.decDigits (X / 10) ++ (UInt8.ofNat (48 + X % 10) :: L) := by rw [HD.out, dec_step h10, List.append_assoc]; rfl
      have hlen : (UInt8.ofNat (48 + X % 10) :: L).length ≤ 40 := by
        have h3 := congrArg List.length HD2
        rw [List.length_append, Lib.decDigits_length] at h3
        have := nDigits_lt hU2
        omega
      refine ⟨⟨X / 10, UInt8.ofNat (48 + X % 10) :: L, by omega, hlen, HD2, by simp, ?_, trivial⟩, by simp [intOf]; omega⟩
      rw [digit_at hd, cons_ba]
set_option maxHeartbeats 1000000 in
theorem dig_pos (n : Int) (w : World) (h : ¬ n < 0) (hn : inI n) : Calls Tryz.prog 35 #[.int .i64 n] w fun e w' => e = .returned (.string ⟨(Lib.itoa n).toArray⟩) ∧ w' = w := by
  have h1 := hn.1; have h2 := hn.2
  obtain ⟨U, hU⟩ : ∃ U : Nat, n.toNat = U := ⟨_, rfl⟩
  have hU2 : U < 10000000000000000000 := by omega
  have HI : Hid (Lib.itoa n = Lib.decDigits U) := by
    show _ = _
    rw [← hU]; unfold Lib.itoa; rw [if_neg h]
  have hx : IntKind.u64.wrap n = (U : Int) := by simp [IntKind.wrap, IntKind.bits, IntKind.signed]; omega
  rw [HI.out]
  clear HI
  go_enter Tryz.func35, Tryz.ntmps35
  go_wp2_with fail
  go_loopw [3, 5] (fun xv sv wr => ∃ (X : Nat) (L : List UInt8), X ≤ U ∧ L.length ≤ 40 ∧ Hid (Lib.decDigits U = Lib.decDigits X ++ L) ∧ xv = .int .u64 X ∧ sv = .string ⟨L.toArray⟩ ∧ wr = w) (fun xv _ _ => (intOf xv).toNat)
  case atStart => exact ⟨U, [], Nat.le_refl _, by simp, by simp [Hid], by simp, rfl, rfl⟩
  case round =>
    obtain ⟨X, L, hX, hL, HD, rfl, rfl, rfl⟩ := hrel
    have hd := Nat.mod_lt X (show 0 < 10 by decide)
    by_cases h10 : X < 10
    · go_wp2_with fail
      go_ret
      refine ⟨?_, rfl⟩
      have e : (({ data := #[] } : ByteArray) ++ (({ data := #[48, 49, 50, 51, 52, 53, 54, 55, 56, 57] } : ByteArray).extract (X % 10) (X % 10 + 1) ++ { data := L.toArray }) : ByteArray) = ⟨(Lib.decDigits U).toArray⟩ := by
        rw [digit_at hd, cons_ba, nil_ba, HD.out, dec_last h10, Nat.mod_eq_of_lt h10]
        rfl
      exact congrArg (fun x => Ending.returned (Value.string x)) e
    · go_wp2_with fail
      have HD2 : Lib.decDigits U = Lib.decDigits (X / 10) ++ (UInt8.ofNat (48 + X % 10) :: L) := by rw [HD.out, dec_step h10, List.append_assoc]; rfl
      have hlen : (UInt8.ofNat (48 + X % 10) :: L).length ≤ 40 := by
        have h3 := congrArg List.length HD2
        rw [List.length_append, Lib.decDigits_length] at h3
        have := nDigits_lt hU2
        omega
      refine ⟨⟨X / 10, UInt8.ofNat (48 + X % 10) :: L, by omega, hlen, HD2, by simp, ?_, trivial⟩, by simp [intOf]; omega⟩
      rw [digit_at hd, cons_ba]
theorem digits_ (n : Int) (w : World) (hn : inI n) : Calls Tryz.prog 35 #[.int .i64 n] w fun e w' => e = .returned (.string ⟨(Lib.itoa n).toArray⟩) ∧ w' = w := by
  by_cases h : n < 0
  · exact dig_neg n w h hn
  · exact dig_pos n w h hn
theorem rp_true (n : Int) (t : ByteArray) (w : World) (h : validN ⟨3, n, t, true⟩ = 0) :
    Calls Tryz.prog 24 #[.agg #[.int .i64 3, .int .i64 n, .string t, .bool true]] w fun e w' => e = .returned (.tuple #[.string ⟨trueW.toArray⟩, .int .i64 0]) ∧ Below w.heap.size w w' := by
  have HV : Hid (∀ W, Calls Tryz.prog 21 #[.agg #[.int .i64 3, .int .i64 n, .string t, .bool true]] W fun e w' => e = .returned (.int .i64 0) ∧ Below W.heap.size W w') := fun W => by have := rvalid_ 3 n t true W; rw [h] at this; exact this
  have HP : Hid (In4 (w.alloc (.cells #[.int .i64 3, .int .i64 n, .string t, .bool true] 44)) w.heap.size 0 3 n t true) := in4_new w 3 n t true _
  have HB : Hid (Below w.heap.size w (w.alloc (.cells #[.int .i64 3, .int .i64 n, .string t, .bool true] 44))) := (Below.refl _ _).alloc (Nat.le_refl _) _
  clear h
  go_enter Tryz.func24, Tryz.ntmps24
  go_wp2_with fail
  refine (HV.out _).mono ?_
  rintro e w1 ⟨rfl, hb1⟩
  obtain ⟨p0, p1, p2, p3⟩ := HP.out.on hb1
  have HB1 := Lib.hid (below_step HB.out hb1)
  clear HB hb1 HP
  go_wp2_with fail
  exact bodyPost_ret (v := .tuple #[.string ⟨trueW.toArray⟩, .int .i64 0]) (by simp [results, Tryz.results24, go_sem, trueW]) rfl ⟨rfl, HB1.out⟩
theorem rp_false (n : Int) (t : ByteArray) (w : World) (h : validN ⟨3, n, t, false⟩ = 0) :
    Calls Tryz.prog 24 #[.agg #[.int .i64 3, .int .i64 n, .string t, .bool false]] w fun e w' => e = .returned (.tuple #[.string ⟨falseW.toArray⟩, .int .i64 0]) ∧ Below w.heap.size w w' := by
  have HV : Hid (∀ W, Calls Tryz.prog 21 #[.agg #[.int .i64 3, .int .i64 n, .string t, .bool false]] W fun e w' => e = .returned (.int .i64 0) ∧ Below W.heap.size W w') := fun W => by have := rvalid_ 3 n t false W; rw [h] at this; exact this
  have HP : Hid (In4 (w.alloc (.cells #[.int .i64 3, .int .i64 n, .string t, .bool false] 44)) w.heap.size 0 3 n t false) := in4_new w 3 n t false _
  have HB : Hid (Below w.heap.size w (w.alloc (.cells #[.int .i64 3, .int .i64 n, .string t, .bool false] 44))) := (Below.refl _ _).alloc (Nat.le_refl _) _
  clear h
  go_enter Tryz.func24, Tryz.ntmps24
  go_wp2_with fail
  refine (HV.out _).mono ?_
  rintro e w1 ⟨rfl, hb1⟩
  obtain ⟨p0, p1, p2, p3⟩ := HP.out.on hb1
  have HB1 := Lib.hid (below_step HB.out hb1)
  clear HB hb1 HP
  go_wp2_with fail
  exact bodyPost_ret (v := .tuple #[.string ⟨falseW.toArray⟩, .int .i64 0]) (by simp [results, Tryz.results24, go_sem, falseW]) rfl ⟨rfl, HB1.out⟩
theorem rp_null (k n : Int) (t : ByteArray) (b : Bool) (w : World) (h : validN ⟨k, n, t, b⟩ = 0) (h1 : k ≠ 1) (h2 : k ≠ 2) (h3 : k ≠ 3) :
    Calls Tryz.prog 24 #[.agg #[.int .i64 k, .int .i64 n, .string t, .bool b]] w fun e w' => e = .returned (.tuple #[.string ⟨nullW.toArray⟩, .int .i64 0]) ∧ Below w.heap.size w w' := by
  have HV : Hid (∀ W, Calls Tryz.prog 21 #[.agg #[.int .i64 k, .int .i64 n, .string t, .bool b]] W fun e w' => e = .returned (.int .i64 0) ∧ Below W.heap.size W w') := fun W => by have := rvalid_ k n t b W; rw [h] at this; exact this
  have HP : Hid (In4 (w.alloc (.cells #[.int .i64 k, .int .i64 n, .string t, .bool b] 44)) w.heap.size 0 k n t b) := in4_new w k n t b _
  have HB : Hid (Below w.heap.size w (w.alloc (.cells #[.int .i64 k, .int .i64 n, .string t, .bool b] 44))) := (Below.refl _ _).alloc (Nat.le_refl _) _
  clear h
  go_enter Tryz.func24, Tryz.ntmps24
  go_wp2_with fail
  refine (HV.out _).mono ?_
  rintro e w1 ⟨rfl, hb1⟩
  obtain ⟨p0, p1, p2, p3⟩ := HP.out.on hb1
  have HB1 := Lib.hid (below_step HB.out hb1)
  clear HB hb1 HP
  go_wp2_with fail
  exact bodyPost_ret (v := .tuple #[.string ⟨nullW.toArray⟩, .int .i64 0]) (by simp [results, Tryz.results24, go_sem, nullW]) rfl ⟨rfl, HB1.out⟩
theorem rp_bad (k n : Int) (t : ByteArray) (b : Bool) (w : World) (E : Int) (h : validN ⟨k, n, t, b⟩ = E) (h0 : (E != 0) = true) :
    Calls Tryz.prog 24 #[.agg #[.int .i64 k, .int .i64 n, .string t, .bool b]] w fun e w' => e = .returned (.tuple #[.string ⟨#[]⟩, .int .i64 E]) ∧ Below w.heap.size w w' := by
  have HV : Hid (∀ W, Calls Tryz.prog 21 #[.agg #[.int .i64 k, .int .i64 n, .string t, .bool b]] W fun e w' => e = .returned (.int .i64 E) ∧ Below W.heap.size W w') := fun W => by rw [← h]; exact rvalid_ k n t b W
  clear h
  go_enter Tryz.func24, Tryz.ntmps24
  go_wp2_with fail
  refine (HV.out _).mono ?_
  rintro e w1 ⟨rfl, hb1⟩
  go_wp2_with fail
  exact bodyPost_ret (v := .tuple #[.string ⟨#[]⟩, .int .i64 E]) (by simp [results, Tryz.results24, go_sem]) rfl ⟨rfl, below_step ((Below.refl _ _).alloc (Nat.le_refl _) _) hb1⟩
theorem rp_int (n : Int) (t : ByteArray) (b : Bool) (w : World) (h : validN ⟨1, n, t, b⟩ = 0) (hn : inI n) :
    Calls Tryz.prog 24 #[.agg #[.int .i64 1, .int .i64 n, .string t, .bool b]] w fun e w' => e = .returned (.tuple #[.string ⟨(Lib.itoa n).toArray⟩, .int .i64 0]) ∧ Below w.heap.size w w' := by
  have HV : Hid (∀ W, Calls Tryz.prog 21 #[.agg #[.int .i64 1, .int .i64 n, .string t, .bool b]] W fun e w' => e = .returned (.int .i64 0) ∧ Below W.heap.size W w') := fun W => by have := rvalid_ 1 n t b W; rw [h] at this; exact this
  have HD : Hid (∀ W, Calls Tryz.prog 35 #[.int .i64 n] W fun e w' => e = .returned (.string ⟨(Lib.itoa n).toArray⟩) ∧ w' = W) := fun W => digits_ n W hn
  generalize Lib.itoa n = L at *
  have HP : Hid (In4 (w.alloc (.cells #[.int .i64 1, .int .i64 n, .string t, .bool b] 44)) w.heap.size 0 1 n t b) := in4_new w 1 n t b _
  have HB : Hid (Below w.heap.size w (w.alloc (.cells #[.int .i64 1, .int .i64 n, .string t, .bool b] 44))) := (Below.refl _ _).alloc (Nat.le_refl _) _
  clear h hn
  go_enter Tryz.func24, Tryz.ntmps24
  go_wp2_with fail
  refine (HV.out _).mono ?_
  rintro e w1 ⟨rfl, hb1⟩
  obtain ⟨p0, p1, p2, p3⟩ := HP.out.on hb1
  have HB1 := Lib.hid (below_step HB.out hb1)
  clear HB hb1 HP
  go_wp2_with fail
  refine (HD.out _).mono ?_
  rintro e w2 ⟨rfl, rfl⟩
  go_wp2_with fail
  exact bodyPost_ret (v := .tuple #[.string ⟨L.toArray⟩, .int .i64 0]) (by simp [results, Tryz.results24, go_sem]) rfl ⟨rfl, HB1.out⟩
theorem dbl_snoc (c : UInt8) : ∀ l, dbl (l ++ [c]) = dbl l ++ (if c = 39 then [39, 39] else [c])
  | [] => by simp only [List.nil_append, dbl]
  | d :: l => by
    rw [List.cons_append, dbl, dbl, dbl_snoc c l]
    split <;> rfl
theorem take_byte {t : ByteArray} {i : Nat} (h : i < t.size) : t.data.toList.take (i + 1) = t.data.toList.take i ++ [t[i]] := by
  rw [List.take_add_one, List.getElem?_eq_getElem (by rw [← size_list]; exact h)]
  rfl
theorem ns_len {t : ByteArray} (i : Nat) (hl : t.size ≤ 4096) : (ns (39 :: dbl (t.data.toList.take i))).length ≤ 8200 := by
  have h1 := dbl_len (t.data.toList.take i)
  have h2 : (t.data.toList.take i).length ≤ t.data.toList.length := List.length_take_le' _ _
  rw [← size_list] at h2
  simp [ns]; omega
theorem kc_ (w : World) (C : Array Value) (n c : Nat) : (convert 56 56 (.slice (some ⟨w.heap.size, 0, none⟩) n c)).run Tryz.prog (w.alloc (.cells C 5)) = .ok (.slice (some ⟨w.heap.size, 0, none⟩) n c) (w.alloc (.cells C 5 (C.size, C.size + 1))) := Lib.run_convert_bytes_const (P := Tryz.prog) w 56 5 C n c Tryz.underlying56 Tryz.underlying5
set_option maxHeartbeats 1000000 in
theorem rp_text (n : Int) (t : ByteArray) (b : Bool) (w : World) (h : validN ⟨2, n, t, b⟩ = 0) :
    Calls Tryz.prog 24 #[.agg #[.int .i64 2, .int .i64 n, .string t, .bool b]] w fun e w' => e = .returned (.tuple #[.string ⟨(39 :: (dbl t.data.toList ++ [39])).toArray⟩, .int .i64 0]) ∧ Below w.heap.size w w' := by
  have HV : Hid (∀ W, Calls Tryz.prog 21 #[.agg #[.int .i64 2, .int .i64 n, .string t, .bool b]] W fun e w' => e = .returned (.int .i64 0) ∧ Below W.heap.size W w') := fun W => by have := rvalid_ 2 n t b W; rw [h] at this; exact this
  have hl := size_of_valid h
  simp only at hl
  have HP : Hid (In4 (w.alloc (.cells #[.int .i64 2, .int .i64 n, .string t, .bool b] 44)) w.heap.size 0 2 n t b) := in4_new w 2 n t b _
  have HB : Hid (Below w.heap.size w (w.alloc (.cells #[.int .i64 2, .int .i64 n, .string t, .bool b] 44))) := (Below.refl _ _).alloc (Nat.le_refl _) _
  have kc := kc_
  clear h
  go_enter Tryz.func24, Tryz.ntmps24
  go_wp2_with fail
  refine (HV.out _).mono ?_
  rintro e w1 ⟨rfl, hb1⟩
  obtain ⟨p0, p1, p2, p3⟩ := HP.out.on hb1
  have HB1 := Lib.hid (below_step HB.out hb1)
  have HP1 := Lib.hid (HP.out.on hb1)
  clear HB hb1 HP
  go_wp2_with fail
  have HW1 := Lib.hid (below_step HB1.out (Below.refl _ _))
  go_loopw [5, 6] (fun sv iv wr => ∃ i : Nat, i ≤ t.size ∧ iv = .int .i64 i ∧ Hid (ApB wr w1.heap.size sv (ns (39 :: dbl (t.data.toList.take i)))) ∧ Hid (Below w1.heap.size w1 wr)) (fun _ iv _ => t.size - (intOf iv).toNat)
  case atStart =>
    refine ⟨0, Nat.zero_le _, rfl, .inr ⟨w1.heap.size, rfl, Nat.le_refl _, ?_, by simp [ns]⟩, (Below.refl _ _).alloc (Nat.le_refl _) _⟩
    intro j hj
    have : j = 0 := by simp [ns, dbl] at hj; omega
    subst this
    refine ⟨_, _, rfl, ?_⟩
    rw [Nat.zero_add, cell_of_row _ _ 0 _ 5 (1, 2) (heap_alloc_new w1 _)]
    simp [ns]
  case round =>
    obtain ⟨i, hi, rfl, HA, HBw⟩ := hrel
    clear p0 p1 p2 p3
    obtain ⟨p0, p1, p2, p3⟩ := HP1.out.on HBw.out
    by_cases hlt : i < t.size
    · have hlt2 : (i : Int) < (t.size : Int) := by omega
      have HT := Lib.hid (take_byte hlt)
      have hln : (ns (39 :: dbl (t.data.toList.take i))).length ≤ 8200 := ns_len i hl
      generalize hXS : ns (39 :: dbl (t.data.toList.take i)) = XS at *
      by_cases hq : t[i] = 39
      · have hq2 : t[i].toNat = 39 := by rw [hq]; rfl
        have hq1 : (((t[i].toNat : Nat) : Int) == 39) = true := by rw [hq2]; rfl
        have HF : Hid (ns (39 :: dbl (t.data.toList.take (i + 1))) = XS ++ [39] ++ [39]) := by
          show _ = _
          rw [HT.out, dbl_snoc, if_pos hq, ← hXS]; simp [ns]
        clear hXS
        go_wp2_with (first
          | (at_builtin; refine wpList_append_one w1.heap.size _ w1 rfl _ _ rfl _ XS rfl (HA.out.on ((Below.refl _ _).alloc (Nat.le_refl _) _)) wr.heap.size 39 rfl (by simp [go_sem]) (by omega) (Nat.le_refl _) (below_step HBw.out ((Below.refl _ _).alloc (Nat.le_refl _) _)) ?_
             intro v' w2 hown hb2
             have HO := Lib.hid hown
             have Hb2 := Lib.hid hb2
             clear hown hb2 p0 p1 p2 p3 HA HBw
             obtain ⟨p0, p1, p2, p3⟩ := HP1.out.on Hb2.out)
          | (at_builtin; refine wpList_append_one w1.heap.size _ w1 rfl _ _ rfl _ (XS ++ [39]) rfl (.inl (HO.out.on ((Below.refl _ _).alloc (Nat.le_refl _) _))) w2.heap.size 39 rfl (by simp [go_sem]) (by simp; omega) (Nat.le_refl _) (below_step Hb2.out ((Below.refl _ _).alloc (Nat.le_refl _) _)) ?_
             intro v'' w3 hown hb3
             have HO3 := Lib.hid hown
             have Hb3 := Lib.hid hb3
             clear hown hb3)
          | fail)
        refine ⟨⟨i + 1, by omega, by go_num, ?_, Hb3⟩, by simp [intOf]; omega⟩
        rw [HF.out]
        exact .inl HO3.out
      · have hq2 : ¬ t[i].toNat = 39 := fun e => hq (UInt8.toNat_inj.1 (by rw [e]; rfl))
        have hq1 : (((t[i].toNat : Nat) : Int) == 39) = false := by simp; omega
        have HF : Hid (ns (39 :: dbl (t.data.toList.take (i + 1))) = XS ++ [t[i].toNat]) := by
          show _ = _
          rw [HT.out, dbl_snoc, if_neg hq, ← hXS]; simp [ns]
        clear hXS
        go_wp2_with (first
          | (at_builtin; refine wpList_append_one w1.heap.size _ w1 rfl _ _ rfl _ XS rfl (HA.out.on ((Below.refl _ _).alloc (Nat.le_refl _) _)) wr.heap.size t[i].toNat rfl (by simp [go_sem]) (by omega) (Nat.le_refl _) (below_step HBw.out ((Below.refl _ _).alloc (Nat.le_refl _) _)) ?_
             intro v' w2 hown hb2
             have HO := Lib.hid hown
             have Hb2 := Lib.hid hb2
             clear hown hb2 p0 p1 p2 p3 HA HBw
             obtain ⟨p0, p1, p2, p3⟩ := HP1.out.on Hb2.out)
          | fail)
        refine ⟨⟨i + 1, by omega, by go_num, ?_, Hb2⟩, by simp [intOf]; omega⟩
        rw [HF.out]
        exact .inl HO.out
    · obtain rfl : i = t.size := by omega
      have e1 : t.data.toList.take t.size = t.data.toList := by rw [size_list]; exact List.take_length
      rw [e1] at HA
      obtain ⟨a, cc, rfl, hin⟩ := HA.out.bytes
      have kv := conv_ wr a _ cc _ rfl hin
      have HR : Hid ((bs (ns (39 :: dbl t.data.toList)) ++ ⟨#[39]⟩ : ByteArray) = ⟨(39 :: (dbl t.data.toList ++ [39])).toArray⟩) := by
        show _ = _
        rw [bs_ns]; apply ba_ext; rw [ba_append]; simp
      have hsz : (bs (ns (39 :: dbl t.data.toList))).size ≤ 8200 := by
        rw [bs_ns, list_size]; have := dbl_len t.data.toList; rw [← size_list] at this; simp; omega
      generalize bs (ns (39 :: dbl t.data.toList)) = R at *
      generalize (ns (39 :: dbl t.data.toList)).length = LL at *
      have hq : (⟨#[39]⟩ : ByteArray).size = 1 := rfl
      have HBF := Lib.hid (below_step HB1.out HBw.out)
      clear HA hin HBw
      go_wp2_with fail
      exact bodyPost_ret (v := .tuple #[.string (R ++ ⟨#[39]⟩), .int .i64 0]) (by simp [results, Tryz.results24, go_sem]) rfl ⟨by rw [HR.out], HBF.out⟩
/-- What the document's Print tells. -/
theorem rprint_ (k n : Int) (t : ByteArray) (b : Bool) (w : World) (hn : inI n) : Calls Tryz.prog 24 #[.agg #[.int .i64 k, .int .i64 n, .string t, .bool b]] w fun e w' => e = .returned (.tuple #[.string ⟨(prS ⟨k, n, t, b⟩).toArray⟩, .int .i64 (validN ⟨k, n, t, b⟩)]) ∧ Below w.heap.size w w' := by
  by_cases h : validN ⟨k, n, t, b⟩ = 0
  · rw [prS, if_pos h, h]
    by_cases h1 : k = 1
    · subst h1
      exact rp_int n t b w h hn
    by_cases h2 : k = 2
    · subst h2
      exact rp_text n t b w h
    by_cases h3 : k = 3
    · subst h3
      cases b
      · exact rp_false n t w h
      · exact rp_true n t w h
    · refine (rp_null k n t b w h h1 h2 h3).mono fun e w' ⟨he, hb⟩ => ⟨he.trans ?_, hb⟩
      rw [printL, if_neg h1, if_neg h2, if_neg h3]
  · rw [prS, if_neg h]
    exact rp_bad k n t b w _ rfl (by simpa using h)
end Go.Proofs.YtlldamgnfaikhaaGreatDoor
