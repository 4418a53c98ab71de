/- The walk of the document's Parse. -/
import Derived.Test.YtoompephogamaaaGreatDoorW6
import Derived.Test.YtoompephogamaaaGreatDoorRead
import Derived.RegionTactic
namespace Go.Proofs.YtoompephogamaaaGreatDoor
open Go.RowKit Go.Sort

theorem set_rank (w : World) (n c d : Nat) (v : Int) (m : Nat) (h : v = m) :
    (((w.alloc (Obj.cells #[Value.int IntKind.i64 0, Value.int IntKind.u32 0] 25)).alloc (Obj.cells #[Value.int IntKind.i64 n, Value.int IntKind.u32 c] 25)).drewN d).setCell ⟨w.heap.size + 1, 0, none⟩ (.int .i64 v) =
    ((w.alloc (Obj.cells #[Value.int IntKind.i64 0, Value.int IntKind.u32 0] 25)).alloc (Obj.cells #[Value.int IntKind.i64 m, Value.int IntKind.u32 c] 25)).drewN d := by
  subst h
  have e : ∀ (W : World) (d : Nat) (a : Addr) (x : Value), (W.drewN d).setCell a x = (W.setCell a x).drewN d := fun _ _ _ _ => rfl
  rw [e, World.setCell_alloc_at _ _ _ _ _ (by simp)]
  rfl
theorem set_cats (w : World) (n c d : Nat) (v : Int) (m : Nat) (h : v = m) :
    (((w.alloc (Obj.cells #[Value.int IntKind.i64 0, Value.int IntKind.u32 0] 25)).alloc (Obj.cells #[Value.int IntKind.i64 n, Value.int IntKind.u32 c] 25)).drewN d).setCell ⟨w.heap.size + 1, 1, none⟩ (.int .u32 v) =
    ((w.alloc (Obj.cells #[Value.int IntKind.i64 0, Value.int IntKind.u32 0] 25)).alloc (Obj.cells #[Value.int IntKind.i64 n, Value.int IntKind.u32 m] 25)).drewN d := by
  subst h
  have e : ∀ (W : World) (d : Nat) (a : Addr) (x : Value), (W.drewN d).setCell a x = (W.setCell a x).drewN d := fun _ _ _ _ => rfl
  rw [e, World.setCell_alloc_at _ _ _ _ _ (by simp)]
  rfl
theorem own2 {w wr : World} {A B C D : Value} (hb : Below (w.heap.size + 2) ((w.alloc (.cells #[A, B] 25)).alloc (.cells #[C, D] 25)) wr) :
    wr.frozen? ⟨w.heap.size, 0, none⟩ = false ∧ wr.frozen? ⟨w.heap.size, 1, none⟩ = false := by
  refine ⟨?_, ?_⟩
  all_goals (rw [hb.frozen (by simp)]; simp [go_sem])
theorem dig_off {s : ByteArray} {i : Nat} (h : i < s.size) (hd : isDig s[i] = false) : s[i].toNat < 48 ∨ 57 < s[i].toNat := by
  unfold isDig at hd
  simp at hd
  omega
theorem take_next {s : ByteArray} {a K : Nat} (ha : a ≤ K) (hK : K < s.size) : (s.data.toList.drop a).take (K + 1 - a) = (s.data.toList.drop a).take (K - a) ++ [s[K]] := by
  have hl : K - a < (s.data.toList.drop a).length := by rw [List.length_drop, ← size_list]; omega
  rw [show K + 1 - a = K - a + 1 by omega, List.take_succ_eq_append_getElem hl, List.getElem_drop]
  congr 2
  have : a + (K - a) = K := by omega
  simp only [this]
  rfl
theorem take_all {s : ByteArray} {a K : Nat} (hK : s.size ≤ K) : (s.data.toList.drop a).take (K - a) = s.data.toList.drop a := by
  apply List.take_of_length_le
  rw [List.length_drop, ← size_list]
  omega

theorem below_drewN'' (B : Nat) (w : World) (n : Nat) : Below B w (w.drewN n) := ⟨rfl, rfl, rfl, Nat.le_refl _, fun _ _ => rfl⟩
theorem cat_pow {b : Nat} (t' : b ≤ 122) : 2 ^ (b - 97) < 67108864 := Nat.lt_of_lt_of_le (Nat.pow_lt_pow_right (by omega) (show b - 97 < 26 by omega)) (Nat.le_refl _)
theorem cat_val {ct b : Nat} (hct : ct < 67108864) (t' : b ≤ 122) : bits BinOp.or IntKind.u32 (ct : Int) (2 ^ (b - 97) % 4294967296) = ((ct ||| 2 ^ (b - 97) : Nat) : Int) := by
  have h2 := cat_pow t'
  rw [pow_mod _ (by omega), u32_or_nat _ _ (by omega) (by omega)]
theorem cat_lt {ct b : Nat} (hct : ct < 67108864) (t' : b ≤ 122) : ct ||| 2 ^ (b - 97) < 67108864 := Nat.or_lt_two_pow (n := 26) hct (cat_pow t')

/-- What comes out: the label that was read, if its text is the one that was given. -/
def Comes (l : List UInt8) (V : Value) : Prop :=
  (okL (readR l) (readC l) = true ∧ textOf (readR l) (readC l) = l ∧ V = .tuple #[.agg #[.int .i64 (readR l), .int .u32 (readC l)], .int .i64 0]) ∨
  (okL (readR l) (readC l) = true ∧ textOf (readR l) (readC l) ≠ l ∧ V = .tuple #[.agg #[.int .i64 0, .int .u32 0], .int .i64 3]) ∨
  (okL (readR l) (readC l) = false ∧ V = .tuple #[.agg #[.int .i64 0, .int .u32 0], .int .i64 3])

set_option maxHeartbeats 4000000 in
set_option maxRecDepth 100000 in
theorem parse10 (s : ByteArray) (V : Value) (w : World) (hs : s.size ≤ 281474976710656) (hV : Comes s.data.toList V) :
    Calls Tryz.prog 30 #[.string s] w fun e w' => e = .returned V ∧ Below w.heap.size w w' := by
  go_enter Tryz.func30, Tryz.ntmps30
  go_wp2
  go_loopw [5] (fun iv wr => ∃ (i : Nat) (n d : Nat), i ≤ nd s.data.toList ∧ n ≤ 999 ∧ Hid (n = numOf (s.data.toList.take i)) ∧ iv = .int .i64 i ∧ wr = ((w.alloc (Obj.cells #[Value.int IntKind.i64 0, Value.int IntKind.u32 0] 25)).alloc (Obj.cells #[Value.int IntKind.i64 n, Value.int IntKind.u32 0] 25)).drewN d) (fun iv _ => 3 - (intOf iv).toNat)
  case atStart => exact ⟨0, 0, 0, by omega, by omega, rfl, rfl, rfl⟩
  case round =>
    obtain ⟨i, n, d, hin, hn9, HN, rfl, rfl⟩ := hrel
    have hn3 := nd_le3 s.data.toList
    by_cases hd : i < nd s.data.toList
    · obtain ⟨hi, hdig, hnum⟩ := num_step hd
      have hlt : i < s.size := by rw [size_list]; exact hi
      have h3 : i < 3 := by omega
      have hdig2 : isDig s[i] = true := hdig
      have hlo : 48 ≤ s[i].toNat ∧ s[i].toNat ≤ 57 := by
        unfold isDig at hdig2
        simpa using hdig2
      obtain ⟨hlo, hhi⟩ := hlo
      have HS : Hid (10 * n + (s[i].toNat - 48) = numOf (s.data.toList.take (i + 1))) := by
        unfold Hid; rw [HN.out, hnum]; rfl
      have HLAST : Hid (10 * n + (s[i].toNat - 48) ≤ 999) := by
        have h1 := num_lt (l := s.data.toList) (i + 1) (by omega)
        have h2 : 10 ^ (i + 1) ≤ 10 ^ 3 := Nat.pow_le_pow_right (by omega) (by omega)
        unfold Hid; rw [HS.out]; omega
      have HD := Lib.hid hd
      clear hdig hdig2 hnum hi hin hd
      go_wp2_with fail
      go_region
      go_wp2_with fail
      refine ⟨⟨i + 1, 10 * n + (s[i].toNat - 48), d + 1, HD.out, HLAST.out, HS, by go_num, ?_⟩, by simp [intOf]; omega⟩
      exact set_rank w n 0 (d + 1) _ _ (by omega)
    · obtain rfl : i = nd s.data.toList := by omega
      have HR : Hid (readR s.data.toList = n) := HN.out.symm
      have HST := Lib.hid (fun (h3 : nd s.data.toList < 3) (hi : nd s.data.toList < s.data.toList.length) => nd_stop h3 hi)
      have HC : Hid (readC s.data.toList = bitsTo (s.data.toList.drop (nd s.data.toList + 1)) 26) := rfl
      have hnl : nd s.data.toList ≤ s.size := by rw [size_list]; exact nd_le _
      clear hin hd HN
      have four : (s.size ≤ nd s.data.toList) ∨ (nd s.data.toList < s.size ∧ 3 ≤ nd s.data.toList) ∨ (∃ h : nd s.data.toList < s.size, nd s.data.toList < 3 ∧ s[nd s.data.toList].toNat < 48) ∨ (∃ h : nd s.data.toList < s.size, nd s.data.toList < 3 ∧ 57 < s[nd s.data.toList].toNat) := by
        by_cases h1 : s.size ≤ nd s.data.toList
        · exact Or.inl h1
        · have h1' : nd s.data.toList < s.size := by omega
          by_cases h2 : 3 ≤ nd s.data.toList
          · exact Or.inr (Or.inl ⟨h1', h2⟩)
          · have h2' : nd s.data.toList < 3 := by omega
            have := HST.out h2' (by rw [← size_list]; exact h1')
            rcases dig_off h1' this with h | h
            · exact Or.inr (Or.inr (Or.inl ⟨h1', h2', h⟩))
            · exact Or.inr (Or.inr (Or.inr ⟨h1', h2', h⟩))
      clear HST
      generalize nd s.data.toList = i at *
      have hV2 : (okL n (readC s.data.toList) = true ∧ textOf n (readC s.data.toList) = s.data.toList ∧ V = .tuple #[.agg #[.int .i64 n, .int .u32 (readC s.data.toList)], .int .i64 0]) ∨ (okL n (readC s.data.toList) = true ∧ textOf n (readC s.data.toList) ≠ s.data.toList ∧ V = .tuple #[.agg #[.int .i64 0, .int .u32 0], .int .i64 3]) ∨ (okL n (readC s.data.toList) = false ∧ V = .tuple #[.agg #[.int .i64 0, .int .u32 0], .int .i64 3]) := by
        have := hV
        unfold Comes at this
        rw [HR.out] at this
        exact this
      have HV := Lib.hid hV2
      clear hV2 HR
      generalize readC s.data.toList = C at *
      clear hV
      rcases four with q | ⟨q, q3⟩ | ⟨q, q3, qb⟩ | ⟨q, q3, qb⟩
      all_goals
        go_wp2_with fail
        go_loopw [6] (fun iv wr => ∃ (K ct d : Nat), i + 1 ≤ K ∧ ct < 67108864 ∧ Hid (ct = bitsTo ((s.data.toList.drop (i + 1)).take (K - (i + 1))) 26) ∧ K ≤ s.size + 1 ∧ iv = .int .i64 K ∧ wr = ((w.alloc (Obj.cells #[Value.int IntKind.i64 0, Value.int IntKind.u32 0] 25)).alloc (Obj.cells #[Value.int IntKind.i64 n, Value.int IntKind.u32 ct] 25)).drewN d) (fun iv _ => s.size + 1 - (intOf iv).toNat)
        case atStart => exact ⟨i + 1, 0, d, by omega, by omega, by simp [Hid, bits_none], by omega, by go_num, rfl⟩
        case round =>
          obtain ⟨K, ct, d2, hK, hct, HCT, hKs, rfl, rfl⟩ := hrel
          by_cases hlt : K < s.size
          · first
            | (exfalso; omega)
            | (have HN := Lib.hid (take_next hK hlt)
               have HB := Lib.hid (bits_snoc ((s.data.toList.drop (i + 1)).take (K - (i + 1))) s[K])
               rcases (by omega : s[K].toNat < 97 ∨ (97 ≤ s[K].toNat ∧ s[K].toNat ≤ 122) ∨ 122 < s[K].toNat) with t | ⟨t, t'⟩ | t
               · go_wp2_with fail
                 refine ⟨⟨K + 1, ct, d2, by omega, hct, ?_, by omega, by go_num, rfl⟩, by simp [intOf]; omega⟩
                 unfold Hid
                 rw [HN.out, HB.out, if_neg (by omega), Nat.or_zero]
                 exact HCT.out
               · have HV3 := Lib.hid (cat_val (b := s[K].toNat) hct t')
                 have HL3 := Lib.hid (cat_lt (b := s[K].toNat) hct t')
                 go_wp2_with fail
                 go_region
                 go_wp2_with fail
                 refine ⟨⟨K + 1, ct ||| 2 ^ (s[K].toNat - 97), d2 + 1, by omega, HL3.out, ?_, by omega, by go_num, set_cats w n ct (d2 + 1) _ _ HV3.out⟩, by simp [intOf]; omega⟩
                 unfold Hid
                 rw [HN.out, HB.out, if_pos ⟨t, t'⟩, HCT.out]
               · go_wp2_with fail
                 refine ⟨⟨K + 1, ct, d2, by omega, hct, ?_, by omega, by go_num, rfl⟩, by simp [intOf]; omega⟩
                 unfold Hid
                 rw [HN.out, HB.out, if_neg (by omega), Nat.or_zero]
                 exact HCT.out)
          · have eC : C = ct := HC.out.trans (by rw [HCT.out, take_all (by omega)])
            subst eC
            have hc32 : C < 4294967296 := by omega
            rcases HV.out with ⟨ho, ht, rfl⟩ | ⟨ho, ht, rfl⟩ | ⟨ho, rfl⟩
            · have H8 := Lib.hid (fun W => text8_yes n C W ho)
              have hq : (textOf n C == s.toList) = true := by rw [Lib.toList_data, ht]; simp
              generalize textOf n C = T at *
              clear HC HCT HV ho ht
              go_wp2_with fail
              refine (H8.out _).mono ?_
              rintro e w4 ⟨rfl, hb4⟩
              have hbz : Below (w.heap.size + 2) ((w.alloc (Obj.cells #[Value.int IntKind.i64 0, Value.int IntKind.u32 0] 25)).alloc (Obj.cells #[Value.int IntKind.i64 n, Value.int IntKind.u32 C] 25)) w4 := (below_drewN'' _ _ _).trans (hb4.mono (by simp))
              obtain ⟨x0, x1, x2, x3, hz⟩ := box2 hbz
              obtain ⟨f0, f1⟩ := own2 hbz
              have hbw : Below w.heap.size w w4 := (((Below.refl _ w).alloc (Nat.le_refl _) _).alloc (by simp) _).trans (hbz.mono (by omega))
              clear hb4 hbz
              go_wp2_with fail
              exact bodyPost_ret (v := .tuple #[.agg #[.int .i64 n, .int .u32 C], .int .i64 0]) (by simp [results, Tryz.results30, go_sem, x0, x1]) rfl ⟨rfl, (hbw.setCell (Nat.le_refl _) _).setCell (Nat.le_refl _) _⟩
            · have H8 := Lib.hid (fun W => text8_yes n C W ho)
              have hq : (textOf n C == s.toList) = false := by rw [Lib.toList_data]; simpa using ht
              generalize textOf n C = T at *
              clear HC HCT HV ho ht
              go_wp2_with fail
              refine (H8.out _).mono ?_
              rintro e w4 ⟨rfl, hb4⟩
              have hbz : Below (w.heap.size + 2) ((w.alloc (Obj.cells #[Value.int IntKind.i64 0, Value.int IntKind.u32 0] 25)).alloc (Obj.cells #[Value.int IntKind.i64 n, Value.int IntKind.u32 C] 25)) w4 := (below_drewN'' _ _ _).trans (hb4.mono (by simp))
              obtain ⟨x0, x1, x2, x3, hz⟩ := box2 hbz
              obtain ⟨f0, f1⟩ := own2 hbz
              have hbw : Below w.heap.size w w4 := (((Below.refl _ w).alloc (Nat.le_refl _) _).alloc (by simp) _).trans (hbz.mono (by omega))
              clear hb4 hbz
              go_wp2_with fail
              exact bodyPost_ret (v := .tuple #[.agg #[.int .i64 0, .int .u32 0], .int .i64 3]) (by simp [results, Tryz.results30, go_sem, x0, x1]) rfl ⟨rfl, (hbw.setCell (Nat.le_refl _) _).setCell (Nat.le_refl _) _⟩
            · have H8 := Lib.hid (fun W => text8_no n C W hc32 ho)
              clear HC HCT HV ho
              go_wp2_with fail
              refine (H8.out _).mono ?_
              rintro e w4 ⟨rfl, hb4⟩
              have hbz : Below (w.heap.size + 2) ((w.alloc (Obj.cells #[Value.int IntKind.i64 0, Value.int IntKind.u32 0] 25)).alloc (Obj.cells #[Value.int IntKind.i64 n, Value.int IntKind.u32 C] 25)) w4 := (below_drewN'' _ _ _).trans (hb4.mono (by simp))
              obtain ⟨x0, x1, x2, x3, hz⟩ := box2 hbz
              obtain ⟨f0, f1⟩ := own2 hbz
              have hbw : Below w.heap.size w w4 := (((Below.refl _ w).alloc (Nat.le_refl _) _).alloc (by simp) _).trans (hbz.mono (by omega))
              clear hb4 hbz
              go_wp2_with fail
              exact bodyPost_ret (v := .tuple #[.agg #[.int .i64 0, .int .u32 0], .int .i64 3]) (by simp [results, Tryz.results30, go_sem, x0, x1]) rfl ⟨rfl, (hbw.setCell (Nat.le_refl _) _).setCell (Nat.le_refl _) _⟩

theorem parse10_yes (r : Int) (c : Nat) (w : World) (h : okL r c = true) :
    Calls Tryz.prog 30 #[.string ⟨(textOf r c).toArray⟩] w fun e w' => e = .returned (.tuple #[.agg #[.int .i64 r, .int .u32 c], .int .i64 0]) ∧ Below w.heap.size w w' := by
  obtain ⟨n, rfl⟩ := Int.eq_ofNat_of_zero_le (okL_iff.1 h).1
  obtain ⟨e1, e2⟩ := read_ref h
  have hl := text_len h
  refine parse10 _ _ w (by rw [list_size]; omega) (Or.inl ?_)
  show okL (readR (textOf n c)) (readC (textOf n c)) = true ∧ textOf (readR (textOf n c)) (readC (textOf n c)) = textOf n c ∧ _
  rw [e1, e2]
  exact ⟨h, rfl, rfl⟩
theorem parse10_no (s : ByteArray) (w : World) (hs : s.size ≤ 281474976710656) (hn : ∀ r c, okL r c = true → textOf r c ≠ s.data.toList) :
    Calls Tryz.prog 30 #[.string s] w fun e w' => e = .returned (.tuple #[.agg #[.int .i64 0, .int .u32 0], .int .i64 3]) ∧ Below w.heap.size w w' := by
  refine parse10 s _ w hs ?_
  cases h : okL (readR s.data.toList) (readC s.data.toList)
  · exact Or.inr (Or.inr ⟨h, rfl⟩)
  · exact Or.inr (Or.inl ⟨h, hn _ _ h, rfl⟩)
end Go.Proofs.YtoompephogamaaaGreatDoor
