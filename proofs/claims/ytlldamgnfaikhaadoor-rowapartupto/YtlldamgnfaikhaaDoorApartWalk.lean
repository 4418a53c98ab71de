/- The walk of RowApart. -/
import Derived.Test.YtlldamgnfaikhaaDoorRwLaw
namespace Go.Proofs.YtlldamgnfaikhaaDoor
open Go.RowKit Go.Sort

set_option maxRecDepth 100000 in
set_option maxHeartbeats 2000000 in
theorem law_apart (nm : ByteArray) (at_ : Option Addr) (ct : Nat) (cs : List Col) (a : Option Addr) (c : Nat) (xs : List Val) (b : Option Addr) (d : Nat) (ys : List Val) (w : World) (hc : ColsIn w at_ cs) (ha : ValsIn w a xs) (hb : ValsIn w b ys) (hna : a = none → c = 0) (hnb : b = none → d = 0) (hwa : ∀ x ∈ xs, inI x.n) (hwb : ∀ x ∈ ys, inI x.n) (hcl : cs.length ≤ 1048576) (hwx : wtV xs ≤ 1048576) (hwy : wtV ys ≤ 1048576) (hE : ErrType w) :
    Calls Tryd.prog 5 #[.agg #[.string nm, .slice at_ cs.length ct], .slice a xs.length c, .slice b ys.length d] w fun e w' => e = .returned (.bool true) ∧ Below w.heap.size w w' := by
  have hlx : xs.length ≤ 1048576 := Nat.le_trans (wtV_len xs) hwx
  have hly : ys.length ≤ 1048576 := Nat.le_trans (wtV_len ys) hwy
  obtain ⟨W1, hW1⟩ : ∃ W1, W1 = w.alloc (.cells #[.string nm, .slice at_ cs.length ct] 24) := ⟨_, rfl⟩
  have hB1 : Below w.heap.size w W1 := by rw [hW1]; exact below_alloc1 _ _
  have hT1 : InT W1 w.heap.size nm at_ cs.length ct := by rw [hW1]; exact inT_new _ _ _ _ _ _
  have HC := Lib.hid (hc.on hB1)
  have HA := Lib.hid (ha.on hB1)
  have HY := Lib.hid (hb.on hB1)
  have HB1 := Lib.hid hB1
  have HT1 : Hid (TabAt w.heap.size nm at_ cs.length ct W1 W1) := ⟨hT1, Below.refl _ _⟩
  have HW1 := Lib.hid hW1
  have HEr := Lib.hid (hE.on hB1)
  have HTA : Hid (∀ V, TabAt w.heap.size nm at_ cs.length ct W1 V → Calls Tryd.prog 7 #[.slice a xs.length c] V (TwinAt V xs.length xs)) := fun V hV => twinAt HA.out hlx hna hV.2
  have HTB : Hid (∀ V, TabAt w.heap.size nm at_ cs.length ct W1 V → Calls Tryd.prog 7 #[.slice b ys.length d] V (TwinAt V ys.length ys)) := fun V hV => twinAt HY.out hly hnb hV.2
  have HEA : Hid (∀ V a' c', TabAt w.heap.size nm at_ cs.length ct W1 V → ValsIn V a' xs → Calls Tryd.prog 6 #[.agg #[.string nm, .slice at_ cs.length ct], .slice a' xs.length c'] V (EncAt V (if chkR cs xs = 0 then rowB xs else []).length (if chkR cs xs = 0 then rowB xs else []) (errV 57 (chkR cs xs)))) := fun V a' c' hV h => encAt HC.out hV.2 h hwa hcl hwx
  have HEB : Hid (∀ V a' c', TabAt w.heap.size nm at_ cs.length ct W1 V → ValsIn V a' ys → Calls Tryd.prog 6 #[.agg #[.string nm, .slice at_ cs.length ct], .slice a' ys.length c'] V (EncAt V (if chkR cs ys = 0 then rowB ys else []).length (if chkR cs ys = 0 then rowB ys else []) (errV 57 (chkR cs ys)))) := fun V a' c' hV h => encAt HC.out hV.2 h hwb hcl hwy
  have HKA : Hid (∀ V a' c', TabAt w.heap.size nm at_ cs.length ct W1 V → ValsIn V a' xs → Calls Tryd.prog 14 #[.agg #[.string nm, .slice at_ cs.length ct], .slice a' xs.length c'] V fun e w' => e = .returned (.tuple #[.string ⟨(kTxt cs xs).toArray⟩, errV 57 (kErr cs xs)]) ∧ Below V.heap.size V w') := fun V a' c' hV h => key_ nm at_ ct cs a' c' xs V (HC.out.on hV.2) h hwa hcl hlx
  have HKB : Hid (∀ V a' c', TabAt w.heap.size nm at_ cs.length ct W1 V → ValsIn V a' ys → Calls Tryd.prog 14 #[.agg #[.string nm, .slice at_ cs.length ct], .slice a' ys.length c'] V fun e w' => e = .returned (.tuple #[.string ⟨(kTxt cs ys).toArray⟩, errV 57 (kErr cs ys)]) ∧ Below V.heap.size V w') := fun V a' c' hV h => key_ nm at_ ct cs a' c' ys V (HC.out.on hV.2) h hwb hcl hly
  have HSu : Hid (∀ V, Below W1.heap.size W1 V → Calls Tryd.prog 13 #[] V fun e w' => e = .returned (.bool true) ∧ Below V.heap.size V w') := fun V hV => sure_ V (HEr.out.on hV)
  have HVL : Hid (∀ V, Below W1.heap.size W1 V → Calls Tryd.prog 12 #[.slice a xs.length c, .slice b ys.length d] V fun e w' => ∃ r : Bool, e = .returned (.bool r) ∧ (r = true ↔ xs = ys) ∧ Below V.heap.size V w') := fun V hV => values_ a b c d xs ys V (HA.out.on hV) (HY.out.on hV) hlx hly
  have HK : Hid (∀ V V', TabAt w.heap.size nm at_ cs.length ct W1 V → Below V.heap.size V V' → TabAt w.heap.size nm at_ cs.length ct W1 V') := fun V V' h hb => h.on hb
  have HRS : Hid (chkR cs xs = 0 → chkR cs ys = 0 → (((bs (rowB xs)).toList == (bs (rowB ys)).toList) = true ↔ xs = ys)) := fun h1 h2 => rows_same h1 h2 hwa hwb
  have HKS : Hid (kErr cs xs = 0 → kErr cs ys = 0 → (((⟨(kTxt cs xs).toArray⟩ : ByteArray).toList == (⟨(kTxt cs ys).toArray⟩ : ByteArray).toList) = true ↔ keyV cs xs = keyV cs ys)) := fun h1 h2 => keys_same h1 h2 hwa hwb
  have HLX : Hid (chkR cs xs = 0 → xs.length = cs.length) := fun h => (chkR_zero h).1
  have HLY : Hid (chkR cs ys = 0 → ys.length = cs.length) := fun h => (chkR_zero h).1
  obtain ⟨L, hL⟩ : ∃ L, xs.length = L := ⟨_, rfl⟩
  obtain ⟨M, hM⟩ : ∃ M, ys.length = M := ⟨_, rfl⟩
  obtain ⟨C, hC⟩ : ∃ C, cs.length = C := ⟨_, rfl⟩
  obtain ⟨B, hB⟩ : ∃ B, w.heap.size = B := ⟨_, rfl⟩
  have HLL := Lib.hid (⟨hL, hM, hC⟩ : _ ∧ _ ∧ _)
  rw [hL, hC] at HTA HEA HKA
  rw [hM, hC] at HTB HEB HKB
  rw [hL, hM] at HVL
  rw [hC] at HT1 HK hcl HW1 HLX HLY
  rw [hL] at hlx HLX
  rw [hM] at hly HLY
  rw [hL, hM, hC]
  clear hc ha hb hna hnb hwa hwb hwx hwy hE hB1 hT1 hW1 hL hM hC
  generalize hxb : (if chkR cs xs = 0 then rowB xs else []) = XB at *
  generalize hyb : (if chkR cs ys = 0 then rowB ys else []) = YB at *
  have HXB := Lib.hid (⟨hxb, hyb⟩ : _ ∧ _)
  obtain ⟨xl, hxl⟩ : ∃ xl, XB.length = xl := ⟨_, rfl⟩
  obtain ⟨yl, hyl⟩ : ∃ yl, YB.length = yl := ⟨_, rfl⟩
  have HXL := Lib.hid (⟨hxl, hyl⟩ : _ ∧ _)
  rw [hxl] at HEA
  rw [hyl] at HEB
  clear hxb hyb hxl hyl
  obtain ⟨ea, hea⟩ : ∃ ea, errV 57 (chkR cs xs) = ea := ⟨_, rfl⟩
  obtain ⟨eb, heb⟩ : ∃ eb, errV 57 (chkR cs ys) = eb := ⟨_, rfl⟩
  obtain ⟨ka, hka⟩ : ∃ ka, errV 57 (kErr cs xs) = ka := ⟨_, rfl⟩
  obtain ⟨kb, hkb⟩ : ∃ kb, errV 57 (kErr cs ys) = kb := ⟨_, rfl⟩
  have HEE := Lib.hid (⟨hea, heb, hka, hkb⟩ : _ ∧ _ ∧ _ ∧ _)
  rw [hea] at HEA
  rw [heb] at HEB
  rw [hka] at HKA
  rw [hkb] at HKB
  clear hea heb hka hkb
  obtain ⟨KX, hKX⟩ : ∃ KX : ByteArray, KX = ⟨(kTxt cs xs).toArray⟩ := ⟨_, rfl⟩
  obtain ⟨KY, hKY⟩ : ∃ KY : ByteArray, KY = ⟨(kTxt cs ys).toArray⟩ := ⟨_, rfl⟩
  rw [← hKX] at HKA HKS
  rw [← hKY] at HKB HKS
  clear hKX hKY
  go_enter Tryd.func5, Tryd.ntmps5
  go_wp2_with fail
  rw [← HW1.out]
  rw [hB] at HT1 HTA HTB HEA HEB HKA HKB HK
  have HBe := Lib.hid hB
  clear HW1 hB
  have HS1 := Lib.hid (HK.out _ _ HT1.out (below_drew W1))
  refine wp_region_noPanic ?_
  go_region_held (fun V => (V.cell? ⟨B, 0, none⟩ = some (.string nm) ∧ V.cell? ⟨B, 1, none⟩ = some (.slice at_ C ct)) ∧ Below W1.heap.size W1 V)
    (first | (exact HS1.out) | (exact HK.out _ _ (by assumption) (by assumption)))
    (first
      | (go_at_call 7; refine (HTA.out _ (by assumption)).mono ?_; rintro e wt1 ⟨a', c', rfl, hvt, hbt⟩)
      | (go_at_call 6; refine (HEA.out _ _ _ (by assumption) (by assumption)).mono ?_; rintro e we1 ⟨a1, c1, rfl, hin1, hbe⟩)
      | fail)
  refine NoPanic.normal ?_
  have HT2 : Hid (TabAt B nm at_ C ct W1 we1) := (by assumption : (we1.cell? ⟨B, 0, none⟩ = some (.string nm) ∧ we1.cell? ⟨B, 1, none⟩ = some (.slice at_ C ct)) ∧ Below W1.heap.size W1 we1)
  have hbn : Below W1.heap.size W1 we1 := below_step (below_step (below_drew W1) hbt) hbe
  have HI1 := Lib.hid hin1
  clear HS1 hvt hbt hbe hin1 HEA hbn
  go_wp2_with fail
  have HS2 := Lib.hid (HK.out _ _ HT2.out (below_drew we1))
  refine wp_region_noPanic ?_
  go_region_held (fun V => (V.cell? ⟨B, 0, none⟩ = some (.string nm) ∧ V.cell? ⟨B, 1, none⟩ = some (.slice at_ C ct)) ∧ Below W1.heap.size W1 V)
    (first | (exact HS2.out) | (exact HK.out _ _ (by assumption) (by assumption)))
    (first
      | (go_at_call 7; refine (HTB.out _ (by assumption)).mono ?_; rintro e wt2 ⟨a', c', rfl, hvt, hbt⟩)
      | (go_at_call 6; refine (HEB.out _ _ _ (by assumption) (by assumption)).mono ?_; rintro e we2 ⟨a2, c2, rfl, hin2, hbe⟩)
      | fail)
  refine NoPanic.normal ?_
  have HT3 : Hid (TabAt B nm at_ C ct W1 we2) := (by assumption : (we2.cell? ⟨B, 0, none⟩ = some (.string nm) ∧ we2.cell? ⟨B, 1, none⟩ = some (.slice at_ C ct)) ∧ Below W1.heap.size W1 we2)
  have hbn : Below we1.heap.size we1 we2 := below_step (below_step (below_drew we1) hbt) hbe
  have HI2 := Lib.hid (HI1.out.on hbn)
  have HJ2 := Lib.hid hin2
  clear HS2 hvt hbt hbe hin2 HEB hbn HI1
  go_wp2_with fail
  have HS3 := Lib.hid (HK.out _ _ HT3.out (below_drew we2))
  refine wp_region_noPanic ?_
  go_region_held (fun V => (V.cell? ⟨B, 0, none⟩ = some (.string nm) ∧ V.cell? ⟨B, 1, none⟩ = some (.slice at_ C ct)) ∧ Below W1.heap.size W1 V)
    (first | (exact HS3.out) | (exact HK.out _ _ (by assumption) (by assumption)))
    (first
      | (go_at_call 7; refine (HTA.out _ (by assumption)).mono ?_; rintro e wt3 ⟨a', c', rfl, hvt, hbt⟩)
      | (go_at_call 14; refine (HKA.out _ _ _ (by assumption) (by assumption)).mono ?_; rintro e we3 ⟨rfl, hbe⟩)
      | fail)
  refine NoPanic.normal ?_
  have HT4 : Hid (TabAt B nm at_ C ct W1 we3) := (by assumption : (we3.cell? ⟨B, 0, none⟩ = some (.string nm) ∧ we3.cell? ⟨B, 1, none⟩ = some (.slice at_ C ct)) ∧ Below W1.heap.size W1 we3)
  have hbn : Below we2.heap.size we2 we3 := below_step (below_step (below_drew we2) hbt) hbe
  have HI3 := Lib.hid (HI2.out.on hbn)
  have HJ3 := Lib.hid (HJ2.out.on hbn)
  clear HS3 hvt hbt hbe HKA hbn HI2 HJ2 HTA
  go_wp2_with fail
  have HS4 := Lib.hid (HK.out _ _ HT4.out (below_drew we3))
  refine wp_region_noPanic ?_
  go_region_held (fun V => (V.cell? ⟨B, 0, none⟩ = some (.string nm) ∧ V.cell? ⟨B, 1, none⟩ = some (.slice at_ C ct)) ∧ Below W1.heap.size W1 V)
    (first | (exact HS4.out) | (exact HK.out _ _ (by assumption) (by assumption)))
    (first
      | (go_at_call 7; refine (HTB.out _ (by assumption)).mono ?_; rintro e wt4 ⟨a', c', rfl, hvt, hbt⟩)
      | (go_at_call 14; refine (HKB.out _ _ _ (by assumption) (by assumption)).mono ?_; rintro e we4 ⟨rfl, hbe⟩)
      | fail)
  refine NoPanic.normal ?_
  have HT5 : Hid (TabAt B nm at_ C ct W1 we4) := (by assumption : (we4.cell? ⟨B, 0, none⟩ = some (.string nm) ∧ we4.cell? ⟨B, 1, none⟩ = some (.slice at_ C ct)) ∧ Below W1.heap.size W1 we4)
  have hbn : Below we3.heap.size we3 we4 := below_step (below_step (below_drew we3) hbt) hbe
  have HI4 := Lib.hid (HI3.out.on hbn)
  have HJ4 := Lib.hid (HJ3.out.on hbn)
  clear HS4 hvt hbt hbe HKB hbn HI3 HJ3 HTB
  obtain ⟨hea, heb, hka, hkb⟩ := HEE.out
  by_cases hall : chkR cs xs = 0 ∧ chkR cs ys = 0 ∧ kErr cs xs = 0 ∧ kErr cs ys = 0
  · obtain ⟨z1, z2, z3, z4⟩ := hall
    rw [errV, if_pos z1] at hea
    rw [errV, if_pos z2] at heb
    rw [errV, if_pos z3] at hka
    rw [errV, if_pos z4] at hkb
    subst hea heb hka hkb
    have HEq : Hid (L = C ∧ M = C) := ⟨HLX.out z1, HLY.out z2⟩
    obtain ⟨q, hq⟩ : ∃ q : Bool, q = true ↔ xs = ys := by
      by_cases h : xs = ys
      · exact ⟨true, by simp [h]⟩
      · exact ⟨false, by simp [h]⟩
    have HTT : Hid (((bs XB).toList == (bs YB).toList) = q) := by
      have h1 := HXB.out.1
      have h2 := HXB.out.2
      rw [if_pos z1] at h1
      rw [if_pos z2] at h2
      rw [← h1, ← h2]
      exact Bool.eq_iff_iff.2 ((HRS.out z1 z2).trans hq.symm)
    have HVQ : Hid (∀ V, Below W1.heap.size W1 V → Calls Tryd.prog 12 #[.slice a L c, .slice b M d] V fun e w' => e = .returned (.bool q) ∧ Below V.heap.size V w') := fun V hV => (HVL.out V hV).mono fun e w' ⟨r, he, hr, hb⟩ => ⟨by rw [he, Bool.eq_iff_iff.2 (hr.trans hq.symm)], hb⟩
    have HKK := Lib.hid (HKS.out z3 z4)
    have HW4 : Hid (Below W1.heap.size W1 we4) := HT5.out.2
    clear z1 z2 z3 z4 HLX HLY hq HXB HRS HKS HVL HEE HT1 HT2 HT3 HT4
    obtain ⟨hLC, hMC⟩ := HEq.out
    have HLn := Lib.hid HLL.out
    subst hLC
    subst hMC
    clear HEq HLL
    go_wp2_with fail
    go_loopw [15, 16] (fun sv iv wr => ∃ (i : Nat) (r : Bool), i ≤ M ∧ iv = .int .i64 i ∧ sv = .bool r ∧ Hid (r = true ↔ ∀ j (h : j < cs.length) (h1 : j < xs.length) (h2 : j < ys.length), j < i → cs[j].key = true → xs[j] = ys[j]) ∧ Hid (TabAt B nm at_ M ct W1 wr) ∧ Hid (Below we4.heap.size we4 wr)) (fun _ iv _ => M - (intOf iv).toNat)
    case atStart => exact ⟨0, true, Nat.zero_le _, rfl, rfl, by show _ ↔ _; simp, HT5, Below.refl _ _⟩
    case round =>
      clear HT5
      obtain ⟨i, r, hi, rfl, rfl, HR, HTr, HBr⟩ := hrel
      obtain ⟨⟨s0, s1⟩, hbW⟩ := HTr.out
      have hGD := guardV
      by_cases hlt : i < M
      · have hlt2 : (i : Int) < (M : Int) := by omega
        have hi1 : i < cs.length := by rw [HLn.out.2.2]; exact hlt
        have hi2 : i < xs.length := by rw [HLn.out.1]; exact hlt
        have hi3 : i < ys.length := by rw [HLn.out.2.1]; exact hlt
        obtain ⟨b1, o1, rfl, cn, kc, ky, nl, hci, q0, q1, q2, q3⟩ := ColsIn.get (HC.out.on hbW) i hi1
        obtain ⟨b2, o2, rfl, k, n, t, bb, hvi, p0, p1, p2, p3⟩ := ValsIn.get (HA.out.on hbW) i hi2
        obtain ⟨b3, o3, rfl, k', n', t', bb', hvi', r0, r1, r2, r3⟩ := ValsIn.get (HY.out.on hbW) i hi3
        clear hbW
        cases r
        · have HR2 : Hid (false = true ↔ ∀ j (h : j < cs.length) (h1 : j < xs.length) (h2 : j < ys.length), j < i + 1 → cs[j].key = true → xs[j] = ys[j]) := by
            constructor
            · intro h; cases h
            · intro h; exact HR.out.2 fun j h0 h1 h2 hj => h j h0 h1 h2 (by omega)
          clear HR hci hvi hvi'
          go_wp2_with fail
          go_quiet (fail)
          have HT6 := Lib.hid (HK.out _ _ HTr.out (below_drewN (Below.refl _ _) nq))
          have HB6 := Lib.hid (below_drewN HBr.out nq)
          go_wp2_with fail
          go_roundw
          case rel => exact ⟨i + 1, false, by omega, by go_num, rfl, HR2, HT6, HB6⟩
          case measure => simp [intOf]; omega
        · cases ky
          · have HR2 : Hid (∀ j (h : j < cs.length) (h1 : j < xs.length) (h2 : j < ys.length), j < i + 1 → cs[j].key = true → xs[j] = ys[j]) := by
              intro j h0 h1 h2 hj hk
              rcases Nat.lt_or_ge j i with hh | hh
              · exact HR.out.1 rfl j h0 h1 h2 hh hk
              · obtain rfl : j = i := by omega
                rw [hci] at hk; cases hk
            clear HR hci hvi hvi'
            go_wp2_with fail
            go_quiet (fail)
            have HT6 := Lib.hid (HK.out _ _ HTr.out (below_drewN (Below.refl _ _) nq))
            have HB6 := Lib.hid (below_drewN HBr.out nq)
            go_wp2_with fail
            go_roundw
            case rel => exact ⟨i + 1, true, by omega, by go_num, rfl, (⟨fun _ => HR2.out, fun _ => rfl⟩ : _ ↔ _), HT6, HB6⟩
            case measure => simp [intOf]; omega
          · obtain ⟨sv, hs⟩ : ∃ sv, sameV k n t bb k' n' t' bb' = sv := ⟨_, rfl⟩
            have hEQ : ∀ W, (Op.equalIn 10000 47 (.agg #[.int .i64 k, .int .i64 n, .string t, .bool bb]) (.agg #[.int .i64 k', .int .i64 n', .string t', .bool bb'])).run Tryd.prog W = .ok sv W := fun W => by rw [eqIn_, hs]
            have HR2 : Hid (sv = true ↔ ∀ j (h : j < cs.length) (h1 : j < xs.length) (h2 : j < ys.length), j < i + 1 → cs[j].key = true → xs[j] = ys[j]) := by
              constructor
              · intro h j h0 h1 h2 hj hk
                rcases Nat.lt_or_ge j i with hh | hh
                · exact HR.out.1 rfl j h0 h1 h2 hh hk
                · obtain rfl : j = i := by omega
                  rw [hvi, hvi']
                  exact sameV_iff.1 (hs.trans h)
              · intro h
                have := h i hi1 hi2 hi3 (by omega) (by rw [hci])
                rw [hvi, hvi'] at this
                exact hs.symm.trans (sameV_iff.2 this)
            clear HR hci hvi hvi' hs
            go_wp2_with fail
            go_quiet (fail)
            have HT6 := Lib.hid (HK.out _ _ HTr.out (below_drewN (Below.refl _ _) nq))
            have HB6 := Lib.hid (below_drewN HBr.out nq)
            go_wp2_with fail
            go_roundw
            case rel => exact ⟨i + 1, sv, by omega, by go_num, rfl, HR2, HT6, HB6⟩
            case measure => simp [intOf]; omega
      · obtain rfl : i = M := by omega
        have hKr : (KX.toList == KY.toList) = r := by
          refine Bool.eq_iff_iff.2 (HKK.out.trans ((keyV_eq (by rw [HLn.out.1, HLn.out.2.2]) (by rw [HLn.out.2.1, HLn.out.2.2])).trans (Iff.trans ?_ HR.out.symm)))
          exact ⟨fun h j h0 h1 h2 _ hk => h j h0 h1 h2 hk, fun h j h0 h1 h2 hk => h j h0 h1 h2 (by rw [← HLn.out.2.2]; exact h0) hk⟩
        have CA : ∀ V, Below wr.heap.size wr V → (convert 26 9 (.slice a1 xl c1)).run Tryd.prog V = .ok (.string (bs XB)) V := fun V hV => conv_ V a1 xl c1 XB HXL.out.1.symm ((HI4.out.on HBr.out).on hV)
        have CB : ∀ V, Below wr.heap.size wr V → (convert 26 9 (.slice a2 yl c2)).run Tryd.prog V = .ok (.string (bs YB)) V := fun V hV => conv_ V a2 yl c2 YB HXL.out.2.symm ((HJ4.out.on HBr.out).on hV)
        have HV5 : Hid (∀ V, Below wr.heap.size wr V → Calls Tryd.prog 12 #[.slice a i c, .slice b i d] V fun e w' => e = .returned (.bool q) ∧ Below V.heap.size V w') := fun V hV => HVQ.out V (below_step hbW hV)
        have HS5 : Hid (∀ V, Below wr.heap.size wr V → Calls Tryd.prog 13 #[] V fun e w' => e = .returned (.bool true) ∧ Below V.heap.size V w') := fun V hV => HSu.out V (below_step hbW hV)
        have HBf := Lib.hid (below_step HB1.out hbW)
        have hTT := HTT.out
        generalize bs XB = TX at *
        generalize bs YB = TY at *
        clear HR HKK HVQ HSu HTT HI4 HJ4 hbW HW4 HLn
        cases q <;> cases r
        all_goals
          go_wp2_with fail
          refine wp_region_noPanic ?_
          go_region_held (fun V => Below wr.heap.size wr V) (first | assumption | exact below_drew _ | exact below_step (by assumption) (by assumption))
            (first
              | (go_at_call 12; refine (HV5.out _ (by assumption)).mono ?_; rintro e w' ⟨rfl, hb⟩)
              | (go_at_call 13; refine (HS5.out _ (by assumption)).mono ?_; rintro e w'' ⟨rfl, hb⟩)
              | fail)
          refine NoPanic.normal ?_
          have hbz : Below wr.heap.size wr w'' := by assumption
          have HBz := Lib.hid (below_step HBf.out hbz)
          clear hbz
          go_wp2_with fail
          go_ret
          exact ⟨rfl, HBz.out⟩
  · have hany : ea ≠ .nilIface ∨ eb ≠ .nilIface ∨ ka ≠ .nilIface ∨ kb ≠ .nilIface := by
      refine Classical.byContradiction fun h => hall ?_
      have e0 : ∀ z : Int, errV 57 z = .nilIface → z = 0 := fun z hz => by
        rcases errV_cases z with ⟨h0, _⟩ | ⟨_, h1⟩
        · exact h0
        · rw [h1] at hz; cases hz
      refine ⟨e0 _ ?_, e0 _ ?_, e0 _ ?_, e0 _ ?_⟩
      · rw [hea]; exact Classical.byContradiction fun h1 => h (.inl h1)
      · rw [heb]; exact Classical.byContradiction fun h1 => h (.inr (.inl h1))
      · rw [hka]; exact Classical.byContradiction fun h1 => h (.inr (.inr (.inl h1)))
      · rw [hkb]; exact Classical.byContradiction fun h1 => h (.inr (.inr (.inr h1)))
    have HSS := Lib.hid (HSu.out we4 HT5.out.2)
    have HBz : Hid (Below w.heap.size w we4) := below_step HB1.out HT5.out.2
    have kinds : ∀ z : Int, ∀ v, errV 57 z = v → v = .nilIface ∨ ∃ n : Int, v = .iface 57 (.int .i64 n) := fun z v hz => by
      rcases errV_cases z with ⟨_, h1⟩ | ⟨_, h1⟩
      · exact .inl (hz ▸ h1)
      · exact .inr ⟨z, hz ▸ h1⟩
    have k1 := kinds _ _ hea
    have k2 := kinds _ _ heb
    have k3 := kinds _ _ hka
    have k4 := kinds _ _ hkb
    clear hea heb hka hkb hall kinds HEE HI4 HJ4 HRS HKS HVL HSu HT1 HT2 HT3 HT4 HT5 HK
    rcases k1 with rfl | ⟨n1, rfl⟩
    · rcases k2 with rfl | ⟨n2, rfl⟩
      · rcases k3 with rfl | ⟨n3, rfl⟩
        · rcases k4 with rfl | ⟨n4, rfl⟩
          · simp at hany
          · clear hany
            go_wp2_with fail
            refine HSS.out.mono ?_
            rintro e w5 ⟨rfl, hb5⟩
            have HB5 := Lib.hid (below_step HBz.out hb5)
            clear hb5
            go_wp2_with fail
            go_ret
            exact ⟨rfl, HB5.out⟩
        · clear hany k4
          go_wp2_with fail
          refine HSS.out.mono ?_
          rintro e w5 ⟨rfl, hb5⟩
          have HB5 := Lib.hid (below_step HBz.out hb5)
          clear hb5
          go_wp2_with fail
          go_ret
          exact ⟨rfl, HB5.out⟩
      · clear hany k3 k4
        go_wp2_with fail
        refine HSS.out.mono ?_
        rintro e w5 ⟨rfl, hb5⟩
        have HB5 := Lib.hid (below_step HBz.out hb5)
        clear hb5
        go_wp2_with fail
        go_ret
        exact ⟨rfl, HB5.out⟩
    · clear hany k2 k3 k4
      go_wp2_with fail
      refine HSS.out.mono ?_
      rintro e w5 ⟨rfl, hb5⟩
      have HB5 := Lib.hid (below_step HBz.out hb5)
      clear hb5
      go_wp2_with fail
      go_ret
      exact ⟨rfl, HB5.out⟩
end Go.Proofs.YtlldamgnfaikhaaDoor
