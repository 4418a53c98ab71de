/- The walk of RowBack. -/
import Derived.Test.YtlldamgnfaikhaaDoorRwBack
namespace Go.Proofs.YtlldamgnfaikhaaDoor
open Go.RowKit Go.Sort

set_option maxRecDepth 100000 in
set_option maxHeartbeats 2000000 in
theorem back_bad (nm : ByteArray) (at_ : Option Addr) (ct : Nat) (cs : List Col) (a : Option Addr) (c : Nat) (xs : List Val) (bv : Value) (w : World) (hc : ColsIn w at_ cs) (ha : ValsIn w a xs) (hna : a = none → c = 0) (hwa : ∀ x ∈ xs, inI x.n) (hcl : cs.length ≤ 1048576) (hwx : wtV xs ≤ 1048576) (hE : ErrType w) (hz : chkR cs xs ≠ 0) :
    Calls Tryd.prog 4 #[.agg #[.string nm, .slice at_ cs.length ct], .slice a xs.length c, bv] w fun e w' => e = .returned (.bool true) ∧ Below w.heap.size w w' := by
  have hlx : xs.length ≤ 1048576 := Nat.le_trans (wtV_len xs) hwx
  obtain ⟨W1, hW1⟩ : ∃ W1, W1 = w.alloc (.cells #[.string nm, .slice at_ cs.length ct] 24) := ⟨_, rfl⟩
  have hB1 : Below w.heap.size w W1 := by rw [hW1]; exact below_alloc1 _ _
  have hT1 : InT W1 w.heap.size nm at_ cs.length ct := by rw [hW1]; exact inT_new _ _ _ _ _ _
  have HC := Lib.hid (hc.on hB1)
  have HA := Lib.hid (ha.on hB1)
  have HB1 := Lib.hid hB1
  have HT1 : Hid (TabAt w.heap.size nm at_ cs.length ct W1 W1) := ⟨hT1, Below.refl _ _⟩
  have HW1 := Lib.hid hW1
  have HEr := Lib.hid (hE.on hB1)
  have HTA : Hid (∀ V, TabAt w.heap.size nm at_ cs.length ct W1 V → Calls Tryd.prog 7 #[.slice a xs.length c] V (TwinAt V xs.length xs)) := fun V hV => twinAt HA.out hlx hna hV.2
  obtain ⟨E, hEE⟩ : ∃ E, errV 57 (chkR cs xs) = .iface 57 (.int .i64 E) := ⟨_, by rw [errV, if_neg hz]⟩
  have HEA : Hid (∀ V a' c', TabAt w.heap.size nm at_ cs.length ct W1 V → ValsIn V a' xs → Calls Tryd.prog 6 #[.agg #[.string nm, .slice at_ cs.length ct], .slice a' xs.length c'] V (EncAt V 0 [] (.iface 57 (.int .i64 E)))) := fun V a' c' hV h => by
    have := encAt (nm := nm) (ct := ct) (c' := c') HC.out hV.2 h hwa hcl hwx
    rw [if_neg hz, hEE] at this
    exact this
  have HSu : Hid (∀ V, Below W1.heap.size W1 V → Calls Tryd.prog 13 #[] V fun e w' => e = .returned (.bool true) ∧ Below V.heap.size V w') := fun V hV => sure_ V (HEr.out.on hV)
  have HK : Hid (∀ V V', TabAt w.heap.size nm at_ cs.length ct W1 V → Below V.heap.size V V' → TabAt w.heap.size nm at_ cs.length ct W1 V') := fun V V' h hb => h.on hb
  obtain ⟨L, hL⟩ : ∃ L, xs.length = L := ⟨_, rfl⟩
  obtain ⟨C, hC⟩ : ∃ C, cs.length = C := ⟨_, rfl⟩
  obtain ⟨B, hB⟩ : ∃ B, w.heap.size = B := ⟨_, rfl⟩
  rw [hL, hC] at HTA HEA
  rw [hC] at HT1 HK HW1
  rw [hL, hC]
  clear hc ha hna hwa hwx hE hB1 hT1 hW1 hL hC hz hEE hcl hlx
  go_enter Tryd.func4, Tryd.ntmps4
  go_wp2_with fail
  rw [← HW1.out]
  rw [hB] at HT1 HTA HEA HK
  have HBe := Lib.hid hB
  clear HW1 hB
  have HS1 := Lib.hid (HK.out _ _ HT1.out (below_drew W1))
  refine wp_region_noPanic ?_
  go_region_held (fun V => (V.cell? ⟨B, 0, none⟩ = some (.string nm) ∧ V.cell? ⟨B, 1, none⟩ = some (.slice at_ C ct)) ∧ Below W1.heap.size W1 V)
    (first | (exact HS1.out) | (exact HK.out _ _ (by assumption) (by assumption)))
    (first
      | (go_at_call 7; refine (HTA.out _ (by assumption)).mono ?_; rintro e wt1 ⟨a', c', rfl, hvt, hbt⟩)
      | (go_at_call 6; refine (HEA.out _ _ _ (by assumption) (by assumption)).mono ?_; rintro e we1 ⟨a1, c1, rfl, hin1, hbe⟩)
      | fail)
  refine NoPanic.normal ?_
  have HT2 : Hid (TabAt B nm at_ C ct W1 we1) := (by assumption : (we1.cell? ⟨B, 0, none⟩ = some (.string nm) ∧ we1.cell? ⟨B, 1, none⟩ = some (.slice at_ C ct)) ∧ Below W1.heap.size W1 we1)
  have HSS := Lib.hid (HSu.out we1 HT2.out.2)
  have HBz : Hid (Below w.heap.size w we1) := below_step HB1.out HT2.out.2
  clear HS1 hvt hbt hbe hin1 HEA HSu HT1 HT2 HK HTA
  go_wp2_with fail
  refine HSS.out.mono ?_
  rintro e w5 ⟨rfl, hb5⟩
  have HB5 := Lib.hid (below_step HBz.out hb5)
  clear hb5
  go_wp2_with fail
  go_ret
  exact ⟨rfl, HB5.out⟩

set_option maxRecDepth 100000 in
set_option maxHeartbeats 2000000 in
theorem back_good (nm : ByteArray) (at_ : Option Addr) (ct : Nat) (cs : List Col) (a : Option Addr) (c : Nat) (xs : List Val) (b : Option Addr) (d : Nat) (ys : List Val) (w : World) (hc : ColsIn w at_ cs) (ha : ValsIn w a xs) (hb : ValsIn w b ys) (hna : a = none → c = 0) (hnb : b = none → d = 0) (hwa : ∀ x ∈ xs, inI x.n) (hwb : ∀ x ∈ ys, inI x.n) (hcl : cs.length ≤ 1048576) (hwx : wtV xs ≤ 1048576) (hwy : wtV ys ≤ 1048576) (hE : ErrType w) (hz : chkR cs xs = 0) :
    Calls Tryd.prog 4 #[.agg #[.string nm, .slice at_ cs.length ct], .slice a xs.length c, .slice b ys.length d] w fun e w' => e = .returned (.bool true) ∧ Below w.heap.size w w' := by
  have hlx : xs.length ≤ 1048576 := Nat.le_trans (wtV_len xs) hwx
  have hly : ys.length ≤ 1048576 := Nat.le_trans (wtV_len ys) hwy
  obtain ⟨W1, hW1⟩ : ∃ W1, W1 = w.alloc (.cells #[.string nm, .slice at_ cs.length ct] 24) := ⟨_, rfl⟩
  have hB1 : Below w.heap.size w W1 := by rw [hW1]; exact below_alloc1 _ _
  have hT1 : InT W1 w.heap.size nm at_ cs.length ct := by rw [hW1]; exact inT_new _ _ _ _ _ _
  have HC := Lib.hid (hc.on hB1)
  have HA := Lib.hid (ha.on hB1)
  have HY := Lib.hid (hb.on hB1)
  have HB1 := Lib.hid hB1
  have HT1 : Hid (TabAt w.heap.size nm at_ cs.length ct W1 W1) := ⟨hT1, Below.refl _ _⟩
  have HTW : Hid (∀ V, Below W1.heap.size W1 V → TabAt w.heap.size nm at_ cs.length ct W1 V) := fun V hV => HT1.out.on hV
  have HW1 := Lib.hid hW1
  have HEr := Lib.hid (hE.on hB1)
  have HTA : Hid (∀ V, TabAt w.heap.size nm at_ cs.length ct W1 V → Calls Tryd.prog 7 #[.slice a xs.length c] V (TwinAt V xs.length xs)) := fun V hV => twinAt HA.out hlx hna hV.2
  have HTB : Hid (∀ V, TabAt w.heap.size nm at_ cs.length ct W1 V → Calls Tryd.prog 7 #[.slice b ys.length d] V (TwinAt V ys.length ys)) := fun V hV => twinAt HY.out hly hnb hV.2
  have HEA : Hid (∀ V a' c', TabAt w.heap.size nm at_ cs.length ct W1 V → ValsIn V a' xs → Calls Tryd.prog 6 #[.agg #[.string nm, .slice at_ cs.length ct], .slice a' xs.length c'] V (EncOk V (rowB xs).length (rowB xs))) := fun V a' c' hV h => encOk HC.out hV.2 h hwa hcl hwx hz
  have HDA : Hid (∀ V a1 c1, TabAt w.heap.size nm at_ cs.length ct W1 V → BytesIn V a1 (rowB xs) ∧ (rowB xs).length ≤ c1 → Calls Tryd.prog 9 #[.agg #[.string nm, .slice at_ cs.length ct], .slice a1 (rowB xs).length c1] V (DecOk V xs.length xs)) := fun V a1 c1 hV h => decOk HC.out hV.2 h.1 hwa hcl hwx hz h.2
  have HVA : Hid (∀ V a2 c2, Below W1.heap.size W1 V → ValsIn V a2 xs → Calls Tryd.prog 12 #[.slice a2 xs.length c2, .slice a xs.length c] V fun e w' => e = .returned (.bool true) ∧ Below V.heap.size V w') := fun V a2 c2 hV h => (values_ a2 a c2 c xs xs V h (HA.out.on hV) hlx hlx).mono fun e w' ⟨r, he, hr, hb⟩ => ⟨by rw [he, hr.2 rfl], hb⟩
  have HKA : Hid (∀ V a' c', TabAt w.heap.size nm at_ cs.length ct W1 V → ValsIn V a' xs → Calls Tryd.prog 14 #[.agg #[.string nm, .slice at_ cs.length ct], .slice a' xs.length c'] V fun e w' => e = .returned (.tuple #[.string ⟨(kTxt cs xs).toArray⟩, errV 57 (kErr cs xs)]) ∧ Below V.heap.size V w') := fun V a' c' hV h => key_ nm at_ ct cs a' c' xs V (HC.out.on hV.2) h hwa hcl hlx
  have HKB : Hid (∀ V a' c', TabAt w.heap.size nm at_ cs.length ct W1 V → ValsIn V a' ys → Calls Tryd.prog 14 #[.agg #[.string nm, .slice at_ cs.length ct], .slice a' ys.length c'] V fun e w' => e = .returned (.tuple #[.string ⟨(kTxt cs ys).toArray⟩, errV 57 (kErr cs ys)]) ∧ Below V.heap.size V w') := fun V a' c' hV h => key_ nm at_ ct cs a' c' ys V (HC.out.on hV.2) h hwb hcl hly
  have HSu : Hid (∀ V, Below W1.heap.size W1 V → Calls Tryd.prog 13 #[] V fun e w' => e = .returned (.bool true) ∧ Below V.heap.size V w') := fun V hV => sure_ V (HEr.out.on hV)
  have HK : Hid (∀ V V', TabAt w.heap.size nm at_ cs.length ct W1 V → Below V.heap.size V V' → TabAt w.heap.size nm at_ cs.length ct W1 V') := fun V V' h hb => h.on hb
  have HKO : Hid (kErr cs xs = 0 → kErr cs ys = 0 → cmpT (⟨(kTxt cs xs).toArray⟩ : ByteArray).toList (⟨(kTxt cs ys).toArray⟩ : ByteArray).toList = cmpL (keyV cs xs) (keyV cs ys)) := fun h1 h2 => keys_order h1 h2 hwa hwb
  have HLX : Hid (xs.length = cs.length) := (chkR_zero hz).1
  have HLY : Hid (kErr cs ys = 0 → ys.length = cs.length) := fun h => (chkR_zero (kErr_chk h)).1
  obtain ⟨L, hL⟩ : ∃ L, xs.length = L := ⟨_, rfl⟩
  obtain ⟨M, hM⟩ : ∃ M, ys.length = M := ⟨_, rfl⟩
  obtain ⟨C, hC⟩ : ∃ C, cs.length = C := ⟨_, rfl⟩
  obtain ⟨B, hB⟩ : ∃ B, w.heap.size = B := ⟨_, rfl⟩
  have HLL := Lib.hid (⟨hL, hM, hC⟩ : _ ∧ _ ∧ _)
  rw [hL, hC] at HTA HEA HKA
  rw [hL] at HVA
  rw [hL, hC] at HDA
  rw [hM, hC] at HTB HKB
  rw [hC] at HT1 HK hcl HW1 HLX HLY HTW
  rw [hL] at hlx HLX
  rw [hM] at hly HLY
  rw [hL, hM, hC]
  clear hc ha hb hna hnb hwa hwb hwx hwy hE hB1 hT1 hW1 hL hM hC hz
  generalize rowB xs = XB at *
  generalize XB.length = xl at *
  obtain ⟨ka, hka⟩ : ∃ ka, errV 57 (kErr cs xs) = ka := ⟨_, rfl⟩
  obtain ⟨kb, hkb⟩ : ∃ kb, errV 57 (kErr cs ys) = kb := ⟨_, rfl⟩
  have HEE := Lib.hid (⟨hka, hkb⟩ : _ ∧ _)
  rw [hka] at HKA
  rw [hkb] at HKB
  clear hka hkb
  obtain ⟨KX, hKX⟩ : ∃ KX : ByteArray, KX = ⟨(kTxt cs xs).toArray⟩ := ⟨_, rfl⟩
  obtain ⟨KY, hKY⟩ : ∃ KY : ByteArray, KY = ⟨(kTxt cs ys).toArray⟩ := ⟨_, rfl⟩
  rw [← hKX] at HKA HKO
  rw [← hKY] at HKB HKO
  clear hKX hKY
  go_enter Tryd.func4, Tryd.ntmps4
  go_wp2_with fail
  rw [← HW1.out]
  rw [hB] at HT1 HTA HTB HEA HKA HKB HK HDA HTW
  have HBe := Lib.hid hB
  clear HW1 hB
  have HS1 := Lib.hid (HK.out _ _ HT1.out (below_drew W1))
  refine wp_region_noPanic ?_
  go_region_held (fun V => (V.cell? ⟨B, 0, none⟩ = some (.string nm) ∧ V.cell? ⟨B, 1, none⟩ = some (.slice at_ C ct)) ∧ Below W1.heap.size W1 V)
    (first | (exact HS1.out) | (exact HK.out _ _ (by assumption) (by assumption)))
    (first
      | (go_at_call 7; refine (HTA.out _ (by assumption)).mono ?_; rintro e wt1 ⟨a', c', rfl, hvt, hbt⟩)
      | (go_at_call 6; refine (HEA.out _ _ _ (by assumption) (by assumption)).mono ?_; rintro e we1 ⟨a1, c1, rfl, hin1, hbe⟩)
      | fail)
  refine NoPanic.normal ?_
  have HT2 : Hid (TabAt B nm at_ C ct W1 we1) := (by assumption : (we1.cell? ⟨B, 0, none⟩ = some (.string nm) ∧ we1.cell? ⟨B, 1, none⟩ = some (.slice at_ C ct)) ∧ Below W1.heap.size W1 we1)
  have HDD := Lib.hid (HDA.out we1 a1 c1 HT2.out hin1)
  obtain ⟨⟨s0, s1⟩, _⟩ := HT2.out
  clear HS1 hvt hbt hbe hin1 HEA HDA
  go_wp2_with fail
  refine HDD.out.mono ?_
  rintro e wd ⟨a2, c2, rfl, hvd, hbd⟩
  have HT3 := Lib.hid (HK.out _ _ HT2.out hbd)
  have HVV := Lib.hid (HVA.out wd a2 c2 HT3.out.2 hvd)
  clear hvd hbd HDD HT2 HVA s0 s1
  go_wp2_with fail
  refine HVV.out.mono ?_
  rintro e wv ⟨rfl, hbv⟩
  have HT4 := Lib.hid (HK.out _ _ HT3.out hbv)
  clear hbv HVV HT3
  go_wp2_with fail
  have HS3 := Lib.hid (HK.out _ _ HT4.out (below_drew wv))
  refine wp_region_noPanic ?_
  go_region_held (fun V => (V.cell? ⟨B, 0, none⟩ = some (.string nm) ∧ V.cell? ⟨B, 1, none⟩ = some (.slice at_ C ct)) ∧ Below W1.heap.size W1 V)
    (first | (exact HS3.out) | (exact HK.out _ _ (by assumption) (by assumption)))
    (first
      | (go_at_call 7; refine (HTA.out _ (by assumption)).mono ?_; rintro e wt3 ⟨a', c', rfl, hvt, hbt⟩)
      | (go_at_call 14; refine (HKA.out _ _ _ (by assumption) (by assumption)).mono ?_; rintro e we3 ⟨rfl, hbe⟩)
      | fail)
  refine NoPanic.normal ?_
  have HT5 : Hid (TabAt B nm at_ C ct W1 we3) := (by assumption : (we3.cell? ⟨B, 0, none⟩ = some (.string nm) ∧ we3.cell? ⟨B, 1, none⟩ = some (.slice at_ C ct)) ∧ Below W1.heap.size W1 we3)
  clear HS3 hvt hbt hbe HKA HTA HT4
  go_wp2_with fail
  have HS4 := Lib.hid (HK.out _ _ HT5.out (below_drew we3))
  refine wp_region_noPanic ?_
  go_region_held (fun V => (V.cell? ⟨B, 0, none⟩ = some (.string nm) ∧ V.cell? ⟨B, 1, none⟩ = some (.slice at_ C ct)) ∧ Below W1.heap.size W1 V)
    (first | (exact HS4.out) | (exact HK.out _ _ (by assumption) (by assumption)))
    (first
      | (go_at_call 7; refine (HTB.out _ (by assumption)).mono ?_; rintro e wt4 ⟨a', c', rfl, hvt, hbt⟩)
      | (go_at_call 14; refine (HKB.out _ _ _ (by assumption) (by assumption)).mono ?_; rintro e we4 ⟨rfl, hbe⟩)
      | fail)
  refine NoPanic.normal ?_
  have HT6 : Hid (TabAt B nm at_ C ct W1 we4) := (by assumption : (we4.cell? ⟨B, 0, none⟩ = some (.string nm) ∧ we4.cell? ⟨B, 1, none⟩ = some (.slice at_ C ct)) ∧ Below W1.heap.size W1 we4)
  clear HS4 hvt hbt hbe HKB HTB HT5
  obtain ⟨hka, hkb⟩ := HEE.out
  have HSS := Lib.hid (HSu.out we4 HT6.out.2)
  have HBz : Hid (Below w.heap.size w we4) := below_step HB1.out HT6.out.2
  rcases errV_cases (kErr cs xs) with ⟨z3, h3⟩ | ⟨z3, h3⟩
  · rcases errV_cases (kErr cs ys) with ⟨z4, h4⟩ | ⟨z4, h4⟩
    · rw [h3] at hka
      rw [h4] at hkb
      subst hka hkb
      have HCM := Lib.hid (HKO.out z3 z4)
      have hLC : L = C := HLX.out
      have hMC : M = C := HLY.out z4
      have HLn := Lib.hid HLL.out
      subst hLC
      subst hMC
      clear HLX HLY HLL HKO HEE h3 h4 HSS HBz HK HT1 z3 z4
      go_wp2_with fail
      go_loopw [15, 16, 17] (fun pv qv iv wr => ∃ i : Nat, i ≤ M ∧ iv = .int .i64 i ∧ Hid (OwnV wr W1.heap.size pv (pickV xs (keyT cs i))) ∧ Hid (OwnV wr W1.heap.size qv (pickV ys (keyT cs i))) ∧ Hid (Far pv qv) ∧ Hid (Below W1.heap.size W1 wr)) (fun _ _ iv _ => M - (intOf iv).toNat)
      case atStart => exact ⟨0, Nat.zero_le _, rfl, ownV_nil _ _, ownV_nil _ _, (fun k hk => by cases hk), HT6.out.2⟩
      case round =>
        obtain ⟨i, hi, rfl, HP, HQ, HFr, HBr⟩ := hrel
        obtain ⟨⟨s0, s1⟩, _⟩ := HTW.out _ HBr.out
        by_cases hlt : i < M
        · have hlt2 : (i : Int) < (M : Int) := by omega
          have hi1 : i < cs.length := by rw [HLn.out.2.2]; exact hlt
          have hi2 : i < xs.length := by rw [HLn.out.1]; exact hlt
          have hi3 : i < ys.length := by rw [HLn.out.2.1]; exact hlt
          obtain ⟨b1, o1, rfl, cn, kc, ky, nl, hci, q0, q1, q2, q3⟩ := ColsIn.get (HC.out.on HBr.out) i hi1
          cases ky
          · have HP2 : Hid (OwnV wr W1.heap.size u15 (pickV xs (keyT cs (i + 1)))) := by rw [pick_skip hi1 (by rw [hci])]; exact HP
            have HQ2 : Hid (OwnV wr W1.heap.size u16 (pickV ys (keyT cs (i + 1)))) := by rw [pick_skip hi1 (by rw [hci])]; exact HQ
            clear HP HQ hci
            go_wp2_with fail
            go_roundw
            case rel => exact ⟨i + 1, by omega, by go_num, HP2, HQ2, HFr, HBr⟩
            case measure => simp [intOf]; omega
          · have hkx := pick_key (vs := xs) hi1 hi2 (by rw [hci])
            have hky := pick_key (vs := ys) hi1 hi3 (by rw [hci])
            have hpl := pick_len cs xs i
            have hql := pick_len cs ys i
            obtain ⟨b2, o2, rfl, k, n, t, bb, hvi, p0, p1, p2, p3⟩ := ValsIn.get (HA.out.on HBr.out) i hi2
            obtain ⟨b3, o3, rfl, k', n', t', bb', hvi', r0, r1, r2, r3⟩ := ValsIn.get HY.out i hi3
            have HYi : Hid (∀ V, Below W1.heap.size W1 V → In4 V b3 (o3 + i * 4) k' n' t' bb') := fun V hV => In4.on ⟨r0, r1, r2, r3⟩ hV
            rw [hvi] at hkx
            rw [hvi'] at hky
            have HKX := Lib.hid hkx
            have HKY := Lib.hid hky
            clear hkx hky hci hvi hvi' r0 r1 r2 r3
            have hPX : (pickV xs (keyT cs i)).length + 1 ≤ 1048577 := by omega
            have hPY : (pickV ys (keyT cs i)).length + 1 ≤ 1048577 := by omega
            generalize pickV xs (keyT cs i) = PX at *
            generalize pickV ys (keyT cs i) = PY at *
            have hroomX : (PX.length + [(⟨k, n, t, bb⟩ : Val)].length) * 40 ≤ 140737488355328 := by simp; omega
            have hroomY : (PY.length + [(⟨k', n', t', bb'⟩ : Val)].length) * 40 ≤ 140737488355328 := by simp; omega
            have HO1 := Lib.hid (HP.out.on (below_alloc1 wr (.cells #[.int .i64 k, .int .i64 n, .string t, .bool bb] 47)))
            have HOq := Lib.hid (HQ.out.on (below_alloc1 wr (.cells #[.int .i64 k, .int .i64 n, .string t, .bool bb] 47)))
            have HBa := Lib.hid (below_step HBr.out (below_alloc1 wr (.cells #[.int .i64 k, .int .i64 n, .string t, .bool bb] 47)))
            have hsz : W1.heap.size ≤ (wr.alloc (.cells #[.int .i64 k, .int .i64 n, .string t, .bool bb] 47)).heap.size := HBa.out.size
            have HIn := Lib.hid (one_inV (v := ⟨k, n, t, bb⟩) (in4_new wr k n t bb 47))
            clear HP HQ HBr hpl hql
            go_wp2_with (first
              | (at_builtin; refine wpList_append_vals2 _ rfl _ _ rfl W1.heap.size _ PX [⟨k, n, t, bb⟩] rfl HO1.out wr.heap.size 0 1 1 rfl rfl HIn.out hroomX hsz ?_
                 intro v1 w3 hown hg hbl
                 have HOq3 := Lib.hid (HOq.out.grown hg (fun q hq => HFr.out q hq))
                 have HFr3 : Hid (Far v1 u16) := fun q hq => by
                   rcases hbl with e | e
                   · rw [e]; exact HFr.out q hq
                   · rw [e]; intro hh
                     have := (HOq.out.lt q hq).2
                     simp only [Option.some.injEq] at hh
                     omega
                 have HB3 : Hid (Below W1.heap.size W1 w3) := HBa.out.grown hg hsz (fun q hq => (HO1.out.lt q hq).1)
                 have HO3 := Lib.hid hown
                 obtain ⟨r0, r1, r2, r3⟩ := HYi.out w3 HB3.out
                 clear hown hg hbl HO1 HOq HFr HBa hsz HIn)
              | (at_builtin; refine wpList_append_vals2 _ rfl _ _ rfl W1.heap.size _ PY [⟨k', n', t', bb'⟩] rfl (HOq3.out.on (below_alloc1 w3 _)) w3.heap.size 0 1 1 rfl rfl (one_inV (v := ⟨k', n', t', bb'⟩) (in4_new w3 k' n' t' bb' 47)) hroomY (below_step HB3.out (below_alloc1 w3 _)).size ?_
                 intro v2 w4 hown2 hg2 hbl2
                 have HP4 := Lib.hid ((HO3.out.on (below_alloc1 w3 (.cells #[.int .i64 k', .int .i64 n', .string t', .bool bb'] 47))).grown hg2 (fun q hq h => HFr3.out q h hq))
                 have HFr4 : Hid (Far v1 v2) := fun q hq => by
                   rcases hbl2 with e | e
                   · rw [e] at hq; exact HFr3.out q hq
                   · rw [e] at hq; intro hh
                     have := (HO3.out.lt q hh).2
                     have := (below_alloc1 w3 (.cells #[.int .i64 k', .int .i64 n', .string t', .bool bb'] 47)).size
                     simp only [Option.some.injEq] at hq
                     omega
                 have HB4 : Hid (Below W1.heap.size W1 w4) := (below_step HB3.out (below_alloc1 w3 (.cells #[.int .i64 k', .int .i64 n', .string t', .bool bb'] 47))).grown hg2 (below_step HB3.out (below_alloc1 w3 _)).size (fun q hq => (HOq3.out.lt q hq).1)
                 have HO4 := Lib.hid hown2
                 clear hown2 hg2 hbl2 HO3 HOq3 HFr3 HB3)
              | fail)
            go_roundw
            case rel => exact ⟨i + 1, by omega, by go_num, by rw [HKX.out]; exact HP4, by rw [HKY.out]; exact HO4, HFr4, HB4⟩
            case measure => simp [intOf]; omega
        · obtain rfl : i = M := by omega
          have hk : keyT cs i = keyI cs := by unfold keyI; rw [HLn.out.2.2]
          rw [hk] at HP HQ
          have hpl : (pickV xs (keyI cs)).length ≤ i := by rw [← hk]; exact pick_len cs xs i
          obtain ⟨ap, cp, rfl, hvp, _⟩ := HP.out.vals
          obtain ⟨aq, cq, rfl, hvq, _⟩ := HQ.out.vals
          have HCp := Lib.hid (compare_ ap aq cp cq (pickV xs (keyI cs)) (pickV ys (keyI cs)) wr hvp hvq (by omega))
          have HCm : Hid (cmpT KX.toList KY.toList = cmpL (pickV xs (keyI cs)) (pickV ys (keyI cs))) := HCM
          clear HP HQ hvp hvq HFr hk hpl HCM
          generalize (pickV xs (keyI cs)).length = pl at *
          generalize (pickV ys (keyI cs)).length = ql at *
          rw [← HCm.out] at HCp
          have HSS : Hid (∀ V, Below wr.heap.size wr V → Calls Tryd.prog 13 #[] V fun e w' => e = .returned (.bool true) ∧ Below V.heap.size V w') := fun V hV => HSu.out V (below_step HBr.out hV)
          have HBz : Hid (Below w.heap.size w wr) := below_step HB1.out HBr.out
          clear HCm HSu HTW HT6 HBr
          rcases cmpT_cases KX.toList KY.toList with ⟨e1, h1⟩ | ⟨e1, h1⟩ | ⟨e1, h1⟩
          · rw [e1] at HCp
            clear e1
            go_wp2_with fail
            refine HCp.out.mono ?_
            rintro e w5 ⟨rfl, hb5⟩
            have HB5 := Lib.hid hb5
            clear hb5 HCp s0 s1
            go_wp2_with fail
            refine (HSS.out _ HB5.out).mono ?_
            rintro e w6 ⟨rfl, hb6⟩
            have HB6 := Lib.hid (below_step (below_step HBz.out HB5.out) hb6)
            clear hb6 HSS
            go_wp2_with fail
            go_ret
            exact ⟨rfl, HB6.out⟩
          · have h2 : (KX.toList == KY.toList) = true := by rw [h1]; simp
            have h3 : Op.bytesLess KX.toList KY.toList = false := by rw [h1]; exact less_irrefl _
            rw [e1] at HCp
            clear e1 h1
            go_wp2_with fail
            refine HCp.out.mono ?_
            rintro e w5 ⟨rfl, hb5⟩
            have HB5 := Lib.hid hb5
            clear hb5 HCp s0 s1
            go_wp2_with fail
            refine (HSS.out _ HB5.out).mono ?_
            rintro e w6 ⟨rfl, hb6⟩
            have HB6 := Lib.hid (below_step (below_step HBz.out HB5.out) hb6)
            clear hb6 HSS
            go_wp2_with fail
            go_ret
            exact ⟨rfl, HB6.out⟩
          · have h2 : (KX.toList == KY.toList) = false := by
              rw [beq_eq_false_iff_ne]
              intro q
              rw [q, less_irrefl] at h1
              cases h1
            have h3 : Op.bytesLess KX.toList KY.toList = false := less_asymm h1
            rw [e1] at HCp
            clear e1
            go_wp2_with fail
            refine HCp.out.mono ?_
            rintro e w5 ⟨rfl, hb5⟩
            have HB5 := Lib.hid hb5
            clear hb5 HCp s0 s1
            go_wp2_with fail
            refine (HSS.out _ HB5.out).mono ?_
            rintro e w6 ⟨rfl, hb6⟩
            have HB6 := Lib.hid (below_step (below_step HBz.out HB5.out) hb6)
            clear hb6 HSS
            go_wp2_with fail
            go_ret
            exact ⟨rfl, HB6.out⟩
    · rw [h3] at hka
      rw [h4] at hkb
      subst hka hkb
      clear HLX HLY HLL HKO HEE h3 h4 HK HT1 z3 z4 HSu HTW HT6
      generalize kErr cs ys = z at *
      go_wp2_with fail
      refine HSS.out.mono ?_
      rintro e w5 ⟨rfl, hb5⟩
      have HB5 := Lib.hid (below_step HBz.out hb5)
      clear hb5
      go_wp2_with fail
      go_ret
      exact ⟨rfl, HB5.out⟩
  · rw [h3] at hka
    subst hka
    have hkb2 : kb = .nilIface ∨ ∃ z : Int, kb = .iface 57 (.int .i64 z) := by
      rcases errV_cases (kErr cs ys) with ⟨_, h4⟩ | ⟨_, h4⟩
      · exact .inl (hkb ▸ h4)
      · exact .inr ⟨_, hkb ▸ h4⟩
    clear HLX HLY HLL HKO HEE h3 HK HT1 z3 HSu HTW HT6 hkb
    generalize kErr cs xs = z at *
    go_wp2_with fail
    refine HSS.out.mono ?_
    rintro e w5 ⟨rfl, hb5⟩
    have HB5 := Lib.hid (below_step HBz.out hb5)
    clear hb5
    go_wp2_with fail
    go_ret
    exact ⟨rfl, HB5.out⟩
theorem law_back (nm : ByteArray) (at_ : Option Addr) (ct : Nat) (cs : List Col) (a : Option Addr) (c : Nat) (xs : List Val) (b : Option Addr) (d : Nat) (ys : List Val) (w : World) (hc : ColsIn w at_ cs) (ha : ValsIn w a xs) (hb : ValsIn w b ys) (hna : a = none → c = 0) (hnb : b = none → d = 0) (hwa : ∀ x ∈ xs, inI x.n) (hwb : ∀ x ∈ ys, inI x.n) (hcl : cs.length ≤ 1048576) (hwx : wtV xs ≤ 1048576) (hwy : wtV ys ≤ 1048576) (hE : ErrType w) :
    Calls Tryd.prog 4 #[.agg #[.string nm, .slice at_ cs.length ct], .slice a xs.length c, .slice b ys.length d] w fun e w' => e = .returned (.bool true) ∧ Below w.heap.size w w' := by
  by_cases hz : chkR cs xs = 0
  · exact back_good nm at_ ct cs a c xs b d ys w hc ha hb hna hnb hwa hwb hcl hwx hwy hE hz
  · exact back_bad nm at_ ct cs a c xs _ w hc ha hna hwa hcl hwx hE hz
end Go.Proofs.YtlldamgnfaikhaaDoor
