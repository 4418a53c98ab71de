/- The walk of RowChecks. -/
import Derived.Test.YtlldamgnfaikhaaGreatDoorRwKeyOf
import Derived.Test.YtlldamgnfaikhaaGreatDoorRwRKeyOf
import Derived.Test.YtlldamgnfaikhaaGreatDoorRwText
import Derived.Test.YtlldamgnfaikhaaGreatDoorRwRText
import Derived.Test.YtlldamgnfaikhaaGreatDoorRwInts
import Derived.Test.YtlldamgnfaikhaaGreatDoorRwTwin
import Derived.Test.YtlldamgnfaikhaaGreatDoorRwSure
import Derived.Test.YtlldamgnfaikhaaGreatDoorOAs
import Derived.BigQuiet
namespace Go.Proofs.YtlldamgnfaikhaaGreatDoor
open Go.RowKit Go.Sort

/-- The law's table lies in its block, and all that was there is there. -/
def TabAt (B : Nat) (nm : ByteArray) (at_ : Option Addr) (C ct : Nat) (W1 V : World) : Prop :=
  (V.cell? ⟨B, 0, none⟩ = some (.string nm) ∧ V.cell? ⟨B, 1, none⟩ = some (.slice at_ C ct)) ∧ Below W1.heap.size W1 V
theorem TabAt.on {B : Nat} {nm : ByteArray} {at_ : Option Addr} {C ct : Nat} {W1 V V' : World} (h : TabAt B nm at_ C ct W1 V) (hb : Below V.heap.size V V') : TabAt B nm at_ C ct W1 V' :=
  ⟨InT.on h.1 hb, below_step h.2 hb⟩
/-- A twin. -/
def TwinAt (V : World) (L : Nat) (xs : List Val) (e : Ending) (w' : World) : Prop :=
  ∃ a' c', e = .returned (.slice a' L c') ∧ ValsIn w' a' xs ∧ Below V.heap.size V w'
theorem twinAt {a : Option Addr} {c : Nat} {xs : List Val} {W1 V : World} (h : ValsIn W1 a xs) (hx : xs.length ≤ 1048576) (hn : a = none → c = 0) (hb : Below W1.heap.size W1 V) : Calls Tryz.prog 5 #[.slice a xs.length c] V (TwinAt V xs.length xs) :=
  (twin_ a c xs V (h.on hb) (by omega) hn).mono fun e w' ⟨a', c', he, hi, _, hb⟩ => ⟨a', c', he, hi, hb⟩
/-- Numbers handed back. -/
def IntsTo (V : World) (M : Nat) (ps : List Nat) (e : Ending) (w' : World) : Prop :=
  ∃ a' c', e = .returned (.slice a' M c') ∧ IntsAt w' a' ps ∧ Below V.heap.size V w'
set_option maxRecDepth 100000 in
set_option maxHeartbeats 4000000 in
theorem law_checks (nm : ByteArray) (at_ : Option Addr) (ct : Nat) (cs : List Col) (a : Option Addr) (c : Nat) (xs : List Val) (w : World) (hc : ColsIn w at_ cs) (ha : ValsIn w a xs) (hna : a = none → c = 0) (hwa : ∀ x ∈ xs, inI x.n) (hcl : cs.length ≤ 1048576) (hlx : xs.length ≤ 1048576) (hE : ErrType w) (hEnv : Env w) :
    Calls Tryz.prog 3 #[.agg #[.string nm, .slice at_ cs.length ct], .slice a xs.length c] w fun e w' => e = .returned (.bool true) ∧ Below w.heap.size w w' := by
  obtain ⟨W1, hW1⟩ : ∃ W1, W1 = w.alloc (.cells #[.string nm, .slice at_ cs.length ct] 24) := ⟨_, rfl⟩
  have hB1 : Below w.heap.size w W1 := by rw [hW1]; exact below_alloc1 _ _
  have hT1 : InT W1 w.heap.size nm at_ cs.length ct := by rw [hW1]; exact inT_new _ _ _ _ _ _
  have HC := Lib.hid (hc.on hB1)
  have HA := Lib.hid (ha.on hB1)
  have HB1 := Lib.hid hB1
  have HT1 : Hid (TabAt w.heap.size nm at_ cs.length ct W1 W1) := ⟨hT1, Below.refl _ _⟩
  have HW1 := Lib.hid hW1
  have HEr := Lib.hid (hE.on hB1)
  have HEv := Lib.hid (hEnv.on hB1)
  have hkl : (keyI cs).length ≤ 1048576 := Nat.le_trans (keyT_len cs _) hcl
  have HTA : Hid (∀ V, TabAt w.heap.size nm at_ cs.length ct W1 V → Calls Tryz.prog 5 #[.slice a xs.length c] V (TwinAt V xs.length xs)) := fun V hV => twinAt HA.out hlx hna hV.2
  have HKA : Hid (∀ V a' c', TabAt w.heap.size nm at_ cs.length ct W1 V → ValsIn V a' xs → Calls Tryz.prog 4 #[.agg #[.string nm, .slice at_ cs.length ct], .slice a' xs.length c'] V fun e w' => e = .returned (.tuple #[.string ⟨(kTxt cs xs).toArray⟩, errV 47 (kErr cs xs)]) ∧ Below V.heap.size V w') := fun V a' c' hV h => key_ nm at_ ct cs a' c' xs V (HC.out.on hV.2) h hwa hcl hlx
  have HKR : Hid (∀ V, Below W1.heap.size W1 V → Calls Tryz.prog 6 #[.agg #[.string nm, .slice at_ cs.length ct], .slice a xs.length c] V fun e w' => e = .returned (.tuple #[.string ⟨(kTxt cs xs).toArray⟩, .int .i64 (kErr cs xs)]) ∧ Below V.heap.size V w') := fun V hV => rkey_ nm at_ ct cs a c xs V (HC.out.on hV) (HA.out.on hV) hwa hcl hlx
  have HFA : Hid (∀ V a' c', TabAt w.heap.size nm at_ cs.length ct W1 V → ValsIn V a' xs → Calls Tryz.prog 7 #[.agg #[.string nm, .slice at_ cs.length ct], .slice a' xs.length c'] V fun e w' => e = .returned (.tuple #[.string ⟨(kofTxt cs xs).toArray⟩, errV 47 (kofErr cs xs)]) ∧ Below V.heap.size V w') := fun V a' c' hV h => keyOf_ nm at_ ct cs a' c' xs V (HC.out.on hV.2) h hwa hcl hlx
  have HFR : Hid (∀ V, Below W1.heap.size W1 V → Calls Tryz.prog 8 #[.agg #[.string nm, .slice at_ cs.length ct], .slice a xs.length c] V fun e w' => e = .returned (.tuple #[.string ⟨(kofTxt cs xs).toArray⟩, .int .i64 (kofErr cs xs)]) ∧ Below V.heap.size V w') := fun V hV => rkeyOf_ nm at_ ct cs a c xs V (HC.out.on hV) (HA.out.on hV) hwa hcl hlx
  have HXA : Hid (∀ V a' c', Below W1.heap.size W1 V → ValsIn V a' xs → Calls Tryz.prog 9 #[.slice a' xs.length c'] V fun e w' => e = .returned (.tuple #[.string ⟨(txT xs).toArray⟩, errV 47 (txE xs)]) ∧ Below V.heap.size V w') := fun V a' c' hV h => rtextP_ a' c' xs V h hwa hlx (HEv.out.on hV)
  have HXR : Hid (∀ V, Below W1.heap.size W1 V → Calls Tryz.prog 10 #[.slice a xs.length c] V fun e w' => e = .returned (.tuple #[.string ⟨(txT xs).toArray⟩, .int .i64 (txE xs)]) ∧ Below V.heap.size V w') := fun V hV => rrtext_ a c xs V (HA.out.on hV) hwa hlx
  have HCA : Hid (∀ V a' c', TabAt w.heap.size nm at_ cs.length ct W1 V → ValsIn V a' xs → Calls Tryz.prog 12 #[.agg #[.string nm, .slice at_ cs.length ct], .slice a' xs.length c'] V fun e w' => e = .returned (errV 47 (chkR cs xs)) ∧ Below V.heap.size V w') := fun V a' c' hV h => check_ nm at_ ct cs a' c' xs V (HC.out.on hV.2) h (by omega) (by omega)
  have HCR : Hid (∀ V, TabAt w.heap.size nm at_ cs.length ct W1 V → Calls Tryz.prog 13 #[.agg #[.string nm, .slice at_ cs.length ct], .slice a xs.length c] V fun e w' => e = .returned (.int .i64 (chkR cs xs)) ∧ Below V.heap.size V w') := fun V hV => rcheck_ nm at_ ct cs a c xs V (HC.out.on hV.2) (HA.out.on hV.2) (by omega) (by omega)
  have HN : Hid (∀ V z, TabAt w.heap.size nm at_ cs.length ct W1 V → Calls Tryz.prog 11 #[errV 47 z] V fun e w' => e = .returned (.int .i64 z) ∧ Below V.heap.size V w') := fun V z hV => num_ z V (HEr.out.on hV.2)
  have HPA : Hid (∀ V, TabAt w.heap.size nm at_ cs.length ct W1 V → Calls Tryz.prog 15 #[.agg #[.string nm, .slice at_ cs.length ct]] V (IntsTo V (keyI cs).length (keyI cs))) := fun V hV => (keys_ nm at_ ct cs V (HC.out.on hV.2) hcl).mono fun e w' ⟨v, he, ho, hb⟩ => by
    obtain ⟨a', c', rfl, hi, _⟩ := ho.ints
    exact ⟨a', c', he, hi, hb⟩
  have HPR : Hid (∀ V, TabAt w.heap.size nm at_ cs.length ct W1 V → Calls Tryz.prog 16 #[.agg #[.string nm, .slice at_ cs.length ct]] V (IntsTo V (keyI cs).length (keyI cs))) := fun V hV => (rkeys_ nm at_ ct cs V (HC.out.on hV.2) hcl).mono fun e w' ⟨v, he, ho, hb⟩ => by
    obtain ⟨a', c', rfl, hi, _⟩ := ho.ints
    exact ⟨a', c', he, hi, hb⟩
  have HIN : Hid (∀ V a2 c2 a3 c3, IntsAt V a2 (keyI cs) → IntsAt V a3 (keyI cs) → Calls Tryz.prog 14 #[.slice a2 (keyI cs).length c2, .slice a3 (keyI cs).length c3] V fun e w' => e = .returned (.bool true) ∧ Below V.heap.size V w') := fun V a2 c2 a3 c3 h2 h3 => ints_ a2 a3 c2 c3 (keyI cs) V h2 h3 hkl
  have HSu : Hid (∀ V, TabAt w.heap.size nm at_ cs.length ct W1 V → Calls Tryz.prog 17 #[] V fun e w' => e = .returned (.bool true) ∧ Below V.heap.size V w') := fun V hV => sure_ V (HEr.out.on hV.2)
  have HK : Hid (∀ V V', TabAt w.heap.size nm at_ cs.length ct W1 V → Below V.heap.size V V' → TabAt w.heap.size nm at_ cs.length ct W1 V') := fun V V' h hb => h.on hb
  obtain ⟨L, hL⟩ : ∃ L, xs.length = L := ⟨_, rfl⟩
  obtain ⟨C, hC⟩ : ∃ C, cs.length = C := ⟨_, rfl⟩
  obtain ⟨M, hM⟩ : ∃ M, (keyI cs).length = M := ⟨_, rfl⟩
  obtain ⟨B, hB⟩ : ∃ B, w.heap.size = B := ⟨_, rfl⟩
  rw [hL, hC] at HTA HKA HKR HFA HFR HCA HCR
  rw [hL] at HXA HXR
  rw [hC, hM] at HPA HPR
  rw [hM] at HIN
  rw [hC] at HT1 HK HW1 HN HSu
  rw [hL, hC]
  clear hc ha hna hwa hE hB1 hT1 hW1 hL hC hcl hlx hM hkl hEnv
  generalize keyI cs = PS at *
  generalize (⟨(kTxt cs xs).toArray⟩ : ByteArray) = KT at *
  generalize (⟨(kofTxt cs xs).toArray⟩ : ByteArray) = FT at *
  generalize (⟨(txT xs).toArray⟩ : ByteArray) = XT at *
  generalize kErr cs xs = z2 at *
  generalize kofErr cs xs = z3 at *
  generalize txE xs = z4 at *
  generalize chkR cs xs = z1 at *
  have g1 : (z1 == z1) = true := by simp
  have g2 : (z2 == z2) = true := by simp
  have g3 : (z3 == z3) = true := by simp
  have g4 : (z4 == z4) = true := by simp
  have g5 : (KT.toList == KT.toList) = true := by simp
  have g6 : (FT.toList == FT.toList) = true := by simp
  have g7 : (XT.toList == XT.toList) = true := by simp
  go_enter Tryz.func3, Tryz.ntmps3
  go_wp2_with fail
  rw [← HW1.out]
  rw [hB] at HT1 HTA HKA HFA HCA HCR HN HPA HPR HSu HK
  have HBe := Lib.hid hB
  clear HW1 hB
  have HS1 := Lib.hid (HK.out _ _ HT1.out (below_drew W1))
  refine wp_region_noPanic ?_
  go_region_held (fun V => (V.cell? ⟨B, 0, none⟩ = some (.string nm) ∧ V.cell? ⟨B, 1, none⟩ = some (.slice at_ C ct)) ∧ Below W1.heap.size W1 V)
    (first | (exact HS1.out) | (exact HK.out _ _ (by assumption) (by assumption)))
    (first
      | (go_at_call 5; refine (HTA.out _ (by assumption)).mono ?_; rintro e wt1 ⟨a', c', rfl, hvt, hbt⟩)
      | (go_at_call 4; refine (HKA.out _ _ _ (by assumption) (by assumption)).mono ?_; rintro e we1 ⟨rfl, hbe⟩)
      | fail)
  refine NoPanic.normal ?_
  have HT2 : Hid (TabAt B nm at_ C ct W1 we1) := (by assumption : (we1.cell? ⟨B, 0, none⟩ = some (.string nm) ∧ we1.cell? ⟨B, 1, none⟩ = some (.slice at_ C ct)) ∧ Below W1.heap.size W1 we1)
  have HRE := Lib.hid (HKR.out we1 HT2.out.2)
  obtain ⟨⟨s0, s1⟩, _⟩ := HT2.out
  clear HS1 hvt hbt hbe HKA HKR HT1
  go_wp2_with fail
  refine HRE.out.mono ?_
  rintro e w3 ⟨rfl, hb3⟩
  have HT3 := Lib.hid (HK.out _ _ HT2.out hb3)
  clear s0 s1 HRE hb3 HT2
  go_wp2_with fail
  have HS3 := Lib.hid (HK.out _ _ HT3.out (below_drew w3))
  refine wp_region_noPanic ?_
  go_region_held (fun V => (V.cell? ⟨B, 0, none⟩ = some (.string nm) ∧ V.cell? ⟨B, 1, none⟩ = some (.slice at_ C ct)) ∧ Below W1.heap.size W1 V)
    (first | (exact HS3.out) | (exact HK.out _ _ (by assumption) (by assumption)))
    (first
      | (go_at_call 5; refine (HTA.out _ (by assumption)).mono ?_; rintro e wt1 ⟨a', c', rfl, hvt, hbt⟩)
      | (go_at_call 7; refine (HFA.out _ _ _ (by assumption) (by assumption)).mono ?_; rintro e we3 ⟨rfl, hbe⟩)
      | fail)
  refine NoPanic.normal ?_
  have HT4 : Hid (TabAt B nm at_ C ct W1 we3) := (by assumption : (we3.cell? ⟨B, 0, none⟩ = some (.string nm) ∧ we3.cell? ⟨B, 1, none⟩ = some (.slice at_ C ct)) ∧ Below W1.heap.size W1 we3)
  have HRF := Lib.hid (HFR.out we3 HT4.out.2)
  obtain ⟨⟨s0, s1⟩, _⟩ := HT4.out
  clear HS3 hvt hbt hbe HFA HFR HT3
  go_wp2_with fail
  refine HRF.out.mono ?_
  rintro e w5 ⟨rfl, hb5⟩
  have HT5 := Lib.hid (HK.out _ _ HT4.out hb5)
  have HTW := Lib.hid (HTA.out w5 HT5.out)
  clear s0 s1 HRF hb5 HT4
  go_wp2_with fail
  refine HTW.out.mono ?_
  rintro e w6 ⟨a6, c6, rfl, hv6, hb6⟩
  have HT6 := Lib.hid (HK.out _ _ HT5.out hb6)
  have HXX := Lib.hid (HXA.out w6 a6 c6 HT6.out.2 hv6)
  clear HTW hv6 hb6 HT5 HXA
  go_wp2_with fail
  refine HXX.out.mono ?_
  rintro e w7 ⟨rfl, hb7⟩
  have HT7 := Lib.hid (HK.out _ _ HT6.out hb7)
  have HXQ := Lib.hid (HXR.out w7 HT7.out.2)
  clear HXX hb7 HT6 HXR
  go_wp2_with fail
  refine HXQ.out.mono ?_
  rintro e w8 ⟨rfl, hb8⟩
  have HT8 := Lib.hid (HK.out _ _ HT7.out hb8)
  clear HXQ hb8 HT7
  go_wp2_with fail
  have HS8 := Lib.hid (HK.out _ _ HT8.out (below_drew w8))
  refine wp_region_noPanic ?_
  go_region_held (fun V => (V.cell? ⟨B, 0, none⟩ = some (.string nm) ∧ V.cell? ⟨B, 1, none⟩ = some (.slice at_ C ct)) ∧ Below W1.heap.size W1 V)
    (first | (exact HS8.out) | (exact HK.out _ _ (by assumption) (by assumption)))
    (first
      | (go_at_call 5; refine (HTA.out _ (by assumption)).mono ?_; rintro e wt9 ⟨a', c', rfl, hvt, hbt⟩)
      | (go_at_call 12; refine (HCA.out _ _ _ (by assumption) (by assumption)).mono ?_; rintro e wc9 ⟨rfl, hbc⟩)
      | (go_at_call 13; refine (HCR.out _ (by assumption)).mono ?_; rintro e wd9 ⟨rfl, hbd⟩)
      | (go_at_call 11; refine (HN.out _ _ (by assumption)).mono ?_; rintro e wn9 ⟨rfl, hbn⟩)
      | (go_at_call 15; refine (HPA.out _ (by assumption)).mono ?_; rintro e wk9 ⟨ak, ck, rfl, hik, hbk⟩)
      | (go_at_call 16; refine (HPR.out _ (by assumption)).mono ?_; rintro e wl9 ⟨al, cl, rfl, hil, hbl⟩
         have hik2 := hik.on hbl)
      | (go_at_call 14; refine (HIN.out _ _ _ _ _ hik2 hil).mono ?_; rintro e wm9 ⟨rfl, hbm⟩)
      | (go_at_call 17; refine (HSu.out _ (by assumption)).mono ?_; rintro e wz ⟨rfl, hbz⟩)
      | fail)
  refine NoPanic.normal ?_
  have HTz : Hid (TabAt B nm at_ C ct W1 wz) := (by assumption : (wz.cell? ⟨B, 0, none⟩ = some (.string nm) ∧ wz.cell? ⟨B, 1, none⟩ = some (.slice at_ C ct)) ∧ Below W1.heap.size W1 wz)
  have HBz : Hid (Below w.heap.size w wz) := below_step HB1.out HTz.out.2
  go_wp2_with fail
  go_ret
  exact ⟨rfl, HBz.out⟩
end Go.Proofs.YtlldamgnfaikhaaGreatDoor
