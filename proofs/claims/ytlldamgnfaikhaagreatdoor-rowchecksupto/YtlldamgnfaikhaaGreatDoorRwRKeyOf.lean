/- The walk of the document's KeyOf. -/
import Derived.Test.YtlldamgnfaikhaaGreatDoorRwKoMath
import Derived.Test.YtlldamgnfaikhaaGreatDoorRwRKeys
import Derived.Test.YtlldamgnfaikhaaGreatDoorRwRKey
import Derived.BigQuiet
namespace Go.Proofs.YtlldamgnfaikhaaGreatDoor
open Go.RowKit Go.Sort

set_option maxRecDepth 100000 in
set_option maxHeartbeats 1000000 in
theorem rkeyOf_ (nm : ByteArray) (at_ : Option Addr) (ct : Nat) (cs : List Col) (a : Option Addr) (c : Nat) (vs : List Val) (w : World) (hc : ColsIn w at_ cs) (h : ValsIn w a vs) (hw : ∀ x ∈ vs, inI x.n) (hcl : cs.length ≤ 1048576) (hvl : vs.length ≤ 1048576) :
    Calls Tryz.prog 8 #[.agg #[.string nm, .slice at_ cs.length ct], .slice a vs.length c] w fun e w' => e = .returned (.tuple #[.string ⟨(kofTxt cs vs).toArray⟩, .int .i64 (kofErr cs vs)]) ∧ Below w.heap.size w w' := by
  have HP : Hid (∀ W, Below w.heap.size w W → Calls Tryz.prog 16 #[.agg #[.string nm, .slice at_ cs.length ct]] W fun e w' => ∃ v, e = .returned v ∧ OwnP w' W.heap.size v (keyI cs) ∧ Below W.heap.size W w') := fun W hW => rkeys_ nm at_ ct cs W (hc.on hW) hcl
  have HEn : Hid (∀ W, Below w.heap.size w W → Calls Tryz.prog 19 #[.slice a vs.length c] W fun e w' => e = .returned (.tuple #[.string ⟨(txtL vs).toArray⟩, .int .i64 (errL vs)]) ∧ Below W.heap.size W w') := fun W hW => oencode_ a c vs W (h.on hW) hw (by omega)
  have HQ1 : Hid ((keyI cs).length ≤ 1048576) := Nat.le_trans (keyT_len cs _) hcl
  have HI := Lib.hid h
  have HJ := Lib.hid hc
  obtain ⟨L, hL⟩ : ∃ L, vs.length = L := ⟨_, rfl⟩
  obtain ⟨C, hC⟩ : ∃ C, cs.length = C := ⟨_, rfl⟩
  obtain ⟨M, hM⟩ : ∃ M, (keyI cs).length = M := ⟨_, rfl⟩
  have HL := Lib.hid hL
  have HC := Lib.hid hC
  have HM := Lib.hid hM
  rw [hL] at hvl HEn
  rw [hC] at HP hcl
  rw [hL, hC]
  have hMl : M ≤ 1048576 := by rw [← hM]; exact HQ1.out
  obtain ⟨R, hR⟩ : ∃ R : Value × Value, R = (.string ⟨(kofTxt cs vs).toArray⟩, .int .i64 (kofErr cs vs)) := ⟨_, rfl⟩
  rw [show (Value.string ⟨(kofTxt cs vs).toArray⟩) = R.1 by rw [hR], show Value.int .i64 (kofErr cs vs) = R.2 by rw [hR]]
  have HBad : Hid (∀ E : Int, koR (kcols cs) vs = E → E ≠ 0 → R = (.string ⟨#[]⟩, .int .i64 E)) := fun E hE h0 => by
    rw [hR, kofTxt, kofErr, if_pos (by rw [hE]; exact h0), if_pos (by rw [hE]; exact h0), hE]
  have HOk : Hid (koR (kcols cs) vs = 0 → R = (.string ⟨(txtL vs).toArray⟩, .int .i64 (errL vs))) := fun h0 => by
    rw [hR, kofTxt, kofErr, if_neg (by simp [h0]), if_neg (by simp [h0])]
  clear h hw hc hR hL hC hM HQ1
  have HT0 := Lib.hid (inT_new w nm at_ C ct 24)
  obtain ⟨t0, t1⟩ := HT0.out
  have HB0 : Hid (Below w.heap.size w (w.alloc (.cells #[.string nm, .slice at_ C ct] 24))) := below_alloc1 _ _
  go_enter Tryz.func8, Tryz.ntmps8
  go_wp2_with fail
  refine (HP.out _ HB0.out).mono ?_
  rintro e w2 ⟨pv, rfl, ho2, hb2⟩
  obtain ⟨pa, pc, rfl, hpi, _⟩ := ho2.ints
  have HPI := Lib.hid hpi
  have HB2 := Lib.hid (below_step HB0.out hb2)
  have HT2 := Lib.hid (HT0.out.on hb2)
  rw [HM.out]
  clear hb2 HB0 HP ho2 hpi t0 t1 HT0
  by_cases hlm : L = M
  · subst hlm
    have hne : ((L : Int) != L) = false := by simp
    go_wp2_with fail
    go_loopw [7] (fun jv wr => ∃ j : Nat, j ≤ L ∧ jv = .int .i64 j ∧ Hid (∀ i (h : i < (kcols cs).length) (h' : i < vs.length), i < j → fitK (kcols cs)[i] vs[i] = 0) ∧ Hid (Below w2.heap.size w2 wr)) (fun jv _ => L - (intOf jv).toNat)
    case atStart => exact ⟨0, Nat.zero_le _, rfl, fun i _ _ hi => by omega, Below.refl _ _⟩
    case round =>
      obtain ⟨j, hj, rfl, HV, HBx⟩ := hrel
      by_cases hjl : j < L
      · have hjl2 : (j : Int) < (L : Int) := by omega
        have hj2 : j < (keyI cs).length := by rw [HM.out]; exact hjl
        have hj3 : j < (kcols cs).length := by rw [kcols_len]; exact hj2
        have hj4 : j < vs.length := by rw [HL.out]; exact hjl
        obtain ⟨b1, o1, rfl, _⟩ := (HPI.out.on HBx.out) j hj2
        obtain ⟨pp, hpg⟩ : ∃ pp, (keyI cs).getD j 0 = pp := ⟨_, rfl⟩
        have hpl : pp < cs.length := by rw [← hpg]; exact keyI_lt hj2
        have hkc := kcols_at hj3 hpg hpl
        obtain ⟨b3, o3, rfl, cn, kc, ky, nl, hci, _⟩ := ColsIn.get ((HJ.out.on HB2.out).on HBx.out) pp hpl
        obtain ⟨b, o, rfl, k, n, t, bb, hvi, p0, p1, p2, p3⟩ := ValsIn.get ((HI.out.on HB2.out).on HBx.out) j hj4
        have hfit : fitK (kcols cs)[j] vs[j] = fitK ⟨cn, kc, ky, nl⟩ ⟨k, n, t, bb⟩ := by rw [hkc, hci, hvi]
        obtain ⟨E, hE⟩ : ∃ E, validN ⟨k, n, t, bb⟩ = E := ⟨_, rfl⟩
        have HVd : Hid (∀ W, Calls Tryz.prog 21 #[.agg #[.int .i64 k, .int .i64 n, .string t, .bool bb]] W fun e w' => e = .returned (.int .i64 E) ∧ Below W.heap.size W w') := fun W => by rw [← hE]; exact rvalid_ k n t bb W
        have HAt : Hid (∀ W, Below wr.heap.size wr W → (W.cell? ⟨b1, o1 + j, none⟩ = some (.int .i64 pp)) ∧ InC W b3 (o3 + pp * 4) ⟨cn, kc, ky, nl⟩ ∧ In4 W b (o + j * 4) k n t bb ∧ InT W w.heap.size nm (some ⟨b3, o3, none⟩) C ct) := fun W hW => by
          refine ⟨?_, ?_, In4.on ⟨p0, p1, p2, p3⟩ hW, (HT2.out.on HBx.out).on hW⟩
          · obtain ⟨b', o', e', hh⟩ := ((HPI.out.on HBx.out).on hW) j hj2
            cases e'
            rw [hpg] at hh
            exact hh
          · obtain ⟨b', o', e', hh⟩ := (((HJ.out.on HB2.out).on HBx.out).on hW) pp hpl
            cases e'
            rw [hci] at hh
            exact hh
        have HBad2 : Hid (∀ F : Int, fitK ⟨cn, kc, ky, nl⟩ ⟨k, n, t, bb⟩ = F → F ≠ 0 → R = (.string ⟨#[]⟩, .int .i64 F)) := fun F hF h0 => HBad.out F (koR_bad (by rw [HL.out, kcols_len, HM.out]) hj3 hj4 HV.out (E := F) (by rw [hfit]; exact hF) h0) h0
        have HNx : Hid (fitK ⟨cn, kc, ky, nl⟩ ⟨k, n, t, bb⟩ = 0 → ∀ i (h : i < (kcols cs).length) (h' : i < vs.length), i < j + 1 → fitK (kcols cs)[i] vs[i] = 0) := fun h0 i hi hi' hji => by
          rcases Nat.lt_or_ge i j with hh | hh
          · exact HV.out i hi hi' hh
          · obtain rfl : i = j := by omega
            rw [hfit]; exact h0
        unfold fitK at HBad2 HNx
        rw [hE] at HBad2 HNx
        have hppC : pp < C := by rw [← HC.out]; exact hpl
        have hd0 : decide (0 ≤ (pp : Int)) = true := by simp
        have hd1 : decide ((pp : Int) < (C : Int)) = true := by simpa using hppC
        have hd2 : decide (0 ≤ (j : Int)) = true := by simp
        have hd3 : decide ((j : Int) < (L : Int)) = true := by simpa using hjl
        have hppC2 : (pp : Int) < (C : Int) := by omega
        clear hkc hci hvi hfit hpg hpl hj2 HV hE hj3 hj4
        by_cases h0 : E = 0
        · subst h0
          simp only [ne_eq, not_true_eq_false, if_false] at HBad2 HNx
          by_cases hkc : k = kc
          · subst hkc
            have hkk : (k != k) = false := by simp
            have hkk2 : (k == k) = true := by simp
            by_cases hk0 : k = 0
            · subst hk0
              have HF := Lib.hid (HBad2.out 7 (by simp) (by decide))
              clear HBad2 HNx
              go_wp2_with fail
              refine (HVd.out _).mono ?_
              rintro e w1 ⟨rfl, hb1⟩
              obtain ⟨hpc, ⟨q0, q1, q2, q3⟩, ⟨s0, s1, s2, s3⟩, ⟨t0, t1⟩⟩ := HAt.out _ hb1
              have HB1 := Lib.hid (below_step HBx.out hb1)
              simp only at q0 q1 q2 q3
              clear hb1 HVd HAt p0 p1 p2 p3
              go_wp2_with fail
              go_quiet (fail)
              have HB3 := Lib.hid (below_drewN HB1.out nq)
              go_wp2_with fail
              exact bodyPost_ret (v := .tuple #[.string ⟨#[]⟩, .int .i64 7]) (by simp [results, Tryz.results8, go_sem]) rfl ⟨by rw [HF.out], below_step HB2.out HB3.out⟩
            · have hkb : (k == 0) = false := by simpa using hk0
              have HV2 := Lib.hid (HNx.out (by simp [hk0]))
              clear HBad2 HNx
              go_wp2_with fail
              refine (HVd.out _).mono ?_
              rintro e w1 ⟨rfl, hb1⟩
              obtain ⟨hpc, ⟨q0, q1, q2, q3⟩, ⟨s0, s1, s2, s3⟩, ⟨t0, t1⟩⟩ := HAt.out _ hb1
              have HB1 := Lib.hid (below_step HBx.out hb1)
              simp only at q0 q1 q2 q3
              clear hb1 HVd HAt p0 p1 p2 p3
              go_wp2_with fail
              go_quiet (fail)
              have HB3 := Lib.hid (below_drewN HB1.out nq)
              go_wp2_with fail
              go_roundw
              case rel => exact ⟨j + 1, by omega, by go_num, HV2, HB3⟩
              case measure => simp [intOf]; omega
          · have hkk : (k != kc) = true := by simpa using hkc
            have hkk2 : (k == kc) = false := by simpa using hkc
            have HF := Lib.hid (HBad2.out 7 (by simp [hkc]) (by decide))
            clear HBad2 HNx
            go_wp2_with fail
            refine (HVd.out _).mono ?_
            rintro e w1 ⟨rfl, hb1⟩
            obtain ⟨hpc, ⟨q0, q1, q2, q3⟩, ⟨s0, s1, s2, s3⟩, ⟨t0, t1⟩⟩ := HAt.out _ hb1
            have HB1 := Lib.hid (below_step HBx.out hb1)
            simp only at q0 q1 q2 q3
            clear hb1 HVd HAt p0 p1 p2 p3
            go_wp2_with fail
            go_quiet (fail)
            have HB3 := Lib.hid (below_drewN HB1.out nq)
            go_wp2_with fail
            exact bodyPost_ret (v := .tuple #[.string ⟨#[]⟩, .int .i64 7]) (by simp [results, Tryz.results8, go_sem]) rfl ⟨by rw [HF.out], below_step HB2.out HB3.out⟩
        · have h0' : (E != 0) = true := by simpa using h0
          have HF := Lib.hid (HBad2.out E (by rw [if_pos h0]) h0)
          clear HBad2 HNx
          go_wp2_with fail
          refine (HVd.out _).mono ?_
          rintro e w1 ⟨rfl, hb1⟩
          have HB1 := Lib.hid (below_step HBx.out hb1)
          clear hb1 HVd HAt p0 p1 p2 p3
          go_wp2_with fail
          exact bodyPost_ret (v := .tuple #[.string ⟨#[]⟩, .int .i64 E]) (by simp [results, Tryz.results8, go_sem]) rfl ⟨by rw [HF.out], below_step HB2.out HB1.out⟩
      · obtain rfl : j = L := by omega
        have HR2 := Lib.hid (HOk.out (koR_ok (by rw [HL.out, kcols_len, HM.out]) (fun i hi hi' => HV.out i hi hi' (by rw [← HL.out]; exact hi'))))
        have HE := Lib.hid (HEn.out wr (below_step HB2.out HBx.out))
        generalize txtL vs = TX at *
        generalize errL vs = EV at *
        clear HV HOk HBad HEn
        go_wp2_with fail
        refine HE.out.mono ?_
        rintro e w4 ⟨rfl, hb4⟩
        have HB4 := Lib.hid (below_step (below_step HB2.out HBx.out) hb4)
        clear hb4 HE
        go_wp2_with fail
        exact bodyPost_ret (v := .tuple #[.string ⟨TX.toArray⟩, .int .i64 EV]) (by simp [results, Tryz.results8, go_sem]) rfl ⟨by rw [HR2.out], HB4.out⟩
  · have hne : ((L : Int) != M) = true := by simp; omega
    have hne2 : ((L : Int) == M) = false := by simp; omega
    have HR2 := Lib.hid (HBad.out 1 (by rw [koR, if_pos (by rw [HL.out, kcols_len, HM.out]; exact hlm)]) (by decide))
    clear HBad HOk HEn
    go_wp2_with fail
    exact bodyPost_ret (v := .tuple #[.string ⟨#[]⟩, .int .i64 1]) (by simp [results, Tryz.results8, go_sem]) rfl ⟨by rw [HR2.out], HB2.out⟩
end Go.Proofs.YtlldamgnfaikhaaGreatDoor
