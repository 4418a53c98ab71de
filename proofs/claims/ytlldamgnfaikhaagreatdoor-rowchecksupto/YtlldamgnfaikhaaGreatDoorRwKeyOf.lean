/- The walk of row.KeyOf. -/
import Derived.Test.YtlldamgnfaikhaaGreatDoorRwFitsK
import Derived.Test.YtlldamgnfaikhaaGreatDoorRwKeys
import Derived.Test.YtlldamgnfaikhaaGreatDoorRwCheck
namespace Go.Proofs.YtlldamgnfaikhaaGreatDoor
open Go.RowKit Go.Sort

set_option maxRecDepth 100000 in
set_option maxHeartbeats 1000000 in
theorem keyOf_ (nm : ByteArray) (at_ : Option Addr) (ct : Nat) (cs : List Col) (a : Option Addr) (c : Nat) (vs : List Val) (w : World) (hc : ColsIn w at_ cs) (h : ValsIn w a vs) (hw : ∀ x ∈ vs, inI x.n) (hcl : cs.length ≤ 1048576) (hvl : vs.length ≤ 1048576) :
    Calls Tryz.prog 7 #[.agg #[.string nm, .slice at_ cs.length ct], .slice a vs.length c] w fun e w' => e = .returned (.tuple #[.string ⟨(kofTxt cs vs).toArray⟩, errV 47 (kofErr cs vs)]) ∧ Below w.heap.size w w' := by
  have HP : Hid (∀ W, Below w.heap.size w W → Calls Tryz.prog 15 #[.agg #[.string nm, .slice at_ cs.length ct]] W fun e w' => ∃ v, e = .returned v ∧ OwnP w' W.heap.size v (keyI cs) ∧ Below W.heap.size W w') := fun W hW => keys_ nm at_ ct cs W (hc.on hW) hcl
  have HEn : Hid (∀ W, Below w.heap.size w W → Calls Tryz.prog 18 #[.slice a vs.length c] W fun e w' => e = .returned (.tuple #[.string ⟨(txtL vs).toArray⟩, errV 47 (errL vs)]) ∧ Below W.heap.size W w') := fun W hW => encode_ a c vs W (h.on hW) hw (by omega)
  have HQ1 : Hid ((keyI cs).length ≤ 1048576) := Nat.le_trans (keyT_len cs _) hcl
  have HI := Lib.hid h
  have HJ := Lib.hid hc
  obtain ⟨L, hL⟩ : ∃ L, vs.length = L := ⟨_, rfl⟩
  obtain ⟨C, hC⟩ : ∃ C, cs.length = C := ⟨_, rfl⟩
  obtain ⟨M, hM⟩ : ∃ M, (keyI cs).length = M := ⟨_, rfl⟩
  have HL := Lib.hid hL
  have HC := Lib.hid hC
  have HM := Lib.hid hM
  rw [hL] at hvl HEn
  rw [hC] at HP hcl
  rw [hL, hC]
  have hMl : M ≤ 1048576 := by rw [← hM]; exact HQ1.out
  obtain ⟨R, hR⟩ : ∃ R : Value × Value, R = (.string ⟨(kofTxt cs vs).toArray⟩, errV 47 (kofErr cs vs)) := ⟨_, rfl⟩
  have HR : Hid (R = (.string ⟨(kofTxt cs vs).toArray⟩, errV 47 (kofErr cs vs))) := hR
  rw [show (Value.string ⟨(kofTxt cs vs).toArray⟩) = R.1 by rw [hR], show errV 47 (kofErr cs vs) = R.2 by rw [hR]]
  have HBad : Hid (∀ E : Int, koR (kcols cs) vs = E → E ≠ 0 → R = (.string ⟨#[]⟩, .iface 47 (.int .i64 E))) := fun E hE h0 => by
    rw [hR, kofTxt, kofErr, if_pos (by rw [hE]; exact h0), if_pos (by rw [hE]; exact h0), hE, errV, if_neg h0]
  have HOk : Hid (koR (kcols cs) vs = 0 → R = (.string ⟨(txtL vs).toArray⟩, errV 47 (errL vs))) := fun h0 => by
    rw [hR, kofTxt, kofErr, if_neg (by simp [h0]), if_neg (by simp [h0])]
  clear h hw hc hR HR hL hC hM HQ1
  have HT0 := Lib.hid (inT_new w nm at_ C ct 24)
  obtain ⟨t0, t1⟩ := HT0.out
  have HB0 : Hid (Below w.heap.size w (w.alloc (.cells #[.string nm, .slice at_ C ct] 24))) := below_alloc1 _ _
  go_enter Tryz.func7, Tryz.ntmps7
  go_wp2_with fail
  refine (HP.out _ HB0.out).mono ?_
  rintro e w2 ⟨pv, rfl, ho2, hb2⟩
  obtain ⟨pa, pc, rfl, hpi, _⟩ := ho2.ints
  have HPI := Lib.hid hpi
  have HB2 := Lib.hid (below_step HB0.out hb2)
  have HT2 := Lib.hid (HT0.out.on hb2)
  rw [HM.out]
  clear hb2 HB0 HP ho2 hpi t0 t1 HT0
  by_cases hlm : L = M
  · subst hlm
    have hne : ((L : Int) != L) = false := by simp
    go_wp2_with fail
    go_loopw [20] (fun jv wr => ∃ j : Nat, j ≤ L ∧ jv = .int .i64 j ∧ Hid (∀ i (h : i < (kcols cs).length) (h' : i < vs.length), i < j → fitK (kcols cs)[i] vs[i] = 0) ∧ Hid (Below w2.heap.size w2 wr)) (fun jv _ => L - (intOf jv).toNat)
    case atStart => exact ⟨0, Nat.zero_le _, rfl, fun i _ _ hi => by omega, Below.refl _ _⟩
    case round =>
      obtain ⟨j, hj, rfl, HV, HBx⟩ := hrel
      by_cases hjl : j < L
      · have hjl2 : (j : Int) < (L : Int) := by omega
        have hj2 : j < (keyI cs).length := by rw [HM.out]; exact hjl
        have hj3 : j < (kcols cs).length := by rw [kcols_len]; exact hj2
        have hj4 : j < vs.length := by rw [HL.out]; exact hjl
        obtain ⟨b1, o1, rfl, hpc⟩ := (HPI.out.on HBx.out) j hj2
        obtain ⟨pp, hpg⟩ : ∃ pp, (keyI cs).getD j 0 = pp := ⟨_, rfl⟩
        have hpl : pp < cs.length := by rw [← hpg]; exact keyI_lt hj2
        have hkc := kcols_at hj3 hpg hpl
        rw [hpg] at hpc
        obtain ⟨b3, o3, rfl, cn, kc, ky, nl, hci, q0, q1, q2, q3⟩ := ColsIn.get ((HJ.out.on HB2.out).on HBx.out) pp hpl
        obtain ⟨b, o, rfl, k, n, t, bb, hvi, p0, p1, p2, p3⟩ := ValsIn.get ((HI.out.on HB2.out).on HBx.out) j hj4
        obtain ⟨t0, t1⟩ := HT2.out.on HBx.out
        have hfit : fitK (kcols cs)[j] vs[j] = fitK ⟨cn, kc, ky, nl⟩ ⟨k, n, t, bb⟩ := by rw [hkc, hci, hvi]
        have HF : Hid (∀ W, Calls Tryz.prog 20 #[.agg #[.string cn, .int .i64 kc, .bool ky, .bool nl], .agg #[.int .i64 k, .int .i64 n, .string t, .bool bb]] W fun e w' => e = .returned (errV 47 (fitK ⟨cn, kc, ky, nl⟩ ⟨k, n, t, bb⟩)) ∧ Below W.heap.size W w') := fun W => fitsKey_ cn kc ky nl k n t bb W
        have hppC : pp < C := by rw [← HC.out]; exact hpl
        have hd0 : decide (0 ≤ (pp : Int)) = true := by simp
        have hd1 : decide ((pp : Int) < (C : Int)) = true := by simpa using hppC
        have hd2 : decide (0 ≤ (j : Int)) = true := by simp
        have hd3 : decide ((j : Int) < (L : Int)) = true := by simpa using hjl
        have hppC2 : (pp : Int) < (C : Int) := by omega
        have HFT := Lib.hid hfit
        have HLK : Hid (vs.length = (kcols cs).length) := by show _ = _; rw [HL.out, kcols_len, HM.out]
        clear hkc hci hvi hfit hpg hpl hj2
        go_wp2_with fail
        have k0 := cell_regrown p0
        have k1 := cell_regrown p1
        have k2 := cell_regrown p2
        have k3 := cell_regrown p3
        have l0 := cell_regrown q0
        have l1 := cell_regrown q1
        have l2 := cell_regrown q2
        have l3 := cell_regrown q3
        have m0 := cell_regrown t0
        have m1 := cell_regrown t1
        clear p0 p1 p2 p3 q0 q1 q2 q3 t0 t1 hpc
        by_cases h0 : fitK ⟨cn, kc, ky, nl⟩ ⟨k, n, t, bb⟩ = 0
        · have h0' : errV 47 (fitK ⟨cn, kc, ky, nl⟩ ⟨k, n, t, bb⟩) = .nilIface := by rw [errV, if_pos h0]
          rw [h0'] at HF
          have HV2 : Hid (∀ i (h : i < (kcols cs).length) (h' : i < vs.length), i < j + 1 → fitK (kcols cs)[i] vs[i] = 0) := fun i hi hi' hji => by
            rcases Nat.lt_or_ge i j with hh | hh
            · exact HV.out i hi hi' hh
            · obtain rfl : i = j := by omega
              rw [HFT.out]; exact h0
          clear h0 h0' HFT HV hj3 hj4
          refine wp_region_quiet_below (by kernel_rfl) (by kernel_rfl) ?_
          repeat (go_big_quiet_step (first | (go_at_call 20; exact Calls.regrown_of (HF.out _))))
          refine wpQuiet_nil ?_
          intro _ hw'
          obtain ⟨⟨dq, osq⟩, hw''⟩ := hw'
          subst hw''
          have HB3 := Lib.hid (below_step HBx.out (below_regrown wr dq osq))
          generalize grow (redrawn wr dq) osq = W3 at *
          clear k0 k1 k2 k3 l0 l1 l2 l3 m0 m1 HF HBx
          go_wp2_with fail
          go_roundw
          case rel => exact ⟨j + 1, by omega, by go_num, HV2, HB3⟩
          case measure => simp [intOf]; omega
        · obtain ⟨E, hE⟩ : ∃ E, fitK ⟨cn, kc, ky, nl⟩ ⟨k, n, t, bb⟩ = E := ⟨_, rfl⟩
          have h0' : errV 47 (fitK ⟨cn, kc, ky, nl⟩ ⟨k, n, t, bb⟩) = .iface 47 (.int .i64 E) := by rw [errV, if_neg h0, hE]
          have HR2 := Lib.hid (HBad.out E (koR_bad HLK.out hj3 hj4 HV.out (E := E) (by rw [HFT.out]; exact hE) (by rw [← hE]; exact h0)) (by rw [← hE]; exact h0))
          rw [h0'] at HF
          clear h0 h0' HFT HV hE hj3 hj4
          refine wp_region_quiet_below (by kernel_rfl) (by kernel_rfl) ?_
          repeat (go_big_quiet_step (first | (go_at_call 20; exact Calls.regrown_of (HF.out _))))
          refine wpQuiet_nil ?_
          intro _ hw'
          obtain ⟨⟨dq, osq⟩, hw''⟩ := hw'
          subst hw''
          have HB3 := Lib.hid (below_step HBx.out (below_regrown wr dq osq))
          generalize grow (redrawn wr dq) osq = W3 at *
          clear k0 k1 k2 k3 l0 l1 l2 l3 m0 m1 HF HBx
          go_wp2_with fail
          exact bodyPost_ret (v := .tuple #[.string ⟨#[]⟩, .iface 47 (.int .i64 E)]) (by simp [results, Tryz.results7, go_sem]) rfl ⟨by rw [HR2.out], below_step HB2.out HB3.out⟩
      · obtain rfl : j = L := by omega
        have HR2 := Lib.hid (HOk.out (koR_ok (by rw [HL.out, kcols_len, HM.out]) (fun i hi hi' => HV.out i hi hi' (by rw [← HL.out]; exact hi'))))
        have HE := Lib.hid (HEn.out wr (below_step HB2.out HBx.out))
        generalize txtL vs = TX at *
        generalize errV 47 (errL vs) = EV at *
        clear HV HOk HBad HEn
        go_wp2_with fail
        refine HE.out.mono ?_
        rintro e w4 ⟨rfl, hb4⟩
        have HB4 := Lib.hid (below_step (below_step HB2.out HBx.out) hb4)
        clear hb4 HE
        go_wp2_with fail
        exact bodyPost_ret (v := .tuple #[.string ⟨TX.toArray⟩, EV]) (by simp [results, Tryz.results7, go_sem]) rfl ⟨by rw [HR2.out], HB4.out⟩
  · have hne : ((L : Int) != M) = true := by simp; omega
    have hne2 : ((L : Int) == M) = false := by simp; omega
    have HR2 := Lib.hid (HBad.out 1 (by rw [koR, if_pos (by rw [HL.out, kcols_len, HM.out]; exact hlm)]) (by decide))
    clear HBad HOk HEn
    go_wp2_with fail
    exact bodyPost_ret (v := .tuple #[.string ⟨#[]⟩, .iface 47 (.int .i64 1)]) (by simp [results, Tryz.results7, go_sem]) rfl ⟨by rw [HR2.out], HB2.out⟩
end Go.Proofs.YtlldamgnfaikhaaGreatDoor
