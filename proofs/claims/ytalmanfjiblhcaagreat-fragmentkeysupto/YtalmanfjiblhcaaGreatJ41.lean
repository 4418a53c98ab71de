/- The walk of the document's Check; The walk of the document's Key. -/
import Derived.Test.YtalmanfjiblhcaaGreatJ25
import Derived.Test.YtalmanfjiblhcaaGreatJ40
import Derived.BigQuiet
import Derived.Test.YtalmanfjiblhcaaGreatJ27
namespace Go.Proofs.YtalmanfjiblhcaaGreat.Rw
open Go.RowKit Go.Sort
theorem below_drewN' {N : Nat} {W w : World} (h : Below N W w) (n : Nat) : Below N W (w.drewN n) := h.trans ⟨rfl, rfl, rfl, Nat.le_refl _, fun _ _ => rfl⟩
set_option maxRecDepth 100000 in
set_option maxHeartbeats 1000000 in
theorem rcheck_ (nm : ByteArray) (at_ : Option Addr) (ct : Nat) (cs : List Col) (a : Option Addr) (c : Nat) (vs : List Val) (w : World) (hc : ColsIn w at_ cs) (h : ValsIn w a vs) (hcl : cs.length ≤ 140737488355328) (hvl : vs.length ≤ 140737488355328) :
 Calls Tryz.prog 31 #[.agg #[.string nm, .slice at_ cs.length ct], .slice a vs.length c] w fun e w' => e = .returned (.int .i64 (chkR cs vs)) ∧ Below w.heap.size w w' := by
 obtain ⟨L, hL⟩ : ∃ L, vs.length = L := ⟨_, rfl⟩
 obtain ⟨C, hC⟩ : ∃ C, cs.length = C := ⟨_, rfl⟩
 have HL := Lib.hid hL
 have HC := Lib.hid hC
 have HI := Lib.hid h
 have HJ := Lib.hid hc
 rw [hL] at hvl
 rw [hC] at hcl
 rw [hL, hC]
 obtain ⟨R, hR⟩ : ∃ R, R = chkR cs vs := ⟨_, rfl⟩
 have HR : Hid (R = chkR cs vs) := hR
 rw [← hR]
 clear h hc hL hC hR
 have HT := Lib.hid (inT_new w nm at_ C ct 44)
 have HB0 : Hid (Below w.heap.size w (w.alloc (.cells #[.string nm, .slice at_ C ct] 44))) := below_alloc1 _ _
 obtain ⟨t0, t1⟩ := HT.out
 by_cases hlc : L = C
 · subst hlc
   have hne : ((L : Int) != L) = false := by simp
   go_enter Tryz.func31, Tryz.ntmps31
   go_wp2_with fail
   generalize w.alloc (.cells #[.string nm, .slice at_ L ct] 44) = V at *
   have HJ1 := Lib.hid (HJ.out.on HB0.out)
   have HI1 := Lib.hid (HI.out.on HB0.out)
   clear HJ HI t0 t1
   go_loopw [5] (fun iv wr => ∃ i : Nat, i ≤ L ∧ iv = .int .i64 i ∧ Hid (∀ j (h : j < cs.length) (h' : j < vs.length), j < i → fitN cs[j] vs[j] = 0) ∧ Hid (Below V.heap.size V wr)) (fun iv _ => L - (intOf iv).toNat)
   case atStart => exact ⟨0, Nat.zero_le _, rfl, fun j _ _ hj => by omega, Below.refl _ _⟩
   case round =>
    obtain ⟨i, hi, rfl, HV, HBw⟩ := hrel
    obtain ⟨t0, t1⟩ := HT.out.on HBw.out
    by_cases hlt : i < L
    · have hlt2 : (i : Int) < (L : Int) := by omega
      have hi1 : i < cs.length := by rw [HC.out]; exact hlt
      have hi2 : i < vs.length := by rw [HL.out]; exact hlt
      obtain ⟨b1, o1, rfl, cn, kc, ky, nl, hci, q0, q1, q2, q3⟩ := ColsIn.get (HJ1.out.on HBw.out) i hi1
      obtain ⟨b, o, rfl, k, n, t, bb, hvi, hin⟩ := ValsIn.get (HI1.out.on HBw.out) i hi2
      have HBa := Lib.hid (below_step HBw.out (below_alloc1 wr (.cells #[.string cn, .int .i64 kc, .bool ky, .bool nl] 112)))
      have HP := Lib.hid (hin.alloc (.cells #[.string cn, .int .i64 kc, .bool ky, .bool nl] 112))
      have HCo := Lib.hid (inC_new wr ⟨cn, kc, ky, nl⟩ 112)
      obtain ⟨p0, p1, p2, p3⟩ := HP.out
      obtain ⟨E, hE⟩ : ∃ E, validN ⟨k, n, t, bb⟩ = E := ⟨_, rfl⟩
      have HVd : Hid (∀ W, Calls Tryz.prog 58 #[.agg #[.int .i64 k, .int .i64 n, .string t, .bool bb]] W fun e w' => e = .returned (.int .i64 E) ∧ Below W.heap.size W w') := fun W => by rw [← hE]; exact rvalid_ k n t bb W
      have hfit : fitN cs[i] vs[i] = fitN ⟨cn, kc, ky, nl⟩ ⟨k, n, t, bb⟩ := by rw [hci, hvi]
      have HBad : Hid (∀ F : Int, fitN ⟨cn, kc, ky, nl⟩ ⟨k, n, t, bb⟩ = F → F ≠ 0 → R = F) := fun F hF h0 => by
       rw [HR.out]
       exact chkR_bad (by rw [HL.out, HC.out]) hi1 hi2 HV.out (E := F) (by rw [hfit]; exact hF) h0
      have HNx : Hid (fitN ⟨cn, kc, ky, nl⟩ ⟨k, n, t, bb⟩ = 0 → ∀ j (h : j < cs.length) (h' : j < vs.length), j < i + 1 → fitN cs[j] vs[j] = 0) := fun h0 j hj hj' hji => by
       rcases Nat.lt_or_ge j i with hh | hh
       · exact HV.out j hj hj' hh
       · obtain rfl : j = i := by omega
         rw [hfit]; exact h0
      unfold fitN at HBad HNx
      rw [hE] at HBad HNx
      clear hci hvi hin hfit HV hE hi1 hi2
      by_cases h0 : E = 0
      · subst h0
        simp only [ne_eq, not_true_eq_false, if_false] at HBad HNx
        by_cases hk0 : k = 0
        · subst hk0
          simp only [not_true_eq_false, false_and, if_false, true_and] at HBad HNx
          by_cases hkey : ky = true ∨ nl = false
          · have HF : Hid (R = 33) := HBad.out 33 (by rw [if_pos hkey]) (by decide)
            clear HBad HNx
            go_wp2_with fail
            refine (HVd.out _).mono ?_
            rintro e w1 ⟨rfl, hb1⟩
            obtain ⟨r0, r1, r2, r3⟩ := HCo.out.on hb1
            obtain ⟨s0, s1, s2, s3⟩ := HP.out.on hb1
            have HB1 := Lib.hid (below_step HBa.out hb1)
            simp only at r0 r1 r2 r3
            clear hb1 HVd HBa HP HCo p0 p1 p2 p3 q0 q1 q2 q3 t0 t1
            cases ky
            · simp only [Bool.false_eq_true, false_or] at hkey
              subst hkey
              go_wp2_with fail
              go_ret
              exact ⟨by rw [HF.out]; rfl, below_step HB0.out HB1.out⟩
            · clear hkey
              go_wp2_with fail
              go_ret
              exact ⟨by rw [HF.out]; rfl, below_step HB0.out HB1.out⟩
          · have HV2 := Lib.hid (HNx.out (by rw [if_neg hkey]))
            obtain ⟨rfl, rfl⟩ : ky = false ∧ nl = true := by
             constructor
             · cases ky
               · rfl
               · exact absurd (.inl rfl) hkey
             · cases nl
               · exact absurd (.inr rfl) hkey
               · rfl
            clear HBad HNx hkey
            go_wp2_with fail
            refine (HVd.out _).mono ?_
            rintro e w1 ⟨rfl, hb1⟩
            obtain ⟨r0, r1, r2, r3⟩ := HCo.out.on hb1
            obtain ⟨s0, s1, s2, s3⟩ := HP.out.on hb1
            have HB1 := Lib.hid (below_step HBa.out hb1)
            simp only at r0 r1 r2 r3
            clear hb1 HVd HBa HP HCo p0 p1 p2 p3 q0 q1 q2 q3 t0 t1
            go_wp2_with fail
            go_quiet (fail)
            have HB2 := Lib.hid (below_drewN' HB1.out nq)
            go_wp2_with fail
            go_roundw
            case rel => exact ⟨i + 1, by omega, by go_num, HV2, HB2⟩
            case measure => simp [intOf]; omega
        · have hkb : (k == 0) = false := by simpa using hk0
          have hkn : (k != 0) = true := by simpa using hk0
          simp only [hk0, not_false_eq_true, true_and, false_and, if_false] at HBad HNx
          by_cases hkc : k = kc
          · subst hkc
            have hkk : (k != k) = false := by simp
            have HV2 := Lib.hid (HNx.out (by simp))
            clear HBad HNx
            go_wp2_with fail
            refine (HVd.out _).mono ?_
            rintro e w1 ⟨rfl, hb1⟩
            obtain ⟨r0, r1, r2, r3⟩ := HCo.out.on hb1
            obtain ⟨s0, s1, s2, s3⟩ := HP.out.on hb1
            have HB1 := Lib.hid (below_step HBa.out hb1)
            simp only at r0 r1 r2 r3
            clear hb1 HVd HBa HP HCo p0 p1 p2 p3 q0 q1 q2 q3 t0 t1
            go_wp2_with fail
            go_quiet (fail)
            have HB2 := Lib.hid (below_drewN' HB1.out nq)
            go_wp2_with fail
            go_roundw
            case rel => exact ⟨i + 1, by omega, by go_num, HV2, HB2⟩
            case measure => simp [intOf]; omega
          · have hkk : (k != kc) = true := by simpa using hkc
            have hkk2 : (k == kc) = false := by simpa using hkc
            have HF : Hid (R = 7) := HBad.out 7 (by rw [if_pos hkc]) (by decide)
            clear HBad HNx
            go_wp2_with fail
            refine (HVd.out _).mono ?_
            rintro e w1 ⟨rfl, hb1⟩
            obtain ⟨r0, r1, r2, r3⟩ := HCo.out.on hb1
            obtain ⟨s0, s1, s2, s3⟩ := HP.out.on hb1
            have HB1 := Lib.hid (below_step HBa.out hb1)
            simp only at r0 r1 r2 r3
            clear hb1 HVd HBa HP HCo p0 p1 p2 p3 q0 q1 q2 q3 t0 t1
            go_wp2_with fail
            go_quiet (fail)
            have HB2 := Lib.hid (below_drewN' HB1.out nq)
            go_wp2_with fail
            go_ret
            exact ⟨by rw [HF.out]; rfl, below_step HB0.out HB2.out⟩
      · have h0' : (E != 0) = true := by simpa using h0
        have HF : Hid (R = E) := HBad.out E (by rw [if_pos h0]) h0
        clear HBad HNx
        go_wp2_with fail
        refine (HVd.out _).mono ?_
        rintro e w1 ⟨rfl, hb1⟩
        have HB1 := Lib.hid (below_step HBa.out hb1)
        clear hb1 HVd HBa HP HCo p0 p1 p2 p3 q0 q1 q2 q3 t0 t1
        go_wp2_with fail
        go_ret
        exact ⟨by rw [HF.out]; rfl, below_step HB0.out HB1.out⟩
    · obtain rfl : i = L := by omega
      have HF : Hid (R = 0) := by
       show _ = _
       rw [HR.out, chkR_ok (by rw [HL.out, HC.out]) (fun j hj hj' => HV.out j hj hj' (by rw [← HL.out]; exact hj'))]
      clear HV
      go_wp2_with fail
      go_ret
      exact ⟨by rw [HF.out]; rfl, below_step HB0.out HBw.out⟩
 · have hne : ((L : Int) != C) = true := by simp; omega
   have hne2 : ((L : Int) == C) = false := by simp; omega
   have HF : Hid (R = 1) := by
    show _ = _
    rw [HR.out, chkR, if_pos (by rw [HL.out, HC.out]; exact hlc)]
   clear HR
   go_enter Tryz.func31, Tryz.ntmps31
   go_wp2_with fail
   go_ret
   exact ⟨by rw [HF.out]; rfl, HB0.out⟩
end Go.Proofs.YtalmanfjiblhcaaGreat.Rw
namespace Go.Proofs.YtalmanfjiblhcaaGreat.Rw
open Go.RowKit Go.Sort
theorem pick_key {cs : List Col} {vs : List Val} {i : Nat} (hi : i < cs.length) (hv : i < vs.length) (hk : cs[i].key = true) : pickV vs (keyT cs (i + 1)) = pickV vs (keyT cs i) ++ [vs[i]] := by
 rw [keyT_succ, if_pos (by rw [isKey_at hi]; exact hk)]
 unfold pickV
 rw [List.map_append]
 simp only [List.map_cons, List.map_nil]
 rw [getD_at hv]
theorem pick_skip {cs : List Col} {vs : List Val} {i : Nat} (hi : i < cs.length) (hk : cs[i].key = false) : pickV vs (keyT cs (i + 1)) = pickV vs (keyT cs i) := by
 rw [keyT_succ, if_neg (by rw [isKey_at hi, hk]; simp), List.append_nil]
theorem pick_len (cs : List Col) (vs : List Val) (i : Nat) : (pickV vs (keyT cs i)).length ≤ i := by
 unfold pickV
 rw [List.length_map]
 exact keyT_len cs i
set_option maxRecDepth 100000 in
set_option maxHeartbeats 1000000 in
theorem rkey_ (nm : ByteArray) (at_ : Option Addr) (ct : Nat) (cs : List Col) (a : Option Addr) (c : Nat) (vs : List Val) (w : World) (hc : ColsIn w at_ cs) (h : ValsIn w a vs) (hw : ∀ x ∈ vs, inI x.n) (hcl : cs.length ≤ 1048576) (hvl : vs.length ≤ 1048576) :
 Calls Tryz.prog 12 #[.agg #[.string nm, .slice at_ cs.length ct], .slice a vs.length c] w fun e w' => e = .returned (.tuple #[.string ⟨(kTxt cs vs).toArray⟩, .int .i64 (kErr cs vs)]) ∧ Below w.heap.size w w' := by
 have HK : Hid (∀ W, Below w.heap.size w W → Calls Tryz.prog 31 #[.agg #[.string nm, .slice at_ cs.length ct], .slice a vs.length c] W fun e w' => e = .returned (.int .i64 (chkR cs vs)) ∧ Below W.heap.size W w') := fun W hW => rcheck_ nm at_ ct cs a c vs W (hc.on hW) (h.on hW) (by omega) (by omega)
 have HI := Lib.hid h
 have HJ := Lib.hid hc
 obtain ⟨L, hL⟩ : ∃ L, vs.length = L := ⟨_, rfl⟩
 obtain ⟨C, hC⟩ : ∃ C, cs.length = C := ⟨_, rfl⟩
 have HL := Lib.hid hL
 have HC := Lib.hid hC
 rw [hL] at hvl
 rw [hL, hC] at HK
 rw [hC] at hcl
 rw [hL, hC]
 obtain ⟨R, hR⟩ : ∃ R : Value × Value, R = (.string ⟨(kTxt cs vs).toArray⟩, .int .i64 (kErr cs vs)) := ⟨_, rfl⟩
 rw [show (Value.string ⟨(kTxt cs vs).toArray⟩) = R.1 by rw [hR], show Value.int .i64 (kErr cs vs) = R.2 by rw [hR]]
 by_cases h0 : chkR cs vs = 0
 · have hlc : L = C := by rw [← hL, ← hC]; exact (chkR_zero h0).1
   have HQ3 : Hid (∀ x ∈ pickV vs (keyI cs), inI x.n) := fun x hx => hw x (keyV_mem (chkR_zero h0).1 hx)
   have HR2 : Hid (R = (.string ⟨(txtL (pickV vs (keyI cs))).toArray⟩, .int .i64 (errL (pickV vs (keyI cs))))) := by
    show _ = _
    rw [hR, kTxt, kErr, if_neg (by simp [h0]), if_neg (by simp [h0])]; rfl
   rw [h0] at HK
   subst hlc
   clear h0 hL hC h hw hc hR
   have HT0 := Lib.hid (inT_new w nm at_ L ct 44)
   obtain ⟨t0, t1⟩ := HT0.out
   have HB0 : Hid (Below w.heap.size w (w.alloc (.cells #[.string nm, .slice at_ L ct] 44))) := below_alloc1 _ _
   go_enter Tryz.func12, Tryz.ntmps12
   go_wp2_with fail
   refine (HK.out _ HB0.out).mono ?_
   rintro e V ⟨rfl, hb1⟩
   have HB1 := Lib.hid (below_step HB0.out hb1)
   have HT := Lib.hid (HT0.out.on hb1)
   have HJ1 := Lib.hid (HJ.out.on HB1.out)
   have HI1 := Lib.hid (HI.out.on HB1.out)
   clear hb1 HB0 HK t0 t1 HT0 HJ HI
   go_wp2_with fail
   go_loopw [7, 8] (fun ov iv wr => ∃ i : Nat, i ≤ L ∧ iv = .int .i64 i ∧ Hid (OwnV wr V.heap.size ov (pickV vs (keyT cs i))) ∧ Hid (Below V.heap.size V wr)) (fun _ iv _ => L - (intOf iv).toNat)
   case atStart => exact ⟨0, Nat.zero_le _, rfl, ownV_nil _ _, Below.refl _ _⟩
   case round =>
    obtain ⟨i, hi, rfl, HO, HBx⟩ := hrel
    obtain ⟨t0, t1⟩ := HT.out.on HBx.out
    by_cases hlt : i < L
    · have hlt2 : (i : Int) < (L : Int) := by omega
      have hi1 : i < cs.length := by rw [HC.out]; exact hlt
      have hi2 : i < vs.length := by rw [HL.out]; exact hlt
      obtain ⟨b1, o1, rfl, cn, kc, ky, nl, hci, q0, q1, q2, q3⟩ := ColsIn.get (HJ1.out.on HBx.out) i hi1
      cases ky
      · have HO2 : Hid (OwnV wr V.heap.size u7 (pickV vs (keyT cs (i + 1)))) := by rw [pick_skip hi1 (by rw [hci])]; exact HO
        clear HO hci
        go_wp2_with fail
        go_roundw
        case rel => exact ⟨i + 1, by omega, by go_num, HO2, HBx⟩
        case measure => simp [intOf]; omega
      · have hkx := pick_key (vs := vs) hi1 hi2 (by rw [hci])
        have hpl := pick_len cs vs i
        obtain ⟨b2, o2, rfl, k, n, t, bb, hvi, p0, p1, p2, p3⟩ := ValsIn.get (HI1.out.on HBx.out) i hi2
        rw [hvi] at hkx
        have HKX := Lib.hid hkx
        clear hkx hci hvi
        have hPX : (pickV vs (keyT cs i)).length + 1 ≤ 1048577 := by omega
        generalize pickV vs (keyT cs i) = PX at *
        have hroom : (PX.length + [(⟨k, n, t, bb⟩ : Val)].length) * 40 ≤ 140737488355328 := by simp; omega
        go_wp2_with (first
         | (at_builtin; refine wpList_append_vals2 _ rfl _ _ rfl V.heap.size _ PX [⟨k, n, t, bb⟩] rfl (HO.out.on (below_alloc1 wr _)) wr.heap.size 0 1 1 rfl rfl (one_inV (v := ⟨k, n, t, bb⟩) (in4_new wr k n t bb 73)) hroom (below_step HBx.out (below_alloc1 wr _)).size ?_
            intro v1 w3 hown hg hbl
            have HB3 : Hid (Below V.heap.size V w3) := (below_step HBx.out (below_alloc1 wr _)).grown hg (below_step HBx.out (below_alloc1 wr _)).size (fun q hq => (HO.out.lt q hq).1)
            have HO3 := Lib.hid hown
            clear hown hg hbl)
         | fail)
        go_roundw
        case rel => exact ⟨i + 1, by omega, by go_num, by rw [HKX.out]; exact HO3, HB3⟩
        case measure => simp [intOf]; omega
    · obtain rfl : i = L := by omega
      have hk : keyT cs i = keyI cs := by unfold keyI; rw [HC.out]
      rw [hk] at HO
      have hpl : (pickV vs (keyI cs)).length ≤ i := by rw [← hk]; exact pick_len cs vs i
      obtain ⟨a', c', rfl, hvin, _⟩ := HO.out.vals
      have HE := Lib.hid (oencode_ a' c' (pickV vs (keyI cs)) wr hvin HQ3.out (by omega))
      generalize (pickV vs (keyI cs)).length = kl at *
      generalize txtL (pickV vs (keyI cs)) = TX at *
      generalize errL (pickV vs (keyI cs)) = EV at *
      clear HO hvin hpl hk
      go_wp2_with fail
      refine HE.out.mono ?_
      rintro e w4 ⟨rfl, hb4⟩
      have HB4 := Lib.hid (below_step (below_step HB1.out HBx.out) hb4)
      clear hb4 HE
      go_wp2_with fail
      exact bodyPost_ret (v := .tuple #[.string ⟨TX.toArray⟩, .int .i64 EV]) (by simp [results, Tryz.results12, go_sem]) rfl ⟨by rw [HR2.out], HB4.out⟩
 · obtain ⟨E, hE⟩ : ∃ E, chkR cs vs = E := ⟨_, rfl⟩
   have HR2 : Hid (R = (.string ⟨#[]⟩, .int .i64 E)) := by
    show _ = _
    rw [hR, kTxt, kErr, if_pos h0, if_pos h0, hE]
   rw [hE] at HK h0
   have h0' : (E != 0) = true := by simpa using h0
   clear hL hC h hw hc hR hE
   obtain ⟨t0, t1⟩ := inT_new w nm at_ C ct 44
   have HB0 : Hid (Below w.heap.size w (w.alloc (.cells #[.string nm, .slice at_ C ct] 44))) := below_alloc1 _ _
   go_enter Tryz.func12, Tryz.ntmps12
   go_wp2_with fail
   refine (HK.out _ HB0.out).mono ?_
   rintro e w1 ⟨rfl, hb1⟩
   have HB1 := Lib.hid (below_step HB0.out hb1)
   clear hb1 HB0 HK t0 t1
   go_wp2_with fail
   exact bodyPost_ret (v := .tuple #[.string ⟨#[]⟩, .int .i64 E]) (by simp [results, Tryz.results12, go_sem]) rfl ⟨by rw [HR2.out], HB1.out⟩
end Go.Proofs.YtalmanfjiblhcaaGreat.Rw
