/- The walk of the document's Key. -/
import Derived.Test.YtlldamgnfaikhaaGreatDoorRwRCheck
import Derived.Test.YtlldamgnfaikhaaGreatDoorRwStep
import Derived.Test.YtlldamgnfaikhaaGreatDoorRwKey
import Derived.Test.YtlldamgnfaikhaaGreatDoorREnc
namespace Go.Proofs.YtlldamgnfaikhaaGreatDoor
open Go.RowKit Go.Sort

theorem pick_key {cs : List Col} {vs : List Val} {i : Nat} (hi : i < cs.length) (hv : i < vs.length) (hk : cs[i].key = true) : pickV vs (keyT cs (i + 1)) = pickV vs (keyT cs i) ++ [vs[i]] := by
  rw [keyT_succ, if_pos (by rw [isKey_at hi]; exact hk)]
  unfold pickV
  rw [List.map_append]
  simp only [List.map_cons, List.map_nil]
  rw [getD_at hv]
theorem pick_skip {cs : List Col} {vs : List Val} {i : Nat} (hi : i < cs.length) (hk : cs[i].key = false) : pickV vs (keyT cs (i + 1)) = pickV vs (keyT cs i) := by
  rw [keyT_succ, if_neg (by rw [isKey_at hi, hk]; simp), List.append_nil]
theorem pick_len (cs : List Col) (vs : List Val) (i : Nat) : (pickV vs (keyT cs i)).length ≤ i := by
  unfold pickV
  rw [List.length_map]
  exact keyT_len cs i
set_option maxRecDepth 100000 in
set_option maxHeartbeats 1000000 in
theorem rkey_ (nm : ByteArray) (at_ : Option Addr) (ct : Nat) (cs : List Col) (a : Option Addr) (c : Nat) (vs : List Val) (w : World) (hc : ColsIn w at_ cs) (h : ValsIn w a vs) (hw : ∀ x ∈ vs, inI x.n) (hcl : cs.length ≤ 1048576) (hvl : vs.length ≤ 1048576) :
    Calls Tryz.prog 6 #[.agg #[.string nm, .slice at_ cs.length ct], .slice a vs.length c] w fun e w' => e = .returned (.tuple #[.string ⟨(kTxt cs vs).toArray⟩, .int .i64 (kErr cs vs)]) ∧ Below w.heap.size w w' := by
  have HK : Hid (∀ W, Below w.heap.size w W → Calls Tryz.prog 13 #[.agg #[.string nm, .slice at_ cs.length ct], .slice a vs.length c] W fun e w' => e = .returned (.int .i64 (chkR cs vs)) ∧ Below W.heap.size W w') := fun W hW => rcheck_ nm at_ ct cs a c vs W (hc.on hW) (h.on hW) (by omega) (by omega)
  have HI := Lib.hid h
  have HJ := Lib.hid hc
  obtain ⟨L, hL⟩ : ∃ L, vs.length = L := ⟨_, rfl⟩
  obtain ⟨C, hC⟩ : ∃ C, cs.length = C := ⟨_, rfl⟩
  have HL := Lib.hid hL
  have HC := Lib.hid hC
  rw [hL] at hvl
  rw [hL, hC] at HK
  rw [hC] at hcl
  rw [hL, hC]
  obtain ⟨R, hR⟩ : ∃ R : Value × Value, R = (.string ⟨(kTxt cs vs).toArray⟩, .int .i64 (kErr cs vs)) := ⟨_, rfl⟩
  rw [show (Value.string ⟨(kTxt cs vs).toArray⟩) = R.1 by rw [hR], show Value.int .i64 (kErr cs vs) = R.2 by rw [hR]]
  by_cases h0 : chkR cs vs = 0
  · have hlc : L = C := by rw [← hL, ← hC]; exact (chkR_zero h0).1
    have HQ3 : Hid (∀ x ∈ pickV vs (keyI cs), inI x.n) := fun x hx => hw x (keyV_mem (chkR_zero h0).1 hx)
    have HR2 : Hid (R = (.string ⟨(txtL (pickV vs (keyI cs))).toArray⟩, .int .i64 (errL (pickV vs (keyI cs))))) := by
      show _ = _
      rw [hR, kTxt, kErr, if_neg (by simp [h0]), if_neg (by simp [h0])]; rfl
    rw [h0] at HK
    subst hlc
    clear h0 hL hC h hw hc hR
    have HT0 := Lib.hid (inT_new w nm at_ L ct 24)
    obtain ⟨t0, t1⟩ := HT0.out
    have HB0 : Hid (Below w.heap.size w (w.alloc (.cells #[.string nm, .slice at_ L ct] 24))) := below_alloc1 _ _
    go_enter Tryz.func6, Tryz.ntmps6
    go_wp2_with fail
    refine (HK.out _ HB0.out).mono ?_
    rintro e V ⟨rfl, hb1⟩
    have HB1 := Lib.hid (below_step HB0.out hb1)
    have HT := Lib.hid (HT0.out.on hb1)
    have HJ1 := Lib.hid (HJ.out.on HB1.out)
    have HI1 := Lib.hid (HI.out.on HB1.out)
    clear hb1 HB0 HK t0 t1 HT0 HJ HI
    go_wp2_with fail
    go_loopw [7, 8] (fun ov iv wr => ∃ i : Nat, i ≤ L ∧ iv = .int .i64 i ∧ Hid (OwnV wr V.heap.size ov (pickV vs (keyT cs i))) ∧ Hid (Below V.heap.size V wr)) (fun _ iv _ => L - (intOf iv).toNat)
    case atStart => exact ⟨0, Nat.zero_le _, rfl, ownV_nil _ _, Below.refl _ _⟩
    case round =>
      obtain ⟨i, hi, rfl, HO, HBx⟩ := hrel
      obtain ⟨t0, t1⟩ := HT.out.on HBx.out
      by_cases hlt : i < L
      · have hlt2 : (i : Int) < (L : Int) := by omega
        have hi1 : i < cs.length := by rw [HC.out]; exact hlt
        have hi2 : i < vs.length := by rw [HL.out]; exact hlt
        obtain ⟨b1, o1, rfl, cn, kc, ky, nl, hci, q0, q1, q2, q3⟩ := ColsIn.get (HJ1.out.on HBx.out) i hi1
        cases ky
        · have HO2 : Hid (OwnV wr V.heap.size u7 (pickV vs (keyT cs (i + 1)))) := by rw [pick_skip hi1 (by rw [hci])]; exact HO
          clear HO hci
          go_wp2_with fail
          go_roundw
          case rel => exact ⟨i + 1, by omega, by go_num, HO2, HBx⟩
          case measure => simp [intOf]; omega
        · have hkx := pick_key (vs := vs) hi1 hi2 (by rw [hci])
          have hpl := pick_len cs vs i
          obtain ⟨b2, o2, rfl, k, n, t, bb, hvi, p0, p1, p2, p3⟩ := ValsIn.get (HI1.out.on HBx.out) i hi2
          rw [hvi] at hkx
          have HKX := Lib.hid hkx
          clear hkx hci hvi
          have hPX : (pickV vs (keyT cs i)).length + 1 ≤ 1048577 := by omega
          generalize pickV vs (keyT cs i) = PX at *
          have hroom : (PX.length + [(⟨k, n, t, bb⟩ : Val)].length) * 40 ≤ 140737488355328 := by simp; omega
          go_wp2_with (first
            | (at_builtin; refine wpList_append_vals2 _ rfl _ _ rfl V.heap.size _ PX [⟨k, n, t, bb⟩] rfl (HO.out.on (below_alloc1 wr _)) wr.heap.size 0 1 1 rfl rfl (one_inV (v := ⟨k, n, t, bb⟩) (in4_new wr k n t bb 44)) hroom (below_step HBx.out (below_alloc1 wr _)).size ?_
               intro v1 w3 hown hg hbl
               have HB3 : Hid (Below V.heap.size V w3) := (below_step HBx.out (below_alloc1 wr _)).grown hg (below_step HBx.out (below_alloc1 wr _)).size (fun q hq => (HO.out.lt q hq).1)
               have HO3 := Lib.hid hown
               clear hown hg hbl)
            | fail)
          go_roundw
          case rel => exact ⟨i + 1, by omega, by go_num, by rw [HKX.out]; exact HO3, HB3⟩
          case measure => simp [intOf]; omega
      · obtain rfl : i = L := by omega
        have hk : keyT cs i = keyI cs := by unfold keyI; rw [HC.out]
        rw [hk] at HO
        have hpl : (pickV vs (keyI cs)).length ≤ i := by rw [← hk]; exact pick_len cs vs i
        obtain ⟨a', c', rfl, hvin, _⟩ := HO.out.vals
        have HE := Lib.hid (oencode_ a' c' (pickV vs (keyI cs)) wr hvin HQ3.out (by omega))
        generalize (pickV vs (keyI cs)).length = kl at *
        generalize txtL (pickV vs (keyI cs)) = TX at *
        generalize errL (pickV vs (keyI cs)) = EV at *
        clear HO hvin hpl hk
        go_wp2_with fail
        refine HE.out.mono ?_
        rintro e w4 ⟨rfl, hb4⟩
        have HB4 := Lib.hid (below_step (below_step HB1.out HBx.out) hb4)
        clear hb4 HE
        go_wp2_with fail
        exact bodyPost_ret (v := .tuple #[.string ⟨TX.toArray⟩, .int .i64 EV]) (by simp [results, Tryz.results6, go_sem]) rfl ⟨by rw [HR2.out], HB4.out⟩
  · obtain ⟨E, hE⟩ : ∃ E, chkR cs vs = E := ⟨_, rfl⟩
    have HR2 : Hid (R = (.string ⟨#[]⟩, .int .i64 E)) := by
      show _ = _
      rw [hR, kTxt, kErr, if_pos h0, if_pos h0, hE]
    rw [hE] at HK h0
    have h0' : (E != 0) = true := by simpa using h0
    clear hL hC h hw hc hR hE
    obtain ⟨t0, t1⟩ := inT_new w nm at_ C ct 24
    have HB0 : Hid (Below w.heap.size w (w.alloc (.cells #[.string nm, .slice at_ C ct] 24))) := below_alloc1 _ _
    go_enter Tryz.func6, Tryz.ntmps6
    go_wp2_with fail
    refine (HK.out _ HB0.out).mono ?_
    rintro e w1 ⟨rfl, hb1⟩
    have HB1 := Lib.hid (below_step HB0.out hb1)
    clear hb1 HB0 HK t0 t1
    go_wp2_with fail
    exact bodyPost_ret (v := .tuple #[.string ⟨#[]⟩, .int .i64 E]) (by simp [results, Tryz.results6, go_sem]) rfl ⟨by rw [HR2.out], HB1.out⟩
end Go.Proofs.YtlldamgnfaikhaaGreatDoor
