/- The walk of row.Key. -/
import Derived.Test.YtlldamgnfaikhaaDoorRwCheck
import Derived.Test.YtlldamgnfaikhaaDoorRwKeys
namespace Go.Proofs.YtlldamgnfaikhaaDoor
open Go.RowKit Go.Sort

theorem pickV_take {vs : List Val} {ps : List Nat} {j p : Nat} (h : j < ps.length) (e : ps.getD j 0 = p) (hp : p < vs.length) : pickV vs (ps.take (j + 1)) = pickV vs (ps.take j) ++ [vs[p]] := by
  unfold pickV
  rw [List.take_add_one, List.getElem?_eq_getElem h, List.map_append]
  have e2 : ps[j] = p := by rw [← e]; simp [List.getD_eq_getElem?_getD, List.getElem?_eq_getElem h]
  simp only [Option.toList_some, List.map_cons, List.map_nil, e2]
  rw [getD_at hp]
/-- Key's answer. -/
def kErr (cs : List Col) (vs : List Val) : Int := if chkR cs vs ≠ 0 then chkR cs vs else errL (keyV cs vs)
def kTxt (cs : List Col) (vs : List Val) : List UInt8 := if chkR cs vs ≠ 0 then [] else txtL (keyV cs vs)
set_option maxRecDepth 100000 in
set_option maxHeartbeats 1000000 in
theorem key_ (nm : ByteArray) (at_ : Option Addr) (ct : Nat) (cs : List Col) (a : Option Addr) (c : Nat) (vs : List Val) (w : World) (hc : ColsIn w at_ cs) (h : ValsIn w a vs) (hw : ∀ x ∈ vs, inI x.n) (hcl : cs.length ≤ 1048576) (hvl : vs.length ≤ 1048576) :
    Calls Tryd.prog 14 #[.agg #[.string nm, .slice at_ cs.length ct], .slice a vs.length c] w fun e w' => e = .returned (.tuple #[.string ⟨(kTxt cs vs).toArray⟩, errV 57 (kErr cs vs)]) ∧ Below w.heap.size w w' := by
  have HK : Hid (∀ W, Below w.heap.size w W → Calls Tryd.prog 16 #[.agg #[.string nm, .slice at_ cs.length ct], .slice a vs.length c] W fun e w' => e = .returned (errV 57 (chkR cs vs)) ∧ Below W.heap.size W w') := fun W hW => check_ nm at_ ct cs a c vs W (hc.on hW) (h.on hW) (by omega) (by omega)
  have HP : Hid (∀ W, Below w.heap.size w W → Calls Tryd.prog 25 #[.agg #[.string nm, .slice at_ cs.length ct]] W fun e w' => ∃ v, e = .returned v ∧ OwnP w' W.heap.size v (keyI cs) ∧ Below W.heap.size W w') := fun W hW => keys_ nm at_ ct cs W (hc.on hW) hcl
  have HI := Lib.hid h
  have HW := Lib.hid hw
  obtain ⟨L, hL⟩ : ∃ L, vs.length = L := ⟨_, rfl⟩
  have HL := Lib.hid hL
  have HCL := Lib.hid hcl
  rw [hL] at hvl HK
  rw [hL]
  obtain ⟨R, hR⟩ : ∃ R : Value × Value, R = (.string ⟨(kTxt cs vs).toArray⟩, errV 57 (kErr cs vs)) := ⟨_, rfl⟩
  have HR : Hid (R = (.string ⟨(kTxt cs vs).toArray⟩, errV 57 (kErr cs vs))) := hR
  rw [show (Value.string ⟨(kTxt cs vs).toArray⟩) = R.1 by rw [hR], show errV 57 (kErr cs vs) = R.2 by rw [hR]]
  by_cases h0 : chkR cs vs = 0
  · have hlc := (chkR_zero h0).1
    have HQ1 : Hid ((keyI cs).length ≤ 1048576) := Nat.le_trans (keyT_len cs _) hcl
    have HQ2 : Hid (∀ j, j < (keyI cs).length → (keyI cs).getD j 0 < vs.length) := fun j hj2 => by
      have hm : (keyI cs).getD j 0 ∈ keyI cs := by
        rw [List.getD_eq_getElem?_getD, List.getElem?_eq_getElem hj2]
        exact List.getElem_mem hj2
      rw [hlc]
      exact keyT_lt hm
    have HQ3 : Hid (∀ x ∈ pickV vs (keyI cs), inI x.n) := fun x hx => hw x (keyV_mem hlc hx)
    clear hlc
    have HR2 : Hid (R = (.string ⟨(txtL (keyV cs vs)).toArray⟩, errV 57 (errL (keyV cs vs)))) := by
      show _ = _
      rw [hR, kTxt, kErr, if_neg (by simp [h0]), if_neg (by simp [h0])]
    have h0' : errV 57 (chkR cs vs) = .nilIface := by rw [errV, if_pos h0]
    rw [h0'] at HK
    generalize cs.length = C at *
    clear h0 h0' hL h hw hc hR HR
    have HT0 := Lib.hid (inT_new w nm at_ C ct 24)
    obtain ⟨t0, t1⟩ := HT0.out
    have HB0 : Hid (Below w.heap.size w (w.alloc (.cells #[.string nm, .slice at_ C ct] 24))) := below_alloc1 _ _
    go_enter Tryd.func14, Tryd.ntmps14
    go_wp2_with fail
    refine (HK.out _ HB0.out).mono ?_
    rintro e w1 ⟨rfl, hb1⟩
    have HB1 := Lib.hid (below_step HB0.out hb1)
    obtain ⟨s0, s1⟩ := HT0.out.on hb1
    clear hb1 HB0 HK t0 t1 HT0
    go_wp2_with fail
    refine (HP.out _ HB1.out).mono ?_
    rintro e w2 ⟨pv, rfl, ho2, hb2⟩
    obtain ⟨pa, pc, rfl, hpi, _⟩ := ho2.ints
    have HPI := Lib.hid hpi
    have HB2 := Lib.hid (below_step HB1.out hb2)
    obtain ⟨M, hM⟩ : ∃ M, (keyI cs).length = M := ⟨_, rfl⟩
    have HM := Lib.hid hM
    rw [hM]
    have hMl : M ≤ 1048576 := by rw [← hM]; exact HQ1.out
    clear hb2 HB1 HP ho2 hpi s0 s1 hM
    go_wp2_with fail
    go_loopw [7, 19] (fun ov jv wr => ∃ j : Nat, j ≤ M ∧ jv = .int .i64 j ∧ Hid (OwnV wr w2.heap.size ov (pickV vs ((keyI cs).take j))) ∧ Hid (Below w2.heap.size w2 wr)) (fun _ jv _ => M - (intOf jv).toNat)
    case atStart => exact ⟨0, Nat.zero_le _, rfl, ownV_nil _ _, Below.refl _ _⟩
    case round =>
      obtain ⟨j, hj, rfl, HO, HBx⟩ := hrel
      by_cases hjl : j < M
      · have hjl2 : (j : Int) < (M : Int) := by omega
        have hj2 : j < (keyI cs).length := by rw [HM.out]; exact hjl
        obtain ⟨b1, o1, rfl, hpc⟩ := (HPI.out.on HBx.out) j hj2
        obtain ⟨pp, hpg⟩ : ∃ pp, (keyI cs).getD j 0 = pp := ⟨_, rfl⟩
        have hpl2 : pp < vs.length := by rw [← hpg]; exact HQ2.out j hj2
        have hpk := pickV_take hj2 hpg hpl2
        rw [hpg] at hpc
        obtain ⟨b, o, rfl, k, n, t, bb, hvi, hin⟩ := ValsIn.get (HI.out.on (below_step HB2.out HBx.out)) _ hpl2
        rw [hvi] at hpk
        have HPK := Lib.hid hpk
        have hroom : ((pickV vs ((keyI cs).take j)).length + 1) * 40 ≤ 140737488355328 := by
          have : (pickV vs ((keyI cs).take j)).length ≤ M := by
            unfold pickV
            rw [List.length_map, ← HM.out]
            exact List.length_take_le' _ _
          omega
        have HO1 := Lib.hid (HO.out.on (below_alloc1 wr (.cells #[.int .i64 k, .int .i64 n, .string t, .bool bb] 47)))
        have HB1 := Lib.hid (below_step HBx.out (below_alloc1 wr (.cells #[.int .i64 k, .int .i64 n, .string t, .bool bb] 47)))
        have HIn := Lib.hid (one_inV (v := ⟨k, n, t, bb⟩) (in4_new wr k n t bb 47))
        obtain ⟨p0, p1, p2, p3⟩ := hin
        have hpl4 : pp < L := by rw [← HL.out]; exact hpl2
        have hpl3 : (pp : Int) < (L : Int) := by omega
        clear hvi hpk hj2 hpl2 HO HBx hpg
        generalize hxs : pickV vs ((keyI cs).take j) = XS at *
        clear hxs
        go_wp2_with (first
          | (at_builtin; refine wpList_append_vals w2.heap.size _ w2 rfl _ _ rfl _ XS [⟨k, n, t, bb⟩] rfl HO1.out wr.heap.size 0 1 1 rfl rfl HIn.out hroom (Nat.le_refl _) HB1.out ?_
             intro v' w3 hown hb3
             have HO3 := Lib.hid hown
             have HB3 := Lib.hid hb3
             clear hown hb3 HO1)
          | fail)
        refine ⟨⟨j + 1, by omega, by go_num, by rw [HPK.out]; exact HO3, HB3⟩, by simp [intOf]; omega⟩
      · obtain rfl : j = M := by omega
        have e1 : (keyI cs).take j = keyI cs := List.take_of_length_le (by rw [HM.out]; exact Nat.le_refl _)
        rw [e1] at HO
        obtain ⟨a', c', rfl, hvin, _⟩ := HO.out.vals
        have hkl : (pickV vs (keyI cs)).length ≤ 140737488355328 := by
          unfold pickV; rw [List.length_map, HM.out]; omega
        have HE := Lib.hid (encode_ a' c' (pickV vs (keyI cs)) wr hvin HQ3.out hkl)
        have HR3 : Hid (R = (.string ⟨(txtL (pickV vs (keyI cs))).toArray⟩, errV 57 (errL (pickV vs (keyI cs))))) := HR2
        generalize (pickV vs (keyI cs)).length = kl at *
        generalize txtL (pickV vs (keyI cs)) = TX at *
        generalize errV 57 (errL (pickV vs (keyI cs))) = EV at *
        clear HO hvin hkl e1 HR2
        go_wp2_with fail
        refine HE.out.mono ?_
        rintro e w4 ⟨rfl, hb4⟩
        have HB4 := Lib.hid (below_step (below_step HB2.out HBx.out) hb4)
        clear hb4 HE
        go_wp2_with fail
        exact bodyPost_ret (v := .tuple #[.string ⟨TX.toArray⟩, EV]) (by simp [results, Tryd.results14, go_sem]) rfl ⟨by rw [HR3.out], HB4.out⟩
  · obtain ⟨E, hE⟩ : ∃ E, chkR cs vs = E := ⟨_, rfl⟩
    have h0' : errV 57 (chkR cs vs) = .iface 57 (.int .i64 E) := by rw [errV, if_neg h0, hE]
    have HR2 : Hid (R = (.string ⟨#[]⟩, .iface 57 (.int .i64 E))) := by
      show _ = _
      rw [hR, kTxt, kErr, if_pos h0, if_pos h0, h0']
    rw [h0'] at HK
    generalize cs.length = C at *
    clear h0 h0' hL h hw hc hR HR hE
    obtain ⟨t0, t1⟩ := inT_new w nm at_ C ct 24
    have HB0 : Hid (Below w.heap.size w (w.alloc (.cells #[.string nm, .slice at_ C ct] 24))) := below_alloc1 _ _
    go_enter Tryd.func14, Tryd.ntmps14
    go_wp2_with fail
    refine (HK.out _ HB0.out).mono ?_
    rintro e w1 ⟨rfl, hb1⟩
    have HB1 := Lib.hid (below_step HB0.out hb1)
    clear hb1 HB0 HK t0 t1
    go_wp2_with fail
    exact bodyPost_ret (v := .tuple #[.string ⟨#[]⟩, .iface 57 (.int .i64 E)]) (by simp [results, Tryd.results14, go_sem]) rfl ⟨by rw [HR2.out], HB1.out⟩
end Go.Proofs.YtlldamgnfaikhaaDoor
