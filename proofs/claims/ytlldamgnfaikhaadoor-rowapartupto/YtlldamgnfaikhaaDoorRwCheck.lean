/- The walk of row.Check. -/
import Derived.Test.YtlldamgnfaikhaaDoorRwFits
namespace Go.Proofs.YtlldamgnfaikhaaDoor
open Go.RowKit Go.Sort

/-- What a round of Check has made: the column's block. -/
theorem col_world (w : World) (c : Col) (ty : TypeId) (w0 : World) (hb : Below w0.heap.size w0 w) : Below w0.heap.size w0 (w.alloc (.cells #[.string c.nm, .int .i64 c.k, .bool c.key, .bool c.nul] ty)) := below_step hb (below_alloc1 _ _)
set_option maxRecDepth 100000 in
set_option maxHeartbeats 1000000 in
theorem check_ (nm : ByteArray) (at_ : Option Addr) (ct : Nat) (cs : List Col) (a : Option Addr) (c : Nat) (vs : List Val) (w : World) (hc : ColsIn w at_ cs) (h : ValsIn w a vs) (hcl : cs.length ≤ 140737488355328) (hvl : vs.length ≤ 140737488355328) :
    Calls Tryd.prog 16 #[.agg #[.string nm, .slice at_ cs.length ct], .slice a vs.length c] w fun e w' => e = .returned (errV 57 (chkR cs vs)) ∧ Below w.heap.size w w' := by
  obtain ⟨L, hL⟩ : ∃ L, vs.length = L := ⟨_, rfl⟩
  obtain ⟨C, hC⟩ : ∃ C, cs.length = C := ⟨_, rfl⟩
  have HL := Lib.hid hL
  have HC := Lib.hid hC
  have HI := Lib.hid h
  have HJ := Lib.hid hc
  rw [hL] at hvl
  rw [hC] at hcl
  rw [hL, hC]
  obtain ⟨R, hR⟩ : ∃ R, R = errV 57 (chkR cs vs) := ⟨_, rfl⟩
  have HR : Hid (R = errV 57 (chkR cs vs)) := hR
  rw [← hR]
  clear h hc hL hC hR
  by_cases hlc : L = C
  · subst hlc
    have hne : ((L : Int) != L) = false := by simp
    obtain ⟨t0, t1⟩ := inT_new w nm at_ L ct 24
    have HT := Lib.hid (inT_new w nm at_ L ct 24)
    have HB0 : Hid (Below w.heap.size w (w.alloc (.cells #[.string nm, .slice at_ L ct] 24))) := below_alloc1 _ _
    go_enter Tryd.func16, Tryd.ntmps16
    go_wp2_with fail
    generalize w.alloc (.cells #[.string nm, .slice at_ L ct] 24) = V at *
    go_loopw [18] (fun iv wr => ∃ i : Nat, i ≤ L ∧ iv = .int .i64 i ∧ Hid (∀ j (h : j < cs.length) (h' : j < vs.length), j < i → fitN cs[j] vs[j] = 0) ∧ Hid (Below w.heap.size w wr)) (fun iv _ => L - (intOf iv).toNat)
    case atStart => exact ⟨0, Nat.zero_le _, rfl, fun j _ _ hj => by omega, HB0⟩
    case round =>
      obtain ⟨i, hi, rfl, HV, HBw⟩ := hrel
      by_cases hlt : i < L
      · have hlt2 : (i : Int) < (L : Int) := by omega
        have hi1 : i < cs.length := by rw [HC.out]; exact hlt
        have hi2 : i < vs.length := by rw [HL.out]; exact hlt
        obtain ⟨b1, o1, rfl, cn, kc, ky, nl, hci, hcin⟩ := ColsIn.get (HJ.out.on HBw.out) i hi1
        obtain ⟨b, o, rfl, k, n, t, bb, hvi, hin⟩ := ValsIn.get (HI.out.on HBw.out) i hi2
        have HF : Hid (∀ W, Calls Tryd.prog 29 #[.agg #[.string cn, .int .i64 kc, .bool ky, .bool nl], .agg #[.int .i64 k, .int .i64 n, .string t, .bool bb]] W fun e w' => e = .returned (errV 57 (fitN ⟨cn, kc, ky, nl⟩ ⟨k, n, t, bb⟩)) ∧ Below W.heap.size W w') := fun W => fits_ cn kc ky nl k n t bb W
        have HK := Lib.hid (⟨hci, hvi⟩ : _ ∧ _)
        have hB1 := below_step HBw.out (below_alloc1 wr (.cells #[.string cn, .int .i64 kc, .bool ky, .bool nl] 45))
        have HB1 := Lib.hid hB1
        obtain ⟨q0, q1, q2, q3⟩ := hcin
        obtain ⟨p0, p1, p2, p3⟩ := hin.alloc (.cells #[.string cn, .int .i64 kc, .bool ky, .bool nl] 45)
        obtain ⟨r0, r1, r2, r3⟩ := inC_new wr ⟨cn, kc, ky, nl⟩ 45
        simp only at r0 r1 r2 r3
        clear hci hvi hin hB1
        go_wp2_with fail
        generalize wr.alloc (.cells #[.string cn, .int .i64 kc, .bool ky, .bool nl] 45) = V1 at *
        have k0 := cell_regrown p0
        have k1 := cell_regrown p1
        have k2 := cell_regrown p2
        have k3 := cell_regrown p3
        have l0 := cell_regrown r0
        have l1 := cell_regrown r1
        have l2 := cell_regrown r2
        have l3 := cell_regrown r3
        have hd0 : decide (0 ≤ (i : Int)) = true := by simp
        have hd1 : decide ((i : Int) < (L : Int)) = true := by simpa using hlt
        clear p0 p1 p2 p3 r0 r1 r2 r3 q0 q1 q2 q3
        by_cases h0 : fitN ⟨cn, kc, ky, nl⟩ ⟨k, n, t, bb⟩ = 0
        · have h0' : errV 57 (fitN ⟨cn, kc, ky, nl⟩ ⟨k, n, t, bb⟩) = .nilIface := by rw [errV, if_pos h0]
          rw [h0'] at HF
          have HV2 : Hid (∀ j (h : j < cs.length) (h' : j < vs.length), j < i + 1 → fitN cs[j] vs[j] = 0) := fun j hj hj' hji => by
            rcases Nat.lt_or_ge j i with hh | hh
            · exact HV.out j hj hj' hh
            · obtain rfl : j = i := by omega
              rw [HK.out.1, HK.out.2]; exact h0
          clear h0 h0' HK HV
          refine wp_region_quiet_below (by kernel_rfl) (by kernel_rfl) ?_
          repeat (go_big_quiet_step (first | (go_at_call 29; exact Calls.regrown_of (HF.out _))))
          refine wpQuiet_nil ?_
          intro _ hw'
          obtain ⟨⟨dq, osq⟩, hw''⟩ := hw'
          subst hw''
          have HB2 := Lib.hid (below_step HB1.out (below_regrown V1 dq osq))
          generalize grow (redrawn V1 dq) osq = W2 at *
          clear k0 k1 k2 k3 l0 l1 l2 l3 HF HB1 HBw
          go_wp2_with fail
          go_roundw
          case rel => exact ⟨i + 1, by omega, by go_num, HV2, HB2⟩
          case measure => simp [intOf]; omega
        · obtain ⟨E, hE⟩ : ∃ E, fitN ⟨cn, kc, ky, nl⟩ ⟨k, n, t, bb⟩ = E := ⟨_, rfl⟩
          have h0' : errV 57 (fitN ⟨cn, kc, ky, nl⟩ ⟨k, n, t, bb⟩) = .iface 57 (.int .i64 E) := by rw [errV, if_neg h0, hE]
          have HR2 : Hid (R = .iface 57 (.int .i64 E)) := by
            show _ = _
            rw [HR.out, chkR_bad (by rw [HL.out, HC.out]) hi1 hi2 HV.out (E := E) (by rw [HK.out.1, HK.out.2]; exact hE) (by rw [← hE]; exact h0), errV, if_neg (by rw [← hE]; exact h0)]
          rw [h0'] at HF
          clear h0 h0' HK HV hE
          refine wp_region_quiet_below (by kernel_rfl) (by kernel_rfl) ?_
          repeat (go_big_quiet_step (first | (go_at_call 29; exact Calls.regrown_of (HF.out _))))
          refine wpQuiet_nil ?_
          intro _ hw'
          obtain ⟨⟨dq, osq⟩, hw''⟩ := hw'
          subst hw''
          have HB2 := Lib.hid (below_step HB1.out (below_regrown V1 dq osq))
          generalize grow (redrawn V1 dq) osq = W2 at *
          clear k0 k1 k2 k3 l0 l1 l2 l3 HF HB1 HBw
          go_wp2_with fail
          go_ret
          exact ⟨by rw [HR2.out]; rfl, HB2.out⟩
      · obtain rfl : i = L := by omega
        have HF : Hid (R = .nilIface) := by
          show _ = _
          rw [HR.out, chkR_ok (by rw [HL.out, HC.out]) (fun j hj hj' => HV.out j hj hj' (by rw [← HL.out]; exact hj')), errV, if_pos rfl]
        clear HV
        go_wp2_with fail
        go_ret
        exact ⟨by rw [HF.out]; rfl, HBw.out⟩
  · have hne : ((L : Int) != C) = true := by simp; omega
    have hne2 : ((L : Int) == C) = false := by simp; omega
    have HF : Hid (R = .iface 57 (.int .i64 1)) := by
      show _ = _
      rw [HR.out, chkR, if_pos (by rw [HL.out, HC.out]; exact hlc)]; rfl
    clear HR
    go_enter Tryd.func16, Tryd.ntmps16
    go_wp2_with fail
    go_ret
    exact ⟨by rw [HF.out]; rfl, below_alloc1 _ _⟩
end Go.Proofs.YtlldamgnfaikhaaDoor
