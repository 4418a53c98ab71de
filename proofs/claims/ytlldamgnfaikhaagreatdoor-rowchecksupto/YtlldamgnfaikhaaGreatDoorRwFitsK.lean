/- The walk of row.fitsKey. -/
import Derived.Test.YtlldamgnfaikhaaGreatDoorRwFits
import Derived.Test.YtlldamgnfaikhaaGreatDoorRwKoMath
namespace Go.Proofs.YtlldamgnfaikhaaGreatDoor
open Go.RowKit Go.Sort

set_option maxRecDepth 100000 in
set_option maxHeartbeats 1000000 in
theorem fitsKey_ (nm : ByteArray) (kc : Int) (key nul : Bool) (k n : Int) (t : ByteArray) (b : Bool) (w : World) :
    Calls Tryz.prog 20 #[.agg #[.string nm, .int .i64 kc, .bool key, .bool nul], .agg #[.int .i64 k, .int .i64 n, .string t, .bool b]] w fun e w' => e = .returned (errV 47 (fitK ⟨nm, kc, key, nul⟩ ⟨k, n, t, b⟩)) ∧ Below w.heap.size w w' := by
  have HV : Hid (∀ W, Calls Tryz.prog 28 #[.agg #[.int .i64 k, .int .i64 n, .string t, .bool b]] W fun e w' => e = .returned (errV 47 (validN ⟨k, n, t, b⟩)) ∧ Below W.heap.size W w') := fun W => valid_ k n t b W
  have HX := Lib.hid (fits_two w nm kc key nul k n t b)
  obtain ⟨R, hR⟩ : ∃ R, R = errV 47 (fitK ⟨nm, kc, key, nul⟩ ⟨k, n, t, b⟩) := ⟨_, rfl⟩
  rw [← hR]
  by_cases h0 : validN ⟨k, n, t, b⟩ = 0
  · have h0' : errV 47 (validN ⟨k, n, t, b⟩) = .nilIface := by rw [errV, if_pos h0]
    rw [h0'] at HV
    by_cases hk : k = 0
    · subst hk
      have HR : Hid (R = .iface 47 (.int .i64 7)) := by
        show _ = _
        rw [hR, fitK, if_neg (by simp [h0]), if_pos (.inl rfl)]; rfl
      clear h0 h0' hR
      go_enter Tryz.func20, Tryz.ntmps20
      go_wp2_with fail
      refine (HV.out _).mono ?_
      rintro e w1 ⟨rfl, hb1⟩
      obtain ⟨⟨c0, c1, c2, c3⟩, ⟨d0, d1, d2, d3⟩, hB⟩ := HX.out _ hb1
      have HB := Lib.hid hB
      clear hb1 hB HX HV
      go_wp2_with fail
      go_ret
      exact ⟨by rw [HR.out]; rfl, HB.out⟩
    · have hk' : ((k : Int) == 0) = false := by simpa using hk
      by_cases hkc : k = kc
      · subst hkc
        have HR : Hid (R = .nilIface) := by
          show _ = _
          rw [hR, fitK, if_neg (by simp [h0]), if_neg (by simp [hk])]; rfl
        clear h0 h0' hR
        go_enter Tryz.func20, Tryz.ntmps20
        go_wp2_with fail
        refine (HV.out _).mono ?_
        rintro e w1 ⟨rfl, hb1⟩
        obtain ⟨⟨c0, c1, c2, c3⟩, ⟨d0, d1, d2, d3⟩, hB⟩ := HX.out _ hb1
        have HB := Lib.hid hB
        clear hb1 hB HX HV
        go_wp2_with fail
        go_ret
        exact ⟨by rw [HR.out]; rfl, HB.out⟩
      · have HR : Hid (R = .iface 47 (.int .i64 7)) := by
          show _ = _
          rw [hR, fitK, if_neg (by simp [h0]), if_pos (.inr hkc)]; rfl
        have hkc' : ((k : Int) != kc) = true := by simpa using hkc
        have hkc2 : ((k : Int) == kc) = false := by simpa using hkc
        clear h0 h0' hR
        go_enter Tryz.func20, Tryz.ntmps20
        go_wp2_with fail
        refine (HV.out _).mono ?_
        rintro e w1 ⟨rfl, hb1⟩
        obtain ⟨⟨c0, c1, c2, c3⟩, ⟨d0, d1, d2, d3⟩, hB⟩ := HX.out _ hb1
        have HB := Lib.hid hB
        clear hb1 hB HX HV
        go_wp2_with fail
        go_ret
        exact ⟨by rw [HR.out]; rfl, HB.out⟩
  · obtain ⟨E, hE⟩ : ∃ E, validN ⟨k, n, t, b⟩ = E := ⟨_, rfl⟩
    have h0' : errV 47 (validN ⟨k, n, t, b⟩) = .iface 47 (.int .i64 E) := by rw [errV, if_neg h0, hE]
    have HR : Hid (R = .iface 47 (.int .i64 E)) := by
      show _ = _
      rw [hR, fitK, if_pos h0, ← h0']
    rw [h0'] at HV
    clear h0 h0' hR hE
    go_enter Tryz.func20, Tryz.ntmps20
    go_wp2_with fail
    refine (HV.out _).mono ?_
    rintro e w1 ⟨rfl, hb1⟩
    obtain ⟨_, _, hB⟩ := HX.out _ hb1
    have HB := Lib.hid hB
    clear hb1 hB HX HV
    go_wp2_with fail
    go_ret
    exact ⟨by rw [HR.out]; rfl, HB.out⟩
end Go.Proofs.YtlldamgnfaikhaaGreatDoor
