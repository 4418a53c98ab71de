/- The walk of row.fits. -/
import Derived.Test.YtlldamgnfaikhaaDoorRwMem
namespace Go.Proofs.YtlldamgnfaikhaaDoor
open Go.RowKit Go.Sort

theorem fits_two (w : World) (nm : ByteArray) (kc : Int) (key nul : Bool) (k n : Int) (t : ByteArray) (b : Bool) (w1 : World)
    (h : Below ((w.alloc (.cells #[.string nm, .int .i64 kc, .bool key, .bool nul] 45)).alloc (.cells #[.int .i64 k, .int .i64 n, .string t, .bool b] 47)).heap.size ((w.alloc (.cells #[.string nm, .int .i64 kc, .bool key, .bool nul] 45)).alloc (.cells #[.int .i64 k, .int .i64 n, .string t, .bool b] 47)) w1) :
    InC w1 w.heap.size 0 ⟨nm, kc, key, nul⟩ ∧ In4 w1 (w.heap.size + 1) 0 k n t b ∧ Below w.heap.size w w1 := by
  have h1 := inC_new w ⟨nm, kc, key, nul⟩ 45
  have h2 := in4_new (w.alloc (.cells #[.string nm, .int .i64 kc, .bool key, .bool nul] 45)) k n t b 47
  have e : (w.alloc (.cells #[.string nm, .int .i64 kc, .bool key, .bool nul] 45)).heap.size = w.heap.size + 1 := by simp
  rw [e] at h2
  exact ⟨(h1.on (below_alloc1 _ _)).on h, h2.on h, below_step (below_step (below_alloc1 _ _) (below_alloc1 _ _)) h⟩
set_option maxHeartbeats 1000000 in
theorem fits_ (nm : ByteArray) (kc : Int) (key nul : Bool) (k n : Int) (t : ByteArray) (b : Bool) (w : World) :
    Calls Tryd.prog 29 #[.agg #[.string nm, .int .i64 kc, .bool key, .bool nul], .agg #[.int .i64 k, .int .i64 n, .string t, .bool b]] w fun e w' => e = .returned (errV 57 (fitN ⟨nm, kc, key, nul⟩ ⟨k, n, t, b⟩)) ∧ Below w.heap.size w w' := by
  have HV : Hid (∀ W, Calls Tryd.prog 42 #[.agg #[.int .i64 k, .int .i64 n, .string t, .bool b]] W fun e w' => e = .returned (errV 57 (validN ⟨k, n, t, b⟩)) ∧ Below W.heap.size W w') := fun W => valid_ k n t b W
  have HX := Lib.hid (fits_two w nm kc key nul k n t b)
  obtain ⟨R, hR⟩ : ∃ R, R = errV 57 (fitN ⟨nm, kc, key, nul⟩ ⟨k, n, t, b⟩) := ⟨_, rfl⟩
  rw [← hR]
  by_cases h0 : validN ⟨k, n, t, b⟩ = 0
  · have h0' : errV 57 (validN ⟨k, n, t, b⟩) = .nilIface := by rw [errV, if_pos h0]
    rw [h0'] at HV
    by_cases hk : k = 0
    · subst hk
      have HR : Hid (R = if key = true ∨ nul = false then .iface 57 (.int .i64 33) else .nilIface) := by
        show _ = _
        rw [hR, fitN, if_neg (by simp [h0]), if_neg (by simp)]
        by_cases hh : key = true ∨ nul = false
        · rw [if_pos ⟨rfl, hh⟩, if_pos hh]; rfl
        · rw [if_neg (fun h => hh h.2), if_neg hh]; rfl
      clear h0 h0' hR
      cases key <;> cases nul <;> simp only [Bool.false_eq_true, Bool.true_eq_false, or_false, or_true, or_self, if_true, if_false] at HR
      all_goals
        go_enter Tryd.func29, Tryd.ntmps29
        go_wp2_with fail
        refine (HV.out _).mono ?_
        rintro e w1 ⟨rfl, hb1⟩
        obtain ⟨⟨c0, c1, c2, c3⟩, ⟨d0, d1, d2, d3⟩, hB⟩ := HX.out _ hb1
        have HB := Lib.hid hB
        clear hb1 hB HX HV
        go_wp2_with fail
        go_ret
        exact ⟨by rw [HR.out]; rfl, HB.out⟩
    · by_cases hkc : k = kc
      · subst hkc
        have HR : Hid (R = .nilIface) := by
          show _ = _
          rw [hR, fitN, if_neg (by simp [h0]), if_neg (by simp), if_neg (by simp [hk])]; rfl
        have hk' : ((k : Int) == 0) = false := by simpa using hk
        clear h0 h0' hR
        go_enter Tryd.func29, Tryd.ntmps29
        go_wp2_with fail
        refine (HV.out _).mono ?_
        rintro e w1 ⟨rfl, hb1⟩
        obtain ⟨⟨c0, c1, c2, c3⟩, ⟨d0, d1, d2, d3⟩, hB⟩ := HX.out _ hb1
        have HB := Lib.hid hB
        clear hb1 hB HX HV
        go_wp2_with fail
        go_ret
        exact ⟨by rw [HR.out]; rfl, HB.out⟩
      · have HR : Hid (R = .iface 57 (.int .i64 7)) := by
          show _ = _
          rw [hR, fitN, if_neg (by simp [h0]), if_pos ⟨hk, hkc⟩]; rfl
        have hk' : ((k : Int) == 0) = false := by simpa using hk
        have hkc' : ((k : Int) != kc) = true := by simpa using hkc
        have hkc2 : ((k : Int) == kc) = false := by simpa using hkc
        clear h0 h0' hR
        go_enter Tryd.func29, Tryd.ntmps29
        go_wp2_with fail
        refine (HV.out _).mono ?_
        rintro e w1 ⟨rfl, hb1⟩
        obtain ⟨⟨c0, c1, c2, c3⟩, ⟨d0, d1, d2, d3⟩, hB⟩ := HX.out _ hb1
        have HB := Lib.hid hB
        clear hb1 hB HX HV
        go_wp2_with fail
        go_ret
        exact ⟨by rw [HR.out]; rfl, HB.out⟩
  · obtain ⟨E, hE⟩ : ∃ E, validN ⟨k, n, t, b⟩ = E := ⟨_, rfl⟩
    have h0' : errV 57 (validN ⟨k, n, t, b⟩) = .iface 57 (.int .i64 E) := by rw [errV, if_neg h0, hE]
    have HR : Hid (R = .iface 57 (.int .i64 E)) := by
      show _ = _
      rw [hR, fitN, if_pos h0, ← h0']
    rw [h0'] at HV
    clear h0 h0' hR hE
    go_enter Tryd.func29, Tryd.ntmps29
    go_wp2_with fail
    refine (HV.out _).mono ?_
    rintro e w1 ⟨rfl, hb1⟩
    obtain ⟨_, _, hB⟩ := HX.out _ hb1
    have HB := Lib.hid hB
    clear hb1 hB HX HV
    go_wp2_with fail
    go_ret
    exact ⟨by rw [HR.out]; rfl, HB.out⟩
end Go.Proofs.YtlldamgnfaikhaaDoor
