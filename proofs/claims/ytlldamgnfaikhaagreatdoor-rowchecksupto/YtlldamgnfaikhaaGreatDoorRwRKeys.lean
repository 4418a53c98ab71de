/- The walk of the document's Keys. -/
import Derived.Test.YtlldamgnfaikhaaGreatDoorRwKeys
namespace Go.Proofs.YtlldamgnfaikhaaGreatDoor
open Go.RowKit Go.Sort

theorem ownP_lower {w : World} {base base' : Nat} {v : Value} {xs : List Nat} (h : OwnP w base v xs) (hb : base' ≤ base) : OwnP w base' v xs := by
  refine ⟨h.1, ?_⟩
  rcases h.2 with h1 | ⟨g, cap, cur, e, h1, h2, h3, h4, h5, h6⟩
  · exact .inl h1
  · exact .inr ⟨g, cap, cur, e, Nat.le_trans hb h1, h2, h3, h4, h5, h6⟩
set_option maxRecDepth 100000 in
set_option maxHeartbeats 1000000 in
theorem rkeys_ (nm : ByteArray) (at_ : Option Addr) (ct : Nat) (cs : List Col) (w : World) (hc : ColsIn w at_ cs) (hcl : cs.length ≤ 1048576) :
    Calls Tryz.prog 16 #[.agg #[.string nm, .slice at_ cs.length ct]] w fun e w' => ∃ v, e = .returned v ∧ OwnP w' w.heap.size v (keyI cs) ∧ Below w.heap.size w w' := by
  obtain ⟨C, hC⟩ : ∃ C, cs.length = C := ⟨_, rfl⟩
  have HC := Lib.hid hC
  have HJ := Lib.hid hc
  rw [hC] at hcl
  rw [hC]
  have HK : Hid (keyI cs = keyT cs C) := by show _ = _; rw [keyI, hC]
  clear hc hC
  have HT := Lib.hid (inT_new w nm at_ C ct 24)
  have HB0 : Hid (Below w.heap.size w (w.alloc (.cells #[.string nm, .slice at_ C ct] 24))) := below_alloc1 _ _
  go_enter Tryz.func16, Tryz.ntmps16
  go_wp2_with fail
  generalize w.alloc (.cells #[.string nm, .slice at_ C ct] 24) = V at *
  have HJ1 := Lib.hid (HJ.out.on HB0.out)
  have hVs : w.heap.size ≤ V.heap.size := HB0.out.size
  clear HJ
  go_loopw [3, 4] (fun ov iv wr => ∃ i : Nat, i ≤ C ∧ iv = .int .i64 i ∧ Hid (OwnP wr V.heap.size ov (keyT cs i)) ∧ Hid (Below V.heap.size V wr)) (fun _ iv _ => C - (intOf iv).toNat)
  case atStart => exact ⟨0, Nat.zero_le _, rfl, ownP_nil _ _, Below.refl _ _⟩
  case round =>
    obtain ⟨i, hi, rfl, HO, HBx⟩ := hrel
    obtain ⟨t0, t1⟩ := HT.out.on HBx.out
    by_cases hlt : i < C
    · have hlt2 : (i : Int) < (C : Int) := by omega
      have hi1 : i < cs.length := by rw [HC.out]; exact hlt
      obtain ⟨b1, o1, rfl, cn, kc, ky, nl, hci, hcin⟩ := ColsIn.get (HJ1.out.on HBx.out) i hi1
      obtain ⟨q0, q1, q2, q3⟩ := hcin
      have hKs := keyT_succ cs i
      have hky : isKey cs i = ky := by rw [isKey_at hi1, hci]
      rw [hky] at hKs
      have hlen := keyT_len cs i
      have hln : ((keyT cs i).length + 1) * 8 ≤ 140737488355328 := by omega
      clear hky hci hlen
      cases ky
      · have HKs : Hid (keyT cs (i + 1) = keyT cs i) := by show _ = _; rw [hKs]; simp
        clear hKs
        go_wp2_with fail
        go_roundw
        case rel => exact ⟨i + 1, by omega, by go_num, by rw [HKs.out]; exact HO, HBx⟩
        case measure => simp [intOf]; omega
      · have HKs : Hid (keyT cs (i + 1) = keyT cs i ++ [i]) := by show _ = _; rw [hKs]; simp
        clear hKs
        go_wp2_with (first
          | (at_builtin; refine wpList_append_place V.heap.size _ V rfl _ _ rfl _ (keyT cs i) rfl (HO.out.on ((Below.refl _ _).alloc (Nat.le_refl _) _)) _ i rfl (by simp [go_sem]) hln (Nat.le_refl _) (below_stepN (Nat.le_refl _) HBx.out ((Below.refl _ _).alloc (Nat.le_refl _) _)) ?_
             intro v' w2 hown hb2
             have HO2 := Lib.hid hown
             have HB2 := Lib.hid hb2
             clear hown hb2 HO)
          | fail)
        go_roundw
        case rel => exact ⟨i + 1, by omega, by go_num, by rw [HKs.out]; exact HO2, HB2⟩
        case measure => simp [intOf]; omega
    · obtain rfl : i = C := by omega
      rw [← HK.out] at HO
      go_wp2_with fail
      go_ret
      refine ⟨_, rfl, ?_, below_step HB0.out HBx.out⟩
      exact ownP_lower HO.out hVs
end Go.Proofs.YtlldamgnfaikhaaGreatDoor
