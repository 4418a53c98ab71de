/- The walk of the law's ints, at two lists that are the same. -/
import Derived.Test.YtlldamgnfaikhaaGreatDoorRwKeys
import Derived.BigQuiet
namespace Go.Proofs.YtlldamgnfaikhaaGreatDoor
open Go.RowKit Go.Sort

set_option maxRecDepth 100000 in
set_option maxHeartbeats 1000000 in
theorem ints_ (a a' : Option Addr) (c c' : Nat) (ps : List Nat) (w : World) (h : IntsAt w a ps) (h' : IntsAt w a' ps) (hl : ps.length ≤ 1048576) :
    Calls Tryz.prog 14 #[.slice a ps.length c, .slice a' ps.length c'] w fun e w' => e = .returned (.bool true) ∧ Below w.heap.size w w' := by
  obtain ⟨L, hL⟩ : ∃ L, ps.length = L := ⟨_, rfl⟩
  have HL := Lib.hid hL
  have HI := Lib.hid h
  have HI' := Lib.hid h'
  rw [hL] at hl
  rw [hL]
  have hne : ((L : Int) != L) = false := by simp
  clear h h' hL
  go_enter Tryz.func14, Tryz.ntmps14
  go_wp2_with fail
  go_loopw [5] (fun iv wr => ∃ i : Nat, i ≤ L ∧ iv = .int .i64 i ∧ Hid (Below w.heap.size w wr)) (fun iv _ => L - (intOf iv).toNat)
  case atStart => exact ⟨0, Nat.zero_le _, rfl, Below.refl _ _⟩
  case round =>
    obtain ⟨i, hi, rfl, HBw⟩ := hrel
    by_cases hlt : i < L
    · have hlt2 : (i : Int) < (L : Int) := by omega
      have hi2 : i < ps.length := by rw [HL.out]; exact hlt
      obtain ⟨b1, o1, rfl, h1⟩ := (HI.out.on HBw.out) i hi2
      obtain ⟨b2, o2, rfl, h2⟩ := (HI'.out.on HBw.out) i hi2
      generalize ps.getD i 0 = p at *
      have hpp : ((p : Int) != p) = false := by simp
      have hd0 : decide (0 ≤ (i : Int)) = true := by simp
      have hd1 : decide ((i : Int) < (L : Int)) = true := by simpa using hlt
      clear hi2
      go_wp2_with fail
      go_quiet (fail)
      have HB2 := Lib.hid (below_drewN HBw.out nq)
      go_wp2_with fail
      go_roundw
      case rel => exact ⟨i + 1, by omega, by go_num, HB2⟩
      case measure => simp [intOf]; omega
    · obtain rfl : i = L := by omega
      go_wp2_with fail
      go_ret
      exact ⟨rfl, HBw.out⟩
end Go.Proofs.YtlldamgnfaikhaaGreatDoor
