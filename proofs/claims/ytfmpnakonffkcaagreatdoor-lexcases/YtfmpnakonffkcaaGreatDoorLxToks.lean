/- The walk of the law's tokens, at lists that are the same. -/
import Derived.Test.YtfmpnakonffkcaaGreatDoorLxSame
namespace Go.Proofs.YtfmpnakonffkcaaGreatDoor
open Go.RowKit Go.Sort

theorem below_drewN2 {W w : World} (h : Below W.heap.size W w) (n : Nat) : Below W.heap.size W (w.drewN n) := below_step h ⟨rfl, rfl, rfl, Nat.le_refl _, fun _ _ => rfl⟩
set_option maxRecDepth 100000 in
set_option maxHeartbeats 4000000 in
theorem tokens_ (a b : Option Addr) (ca cb : Nat) (ts : List Tk) (w : World) (ha : TksIn w a ts) (hb : TksIn w b ts) (hlen : ts.length ≤ 1000000000) :
    Calls Tryz.prog 8 #[.slice a ts.length ca, .slice b ts.length cb] w fun e w' => e = .returned (.bool true) ∧ Below w.heap.size w w' := by
  obtain ⟨L, hL⟩ : ∃ L, ts.length = L := ⟨_, rfl⟩
  have HL := Lib.hid hL
  have HI := Lib.hid (And.intro ha hb)
  have hGD := guardT
  rw [hL] at hlen ⊢
  have hne : ((L : Int) != L) = false := by simp
  clear ha hb hL
  go_enter Tryz.func8, Tryz.ntmps8
  go_wp2_with fail
  go_loopw [5] (fun iv wr => ∃ i : Nat, i ≤ L ∧ iv = .int .i64 i ∧ Hid (Below w.heap.size w wr)) (fun iv _ => L - (intOf iv).toNat)
  case atStart => exact ⟨0, Nat.zero_le _, rfl, Below.refl _ _⟩
  case round =>
    obtain ⟨i, hi, rfl, HBw⟩ := hrel
    by_cases hlt : i < L
    · have hlt2 : (i : Int) < (L : Int) := by omega
      have hi2 : i < ts.length := by rw [HL.out]; exact hlt
      obtain ⟨b1, o1, rfl, k, tx, n, p, hvi, p0, p1, p2, p3⟩ := TksIn.get (HI.out.1.on HBw.out) i hi2
      obtain ⟨b2, o2, rfl, k', tx', n', p', hvi', r0, r1, r2, r3⟩ := TksIn.get (HI.out.2.on HBw.out) i hi2
      rw [hvi] at hvi'
      simp only [Tk.mk.injEq] at hvi'
      obtain ⟨rfl, rfl, rfl, rfl⟩ := hvi'
      simp only at p0 p1 p2 p3 r0 r1 r2 r3
      have hd0 : decide (0 ≤ (i : Int)) = true := by simp
      have hd1 : decide ((i : Int) < (L : Int)) = true := by simpa using hlt2
      have hEQ : ∀ W, (Op.equalIn 10000 46 (.agg #[.int .i64 k, .string tx, .int .i64 n, .int .i64 p]) (.agg #[.int .i64 k, .string tx, .int .i64 n, .int .i64 p])).run Tryz.prog W = .ok true W := fun W => by rw [eqT_, sameT_iff.2 rfl]
      clear hvi
      go_wp2_with fail
      go_quiet (fail)
      have HB2 := Lib.hid (below_drewN2 HBw.out nq)
      go_wp2_with fail
      go_roundw
      case rel => exact ⟨i + 1, by omega, by go_num, HB2⟩
      case measure => simp [intOf]; omega
    · obtain rfl : i = L := by omega
      have hlt2 : ¬ ((i : Int) < (i : Int)) := by omega
      go_wp2_with fail
      go_ret
      exact ⟨rfl, HBw.out⟩
end Go.Proofs.YtfmpnakonffkcaaGreatDoor
