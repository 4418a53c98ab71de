/- The walks of the law's 'values' and 'twin'. -/
import Derived.Test.YtlldamgnfaikhaaDoorRwMem
namespace Go.Proofs.YtlldamgnfaikhaaDoor
open Go.RowKit Go.Sort

set_option maxRecDepth 100000 in
set_option maxHeartbeats 1000000 in
theorem values_ (a a' : Option Addr) (c c' : Nat) (xs ys : List Val) (w : World) (h : ValsIn w a xs) (h' : ValsIn w a' ys) (hlen : xs.length ≤ 1048576) (hlen' : ys.length ≤ 1048576) :
    Calls Tryd.prog 12 #[.slice a xs.length c, .slice a' ys.length c'] w fun e w' => ∃ r : Bool, e = .returned (.bool r) ∧ (r = true ↔ xs = ys) ∧ Below w.heap.size w w' := by
  obtain ⟨L, hL⟩ : ∃ L, xs.length = L := ⟨_, rfl⟩
  obtain ⟨M, hM⟩ : ∃ M, ys.length = M := ⟨_, rfl⟩
  have HL := Lib.hid hL
  have HM := Lib.hid hM
  have HI := Lib.hid h
  have HI' := Lib.hid h'
  rw [hL] at hlen
  rw [hM] at hlen'
  rw [hL, hM]
  have hGD := guardV
  clear h h' hL hM
  by_cases hlm : L = M
  · subst hlm
    have hne : ((L : Int) != L) = false := by simp
    go_enter Tryd.func12, Tryd.ntmps12
    go_wp2_with fail
    go_loopw [5] (fun iv wr => ∃ i : Nat, i ≤ L ∧ iv = .int .i64 i ∧ Hid (xs.take i = ys.take i) ∧ Hid (Below w.heap.size w wr)) (fun iv _ => L - (intOf iv).toNat)
    case atStart => exact ⟨0, Nat.zero_le _, rfl, rfl, Below.refl _ _⟩
    case round =>
      obtain ⟨i, hi, rfl, HT, HBw⟩ := hrel
      by_cases hlt : i < L
      · have hlt2 : (i : Int) < (L : Int) := by omega
        have hi2 : i < xs.length := by rw [HL.out]; exact hlt
        have hi3 : i < ys.length := by rw [HM.out]; exact hlt
        obtain ⟨b, o, rfl, k, n, t, bb, hvi, p0, p1, p2, p3⟩ := ValsIn.get (HI.out.on HBw.out) i hi2
        obtain ⟨b', o', rfl, k', n', t', bb', hvi', r0, r1, r2, r3⟩ := ValsIn.get (HI'.out.on HBw.out) i hi3
        cases hs : sameV k n t bb k' n' t' bb'
        · have hEQ : ∀ W, (Op.equalIn 10000 47 (.agg #[.int .i64 k, .int .i64 n, .string t, .bool bb]) (.agg #[.int .i64 k', .int .i64 n', .string t', .bool bb'])).run Tryd.prog W = .ok false W := fun W => by rw [eqIn_, hs]
          have HX : Hid (¬ xs = ys) := fun e => by
            have : xs[i]'hi2 = ys[i]'hi3 := by subst e; rfl
            rw [hvi, hvi'] at this
            rw [sameV_iff.2 this] at hs; cases hs
          clear hs hvi hvi'
          go_wp2_with fail
          go_quiet (fail)
          have HB1 := Lib.hid (below_drewN HBw.out nq)
          go_wp2_with fail
          go_ret
          exact ⟨false, rfl, by simp [HX.out], HB1.out⟩
        · have hEQ : ∀ W, (Op.equalIn 10000 47 (.agg #[.int .i64 k, .int .i64 n, .string t, .bool bb]) (.agg #[.int .i64 k', .int .i64 n', .string t', .bool bb'])).run Tryd.prog W = .ok true W := fun W => by rw [eqIn_, hs]
          have HT2 : Hid (xs.take (i + 1) = ys.take (i + 1)) := by
            show _ = _
            rw [List.take_add_one, List.take_add_one, HT.out, List.getElem?_eq_getElem hi2, List.getElem?_eq_getElem hi3, hvi, hvi', sameV_iff.1 hs]
          clear hs hvi hvi' HT
          go_wp2_with fail
          go_quiet (fail)
          have HB1 := Lib.hid (below_drewN HBw.out nq)
          go_wp2_with fail
          go_roundw
          case rel => exact ⟨i + 1, by omega, by go_num, HT2, HB1⟩
          case measure => simp [intOf]; omega
      · obtain rfl : i = L := by omega
        have HX : Hid (xs = ys) := by
          have h1 : xs.take i = xs := List.take_of_length_le (by rw [HL.out]; exact Nat.le_refl _)
          have h2 : ys.take i = ys := List.take_of_length_le (by rw [HM.out]; exact Nat.le_refl _)
          show _ = _
          rw [← h1, HT.out, h2]
        clear HT
        go_wp2_with fail
        go_ret
        exact ⟨true, rfl, by simp [HX.out], HBw.out⟩
  · have hne : ((L : Int) != M) = true := by simp; omega
    have hne2 : ((L : Int) == M) = false := by simp; omega
    have HX : Hid (¬ xs = ys) := fun e => hlm (by rw [← HL.out, ← HM.out, e])
    go_enter Tryd.func12, Tryd.ntmps12
    go_wp2_with fail
    go_ret
    exact ⟨false, rfl, by simp [HX.out], Below.refl _ _⟩
end Go.Proofs.YtlldamgnfaikhaaDoor
