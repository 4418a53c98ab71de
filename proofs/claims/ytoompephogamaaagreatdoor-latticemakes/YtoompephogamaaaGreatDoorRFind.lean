/- The walk of the document's own Find. -/
import Derived.Test.YtoompephogamaaaGreatDoorFind
namespace Go.Proofs.YtoompephogamaaaGreatDoor
open Go.RowKit Go.Sort

theorem first_at {ls : List Lab} {x : Lab} {k : Nat} (hd : ls.Nodup) (hk : k < ls.length) (he : lab ls k = x) : x ∈ ls ∧ ls.idxOf x = k := by
  have hm : x ∈ ls := he ▸ lab_mem hk
  obtain ⟨p1, p2⟩ := place_at hm
  exact ⟨hm, lab_inj hd p1 hk (p2.trans he.symm)⟩
theorem none_at {ls : List Lab} {x : Lab} (hall : ∀ j, j < ls.length → lab ls j ≠ x) : x ∉ ls := fun hm => hall _ (place_at hm).1 (place_at hm).2

set_option maxHeartbeats 2000000 in
set_option maxRecDepth 100000 in
theorem r2Find_ (a : Option Addr) (c : Nat) (x : Lab) (ls : List Lab) (w : World) (h : LabsIn w a ls) (hn : ls.length ≤ 16) (hd : ls.Nodup) :
    Calls Tryz.prog 11 #[.slice a ls.length c, .agg #[.int .i64 x.1, .int .u32 x.2]] w fun e w' => Below w.heap.size w w' ∧ ((x ∈ ls ∧ e = .returned (.tuple #[.int .i64 (ls.idxOf x), .int .i64 0])) ∨ (x ∉ ls ∧ e = .returned (.tuple #[.int .i64 0, .int .i64 8]))) := by
  have HFA : Hid (∀ k, k < ls.length → lab ls k = x → x ∈ ls ∧ ls.idxOf x = k) := fun k hk he => first_at hd hk he
  have HNA : Hid ((∀ j, j < ls.length → lab ls j ≠ x) → x ∉ ls) := none_at
  have HL := Lib.hid h
  clear h hd
  obtain ⟨n, hnn⟩ : ∃ n, ls.length = n := ⟨_, rfl⟩
  rw [hnn] at hn HFA HNA ⊢
  have HLn : Hid (∀ W, Below w.heap.size w W → ∀ i, i < n → ∃ b o, a = some ⟨b, o, none⟩ ∧ W.cell? ⟨b, o + i * 2, none⟩ = some (.int .i64 (lab ls i).1) ∧ W.cell? ⟨b, o + i * 2 + 1, none⟩ = some (.int .u32 (lab ls i).2)) := fun W hW i hi => HL.out.on hW i (hnn ▸ hi)
  clear hnn HL
  obtain ⟨X, hX⟩ : ∃ X : Lab, X = x := ⟨_, rfl⟩
  have hal : Below w.heap.size w (w.alloc (.cells #[.int .i64 x.1, .int .u32 x.2] 25)) := (Below.refl _ _).alloc (Nat.le_refl _) _
  rw [← hX] at HFA HNA
  have HQ : Hid (∀ (e : Ending) (w' : World), (Below w.heap.size w w' ∧ ((X ∈ ls ∧ e = .returned (.tuple #[.int .i64 (ls.idxOf X), .int .i64 0])) ∨ (X ∉ ls ∧ e = .returned (.tuple #[.int .i64 0, .int .i64 8])))) → (Below w.heap.size w w' ∧ ((x ∈ ls ∧ e = .returned (.tuple #[.int .i64 (ls.idxOf x), .int .i64 0])) ∨ (x ∉ ls ∧ e = .returned (.tuple #[.int .i64 0, .int .i64 8]))))) := fun e w' hh => by rw [hX] at hh; exact hh
  refine Calls.mono ?_ fun e w' hh => HQ.out e w' hh
  have hX1 : x.1 = X.1 := by rw [hX]
  have hX2 : x.2 = X.2 := by rw [hX]
  have HX1 := Lib.hid hX1
  have HX2 := Lib.hid hX2
  clear HQ hX hX1 hX2
  generalize x.1 = xr at *
  generalize x.2 = xc at *
  go_enter Tryz.func11, Tryz.ntmps11
  go_wp2_with fail
  go_loopw [6] (fun iv wr => ∃ k : Nat, k ≤ n ∧ iv = .int .i64 k ∧ Below (w.heap.size + 1) (w.alloc (.cells #[.int .i64 xr, .int .u32 xc] 25)) wr ∧ ∀ j, j < k → lab ls j ≠ X) (fun iv _ => n - (intOf iv).toNat)
  case atStart => exact ⟨0, Nat.zero_le _, rfl, Below.refl _ _, fun j hj => by omega⟩
  case round =>
    obtain ⟨k, hk, rfl, hbk, hall⟩ := hrel
    have HA := Lib.hid hall
    obtain ⟨b0, b1, hz⟩ := box1 hbk
    have hb : Below w.heap.size w wr := hal.trans (hbk.mono (by omega))
    clear hall
    by_cases hlt : k < n
    · obtain ⟨b, o, rfl, c1, c2⟩ := HLn.out wr hb k hlt
      by_cases heq : lab ls k = X
      · obtain ⟨m1, m2⟩ := HFA.out k hlt heq
        have HM1 := Lib.hid m1
        have HM2 := Lib.hid m2
        have e1 : (lab ls k).1 = xr := by rw [heq, HX1.out]
        have e2 : (lab ls k).2 = xc := by rw [heq, HX2.out]
        rw [e1] at c1
        rw [e2] at c2
        clear heq m1 m2 e1 e2
        go_wp2_with fail
        go_quiet (fail)
        have hb2 : Below w.heap.size w (wr.drewN nq) := hb.trans ((below_drewN' wr nq).mono hb.size)
        generalize wr.drewN nq = W2 at *
        clear c1 c2 b0 b1
        go_wp2_with fail
        go_ret2
        exact ⟨hb2, .inl ⟨HM1.out, by rw [HM2.out]; rfl⟩⟩
      · have HN := Lib.hid heq
        by_cases hr : (lab ls k).1 = xr
        · have hcc : ¬ (((lab ls k).2 : Int) = (xc : Int)) := fun e => HN.out (Prod.ext (hr.trans HX1.out) (by rw [← HX2.out]; omega))
          have hcb : ((((lab ls k).2 : Int) == (xc : Int))) = false := beq_false_of_ne hcc
          have hcn : ((lab ls k).2 == xc) = false := beq_false_of_ne (fun e => hcc (by rw [e]))
          rw [hr] at c1
          clear heq hr
          generalize (lab ls k).2 = dd at *
          go_wp2_with fail
          go_quiet (fail)
          have hb2 : Below (w.heap.size + 1) (w.alloc (.cells #[.int .i64 xr, .int .u32 xc] 25)) (wr.drewN nq) := hbk.trans ((below_drewN' wr nq).mono hz)
          generalize wr.drewN nq = W2 at *
          clear c1 c2 b0 b1
          go_wp2_with fail
          go_roundw
          case rel =>
            refine ⟨k + 1, by omega, by go_num, hb2, fun j hj => ?_⟩
            by_cases e : j = k
            · subst e; exact HN.out
            · exact HA.out j (by omega)
          case measure => simp [intOf]; omega
        · have hrb : ((lab ls k).1 == xr) = false := beq_false_of_ne hr
          clear heq
          generalize (lab ls k).1 = rr at *
          generalize (lab ls k).2 = dd at *
          go_wp2_with fail
          go_quiet (fail)
          have hb2 : Below (w.heap.size + 1) (w.alloc (.cells #[.int .i64 xr, .int .u32 xc] 25)) (wr.drewN nq) := hbk.trans ((below_drewN' wr nq).mono hz)
          generalize wr.drewN nq = W2 at *
          clear c1 c2 b0 b1
          go_wp2_with fail
          go_roundw
          case rel =>
            refine ⟨k + 1, by omega, by go_num, hb2, fun j hj => ?_⟩
            by_cases e : j = k
            · subst e; exact HN.out
            · exact HA.out j (by omega)
          case measure => simp [intOf]; omega
    · obtain rfl : k = n := by omega
      have HM := Lib.hid (HNA.out fun j hj => HA.out j hj)
      go_wp2_with fail
      go_ret2
      exact ⟨hb, .inr ⟨HM.out, rfl⟩⟩
end Go.Proofs.YtoompephogamaaaGreatDoor
