/- What must come whatever the input is: the law's 'sure'; two items compared. -/
import Derived.Test.YtnkdhipeklphaaaDoorHQ2
namespace Go.Proofs.YtnkdhipeklphaaaDoor
open Go.RowKit Go.Sort Go.Maps

theorem push_ {w : World} {N qb : Nat} {r : List Sl} {t : Nat} {mv v : Value} {n : Nat} {b : Nat → Nat} {S : Nat → Sl} (h : Qu w N qb r t mv v n b S) (id rank : Int) (hid : inI id) (hrk : inI rank) (hin : ∀ y ∈ r, y.id ≠ id) (ht : t + 1 ≤ 1000000) (hnl : n + 1 ≤ 17592186044416) :
    Calls Tryd.prog 6 #[.pointer (some ⟨qb, 0, none⟩), .int .i64 id, .int .i64 rank] w fun e w' => e = .returned .nilIface ∧ (∃ mv' v' b' S', Qu w' N qb (insL r ⟨id, rank, ⟨#[]⟩, (t : Int) + 1⟩) (t + 1) mv' v' (n + 1) b' S') ∧ FQ N w w' := by
  rcases h.mvv with ⟨m, rfl⟩
  cases m with
  | none => exact push_none h id rank hid hrk hin ht hnl
  | some m => exact push_map h id rank hid hrk hin ht hnl
theorem part_at (w : World) (A : Array Value) (i : Nat) (v : Value) (ty : TypeId) (hagg : (isAgg ty).run Tryd.prog w = .ok false w) (h : A[i]? = some v) : (part ty A i).run Tryd.prog w = .ok v w := by
  simp [part, Sem.run_bind, hagg, h]
theorem agg3 (w : World) : (isAgg 3).run Tryd.prog w = .ok false w := by
  unfold isAgg; rw [Sem.run_bind, run_underlying Tryd.underlying3 w]; rfl
theorem eqI23 (w : World) : (Op.equalIn 10000 37 (.agg #[.int .i64 2, .int .i64 3]) (.agg #[.int .i64 2, .int .i64 3])).run Tryd.prog w = .ok true w := by kernel_rfl
set_option maxHeartbeats 1000000 in
theorem sure_ (w : World) : Calls Tryd.prog 18 #[] w fun e w' => e = .returned (.bool true) ∧ Below w.heap.size w w' := by
  have hE := eqI23
  have HN := Lib.hid (new_ w)
  go_enter Tryd.func18, Tryd.ntmps18
  go_wp2_with fail
  refine HN.out.mono ?_
  rintro e w1 ⟨rfl, hb1, hq1⟩
  have HB1 := Lib.hid hb1
  have HP1 := Lib.hid (push_ hq1 1 5 ⟨by decide, by decide⟩ ⟨by decide, by decide⟩ (fun y hy => by simp at hy) (by omega) (by omega))
  clear hb1 hq1 HN
  go_wp2_with fail
  refine HP1.out.mono ?_
  rintro e w2 ⟨rfl, ⟨mv2, v2, b2, S2, hq2⟩, hf2⟩
  have HP2 := Lib.hid (push_ hq2 2 3 ⟨by decide, by decide⟩ ⟨by decide, by decide⟩ (fun y hy => by simp [insL] at hy; subst hy; decide) (by omega) (by omega))
  have HF2 := Lib.hid hf2
  clear hq2 hf2 HP1
  go_wp2_with fail
  refine HP2.out.mono ?_
  rintro e w3 ⟨rfl, ⟨mv3, v3, b3, S3, hq3⟩, hf3⟩
  have hl : insL (insL [] ⟨1, 5, ⟨#[]⟩, ((0 : Nat) : Int) + 1⟩) ⟨2, 3, ⟨#[]⟩, ((0 + 1 : Nat) : Int) + 1⟩ = [⟨2, 3, ⟨#[]⟩, 2⟩, ⟨1, 5, ⟨#[]⟩, 1⟩] := by simp [insL]
  rw [hl] at hq3
  have HP3 := Lib.hid (pop_some hq3)
  have HF3 := Lib.hid (HF2.out.trans hf3)
  clear hq3 hf3 HP2 hl
  go_wp2_with fail
  refine HP3.out.mono ?_
  rintro e w4 ⟨rfl, ⟨mv4, v4, b4, S4, hq4⟩, hf4⟩
  have HL4 := Lib.hid hq4
  have HF4 := Lib.hid (HF3.out.trans hf4)
  have HB4 : Hid (Below w.heap.size w w4) := HB1.out.trans (HF4.out.below HB1.out.size)
  clear hq4 hf4 HP3 HF2 HF3
  go_wp2_with fail
  refine (qlen_ (HL4.out.on ((Below.refl _ _).alloc (Nat.le_refl _) _)).ln).mono ?_
  rintro e w5 ⟨rfl, rfl⟩
  have HB5 := Lib.hid (below_step HB4.out ((Below.refl _ _).alloc (Nat.le_refl _) (.cells #[.int .i64 2, .int .i64 3] 37)))
  go_wp2_with fail
  go_ret
  exact ⟨rfl, HB5.out⟩
end Go.Proofs.YtnkdhipeklphaaaDoor
