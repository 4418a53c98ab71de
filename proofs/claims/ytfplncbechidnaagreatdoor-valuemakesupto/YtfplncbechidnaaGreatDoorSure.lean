/- The walk of the law's 'sure'. -/
import Derived.Test.YtfplncbechidnaaGreatDoorW5
namespace Go.Proofs.YtfplncbechidnaaGreatDoor
open Go.RowKit Go.Sort

theorem its_ok : validN ⟨2, 0, ⟨#[105, 116, 39, 115]⟩, false⟩ = 0 ∧ prS ⟨2, 0, ⟨#[105, 116, 39, 115]⟩, false⟩ = [39, 105, 116, 39, 39, 115, 39] := ⟨by decide, by decide⟩
set_option maxHeartbeats 1000000 in
theorem sure_ (w : World) (hE : Env w) : Calls Tryz.prog 19 #[] w fun e w' => e = .returned (.bool true) ∧ Below w.heap.size w w' := by
  have HBo : Hid (∀ W, Calls Tryz.prog 13 #[.bool false] W fun e w' => e = .returned (.agg #[.int .i64 3, .int .i64 0, .string ⟨#[]⟩, .bool false]) ∧ Below W.heap.size W w') := fun W => bool_ _ W
  have HNU : Hid (∀ W, Calls Tryz.prog 8 #[] W fun e w' => e = .returned (.agg #[.int .i64 0, .int .i64 0, .string ⟨#[]⟩, .bool false]) ∧ Below W.heap.size W w') := fun W => null_ W
  have HT : Hid (∀ W, Calls Tryz.prog 11 #[.string ⟨#[105, 116, 39, 115]⟩] W fun e w' => e = .returned (.agg #[.int .i64 2, .int .i64 0, .string ⟨#[105, 116, 39, 115]⟩, .bool false]) ∧ Below W.heap.size W w') := fun W => text_ _ W
  have HA : Hid (∀ W, Calls Tryz.prog 26 #[.agg #[.int .i64 3, .int .i64 0, .string ⟨#[]⟩, .bool false], .agg #[.int .i64 0, .int .i64 0, .string ⟨#[]⟩, .bool false]] W fun e w' => e = .returned (.tuple #[.agg #[.int .i64 3, .int .i64 0, .string ⟨#[]⟩, .bool false], .nilIface]) ∧ Below W.heap.size W w') := fun W => and_ 3 0 ⟨#[]⟩ false 0 0 ⟨#[]⟩ false W
  have HP : Hid (∀ W, Env W → Calls Tryz.prog 4 #[.agg #[.int .i64 2, .int .i64 0, .string ⟨#[105, 116, 39, 115]⟩, .bool false]] W fun e w' => e = .returned (.tuple #[.string ⟨#[39, 105, 116, 39, 39, 115, 39]⟩, .nilIface]) ∧ Below W.heap.size W w') := fun W hW => by
    have := print_ 2 0 ⟨#[105, 116, 39, 115]⟩ false W inI_zero hW
    rw [its_ok.1, its_ok.2] at this
    exact this
  have HE := Lib.hid hE
  clear hE
  go_enter Tryz.func19, Tryz.ntmps19
  go_wp2_with fail
  refine (HBo.out _).mono ?_
  rintro e w1 ⟨rfl, hb1⟩
  go_wp2_with fail
  refine (HNU.out _).mono ?_
  rintro e w2 ⟨rfl, hb2⟩
  go_wp2_with fail
  refine (HA.out _).mono ?_
  rintro e w3 ⟨rfl, hb3⟩
  have HB3 := Lib.hid (below_step (below_step hb1 hb2) hb3)
  clear hb1 hb2 hb3 HA HNU
  go_wp2_with fail
  refine (HT.out _).mono ?_
  rintro e w4 ⟨rfl, hb4⟩
  have HB4 : Hid (Below w.heap.size w w4) := below_step (below_step HB3.out ((Below.refl _ _).alloc (Nat.le_refl _) _)) hb4
  have HI4 : Hid (In4 w4 w3.heap.size 0 3 0 ⟨#[]⟩ false) := (in4_new w3 3 0 ⟨#[]⟩ false 23).on hb4
  clear HB3 hb4 HT
  go_wp2_with fail
  refine (HP.out _ (HE.out.on HB4.out)).mono ?_
  rintro e w5 ⟨rfl, hb5⟩
  have HB5 := Lib.hid (below_step HB4.out hb5)
  obtain ⟨p0, p1, p2, p3⟩ := HI4.out.on hb5
  have hEQ : ∀ W, (Op.equalIn 10000 23 (.agg #[.int .i64 3, .int .i64 0, .string ⟨#[]⟩, .bool false]) (.agg #[.int .i64 3, .int .i64 0, .string ⟨#[]⟩, .bool false])).run Tryz.prog W = .ok true W := fun W => by rw [eqIn_, sameV_refl]
  have hGD := guardV
  clear HB4 HI4 hb5 HP HE
  go_wp2_with fail
  have k0 := cell_regrown p0
  have k1 := cell_regrown p1
  have k2 := cell_regrown p2
  have k3 := cell_regrown p3
  refine wp_region_quiet_below (by kernel_rfl) (by kernel_rfl) ?_
  repeat (go_big_quiet_step (first | (go_at_call 13; exact Calls.regrown_of (HBo.out _))))
  refine wpQuiet_nil ?_
  intro _ hw'
  obtain ⟨⟨dq, osq⟩, hw''⟩ := hw'
  subst hw''
  have hbq := Lib.hid (below_step HB5.out (below_regrown w5 dq osq))
  generalize grow (redrawn w5 dq) osq = W2 at *
  go_wp2_with fail
  go_ret
  exact ⟨rfl, hbq.out⟩
end Go.Proofs.YtfplncbechidnaaGreatDoor
