/- The law's sure. -/
import Derived.Test.YteeojhmdefhlmaaCuText
namespace Go.Proofs.Yteeojhmdefhlmaa
open Go.RowKit Go.Sort

theorem sure_text : tellR ⟨⟨#[97]⟩, ⟨#[]⟩, true, false, false, false⟩ = ⟨#[91, 54, 49, 44, 41]⟩ := rfl
theorem sure_meet : meetR ⟨⟨#[97]⟩, ⟨#[99]⟩, true, true, false, false⟩ ⟨⟨#[97]⟩, ⟨#[98]⟩, true, true, true, false⟩ = ⟨⟨#[97]⟩, ⟨#[98]⟩, true, true, true, false⟩ := by
  have h1 : sameb ⟨#[97]⟩ ⟨#[97]⟩ = true := sameb_self _
  have h2 : ltb ⟨#[97]⟩ ⟨#[97]⟩ = false := ltb_irrefl _
  have h3 : ltb ⟨#[99]⟩ ⟨#[98]⟩ = false := by rw [ltb_data]; rfl
  have h4 : ltb ⟨#[98]⟩ ⟨#[99]⟩ = true := by rw [ltb_data]; rfl
  unfold meetR narE frmE toE joinR
  simp [h1, h2, h3, sameb_gt h4]
set_option maxRecDepth 100000 in
set_option maxHeartbeats 1000000 in
theorem sure_ (w : World) : Calls Try.prog 18 #[] w fun e w' => e = .returned (.bool true) ∧ Below w.heap.size w w' := by
  have HM : Hid (∀ W, Calls Try.prog 13 #[.agg #[.string ⟨#[97]⟩, .string ⟨#[99]⟩, .bool true, .bool true, .bool false, .bool false], .agg #[.string ⟨#[97]⟩, .string ⟨#[98]⟩, .bool true, .bool true, .bool true, .bool false]] W fun e w' => e = .returned (.agg #[.string ⟨#[97]⟩, .string ⟨#[98]⟩, .bool true, .bool true, .bool true, .bool false]) ∧ Below W.heap.size W w') := fun W => by
    have := meet_ ⟨⟨#[97]⟩, ⟨#[99]⟩, true, true, false, false⟩ ⟨⟨#[97]⟩, ⟨#[98]⟩, true, true, true, false⟩ W
    rw [sure_meet] at this
    exact this
  have HT : Hid (∀ W, Calls Try.prog 11 #[.agg #[.string ⟨#[97]⟩, .string ⟨#[]⟩, .bool true, .bool false, .bool false, .bool false]] W fun e w' => e = .returned (.string ⟨#[91, 54, 49, 44, 41]⟩) ∧ Below W.heap.size W w') := fun W => by
    have := text_ ⟨⟨#[97]⟩, ⟨#[]⟩, true, false, false, false⟩ W (by decide)
    rw [sure_text] at this
    exact this
  go_enter Try.func18, Try.ntmps18
  go_wp2_with (first
    | (go_at_call 13; refine (HM.out _).mono ?_; rintro e w1 ⟨rfl, hb⟩; have HB1 := Lib.hid hb; clear hb)
    | (go_at_call 11; refine (HT.out _).mono ?_; rintro e w2 ⟨rfl, hb⟩
       obtain ⟨c0, c1, c2, c3, c4, c5⟩ := (rgAt_new w1 ⟨⟨#[97]⟩, ⟨#[98]⟩, true, true, true, false⟩ 24).on hb (by simp [go_sem])
       have HB2 := Lib.hid hb; clear hb)
    | fail)
  go_ret
  exact ⟨rfl, below_step (below_step HB1.out (below_alloc _ _)) HB2.out⟩
end Go.Proofs.Yteeojhmdefhlmaa
