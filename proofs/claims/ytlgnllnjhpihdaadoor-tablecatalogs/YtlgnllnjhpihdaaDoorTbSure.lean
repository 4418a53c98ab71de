/- The walk of the law's 'sure'. -/
import Derived.Test.YtlgnllnjhpihdaaDoorTbParse
namespace Go.Proofs.YtlgnllnjhpihdaaDoor
open Go.RowKit Go.Sort

def sureS : ByteArray := ⟨#[84, 65, 66, 76, 69, 32, 116, 32, 40, 107, 32, 73, 78, 84, 32, 75, 69, 89, 44, 32, 115, 32, 84, 69, 88, 84, 32, 78, 85, 76, 76, 41]⟩
def sureT : Tab := ⟨⟨#[116]⟩, [⟨⟨#[107]⟩, 1, true, false⟩, ⟨⟨#[115]⟩, 2, false, true⟩]⟩
theorem sure_is : IsText sureT (lst sureS) := by
  constructor
  · decide
  · decide
theorem sure_prs : prsT (lst sureS) = sureT ∧ prsE (lst sureS) = 0 := by
  have h := sure_is
  have h2 : gPro (lst sureS) = sureT := isText_pro h
  have h3 : isT (lst sureS) (gPro (lst sureS)) = true := by rw [h2]; exact isT_iff.2 h
  exact ⟨by rw [prsT, if_pos h3, h2], by rw [prsE, if_pos h3]⟩
theorem sure_sel : nameL (lst ⟨#[115, 101, 108, 101, 99, 116]⟩) = false := by decide
set_option maxRecDepth 100000 in
set_option maxHeartbeats 1000000 in
theorem sure_ (w : World) (hm : MaxAt w) : Calls Tryd.prog 20 #[] w fun e w' => e = .returned (.bool true) ∧ Below w.heap.size w w' := by
  have HP : Hid (Calls Tryd.prog 21 #[.string ⟨#[84, 65, 66, 76, 69, 32, 116, 32, 40, 107, 32, 73, 78, 84, 32, 75, 69, 89, 44, 32, 115, 32, 84, 69, 88, 84, 32, 78, 85, 76, 76, 41]⟩] w fun e w' => ∃ b o c, e = .returned (.tuple #[.agg #[.string ⟨#[116]⟩, .slice (some ⟨b, o, none⟩) 2 c], .nilIface]) ∧ InC w' b o ⟨⟨#[107]⟩, 1, true, false⟩ ∧ InC w' b (o + 4) ⟨⟨#[115]⟩, 2, false, true⟩ ∧ Below w.heap.size w w') := by
    refine (parse_ sureS w (by decide) hm).mono ?_
    rintro e w' ⟨a, n, c, he, hn, hc, _, _, _, hb⟩
    rw [sure_prs.1] at hn hc he
    rw [sure_prs.2] at he
    obtain ⟨b, o, rfl, h0⟩ := hc 0 (by decide)
    obtain ⟨b', o', e', h1⟩ := hc 1 (by decide)
    simp only [Option.some.injEq, Addr.mk.injEq, and_true] at e'
    obtain ⟨rfl, rfl⟩ := e'
    subst hn
    exact ⟨b, o, c, he, h0, h1, hb⟩
  have HN : Hid (∀ W, Calls Tryd.prog 12 #[.string ⟨#[115, 101, 108, 101, 99, 116]⟩] W fun e w' => e = .returned (.bool false) ∧ w' = W) := fun W => by
    have := name_ ⟨#[115, 101, 108, 101, 99, 116]⟩ W
    rwa [sure_sel] at this
  clear hm
  go_enter Tryd.func20, Tryd.ntmps20
  go_wp2_with fail
  refine HP.out.mono ?_
  rintro e w1 ⟨b, o, c, rfl, h0, h1, hb⟩
  have HB := Lib.hid (below_step hb (below_alloc1 w1 (.cells #[.string ⟨#[116]⟩, .slice (some ⟨b, o, none⟩) 2 c] 24)))
  obtain ⟨p0, p1, p2, p3⟩ := h0.on (below_alloc1 w1 (.cells #[.string ⟨#[116]⟩, .slice (some ⟨b, o, none⟩) 2 c] 24))
  obtain ⟨q0, q1, q2, q3⟩ := h1.on (below_alloc1 w1 (.cells #[.string ⟨#[116]⟩, .slice (some ⟨b, o, none⟩) 2 c] 24))
  simp only at p2 q3
  clear h0 h1 hb HP p0 p1 p3 q0 q1 q2
  go_wp2_with (first | (go_at_call 12; refine (HN.out _).mono ?_; rintro e w2 ⟨rfl, rfl⟩) | fail)
  go_ret
  exact ⟨rfl, HB.out⟩
end Go.Proofs.YtlgnllnjhpihdaaDoor
