/- The document's Has. -/
import Derived.Test.YtagamkahfiackaaGreatDoorJ6
import Derived.Deep.CutRange
namespace Go.Proofs.YtagamkahfiackaaGreatDoor
open Go.RowKit Go.Sort

set_option maxRecDepth 100000 in
set_option maxHeartbeats 1000000 in
theorem rhas_ (r : Rg) (k : ByteArray) (w : World) : Calls Tryz.prog 31 #[rgV r, .string k] w fun e w' => e = .returned (.bool (hasR r k)) ∧ Below w.heap.size w w' := by
  obtain ⟨f, t, hf, ht, pf, po⟩ := r
  obtain ⟨b1, hb1⟩ : ∃ b, b = behR ⟨f, t, hf, ht, pf, po⟩ k := ⟨_, rfl⟩
  obtain ⟨b2, hb2⟩ : ∃ b, b = ahdR ⟨f, t, hf, ht, pf, po⟩ k := ⟨_, rfl⟩
  obtain ⟨R, hR⟩ : ∃ R, R = hasR ⟨f, t, hf, ht, pf, po⟩ k := ⟨_, rfl⟩
  have HR : Hid (R = (b1 && b2)) := by show _ = _; rw [hR, hb1, hb2]; rfl
  rw [← hR]
  obtain ⟨W0, hW0⟩ : ∃ W0, W0 = w.alloc (.cells #[.string f, .string t, .bool hf, .bool ht, .bool pf, .bool po] 24) := ⟨_, rfl⟩
  have HB : Hid (Below w.heap.size w W0) := by show Below _ _ _; rw [hW0]; exact below_alloc w _
  obtain ⟨c0, c1, c2, c3, c4, c5⟩ : RgAt W0 w.heap.size ⟨f, t, hf, ht, pf, po⟩ := by rw [hW0]; exact rgAt_new w ⟨f, t, hf, ht, pf, po⟩ _
  have HB1 := Lib.hid hb1
  have HB2 := Lib.hid hb2
  clear hR hb1 hb2
  unfold rgV
  dsimp only at *
  go_enter Tryz.func31, Tryz.ntmps31
  go_upto_region 1 with fail
  rw [← hW0]
  clear hW0
  generalize hn : w.heap.size = n at *
  have HNn := Lib.hid hn
  clear hn
  go_cut [5] from 7 to 26 (fun s wx => s = .bool b1 ∧ wx = W0)
  case first =>
    clear c1 c3 c5
    rcases ord3 k f with ⟨h1, h2, h3, _, _, h5, h6, _⟩ | ⟨h1, h2, h3, _, _, h5, h6, _⟩ | ⟨h1, h2, h3, _, _, h5, h6, _⟩
    all_goals (
      cases hf <;> cases pf
      all_goals (
        go_wp2_with fail
        go_meet
        case rel => exact ⟨by rw [HB1.out]; simp [behR, h5, h6], rfl⟩))
  case rest =>
    obtain ⟨rfl, hw⟩ := hcut
    subst hw
    go_upto_region 2 with fail
    go_cut [6] from 27 to 46 (fun s wx => s = .bool b2 ∧ wx = wc)
    case first =>
      clear c0 c2 c4
      rcases ord3 k t with ⟨h1, h2, h3, _, h5, _, h6, _⟩ | ⟨h1, h2, h3, _, h5, _, h6, _⟩ | ⟨h1, h2, h3, _, h5, _, h6, _⟩
      all_goals (
        cases ht <;> cases po
        all_goals (
          go_wp2_with fail
          go_meet
          case rel => exact ⟨by rw [HB2.out]; simp [ahdR, h5, h6], rfl⟩))
    case rest =>
      obtain ⟨rfl, hw⟩ := hcut
      subst hw
      cases b1
      all_goals (
        go_wp2_with fail
        go_ret
        exact ⟨by rw [HR.out]; simp, by rw [HNn.out]; exact HB.out⟩)
end Go.Proofs.YtagamkahfiackaaGreatDoor
