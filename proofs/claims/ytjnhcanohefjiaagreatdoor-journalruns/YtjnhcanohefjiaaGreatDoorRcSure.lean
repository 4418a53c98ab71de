/- What is known of a row of one's own. -/
import Derived.Test.YtjnhcanohefjiaaGreatDoorRcFrame
namespace Go.Proofs.YtjnhcanohefjiaaGreatDoor
open Go.RowKit Go.Sort

theorem own_cap {w : World} {base n c : Nat} {a : Option Addr} {xs : List Nat} (h : Own w base (.slice a n c) xs) : xs.length ≤ c := by
  rcases h.2 with ⟨h', e⟩ | ⟨g', cap', cur, h', _, _, hnc, _⟩
  · cases h'
    omega
  · cases h'
    exact hnc
/-- A row that is not empty lies somewhere. -/
theorem own_at {w : World} {base n c : Nat} {a : Option Addr} {xs : List Nat} (h : Own w base (.slice a n c) xs) (h0 : 0 < xs.length) : ∃ g, a = some ⟨g, 0, none⟩ := by
  rcases h.2 with ⟨_, e⟩ | ⟨g, _, _, e, _⟩
  · omega
  · simp only [Value.slice.injEq] at e
    exact ⟨g, e.1⟩
end Go.Proofs.YtjnhcanohefjiaaGreatDoor
