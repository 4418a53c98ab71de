/- A crash among the arguments opened: a number, and choices. -/
import Derived.Test.YtjnhcanohefjiaaJRow
import Derived.ChangeSame
import Derived.Lib.SmallJoins
namespace Go.Proofs.Ytjnhcanohefjiaa
open Go.ChangeShapes Go.WideShapes Go.ChangeAt Go.RowKit Go.Joins

theorem cellsCr : Try.prog.cellsOf 25 = 2 := by kernel_rfl
set_option maxRecDepth 100000 in
theorem open_crash {H : Type} {enc : TypeId × Value → H} {W : World} {base : Nat} {v : Value} {d : DataW H} {p : List MemPlace}
    (hv : Value.okWide Try.prog W .any base 25 v) (h : DataW.Trod enc Try.prog W 0 (fun _ => true) true 25 v d p) :
    ∃ (am : Int) (ca : Option Addr) (cs : List Int) (cc : Nat), v = .agg #[.int .i64 am, .slice ca cs.length cc] ∧ IntsIn W ca cs ∧ (ca = none → cc = 0) ∧ ((d.weights Try.prog 25).all (· ≤ reachBytes) = true → cs.length * 8 ≤ reachBytes) := by
  obtain ⟨v0, v1, y0, y1, n, rfl, rfl, rfl, h0, h1⟩ := open_agg2 Try.underlying25 (by kernel_rfl) cellsCr hv h
  obtain ⟨x0, f0, _, _⟩ := DataW.trod_int Try.underlying3 h0
  obtain ⟨d4, p4⟩ := y1
  obtain ⟨ca, cs, cc, f1, z1, z2, z3, z4⟩ := ints_of h1
  simp at f0 f1
  subst f0 f1
  refine ⟨x0, ca, cs, cc, rfl, z1, z2, fun hw => ?_⟩
  rw [List.all_eq_true] at hw
  rcases len_weight (P := Try.prog) Try.underlying23 (n := cs.length) (by rcases z4 with ⟨e1, e2⟩ | e; exact .inl ⟨e1, by rw [e2]; rfl⟩; exact .inr e) with e | ⟨k, hk, hle⟩
  · omega
  · rw [bytes3] at hle
    have := hw k (by
      unfold DataW.weights
      rw [Try.underlying25]
      simp only [DataW.weightsEach, List.map_cons, List.mem_append]
      exact .inr (.inl hk))
    simp at this
    omega
end Go.Proofs.Ytjnhcanohefjiaa
