/- For all ranges a and b and every key: whether the key lies in a, whether a is empty, how a is told, what a and b have together, the range of the keys that begin with the key, and the range of the key alone are all as the document says. Condition: the ranges and the key hold together at most 1048576 values and letters (without it the call would make a slice that no memory bears). -/
import Derived.Test.YteeojhmdefhlmaaCuRow
import Derived.Test.YteeojhmdefhlmaaRangesWalk
import Derived.JoinedCond
namespace Go.Proofs.Yteeojhmdefhlmaa
open Go.ChangeShapes Go.WideShapes Go.ChangeAt Go.RowKit
open Go.ChangeMaps (open_string)

theorem bulk_ranges {H : Type} {a b : Rg} {k : ByteArray} (hk : Rows.uptoSmall H [datR a, datR b, .lit (.string k.data.toList)] = true) : a.f.size ≤ 1048576 ∧ a.t.size ≤ 1048576 ∧ k.size ≤ 1048576 := by
  have h : Rows.uptoBulkAll [datR (H := H) a, datR b, .lit (.string k.data.toList)] ≤ 1048576 := of_decide_eq_true hk
  simp only [datR, Rows.uptoBulkAll, Rows.uptoBulk] at h
  rw [size_list, size_list, size_list]
  omega
set_option maxRecDepth 100000 in
theorem ranges_lifted (os : Os) (started : os.Started) (H : Type) (enc : TypeId × Value → H) (F : Stop.Interp) :
    ReturnsInHanded {} Try.checked os 3 .any ((Rows.OpenSpec.upto Rows.cursorRangesSpec).pre6 enc Try.prog Try.f3 Rows.cursorRangesUptoRow.domain false) (((Rows.OpenSpec.upto Rows.cursorRangesSpec).at F).post enc Try.prog Try.f3 false true false false) := by
  refine returnsInHanded_of_cond (C := Try.checked) (s := Rows.OpenSpec.upto Rows.cursorRangesSpec) (k := Rows.uptoSmall) rfl ownC started (by kernel_rfl) Try.func3
    (OpenSpec.witness (enc := enc) (C := Try.checked) (s := Rows.OpenSpec.upto Rows.cursorRangesSpec) (k := Rows.uptoSmall) rfl false ⟨#[], #[.agg #[.string ⟨#[]⟩, .string ⟨#[]⟩, .bool false, .bool false, .bool false, .bool false], .agg #[.string ⟨#[]⟩, .string ⟨#[]⟩, .bool false, .bool false, .bool false, .bool false], .string ⟨#[]⟩], []⟩ 8 (by kernel_rfl) (by kernel_rfl) (by kernel_rfl)
      (x := ([.agg [.lit (.string []), .lit (.string []), .lit (.bool false), .lit (.bool false), .lit (.bool false), .lit (.bool false)], .agg [.lit (.string []), .lit (.string []), .lit (.bool false), .lit (.bool false), .lit (.bool false), .lit (.bool false)], .lit (.string [])], [], [])) (by kernel_rfl) rfl (by kernel_rfl)) ?_
  intro W base args ds gs before hval0 hW _ hk _
  have hval : ∀ (j : Nat) t v, Try.f3.params[j]? = some t → args[j]? = some v → Value.okWide Try.prog W .any base t v := hval0
  have hW' := hW
  obtain ⟨p, q, hA0, hV, rfl, hfz, hnd⟩ := hW
  have hA : DataW.TrodAll enc Try.prog W 0 (fun _ => true) true Try.f3.params.toList args.toList ds p := hA0
  rw [Try.params3] at hA hval
  obtain ⟨v0, v1, v2, d0, d1, d2, p0, p1, p2, rfl, rfl, rfl, h0, h1, h2⟩ := trodAll_three hA
  obtain ⟨rfl, rfl⟩ := trodVars_none hV
  obtain ⟨a, rfl, rfl, rfl⟩ := open_rg (hval 0 23 v0 rfl rfl) h0
  obtain ⟨b, rfl, rfl, rfl⟩ := open_rg (hval 1 23 v1 rfl rfl) h1
  obtain ⟨k, rfl, rfl, rfl, wk⟩ := open_string Try.underlying9 (hval 2 9 v2 rfl rfl) h2
  simp only [List.append_nil] at hk
  obtain ⟨ha, hb, hc⟩ := bulk_ranges hk
  have hlt : ∀ x ∈ ([] : List MemPlace), x.block < W.heap.size := fun x hx => by cases hx
  clear hA0 hval0
  refine (ranges_walk a b k W ha hb hc).mono fun e W' ⟨he, hb⟩ => ?_
  subst he
  exact ⟨_, rfl, _, _, _, [], _, [], hW', trodAll_mk1 (shut_bool Try.underlying4 _), trodAll_mk3 (Below.trod laidOutC (by kernel_rfl) (of_decide_eq_true (by kernel_rfl)) h0 hb hlt) (Below.trod laidOutC (by kernel_rfl) (of_decide_eq_true (by kernel_rfl)) h1 hb hlt) (Below.trod laidOutC (by kernel_rfl) (of_decide_eq_true (by kernel_rfl)) h2 hb hlt), rfl, hb.frame _, fun h => by cases h⟩

theorem ranges_said : Rows.CursorRangesUptoSaid :=
  OpenClaim.holds_of_cond 3 Try.f3 rfl rfl rfl rfl rfl rfl rfl ⟨rfl, rfl, rfl, rfl, rfl⟩ rfl rfl rfl rfl rfl (by kernel_rfl) Try.func3 (by kernel_rfl)
    (of_decide_eq_true (by kernel_rfl)) (by unfold Func.isWrapper; first | (rw [if_pos (by decide +kernel)]; kernel_rfl) | (rw [if_neg (by decide +kernel)]; exact ⟨rfl, rfl⟩))
    (fun os started H enc _ F => ranges_lifted os started H enc F)
#print axioms ranges_said
end Go.Proofs.Yteeojhmdefhlmaa
