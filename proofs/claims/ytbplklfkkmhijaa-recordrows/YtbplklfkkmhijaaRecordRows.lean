/- For every epoch, all rows of bytes and every number: those of the first twenty that record.Frame tells no error of (it tells one of just those that are empty or have more than MaxBlob bytes, and gives nothing then) are framed one behind the other; record.Scan of the whole, with three bytes behind it that are no record, gives them all as they were, and how many bytes their records have; and cut at the number's rest, just those whose records lie ahead of the cut, and where the last of these ends. No condition but the form's own: each row is no more than a machine can reach. -/
import Derived.Test.YtbplklfkkmhijaaRowsWalk
namespace Go.Proofs.Ytbplklfkkmhijaa
open Go.ChangeShapes Go.WideShapes Go.ChangeAt Go.RowKit

set_option maxRecDepth 100000 in
theorem rw_lifted (os : Os) (started : os.Started) (H : Type) (enc : TypeId × Value → H) :
    ReturnsInHanded {} Try.checked os 3 .any (Rows.recordRowsSpec.pre6 enc Try.prog Try.f3 Rows.recordRowsRow.domain false) (Rows.recordRowsSpec.post enc Try.prog Try.f3 false true false false) := by
  refine returnsInHanded_of_change_sized (C := Try.checked) own started (by kernel_rfl) Try.func3
    (ChangeSpec.witness6 (enc := enc) (C := Try.checked) false ⟨#[], #[.int .u64 0, .slice none 0 0, .int .i64 0], []⟩ 8 (by kernel_rfl) (by kernel_rfl) (by kernel_rfl) (by kernel_rfl)) ?_
  intro W base args ds gs before hval0 hW _ hsz0 _
  have hsz : (DataW.weightsEach Try.prog (Try.f3.params.toList ++ Rows.recordRowsSpec.plain.varTypes Try.prog) (ds ++ gs)).all (· ≤ reachBytes) = true := hsz0
  clear hsz0
  have hval : ∀ (j : Nat) t v, Try.f3.params[j]? = some t → args[j]? = some v → Value.okWide Try.prog W .any base t v := hval0
  have hW' := hW
  obtain ⟨p, q, hA0, hV, rfl, hfz, hnd⟩ := hW
  have hA : DataW.TrodAll enc Try.prog W 0 (fun _ => true) true Try.f3.params.toList args.toList ds p := hA0
  rw [Try.params3] at hA hval hsz
  obtain ⟨v0, v1, v2, d0, d1, d2, p0, p1, p2, rfl, rfl, rfl, k0, k1, k2⟩ := trodAll_three hA
  obtain ⟨rfl, rfl⟩ := trodVars_none hV
  obtain ⟨z0, rfl, rfl, rfl, w0⟩ := open_int Try.underlying22 (hval 0 22 v0 rfl rfl) k0
  obtain ⟨e0, rfl, h0⟩ := u64_nat w0
  obtain ⟨a, n, c, f, rfl, hin, hlim, _⟩ := open_texts (hval 1 23 v1 rfl rfl) k1
  obtain ⟨ct, rfl, rfl, rfl, w2⟩ := open_int Try.underlying3 (hval 2 3 v2 rfl rfl) k2
  have hreach : reachBytes = 140737488351232 := by decide
  have hl : ∀ i, i < n → (f i).xs.length ≤ 140737488351232 := fun i hi => by
    have := hlim (List.all_eq_true.2 fun k hk => List.all_eq_true.1 hsz k (DataW.weights_mem_each (j := 1) rfl rfl k hk)) i hi
    rw [hreach] at this
    exact this
  have hlt1 : ∀ x ∈ p1, x.block < W.heap.size := fun x hx => hW'.lt x (by simp [hx])
  clear hA0 hval0
  refine (rows_law e0 a n c f ct W hin hl h0).mono fun e W' ⟨he, hb⟩ => ?_
  subst he
  exact ⟨_, rfl, _, _, _, [], _, [], hW', trodAll_mk1 (shut_bool Try.underlying4 _), trodAll_mk3 (shut_int Try.underlying22 w0) (Below.trod laidOut (by kernel_rfl) (of_decide_eq_true (by kernel_rfl)) k1 hb hlt1) (shut_int Try.underlying3 w2), rfl, hb.frame _, fun h => by cases h⟩

theorem rw_said : Rows.RecordRowsSaid :=
  OpenClaim.holds_of_wide 3 Try.f3 rfl rfl rfl rfl rfl rfl rfl ⟨rfl, rfl, rfl, rfl, rfl⟩ rfl rfl rfl rfl rfl (by kernel_rfl) Try.func3 (by kernel_rfl)
    (of_decide_eq_true (by kernel_rfl)) (by unfold Func.isWrapper; first | (rw [if_pos (by decide +kernel)]; kernel_rfl) | (rw [if_neg (by decide +kernel)]; exact ⟨rfl, rfl⟩))
    (fun os started H enc _ => rw_lifted os started H enc)
#print axioms rw_said
end Go.Proofs.Ytbplklfkkmhijaa
