/- For all labels and tables and every two lists of commits, together of bulk at most 1048576: where a store for them may be, what the last label sees of the first table's rows with the snapshot behind the first list's commits (20 at the most) is the same, row by row, behind the second list's; the snapshot has a number for each label; and two instances of a row at two labels are seen as the document says. No condition but the bound on the bulk. -/
import Derived.Test.YtnfogneanjgppaaGreatJ39
import Derived.Test.YtnfogneanjgppaaGreatPastWalk
namespace Go.Proofs.YtnfogneanjgppaaGreat
open Go.ChangeShapes Go.WideShapes Go.ChangeAt Go.RowKit

set_option maxRecDepth 100000 in
theorem past_lifted (os : Os) (started : os.Started) (H : Type) (enc : TypeId × Value → H) (F : Stop.Interp) :
    ReturnsInHanded {} Tryz.checked os 3 .any ((Rows.OpenSpec.upto Rows.fragmentPastSpec).pre6 enc Tryz.prog Tryz.f3 Rows.fragmentPastUptoRow.domain false) (((Rows.OpenSpec.upto Rows.fragmentPastSpec).at F).post enc Tryz.prog Tryz.f3 false true false false) := by
  refine returnsInHanded_of_cond (C := Tryz.checked) (s := Rows.OpenSpec.upto Rows.fragmentPastSpec) (k := Rows.uptoSmall) rfl Tb.own started (by kernel_rfl) Tryz.func3
    (OpenSpec.witness (enc := enc) (C := Tryz.checked) (s := Rows.OpenSpec.upto Rows.fragmentPastSpec) (k := Rows.uptoSmall) rfl false ⟨#[], #[.agg #[.slice none 0 0, .slice none 0 0], .slice none 0 0, .slice none 0 0], []⟩ 8 (by kernel_rfl) (by kernel_rfl) (by kernel_rfl)
      (x := ([.agg [.nil, .nil], .nil, .nil], [], [])) (by kernel_rfl) rfl (by kernel_rfl)) ?_
  intro W base args ds gs before hval0 hW _ hk _
  have hval : ∀ (j : Nat) t v, Tryz.f3.params[j]? = some t → args[j]? = some v → Value.okWide Tryz.prog W .any base t v := hval0
  have hW' := hW
  obtain ⟨p, q, hA0, hV, rfl, hfz, hnd⟩ := hW
  have hA : DataW.TrodAll enc Tryz.prog W 0 (fun _ => true) true Tryz.f3.params.toList args.toList ds p := hA0
  rw [Tryz.params3] at hA hval
  obtain ⟨v0, v1, v2, d0, d1, d2, p0, p1, p2, rfl, rfl, rfl, h0, h1, h2⟩ := trodAll_three hA
  obtain ⟨rfl, rfl⟩ := trodVars_none hV
  obtain ⟨la, ta, ls, ts, lc, tc, rfl, hl1, hl2, hl3, ht1, ht2, b1, b2, b3⟩ := open_case (hval 0 25 v0 rfl rfl) h0
  obtain ⟨ca, cl, cc, rfl, hc1, hc2, hc3⟩ := open_cms (hval 1 26 v1 rfl rfl) h1
  obtain ⟨cb, cm, cd, rfl, hm1, hm2, hm3⟩ := open_cms (hval 2 26 v2 rfl rfl) h2
  simp only [List.append_nil] at hk
  have hb : Rows.uptoBulkAll [d0, d1, d2] ≤ 1048576 := of_decide_eq_true hk
  simp only [Rows.uptoBulkAll] at hb
  obtain ⟨x1, x2⟩ := bulk_cms hc3
  obtain ⟨y1, y2⟩ := bulk_cms hm3
  have hlt0 : ∀ x ∈ p0, x.block < W.heap.size := fun x hx => hW'.lt x (by simp [hx])
  have hlt1 : ∀ x ∈ p1, x.block < W.heap.size := fun x hx => hW'.lt x (by simp [hx])
  have hlt2 : ∀ x ∈ p2, x.block < W.heap.size := fun x hx => hW'.lt x (by simp [hx])
  clear hA0 hval0
  refine (past_walk (lc := lc) (tc := tc) (cc := cc) (cd := cd) hl1 hl3 hl2 (by omega) ht1 ht2 (by omega) (fun t ht => by have := b3 t ht; omega) hc1 hm1
    (fun y hy x hx => ⟨⟨(hc2 y hy x hx).1, by have := x2 y hy x hx; omega⟩, (hc2 y hy x hx).2⟩) (fun y hy x hx => ⟨⟨(hm2 y hy x hx).1, by have := y2 y hy x hx; omega⟩, (hm2 y hy x hx).2⟩) (by omega)).mono fun e W' ⟨he, hb⟩ => ?_
  subst he
  exact ⟨_, rfl, _, _, _, [], _, [], hW', trodAll_mk1 (shut_bool Tryz.underlying4 _), trodAll_mk3 (Below.trod Tb.laidOut (by kernel_rfl) (of_decide_eq_true (by kernel_rfl)) h0 hb hlt0) (Below.trod Tb.laidOut (by kernel_rfl) (of_decide_eq_true (by kernel_rfl)) h1 hb hlt1) (Below.trod Tb.laidOut (by kernel_rfl) (of_decide_eq_true (by kernel_rfl)) h2 hb hlt2), rfl, hb.frame _, fun h => by cases h⟩

theorem past_said : Rows.FragmentPastUptoSaid :=
  OpenClaim.holds_of_cond 3 Tryz.f3 rfl rfl rfl rfl rfl rfl rfl ⟨rfl, rfl, rfl, rfl, rfl⟩ rfl rfl rfl rfl rfl (by kernel_rfl) Tryz.func3 (by kernel_rfl)
    (of_decide_eq_true (by kernel_rfl)) (by unfold Func.isWrapper; first | (rw [if_pos (by decide +kernel)]; kernel_rfl) | (rw [if_neg (by decide +kernel)]; exact ⟨rfl, rfl⟩))
    (fun os started H enc _ F => past_lifted os started H enc F)
#print axioms past_said
end Go.Proofs.YtnfogneanjgppaaGreat
