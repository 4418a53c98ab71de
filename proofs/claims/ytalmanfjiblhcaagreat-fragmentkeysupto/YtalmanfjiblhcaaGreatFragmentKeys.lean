/- For all labels and tables, every list of commits and every number, together of bulk at most 1048576: where a store for them may be, what a label sees of the first table's rows, behind the first 30 commits, is of each key at most one row of each label, at a label below, those of one key behind one another by their labels' places, the keys in order, and each row is what that label's own fragment holds. No condition but the bound on the bulk. -/
import Derived.Test.YtalmanfjiblhcaaGreatJ39
import Derived.Test.YtalmanfjiblhcaaGreatKeysWalk
namespace Go.Proofs.YtalmanfjiblhcaaGreat
open Go.ChangeShapes Go.WideShapes Go.ChangeAt Go.RowKit Go.Joins
set_option maxRecDepth 100000 in
theorem keys_lifted (os : Os) (started : os.Started) (H : Type) (enc : TypeId × Value → H) (F : Stop.Interp) :
 ReturnsInHanded {} Tryz.checked os 4 .any ((Rows.OpenSpec.upto Rows.fragmentKeysSpec).pre6 enc Tryz.prog Tryz.f4 Rows.fragmentKeysUptoRow.domain false) (((Rows.OpenSpec.upto Rows.fragmentKeysSpec).at F).post enc Tryz.prog Tryz.f4 false true false false) := by
 refine returnsInHanded_of_cond (C := Tryz.checked) (s := Rows.OpenSpec.upto Rows.fragmentKeysSpec) (k := Rows.uptoSmall) rfl Tb.own started (by kernel_rfl) Tryz.func4
  (OpenSpec.witness (enc := enc) (C := Tryz.checked) (s := Rows.OpenSpec.upto Rows.fragmentKeysSpec) (k := Rows.uptoSmall) rfl false ⟨#[], #[.agg #[.slice none 0 0, .slice none 0 0], .slice none 0 0, .int .i64 0], []⟩ 8 (by kernel_rfl) (by kernel_rfl) (by kernel_rfl)
    (x := ([.agg [.nil, .nil], .nil, .lit (.int .i64 0)], [], [])) (by kernel_rfl) rfl (by kernel_rfl)) ?_
 intro W base args ds gs before hval0 hW _ hk _
 have hval : ∀ (j : Nat) t v, Tryz.f4.params[j]? = some t → args[j]? = some v → Value.okWide Tryz.prog W .any base t v := hval0
 have hW' := hW
 obtain ⟨p, q, hA0, hV, rfl, hfz, hnd⟩ := hW
 have hA : DataW.TrodAll enc Tryz.prog W 0 (fun _ => true) true Tryz.f4.params.toList args.toList ds p := hA0
 rw [Tryz.params4] at hA hval
 obtain ⟨v0, v1, v2, d0, d1, d2, p0, p1, p2, rfl, rfl, rfl, h0, h1, h2⟩ := trodAll_three hA
 obtain ⟨rfl, rfl⟩ := trodVars_none hV
 obtain ⟨la, ta, ls, ts, lc, tc, rfl, hl1, hl2, hl3, ht1, ht2, b1, b2, b3⟩ := open_case (hval 0 25 v0 rfl rfl) h0
 obtain ⟨ca, cl, cc, rfl, hc1, hc2, hc3⟩ := open_cms (hval 1 26 v1 rfl rfl) h1
 obtain ⟨y, rfl, rfl, rfl, wy⟩ := open_int Tryz.underlying3 (hval 2 3 v2 rfl rfl) h2
 simp only [List.append_nil] at hk
 have hb : Rows.uptoBulkAll [d0, d1, .lit (.int .i64 y)] ≤ 1048576 := of_decide_eq_true hk
 simp only [Rows.uptoBulkAll] at hb
 obtain ⟨x1, x2⟩ := bulk_cms hc3
 have hlt0 : ∀ x ∈ p0, x.block < W.heap.size := fun x hx => hW'.lt x (by simp [hx])
 have hlt1 : ∀ x ∈ p1, x.block < W.heap.size := fun x hx => hW'.lt x (by simp [hx])
 clear hA0 hval0
 refine (keys_walk (lc := lc) (tc := tc) (cc := cc) y hl1 hl3 hl2 (by omega) ht1 ht2 (by omega) (fun t ht => by have := b3 t ht; omega) hc1
  (fun y hy x hx => ⟨⟨(hc2 y hy x hx).1, by have := x2 y hy x hx; omega⟩, (hc2 y hy x hx).2⟩) (by omega) (fun t ht => by have := b3 t ht; omega)).mono fun e W' ⟨he, hb⟩ => ?_
 subst he
 exact ⟨_, rfl, _, _, _, [], _, [], hW', trodAll_mk1 (shut_bool Tryz.underlying4 _), trodAll_mk3 (Below.trod Tb.laidOut (by kernel_rfl) (of_decide_eq_true (by kernel_rfl)) h0 hb hlt0) (Below.trod Tb.laidOut (by kernel_rfl) (of_decide_eq_true (by kernel_rfl)) h1 hb hlt1) (shut_int Tryz.underlying3 wy), rfl, hb.frame _, fun h => by cases h⟩
theorem keys_said : Rows.FragmentKeysUptoSaid :=
 OpenClaim.holds_of_cond 4 Tryz.f4 rfl rfl rfl rfl rfl rfl rfl ⟨rfl, rfl, rfl, rfl, rfl⟩ rfl rfl rfl rfl rfl (by kernel_rfl) Tryz.func4 (by kernel_rfl)
  (of_decide_eq_true (by kernel_rfl)) (by unfold Func.isWrapper; first | (rw [if_pos (by decide +kernel)]; kernel_rfl) | (rw [if_neg (by decide +kernel)]; exact ⟨rfl, rfl⟩))
  (fun os started H enc _ F => keys_lifted os started H enc F)
#print axioms keys_said
end Go.Proofs.YtalmanfjiblhcaaGreat
