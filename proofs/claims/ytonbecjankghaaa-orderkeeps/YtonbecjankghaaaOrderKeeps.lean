/- For all two lists of values a and b and every number at: where all values of both may be and neither has too many, the texts that order.Encode lays are ordered as the lists are, order.Decode reads a's text as a, and the text of each begin of a is laid and is a begin of a's text. No condition but the form's own: each of the arguments takes no more bytes than a machine can reach. -/
import Derived.Test.YtonbecjankghaaaORow
import Derived.Test.YtonbecjankghaaaKeepsEq
import Derived.Test.YtonbecjankghaaaKeepsLt
import Derived.Test.YtonbecjankghaaaKeepsGt
namespace Go.Proofs.Ytonbecjankghaaa
open Go.ChangeShapes Go.WideShapes Go.ChangeAt Go.RowKit

/-- What OrderKeeps says. -/
theorem law_keeps (a a' : Option Addr) (c c' : Nat) (at_ : Int) (xs ys : List Val) (w : World) (h : ValsIn w a xs) (h' : ValsIn w a' ys) (hw : ∀ x ∈ xs, inI x.n) (hw' : ∀ x ∈ ys, inI x.n) (hlen : xs.length * 40 ≤ 140737488355328) (hlen' : ys.length * 40 ≤ 140737488355328) (hnil : a = none → c = 0) (hnil' : a' = none → c' = 0) (hcap : xs.length ≤ c)
    (hm : ∃ m, w.cell? ⟨0, 0, none⟩ = some (.int .i64 m)) (hat : inI at_) :
    Calls Try.prog 4 #[.slice a xs.length c, .slice a' ys.length c', .int .i64 at_] w fun e w' => e = .returned (.bool true) ∧ Below w.heap.size w w' := by
  by_cases h0 : errL xs = 0
  · by_cases h1 : errL ys = 0
    · have ox : ∀ v ∈ xs, OkV v := fun v hv => ⟨((errL_zero xs).1 h0).1 v hv, hw v hv⟩
      have oy : ∀ v ∈ ys, OkV v := fun v hv => ⟨((errL_zero ys).1 h1).1 v hv, hw' v hv⟩
      have hk := enc_keeps xs ys ox oy
      have tl : ∀ l : List UInt8, (⟨l.toArray⟩ : ByteArray).toList = l := fun l => by rw [Lib.toList_data]
      rcases cmpT_cases (encL xs) (encL ys) with ⟨e, hl⟩ | ⟨e, hl⟩ | ⟨e, hl⟩
      · exact keeps_lt a a' c c' at_ xs ys w h h' hw hw' hlen hlen' hnil hnil' hcap hm hat h0 h1 _ _ rfl rfl (by rw [tl, tl]; exact hl) (by rw [← hk]; exact e)
      · exact keeps_eq a a' c c' at_ xs ys w h h' hw hw' hlen hlen' hnil hnil' hcap hm hat h0 h1 _ _ rfl rfl (by rw [tl, tl, hl]; exact less_irrefl _) (by rw [tl, tl, hl]; simp) (by rw [← hk]; exact e)
      · exact keeps_gt a a' c c' at_ xs ys w h h' hw hw' hlen hlen' hnil hnil' hcap hm hat h0 h1 _ _ rfl rfl (by rw [tl, tl]; exact less_asymm hl) (by
          rw [tl, tl]
          simp only [beq_eq_false_iff_ne, ne_eq]
          intro e2
          rw [e2, less_irrefl] at hl
          cases hl) (by rw [← hk]; exact e)
    · exact keeps_bad2 a a' c c' at_ xs ys w h h' hw hw' hlen hlen' hnil hnil' h0 _ rfl h1
  · exact keeps_bad a a' c c' at_ xs ys w h h' hw hw' hlen hlen' hnil hnil' _ rfl h0 _ rfl
set_option maxRecDepth 100000 in
theorem keeps_lifted (os : Os) (started : os.Started) (H : Type) (enc : TypeId × Value → H) :
    ReturnsInHanded {} Try.checked os 4 .any (Rows.orderKeepsSpec.pre6 enc Try.prog Try.f4 Rows.orderKeepsRow.domain false) (Rows.orderKeepsSpec.post enc Try.prog Try.f4 false true false false) := by
  refine returnsInHanded_of_change_shaped (C := Try.checked) own started (by kernel_rfl) Try.func4
    (ChangeSpec.witness6 (enc := enc) (C := Try.checked) false ⟨#[], #[.slice none 0 0, .slice none 0 0, .int .i64 0], []⟩ 8 (by kernel_rfl) (by kernel_rfl) (by kernel_rfl) (by kernel_rfl)) ?_
  intro W base args ds gs before hval0 hW _ hsz0 hSh _
  have hsz : (DataW.weightsEach Try.prog (Try.f4.params.toList ++ Rows.orderKeepsSpec.plain.varTypes Try.prog) (ds ++ gs)).all (· ≤ reachBytes) = true := hsz0
  clear hsz0
  have hval : ∀ (j : Nat) t v, Try.f4.params[j]? = some t → args[j]? = some v → Value.okWide Try.prog W .any base t v := hval0
  have hW' := hW
  obtain ⟨p, q, hA0, hV, rfl, hfz, hnd⟩ := hW
  have hA : DataW.TrodAll enc Try.prog W 0 (fun _ => true) true Try.f4.params.toList args.toList ds p := hA0
  rw [Try.params4] at hA hval hsz
  obtain ⟨v0, v1, v2, d0, d1, d2, p0, p1, p2, rfl, rfl, rfl, h0, h1, h2⟩ := trodAll_three hA
  obtain ⟨rfl, rfl⟩ := trodVars_none hV
  obtain ⟨a, xs, c, rfl, hin, hwf, hcap, _, hnil, hcase⟩ := open_values Try.underlying22 (hval 0 22 v0 rfl rfl) h0
  obtain ⟨a', ys, c', rfl, hin', hwf', _, _, hnil', hcase'⟩ := open_values Try.underlying22 (hval 1 22 v1 rfl rfl) h1
  obtain ⟨n, rfl, rfl, rfl, wn⟩ := open_int Try.underlying3 (hval 2 3 v2 rfl rfl) h2
  have hlim := values_lim hsz (j := 0) rfl rfl hcase
  have hlim' := values_lim hsz (j := 1) rfl rfl hcase'
  have hlt : ∀ x ∈ p0 ++ p1, x.block < W.heap.size := fun x hx => hW'.lt x (by simpa using hx)
  have hm := max_of_shape hSh
  clear hA0 hval0
  refine (law_keeps a a' c c' n xs ys W hin hin' (fun x hx => (hwf x hx).2.1) (fun x hx => (hwf' x hx).2.1) (by omega) (by omega) hnil hnil' hcap hm (i64_in wn)).mono fun e W' ⟨he, hb⟩ => ?_
  subst he
  exact ⟨_, rfl, _, _, _, [], _, [], hW', trodAll_mk1 (shut_bool Try.underlying4 _), trodAll_mk3 (Below.trod laidOut (by kernel_rfl) (of_decide_eq_true (by kernel_rfl)) h0 hb (fun x hx => hlt x (by simp [hx]))) (Below.trod laidOut (by kernel_rfl) (of_decide_eq_true (by kernel_rfl)) h1 hb (fun x hx => hlt x (by simp [hx]))) (shut_int Try.underlying3 wn), rfl, hb.frame _, fun h => by cases h⟩

theorem keeps_said : Rows.OrderKeepsSaid :=
  OpenClaim.holds_of_wide 4 Try.f4 rfl rfl rfl rfl rfl rfl rfl ⟨rfl, rfl, rfl, rfl, rfl⟩ rfl rfl rfl rfl rfl (by kernel_rfl) Try.func4 (by kernel_rfl)
    (of_decide_eq_true (by kernel_rfl)) (by unfold Func.isWrapper; first | (rw [if_pos (by decide +kernel)]; kernel_rfl) | (rw [if_neg (by decide +kernel)]; exact ⟨rfl, rfl⟩))
    (fun os started H enc _ => keeps_lifted os started H enc)
#print axioms keeps_said
end Go.Proofs.Ytonbecjankghaaa
