/- For every value that may be and every op: whatever is compared, reckoned or joined with null is null. No condition but the card's own: the program's start has laid the library's tables as its text says. -/
import Derived.Test.YtfplncbechidnabDoorRow
import Derived.Test.YtfplncbechidnabDoorNullsWalk
namespace Go.Proofs.YtfplncbechidnabDoor
open Go.ChangeShapes Go.WideShapes Go.ChangeAt Go.RowKit Go.Joins

theorem valueNulls_met (os : Os) (args : Array Value) : laidMetH Tryd.prog Rows.valueNullsRow.laid (({ World.doorLaid Tryd.prog 41 os with heap := (World.doorLaid Tryd.prog 41 os).heap.setIfInBounds 3 (.cells (Pinned.utf8FirstZ.map fun z : Nat => Value.int .u8 (z : Int)).toArray 114) } : World).forCall (fun _ _ => 0) ⟨#[], args, []⟩).memory :=
  laidMetH_of_parts3 (fuel := 8) (laidMet_of_run' 8 (by kernel_rfl) (by kernel_rfl)) (by kernel_rfl) (by kernel_rfl)
theorem valueNulls_reading (os : Os) {H : Type} (enc : TypeId × Value → H) : ∃ places, DataW.whole enc Tryd.prog (({ World.doorLaid Tryd.prog 41 os with heap := (World.doorLaid Tryd.prog 41 os).heap.setIfInBounds 3 (.cells (Pinned.utf8FirstZ.map fun z : Nat => Value.int .u8 (z : Int)).toArray 114) } : World).forCall (fun _ _ => 0) ⟨#[], #[.agg #[.int .i64 0, .int .i64 0, .string ⟨#[]⟩, .bool false], .int .u8 0], []⟩).memory Tryd.f4.params.toList Rows.valueNullsSpec.vars false (#[.agg #[.int .i64 0, .int .i64 0, .string ⟨#[]⟩, .bool false], .int .u8 0] : Array Value).toList 8 = some ([.agg [.lit (.int .i64 0), .lit (.int .i64 0), .lit (.string []), .lit (.bool false)], .lit (.int .u8 0)], [], places) :=
  ⟨[], by kernel_rfl⟩

set_option maxRecDepth 100000 in
theorem valueNulls_lifted (os : Os) (started : os.Started) (H : Type) (enc : TypeId × Value → H) (F : Stop.Interp) :
    ReturnsInHanded {} Tryd.checked os 4 .any ((OpenSpec.ofChange Rows.valueNullsSpec).preRow enc Tryd.prog Tryd.f4 Rows.valueNullsRow.domain false Rows.valueNullsRow.laid) (((OpenSpec.ofChange Rows.valueNullsSpec).at F).post enc Tryd.prog Tryd.f4 false true false false) := by
  obtain ⟨places, hx⟩ := valueNulls_reading os enc
  refine returnsInHanded_of_row (C := Tryd.checked) (s := OpenSpec.ofChange Rows.valueNullsSpec) own started (by kernel_rfl) Tryd.func4
    (witness_row_atRef (enc := enc) (C := Tryd.checked) false ({ World.doorLaid Tryd.prog 41 os with heap := (World.doorLaid Tryd.prog 41 os).heap.setIfInBounds 3 (.cells (Pinned.utf8FirstZ.map fun z : Nat => Value.int .u8 (z : Int)).toArray 114) } : World) #[.agg #[.int .i64 0, .int .i64 0, .string ⟨#[]⟩, .bool false], .int .u8 0] rfl (by kernel_rfl) (by kernel_rfl) (by kernel_rfl)
      (OpenSpec.preRow_of_cond 8 hx (by kernel_rfl) (fun k hk => by cases hk) (by kernel_rfl) (valueNulls_met os _))) ?_
  intro W base args ds gs before hval0 hW _ _ _ hL hsh _
  have hval : ∀ (j : Nat) t v, Tryd.f4.params[j]? = some t → args[j]? = some v → Value.okWide Tryd.prog W .any base t v := hval0
  have hW' := hW
  obtain ⟨p, q, hA0, hV, rfl, hfz, hnd⟩ := hW
  have hA : DataW.TrodAll enc Tryd.prog W 0 (fun _ => true) true Tryd.f4.params.toList args.toList ds p := hA0
  rw [Tryd.params4] at hA hval
  obtain ⟨v0, v1, d0, d1, p0, p1, rfl, rfl, rfl, h0, h1⟩ := trodAll_two hA
  obtain ⟨rfl, rfl⟩ := trodVars_none hV
  obtain ⟨k0, n0, t0, b0, rfl, rfl, rfl, wk0, wn0, ht0⟩ := open_val (hval 0 23 v0 rfl rfl) h0
  obtain ⟨y1, rfl, rfl, rfl, wy1⟩ := open_int Tryd.underlying5 (hval 1 5 v1 rfl rfl) h1
  have hL' : laidMet Tryd.prog [("math/bits.deBruijn32tab", Rows.laid_math_bits_deBruijn32tab), ("math/bits.deBruijn64tab", Rows.laid_math_bits_deBruijn64tab), ("internal/strconv.uint64pow10", Rows.laid_internal_strconv_uint64pow10), ("unicode/utf8.acceptRanges", Rows.laid_unicode_utf8_acceptRanges), ("unicode/utf8.first", Rows.laid_unicode_utf8_first)] W := hL
  have hE : Env W := ⟨max_of_shape hsh, pow_of_laid hL'⟩
  clear hA0 hval0
  simp only [List.append_nil] at hW'
  refine (nulls_ k0 n0 t0 b0 y1 W (u8_in wy1) hE).mono fun e W' ⟨he, hb⟩ => ?_
  subst he
  exact ⟨_, rfl, _, _, _, [], [], [], hW', trodAll_mk1 (shut_bool Tryd.underlying4 _), trodAll_mk2 (shut_val wk0 wn0 ht0 _ _) (shut_int Tryd.underlying5 wy1), rfl, hb.frame _, fun h => by cases h⟩

theorem valueNulls_said : Rows.ValueNullsSaid :=
  OpenClaim.holds_of_cond 4 Tryd.f4 rfl rfl rfl rfl rfl rfl rfl ⟨rfl, rfl, rfl, rfl, rfl⟩ rfl rfl rfl rfl rfl (by kernel_rfl) Tryd.func4 (by kernel_rfl)
    (of_decide_eq_true (by kernel_rfl)) (by unfold Func.isWrapper; first | (rw [if_pos (by decide +kernel)]; kernel_rfl) | (rw [if_neg (by decide +kernel)]; exact ⟨rfl, rfl⟩))
    (fun os started H enc _ F => by rw [OpenClaim.pre_eq_preRow]; exact valueNulls_lifted os started H enc F)

theorem valueNulls_plain (f : FuncId) (fn : Func) (hf : Tryd.pinned.checked.prog.funcNamed Rows.valueNullsRow.func = some f) (hfn : Tryd.pinned.checked.prog.funcs[f]? = some fn) :
    true = Tryd.pinned.checked.prog.looks [] ∧ ∀ (j : Nat) t, fn.params[j]? = some t → Tryd.pinned.checked.prog.wantsStandIn t = false := by
  obtain rfl : f = 4 := Option.some.inj ((show Tryd.prog.funcNamed Rows.valueNullsRow.func = some 4 by kernel_rfl).symm.trans hf) |>.symm
  obtain rfl : fn = Tryd.f4 := (Option.some.inj (Tryd.func4.symm.trans hfn)).symm
  refine ⟨by kernel_rfl, fun j t ht => ?_⟩
  rw [Tryd.params4] at ht
  have hm := Array.mem_of_getElem? ht
  simp at hm
  rcases hm with rfl | rfl
  · exact (show Tryd.prog.wantsStandIn 23 = false by kernel_rfl)
  · exact (show Tryd.prog.wantsStandIn 5 = false by kernel_rfl)

theorem valueNulls_card : Rows.ValueNullsCardSaid :=
  Claim7.holds_tied_plain_at .later [] _ _ _ _ valueNulls_said (fun _ h => by cases h) (by kernel_rfl) (fun _ h => by cases h) valueNulls_row_tie rfl ⟨rfl, rfl⟩ (by kernel_rfl) rfl valueNulls_plain (by kernel_rfl)
#print axioms valueNulls_card
end Go.Proofs.YtfplncbechidnabDoor
