/- For every text: lex.Lex of it and of the same text with great letters in the place of small ones, but within quotes, are the same tokens but for their places, at the same places, with the same error. Conditions: none on the text but the form's own (it fits a machine's memory); the card's own: the program's start has laid the library's tables, errors and type of errors as its text says. -/
import Derived.Test.YtfmpnakonffkcaaGreatDoorLxWit
import Derived.Test.YtfmpnakonffkcaaGreatDoorLxDoorE
import Derived.Test.YtfmpnakonffkcaaGreatDoorCasesWalk
import Derived.SizedLaws
namespace Go.Proofs.YtfmpnakonffkcaaGreatDoor
open Go.ChangeShapes Go.WideShapes Go.ChangeAt Go.RowKit Go.Joins
open Go.ChangeMaps (open_string shut_string)

theorem string_lim {H : Type} {ts : List TypeId} {ds : List (DataW H)} {s : ByteArray} (h : (DataW.weightsEach Tryz.prog ts ds).all (· ≤ reachBytes) = true) {j : Nat} {t : TypeId} (ht : ts[j]? = some t) (hd : ds[j]? = some (.lit (.string s.data.toList))) : s.size ≤ 140737488351232 := by
  have := sized_string h ht hd
  have e3 : reachBytes = 140737488351232 := by decide
  rw [Array.length_toList] at this
  show s.data.size ≤ _
  omega
theorem cases_met (os : Os) (args : Array Value) : laidMetH Tryz.prog Rows.lexCasesRow.laid (({ World.doorLaid Tryz.prog 79 os with heap := (((World.doorLaid Tryz.prog 79 os).heap.setIfInBounds 3 (.cells (Pinned.utf8FirstZ.map fun z : Nat => Value.int .u8 (z : Int)).toArray 131)).setIfInBounds 1 (.cells #[.slice (some ⟨(World.doorLaid Tryz.prog 79 default).heap.size, 0, none⟩) 336 336] (Tryz.lays159_ren.t 162))).push (.cells Lib.caseCells5 (Tryz.lays159_ren.t 208)) } : World).forCall (fun _ _ => 0) ⟨#[], args, []⟩).memory :=
  laidMetH_of_parts3 (fuel := 8) (wit_case os args) (by kernel_rfl) (by kernel_rfl)
theorem cases_reading (os : Os) {H : Type} (enc : TypeId × Value → H) : ∃ places, DataW.whole enc Tryz.prog (({ World.doorLaid Tryz.prog 79 os with heap := (((World.doorLaid Tryz.prog 79 os).heap.setIfInBounds 3 (.cells (Pinned.utf8FirstZ.map fun z : Nat => Value.int .u8 (z : Int)).toArray 131)).setIfInBounds 1 (.cells #[.slice (some ⟨(World.doorLaid Tryz.prog 79 default).heap.size, 0, none⟩) 336 336] (Tryz.lays159_ren.t 162))).push (.cells Lib.caseCells5 (Tryz.lays159_ren.t 208)) } : World).forCall (fun _ _ => 0) ⟨#[], #[.string ⟨#[]⟩], []⟩).memory Tryz.f5.params.toList Rows.lexCasesSpec.vars false (#[.string ⟨#[]⟩] : Array Value).toList 8 = some ([.lit (.string [])], [], places) :=
  ⟨[], by kernel_rfl⟩

set_option maxRecDepth 100000 in
theorem cases_lifted (os : Os) (started : os.Started) (H : Type) (enc : TypeId × Value → H) (F : Stop.Interp) :
    ReturnsInHanded {} Tryz.checked os 5 .any ((OpenSpec.ofChange Rows.lexCasesSpec).preRow enc Tryz.prog Tryz.f5 Rows.lexCasesRow.domain false Rows.lexCasesRow.laid) (((OpenSpec.ofChange Rows.lexCasesSpec).at F).post enc Tryz.prog Tryz.f5 false true false false) := by
  obtain ⟨places, hx⟩ := cases_reading os enc
  refine returnsInHanded_of_row (C := Tryz.checked) (s := OpenSpec.ofChange Rows.lexCasesSpec) own started (by kernel_rfl) Tryz.func5
    (witness_row_atRef (enc := enc) (C := Tryz.checked) false ({ World.doorLaid Tryz.prog 79 os with heap := (((World.doorLaid Tryz.prog 79 os).heap.setIfInBounds 3 (.cells (Pinned.utf8FirstZ.map fun z : Nat => Value.int .u8 (z : Int)).toArray 131)).setIfInBounds 1 (.cells #[.slice (some ⟨(World.doorLaid Tryz.prog 79 default).heap.size, 0, none⟩) 336 336] (Tryz.lays159_ren.t 162))).push (.cells Lib.caseCells5 (Tryz.lays159_ren.t 208)) } : World) #[.string ⟨#[]⟩] rfl (by kernel_rfl) (by kernel_rfl) (by kernel_rfl)
      (OpenSpec.preRow_of_cond 8 hx (by kernel_rfl) (fun k hk => by cases hk) (by kernel_rfl) (cases_met os _))) ?_
  intro W base args ds gs before hval0 hW _ _ hsz0 hL hsh _
  have hsz : (DataW.weightsEach Tryz.prog (Tryz.f5.params.toList ++ (OpenSpec.ofChange Rows.lexCasesSpec).bare.plain.varTypes Tryz.prog) (ds ++ gs)).all (· ≤ reachBytes) = true := hsz0
  clear hsz0
  have hval : ∀ (j : Nat) t v, Tryz.f5.params[j]? = some t → args[j]? = some v → Value.okWide Tryz.prog W .any base t v := hval0
  have hW' := hW
  obtain ⟨p, q, hA0, hV, rfl, hfz, hnd⟩ := hW
  have hA : DataW.TrodAll enc Tryz.prog W 0 (fun _ => true) true Tryz.f5.params.toList args.toList ds p := hA0
  rw [Tryz.params5] at hA hval hsz
  obtain ⟨v0, d0, rfl, rfl, h0⟩ := trodAll_one hA
  obtain ⟨rfl, rfl⟩ := trodVars_none hV
  obtain ⟨s, rfl, rfl, rfl, hs⟩ := open_string Tryz.underlying9 (hval 0 9 v0 rfl rfl) h0
  have hL' : laidMet Tryz.prog [("math/bits.deBruijn32tab", Rows.laid_math_bits_deBruijn32tab), ("math/bits.deBruijn64tab", Rows.laid_math_bits_deBruijn64tab), ("internal/strconv.uint64pow10", Rows.laid_internal_strconv_uint64pow10), ("unicode/utf8.acceptRanges", Rows.laid_unicode_utf8_acceptRanges), ("strconv.ErrRange", Rows.laid_strconv_ErrRange), ("strconv.ErrSyntax", Rows.laid_strconv_ErrSyntax), ("unicode.CaseRanges", Rows.laid_unicode_CaseRanges), ("unicode/utf8.first", Rows.laid_unicode_utf8_first)] W ∧ handlesMet Tryz.prog [("errors.errorType", Rows.laid_errors_errorType)] W := hL
  have hE := env_of hL'.1 hsh
  have hT := err_of_handles hL'.2
  clear hA0 hval0
  refine (cases_ s W (string_lim hsz (j := 0) rfl rfl) hE hT).mono fun e W' ⟨he, hb⟩ => ?_
  subst he
  exact ⟨_, rfl, _, _, _, [], [], [], hW', trodAll_mk1 (shut_bool Tryz.underlying4 _), trodAll_mk1 (shut_string Tryz.underlying9 hs), rfl, hb.frame _, fun h => by cases h⟩

theorem cases_said : Rows.LexCasesSaid :=
  OpenClaim.holds_of_cond 5 Tryz.f5 rfl rfl rfl rfl rfl rfl rfl ⟨rfl, rfl, rfl, rfl, rfl⟩ rfl rfl rfl rfl rfl (by kernel_rfl) Tryz.func5 (by kernel_rfl)
    (of_decide_eq_true (by kernel_rfl)) (by unfold Func.isWrapper; first | (rw [if_pos (by decide +kernel)]; kernel_rfl) | (rw [if_neg (by decide +kernel)]; exact ⟨rfl, rfl⟩))
    (fun os started H enc _ F => by rw [OpenClaim.pre_eq_preRow]; exact cases_lifted os started H enc F)

theorem cases_plain (f : FuncId) (fn : Func) (hf : Tryz.pinned.checked.prog.funcNamed Rows.lexCasesRow.func = some f) (hfn : Tryz.pinned.checked.prog.funcs[f]? = some fn) :
    true = Tryz.pinned.checked.prog.looks [] ∧ ∀ (j : Nat) t, fn.params[j]? = some t → Tryz.pinned.checked.prog.wantsStandIn t = false := by
  obtain rfl : f = 5 := Option.some.inj ((show Tryz.prog.funcNamed Rows.lexCasesRow.func = some 5 by kernel_rfl).symm.trans hf) |>.symm
  obtain rfl : fn = Tryz.f5 := (Option.some.inj (Tryz.func5.symm.trans hfn)).symm
  refine ⟨by kernel_rfl, fun j t ht => ?_⟩
  rw [Tryz.params5] at ht
  have hm := Array.mem_of_getElem? ht
  simp at hm
  subst hm
  exact (show Tryz.prog.wantsStandIn 9 = false by kernel_rfl)

theorem cases_card : Rows.LexCasesCardSaid :=
  Claim7.holds_tied_plain_at .later [] _ _ _ _ cases_said (fun _ h => by cases h) (by kernel_rfl) (fun _ h => by cases h) lexCases_row_tie rfl ⟨rfl, rfl⟩ (by kernel_rfl) rfl cases_plain (by kernel_rfl)
#print axioms cases_card
end Go.Proofs.YtfmpnakonffkcaaGreatDoor
