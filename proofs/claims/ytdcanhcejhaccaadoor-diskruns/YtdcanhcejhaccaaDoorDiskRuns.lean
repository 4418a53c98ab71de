/- For every size and every list of things done to a device: of such a size, written, read, synced, armed and started anew as the list says, of at most its first 150, disk.Disk answers each time what the document's own device answers, tells whether it has crashed and which sectors are pending as that does; a clone of it, started anew, holds in each sector what the document's device holds, whatever is done to the first; of a size that is none, both refuse it with error 1. No condition but the card's own: the program's start has laid the library's type of errors as its text says, and the arguments take no more bytes than a machine can reach. -/
import Derived.Test.YtdcanhcejhaccaaDoorDDoor
import Derived.Test.YtdcanhcejhaccaaDoorRuns
import Derived.ChangeSame
namespace Go.Proofs.YtdcanhcejhaccaaDoor
open Go.ChangeShapes Go.WideShapes Go.ChangeAt Go.RowKit Go.Joins

theorem cellsZ : Tryd.prog.cellsOf 23 = 2 := by kernel_rfl
set_option maxRecDepth 100000 in
/-- A size that is handed in. -/
theorem open_size {H : Type} {enc : TypeId × Value → H} {W : World} {base : Nat} {v : Value} {d : DataW H} {p : List MemPlace}
    (hv : Value.okWide Tryd.prog W .any base 23 v) (h : DataW.Trod enc Tryd.prog W 0 (fun _ => true) true 23 v d p) :
    ∃ R S : Int, v = .agg #[.int .i64 R, .int .i64 S] := by
  obtain ⟨cs, rfl, hsz⟩ := okWide_struct Tryd.underlying23 hv
  rw [cellsZ] at hsz
  obtain ⟨fuel, h⟩ := h
  obtain ⟨l⟩ := cs
  obtain ⟨u0, u1, rfl⟩ := two_of (show l.length = 2 from hsz)
  have h' : DataW.trod enc Tryd.prog W 0 (fun _ => true) true fuel 23 [u0, u1] = some (d, p) := by simpa [Value.cells] using h
  obtain ⟨y0, y1, n, _, _, g0, g1⟩ := trod_struct2 Tryd.underlying23 h'
  simp [cells3] at g0 g1
  obtain ⟨x0, f0, _, _⟩ := DataW.trod_int Tryd.underlying3 g0
  obtain ⟨x1, f1, _, _⟩ := DataW.trod_int Tryd.underlying3 g1
  simp at f0 f1
  exact ⟨x0, x1, by rw [f0, f1]⟩
theorem runs_ (R S : Int) (a : Option Addr) (n c : Nat) (f : Nat → ActV) (w : World) (hin : ActsAt w a n f) (hlim : ∀ i, i < n → (f i).dxs.length ≤ 140737488351232 ∧ (f i).cs.length * 8 ≤ 140737488351232) (hE : ErrType w) :
    Calls Tryd.prog 3 #[.agg #[.int .i64 R, .int .i64 S], .slice a n c] w fun e w' => e = .returned (.bool true) ∧ Below w.heap.size w w' := by
  by_cases h : 1 ≤ R ∧ R ≤ 16 ∧ 1 ≤ S ∧ S ≤ 16384
  · exact runs_ok R S a n c f w hin hlim hE h
  · exact runs_bad R S a n c w hE h
theorem runs8_met (os : Os) (args : Array Value) : laidMetH Tryd.prog Rows.diskRunsRow.laid ((World.doorLaid Tryd.prog 16 os).forCall (fun _ _ => 0) ⟨#[], args, []⟩).memory :=
  laidMetH_of_parts3 (fuel := 8) (laidMet_of_run' 8 (by kernel_rfl) (by kernel_rfl)) (by kernel_rfl) (by kernel_rfl)
theorem runs8_reading (os : Os) {H : Type} (enc : TypeId × Value → H) : ∃ places, DataW.whole enc Tryd.prog ((World.doorLaid Tryd.prog 16 os).forCall (fun _ _ => 0) ⟨#[], #[.agg #[.int .i64 0, .int .i64 0], .slice none 0 0], []⟩).memory Tryd.f3.params.toList Rows.diskRunsSpec.vars false (#[.agg #[.int .i64 0, .int .i64 0], .slice none 0 0] : Array Value).toList 8 = some ([.agg [.lit (.int .i64 0), .lit (.int .i64 0)], .nil], [], places) :=
  ⟨[], by kernel_rfl⟩

set_option maxRecDepth 100000 in
theorem runs8_lifted (os : Os) (started : os.Started) (H : Type) (enc : TypeId × Value → H) (F : Stop.Interp) :
    ReturnsInHanded {} Tryd.checked os 3 .any ((OpenSpec.ofChange Rows.diskRunsSpec).preRow enc Tryd.prog Tryd.f3 Rows.diskRunsRow.domain false Rows.diskRunsRow.laid) (((OpenSpec.ofChange Rows.diskRunsSpec).at F).post enc Tryd.prog Tryd.f3 false true false false) := by
  obtain ⟨places, hx⟩ := runs8_reading os enc
  refine returnsInHanded_of_row (C := Tryd.checked) (s := OpenSpec.ofChange Rows.diskRunsSpec) own started (by kernel_rfl) Tryd.func3
    (witness_row_atRef (enc := enc) (C := Tryd.checked) false (World.doorLaid Tryd.prog 16 os) #[.agg #[.int .i64 0, .int .i64 0], .slice none 0 0] rfl (by kernel_rfl) (by kernel_rfl) (by kernel_rfl)
      (OpenSpec.preRow_of_cond 8 hx (by kernel_rfl) (fun k hk => by cases hk) (by kernel_rfl) (runs8_met os _))) ?_
  intro W base args ds gs before hval0 hW _ _ hsz0 hL hsh _
  have hsz : (DataW.weightsEach Tryd.prog (Tryd.f3.params.toList ++ (OpenSpec.ofChange Rows.diskRunsSpec).bare.plain.varTypes Tryd.prog) (ds ++ gs)).all (· ≤ reachBytes) = true := hsz0
  clear hsz0
  have hval : ∀ (j : Nat) t v, Tryd.f3.params[j]? = some t → args[j]? = some v → Value.okWide Tryd.prog W .any base t v := hval0
  have hW' := hW
  obtain ⟨p, q, hA0, hV, rfl, hfz, hnd⟩ := hW
  have hA : DataW.TrodAll enc Tryd.prog W 0 (fun _ => true) true Tryd.f3.params.toList args.toList ds p := hA0
  rw [Tryd.params3] at hA hval hsz
  obtain ⟨v0, v1, d0, d1, p0, p1, rfl, rfl, rfl, h0, h1⟩ := trodAll_two hA
  obtain ⟨rfl, rfl⟩ := trodVars_none hV
  obtain ⟨R, S, rfl⟩ := open_size (hval 0 23 v0 rfl rfl) h0
  obtain ⟨a, n, c, f, rfl, hin, hlm⟩ := open_acts (hval 1 24 v1 rfl rfl) h1
  have hwt : (d1.weights Tryd.prog 24).all (· ≤ reachBytes) = true := by
    rw [List.all_eq_true]
    exact fun k hk => List.all_eq_true.1 hsz _ (DataW.weights_mem_each (j := 1) rfl rfl k hk)
  have hlim := hlm hwt
  have e3 : reachBytes = 140737488351232 := by decide
  rw [e3] at hlim
  have hL' : laidMet Tryd.prog [] W ∧ handlesMet Tryd.prog [("errors.errorType", Rows.laid_errors_errorType)] W := hL
  have hE := err_of_handles hL'.2
  have hlt : ∀ x ∈ p0, x.block < W.heap.size := fun x hx => hW'.lt x (by simp [hx])
  have hlt2 : ∀ x ∈ p1, x.block < W.heap.size := fun x hx => hW'.lt x (by simp [hx])
  clear hA0 hval0
  refine (runs_ R S a n c f W hin hlim hE).mono fun e W' ⟨he, hb⟩ => ?_
  subst he
  exact ⟨_, rfl, _, _, _, [], _, [], hW', trodAll_mk1 (shut_bool Tryd.underlying4 _), trodAll_mk2 (Below.trod laidOut (by kernel_rfl) (of_decide_eq_true (by kernel_rfl)) h0 hb hlt) (Below.trod laidOut (by kernel_rfl) (of_decide_eq_true (by kernel_rfl)) h1 hb hlt2), rfl, hb.frame _, fun h => by cases h⟩

theorem runs8_said : Rows.DiskRunsSaid :=
  OpenClaim.holds_of_cond 3 Tryd.f3 rfl rfl rfl rfl rfl rfl rfl ⟨rfl, rfl, rfl, rfl, rfl⟩ rfl rfl rfl rfl rfl (by kernel_rfl) Tryd.func3 (by kernel_rfl)
    (of_decide_eq_true (by kernel_rfl)) (by unfold Func.isWrapper; first | (rw [if_pos (by decide +kernel)]; kernel_rfl) | (rw [if_neg (by decide +kernel)]; exact ⟨rfl, rfl⟩))
    (fun os started H enc _ F => by rw [OpenClaim.pre_eq_preRow]; exact runs8_lifted os started H enc F)

theorem runs8_plain (f : FuncId) (fn : Func) (hf : Tryd.pinned.checked.prog.funcNamed Rows.diskRunsRow.func = some f) (hfn : Tryd.pinned.checked.prog.funcs[f]? = some fn) :
    true = Tryd.pinned.checked.prog.looks [] ∧ ∀ (j : Nat) t, fn.params[j]? = some t → Tryd.pinned.checked.prog.wantsStandIn t = false := by
  obtain rfl : f = 3 := Option.some.inj ((show Tryd.prog.funcNamed Rows.diskRunsRow.func = some 3 by kernel_rfl).symm.trans hf) |>.symm
  obtain rfl : fn = Tryd.f3 := (Option.some.inj (Tryd.func3.symm.trans hfn)).symm
  refine ⟨by kernel_rfl, fun j t ht => ?_⟩
  rw [Tryd.params3] at ht
  have hm := Array.mem_of_getElem? ht
  simp at hm
  rcases hm with rfl | rfl
  · exact (show Tryd.prog.wantsStandIn 23 = false by kernel_rfl)
  · exact (show Tryd.prog.wantsStandIn 24 = false by kernel_rfl)

theorem runs8_card : Rows.DiskRunsCardSaid :=
  Claim7.holds_tied_plain_at .later [] _ _ _ _ runs8_said (fun _ h => by cases h) (by kernel_rfl) (fun _ h => by cases h) diskRuns_row_tie rfl ⟨rfl, rfl⟩ (by kernel_rfl) rfl runs8_plain (by kernel_rfl)
#print axioms runs8_card
end Go.Proofs.YtdcanhcejhaccaaDoor
