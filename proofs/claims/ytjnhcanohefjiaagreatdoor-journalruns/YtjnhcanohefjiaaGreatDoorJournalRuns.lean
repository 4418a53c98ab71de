/- For every area, every epoch and every list of things done to a journal on a device of two regions and twelve sectors - a record laid behind, flushed, begun anew with another epoch, cut, the device armed, started anew with whatever choices and the journal opened again, of at most the list's first sixty - journal's answers are those of the document: whether the area can be opened and what is told then; each call's error; behind each of them Len, Room, Waits and Epoch; what Open tells behind a restart; and a nil Journal answers ErrArg and 0. No condition but the card's own: the program's start has laid the library's type of errors as its text says, and the arguments take no more bytes than a machine can reach. -/
import Derived.Test.YtjnhcanohefjiaaGreatDoorJDoor
import Derived.Test.YtjnhcanohefjiaaGreatDoorRjRuns
import Derived.ChangeSame
namespace Go.Proofs.YtjnhcanohefjiaaGreatDoor
open Go.ChangeShapes Go.WideShapes Go.ChangeAt Go.RowKit Go.Joins

theorem cellsZ : Tryz.prog.cellsOf 23 = 3 := by kernel_rfl
set_option maxRecDepth 100000 in
/-- An area that is handed in. -/
theorem open_area {H : Type} {enc : TypeId × Value → H} {W : World} {base : Nat} {v : Value} {d : DataW H} {p : List MemPlace}
    (hv : Value.okWide Tryz.prog W .any base 23 v) (h : DataW.Trod enc Tryz.prog W 0 (fun _ => true) true 23 v d p) :
    ∃ a : Ar, v = arV a ∧ inR a := by
  obtain ⟨cs, rfl, hsz⟩ := okWide_struct Tryz.underlying23 hv
  rw [cellsZ] at hsz
  obtain ⟨fuel, h⟩ := h
  obtain ⟨l⟩ := cs
  match l, hsz with
  | [u0, u1, u2], _ =>
    have h' : DataW.trod enc Tryz.prog W 0 (fun _ => true) true fuel 23 [u0, u1, u2] = some (d, p) := by simpa [Value.cells] using h
    obtain ⟨xs, k, _, _, _, hxl, hf⟩ := DataW.trod_struct Tryz.underlying23 h'
    match xs, hxl with
    | [y0, y1, y2], _ =>
      have g0 := hf 0 _ rfl
      have g1 := hf 1 _ rfl
      have g2 := hf 2 _ rfl
      simp [cells3] at g0 g1 g2
      obtain ⟨x0, f0, _, w0⟩ := DataW.trod_int Tryz.underlying3 g0
      obtain ⟨x1, f1, _, w1⟩ := DataW.trod_int Tryz.underlying3 g1
      obtain ⟨x2, f2, _, w2⟩ := DataW.trod_int Tryz.underlying3 g2
      simp at f0 f1 f2
      exact ⟨⟨x0, x1, x2⟩, by rw [f0, f1, f2]; rfl, i64_in w0, i64_in w1, i64_in w2⟩
theorem u64_nat {x : Int} (h : (Lit.int .u64 x).wf = true) : ∃ n : Nat, x = n ∧ n < 18446744073709551616 := by
  simp only [Lit.wf, Bool.and_eq_true, decide_eq_true_eq] at h
  have h1 : 0 ≤ x := h.1
  have h2 : x ≤ 18446744073709551615 := h.2
  exact ⟨x.toNat, by omega, by omega⟩
theorem runs11_law (a : Ar) (ep : Nat) (la : Option Addr) (n c : Nat) (f : Nat → ActV) (w : World) (har : inR a) (hep : ep < 18446744073709551616) (hacts : ActsAt w la n f) (hlim : ∀ i, i < n → (f i).dxs.length ≤ 140737488351232 ∧ (f i).cs.length * 8 ≤ 140737488351232) (hE : ErrType w) :
    Calls Tryz.prog 3 #[arV a, .int .u64 ep, .slice la n c] w fun e w' => e = .returned (.bool true) ∧ Below w.heap.size w w' := by
  by_cases hin : inJ (newD 2 12) a
  · exact runs11_in a ep la n c f w har hep hacts hlim hE hin
  · exact runs11_out a ep la n c w har hE hin
theorem ru_met (os : Os) (args : Array Value) : laidMetH Tryz.prog Rows.journalRunsRow.laid ((World.doorLaid Tryz.prog 16 os).forCall (fun _ _ => 0) ⟨#[], args, []⟩).memory :=
  laidMetH_of_parts3 (fuel := 8) (laidMet_of_run' 8 (by kernel_rfl) (by kernel_rfl)) (by kernel_rfl) (by kernel_rfl)

set_option maxRecDepth 100000 in
theorem ru_lifted (os : Os) (started : os.Started) (H : Type) (enc : TypeId × Value → H) :
    ReturnsInHanded {} Tryz.checked os 3 .any (fun w args => (Rows.journalRunsSpec.pre enc Tryz.prog Tryz.f3 [] false w args ∧ laidMetH Tryz.prog Rows.journalRunsRow.laid w) ∧ sizedMet enc Tryz.prog Tryz.f3 (OpenSpec.ofChange Rows.journalRunsSpec) false w args)
      (Rows.journalRunsSpec.post enc Tryz.prog Tryz.f3 false true false false) := by
  refine returnsInHanded_of_change_and (C := Tryz.checked) (X := fun w _ => laidMetH Tryz.prog Rows.journalRunsRow.laid w) (fun _ _ _ hh h => h.of_heap hh) own started (by kernel_rfl) Tryz.func3
    (ChangeSpec.witness_shaped (enc := enc) (C := Tryz.checked) (os := os) (X := fun w _ => laidMetH Tryz.prog Rows.journalRunsRow.laid w) false (World.doorLaid Tryz.prog 16 os) #[.agg #[.int .i64 0, .int .i64 0, .int .i64 0], .int .u64 0, .slice none 0 0] 8 rfl (World.shaped_of_RefB (by kernel_rfl) (by kernel_rfl)) (by kernel_rfl) (by kernel_rfl) (by kernel_rfl) (ru_met os _)) ?_
  intro W base args ds gs before hval0 hW _ hsz0 hL _
  have hsz : (DataW.weightsEach Tryz.prog (Tryz.f3.params.toList ++ Rows.journalRunsSpec.plain.varTypes Tryz.prog) (ds ++ gs)).all (· ≤ reachBytes) = true := hsz0
  clear hsz0
  have hval : ∀ (j : Nat) t v, Tryz.f3.params[j]? = some t → args[j]? = some v → Value.okWide Tryz.prog W .any base t v := hval0
  have hW' := hW
  obtain ⟨p, q, hA0, hV, rfl, hfz, hnd⟩ := hW
  have hA : DataW.TrodAll enc Tryz.prog W 0 (fun _ => true) true Tryz.f3.params.toList args.toList ds p := hA0
  rw [Tryz.params3] at hA hval hsz
  obtain ⟨v0, v1, v2, d0, d1, d2, p0, p1, p2, rfl, rfl, rfl, k0, k1, k2⟩ := trodAll_three hA
  obtain ⟨rfl, rfl⟩ := trodVars_none hV
  obtain ⟨ar, rfl, har⟩ := open_area (hval 0 23 v0 rfl rfl) k0
  obtain ⟨z0, rfl, rfl, rfl, w0⟩ := open_int Tryz.underlying24 (hval 1 24 v1 rfl rfl) k1
  obtain ⟨ep, rfl, hep⟩ := u64_nat w0
  obtain ⟨a, n, c, f, rfl, hin, hlm⟩ := open_acts (hval 2 25 v2 rfl rfl) k2
  have hwt : (d2.weights Tryz.prog 25).all (· ≤ reachBytes) = true := by
    rw [List.all_eq_true]
    exact fun k hk => List.all_eq_true.1 hsz _ (DataW.weights_mem_each (j := 2) rfl rfl k hk)
  have hlim := hlm hwt
  have e3 : reachBytes = 140737488351232 := by decide
  rw [e3] at hlim
  have hL' : laidMet Tryz.prog [] W ∧ handlesMet Tryz.prog [("errors.errorType", Rows.laid_errors_errorType)] W := hL
  have hE := err_of_handles hL'.2
  have hlt0 : ∀ x ∈ p0, x.block < W.heap.size := fun x hx => hW'.lt x (by simp [hx])
  have hlt2 : ∀ x ∈ p2, x.block < W.heap.size := fun x hx => hW'.lt x (by simp [hx])
  clear hA0 hval0
  refine (runs11_law ar ep a n c f W har hep hin hlim hE).mono fun e W' ⟨he, hb⟩ => ?_
  subst he
  exact ⟨_, rfl, _, _, _, [], _, [], hW', trodAll_mk1 (shut_bool Tryz.underlying4 _), trodAll_mk3 (Below.trod laidOut (by kernel_rfl) (of_decide_eq_true (by kernel_rfl)) k0 hb hlt0) (shut_int Tryz.underlying24 w0) (Below.trod laidOut (by kernel_rfl) (of_decide_eq_true (by kernel_rfl)) k2 hb hlt2), rfl, hb.frame _, fun h => by cases h⟩

theorem ru_said : Rows.JournalRunsSaid :=
  OpenClaim.holds_of_wide 3 Tryz.f3 rfl rfl rfl rfl rfl rfl rfl ⟨rfl, rfl, rfl, rfl, rfl⟩ rfl rfl rfl rfl rfl (by kernel_rfl) Tryz.func3 (by kernel_rfl)
    (of_decide_eq_true (by kernel_rfl)) (by unfold Func.isWrapper; first | (rw [if_pos (by decide +kernel)]; kernel_rfl) | (rw [if_neg (by decide +kernel)]; exact ⟨rfl, rfl⟩))
    (fun os started H enc _ => ru_lifted os started H enc)

theorem ru_plain (f : FuncId) (fn : Func) (hf : Tryz.pinned.checked.prog.funcNamed Rows.journalRunsRow.func = some f) (hfn : Tryz.pinned.checked.prog.funcs[f]? = some fn) :
    true = Tryz.pinned.checked.prog.looks [] ∧ ∀ (j : Nat) t, fn.params[j]? = some t → Tryz.pinned.checked.prog.wantsStandIn t = false := by
  obtain rfl : f = 3 := Option.some.inj ((show Tryz.prog.funcNamed Rows.journalRunsRow.func = some 3 by kernel_rfl).symm.trans hf) |>.symm
  obtain rfl : fn = Tryz.f3 := (Option.some.inj (Tryz.func3.symm.trans hfn)).symm
  refine ⟨by kernel_rfl, fun j t ht => ?_⟩
  rw [Tryz.params3] at ht
  have hm := Array.mem_of_getElem? ht
  simp at hm
  rcases hm with rfl | rfl | rfl
  · exact (show Tryz.prog.wantsStandIn 23 = false by kernel_rfl)
  · exact (show Tryz.prog.wantsStandIn 24 = false by kernel_rfl)
  · exact (show Tryz.prog.wantsStandIn 25 = false by kernel_rfl)

theorem ru_card : Rows.JournalRunsCardSaid :=
  Claim7.holds_tied_plain_at .later [] _ _ _ _ ru_said (fun _ h => by cases h) (by kernel_rfl) (fun _ h => by cases h) journalRuns_row_tie rfl ⟨rfl, rfl⟩ (by kernel_rfl) rfl ru_plain (by kernel_rfl)
#print axioms ru_card
end Go.Proofs.YtjnhcanohefjiaaGreatDoor
