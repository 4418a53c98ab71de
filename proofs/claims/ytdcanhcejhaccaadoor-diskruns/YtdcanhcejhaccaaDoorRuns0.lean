/- What the walk of the law DiskRuns takes: the step whatever its kind; the document's New of what is no device. -/
import Derived.Test.YtdcanhcejhaccaaDoorStep
namespace Go.Proofs.YtdcanhcejhaccaaDoor
open Go.RowKit Go.Sort Go.Maps

theorem tie_armed {d : Dev} {x : RD} (h : Tie d x) (n : Int) : Tie { d with armed := true, left := n } { x with armed := true, left := n } :=
  ⟨h.r, h.s, h.cr, rfl, fun _ => rfl, h.srt, h.pend, h.safe, h.ok⟩
/-- A step, whatever its kind. -/
def SteppedTo (w : World) (p aa bb K : Nat) (d : Dev) (x : RD) (e : Ending) (w' : World) : Prop :=
  ∃ d' x' a' c', e = .returned (.tuple #[rdV x' a' c', .bool true]) ∧ DevIn w' p aa bb d' (K + 1) ∧ LstS w' a' c' x'.l ∧ Fd p aa bb w w' ∧ Tie d' x' ∧ x'.l.length ≤ x.l.length + 1 ∧ d'.r = d.r ∧ d'.s = d.s
theorem len_doneR (x : RD) (k : Pl) (c : Ct) : (doneR x k c).l.length ≤ x.l.length + 1 := by
  have := length_putR x.l k c
  unfold doneR; split <;> exact this
theorem step_ {w0 w : World} {p aa bb : Nat} {d : Dev} {K : Nat} {x : RD} {ra : Option Addr} {rc : Nat} {A : ActV} (h : StepIn w0 w p aa bb d K x ra rc A) (ha : inI A.at') :
    Calls Tryd.prog 10 #[.pointer (some ⟨p, 0, none⟩), rdV x ra rc, actV A] w (SteppedTo w p aa bb K d x) := by
  obtain ⟨m, h1, h2, h3⟩ := mod_at2 5 (by omega) (by omega) A.kind
  have fin : ∀ d' x', Tie d' x' → x'.l.length ≤ x.l.length + 1 → d'.r = d.r → d'.s = d.s → ∀ e w', StepTo w p aa bb K d' x' e w' → SteppedTo w p aa bb K d x e w' := by
    rintro d' x' ht hl hr hs e w' ⟨a', c', he, hD, hL, hF⟩
    exact ⟨d', x', a', c', he, hD, hL, hF, ht, hl, hr, hs⟩
  have hm : m = 0 ∨ m = 1 ∨ m = 2 ∨ m = 3 ∨ m = 4 := by omega
  rcases hm with rfl | rfl | rfl | rfl | rfl
  · refine (step0_ h ⟨h1, h2⟩).mono (fin _ _ (tie_write h.tie h.by8 h.dev.lft) ?_ ?_ ?_)
    · unfold writeR; split
      · omega
      · exact len_doneR _ _ _
    · unfold writeD; split <;> rfl
    · unfold writeD; split <;> rfl
  · exact (step1_ h ⟨h1, h2⟩).mono (fin _ _ h.tie (by omega) rfl rfl)
  · refine (step2_ h ⟨h1, h2⟩).mono (fin _ _ (tie_sync h.tie _) ?_ ?_ ?_)
    · unfold syncRD; split
      · show (syncR _ x.l).length ≤ _; rw [length_syncR]; omega
      · omega
    · unfold syncD; split <;> rfl
    · unfold syncD; split <;> rfl
  · by_cases hat : A.at' < 0
    · exact (step3a_ h ⟨h1, h2⟩ hat).mono (fin _ _ h.tie (by omega) rfl rfl)
    · exact (step3b_ h ⟨h1, h2⟩ ⟨by omega, ha.2⟩).mono (fin _ _ (tie_armed h.tie _) (Nat.le_succ _) rfl rfl)
  · exact (step4_ h ⟨h1, h2⟩).mono (fin _ _ (tie_rest h.tie _) (by show (restR _ _).length ≤ _; rw [length_restR]; omega) rfl rfl)
set_option maxRecDepth 100000 in
set_option maxHeartbeats 1000000 in
theorem rnew_bad (r s : Int) (w : World) (h : ¬ (1 ≤ r ∧ r ≤ 16 ∧ 1 ≤ s ∧ s ≤ 16384)) :
    Calls Tryd.prog 7 #[.int .i64 r, .int .i64 s] w fun e w' => e = .returned (.tuple #[.agg #[.int .i64 0, .int .i64 0, .slice none 0 0, .bool false, .bool false, .int .i64 0], .int .i64 1]) ∧ Below w.heap.size w w' := by
  by_cases h1 : r < 1
  · go_enter Tryd.func7, Tryd.ntmps7
    go_wp2_with fail
    exact bodyPost_ret (results_rd rfl _ _ w.heap.size _ _ rfl rfl (alloc_at w _) rfl) rfl ⟨rfl, below_alloc w _⟩
  · by_cases h2 : r > 16
    · go_enter Tryd.func7, Tryd.ntmps7
      go_wp2_with fail
      exact bodyPost_ret (results_rd rfl _ _ w.heap.size _ _ rfl rfl (alloc_at w _) rfl) rfl ⟨rfl, below_alloc w _⟩
    · by_cases h3 : s < 1
      · go_enter Tryd.func7, Tryd.ntmps7
        go_wp2_with fail
        exact bodyPost_ret (results_rd rfl _ _ w.heap.size _ _ rfl rfl (alloc_at w _) rfl) rfl ⟨rfl, below_alloc w _⟩
      · have h4 : s > 16384 := by omega
        go_enter Tryd.func7, Tryd.ntmps7
        go_wp2_with fail
        exact bodyPost_ret (results_rd rfl _ _ w.heap.size _ _ rfl rfl (alloc_at w _) rfl) rfl ⟨rfl, below_alloc w _⟩
theorem infoRD2 : (Tryd.prog.info? 32).map (fun i => (i.zero, i.size)) = some (some (.agg #[.int .i64 0, .int .i64 0, .slice none 0 0, .bool false, .bool false, .int .i64 0]), 6) := by kernel_rfl
theorem alloc_rd (w : World) : (Instr.alloc 32 true (.tuple #[])).run Tryd.prog w = .ok (.pointer (some ⟨w.heap.size, 0, none⟩)) (w.alloc (.cells #[.int .i64 0, .int .i64 0, .slice none 0 0, .bool false, .bool false, .int .i64 0] 32)) := by
  have hz := (zero_of_info infoRD2).1 w
  simp [Instr.alloc, hz, newVar, newObj, go_sem, Value.cells, Result.andThen]
  rfl
theorem ready_alloc_rd {l : List Oper} {Q : Exit → Act → World → Prop} {md : Region.Mode} {S : World → Prop} (i : Nat) {oi : Oper} {post : List Oper} {fuel : Nat} {listed : Array Bool} {a : Act} {w : World} (hi : l.drop i = oi :: post) (hr : Region.ready md l.toArray listed = [i]) (hw : Region.wanted oi (yielded l.toArray a.tmps) = true)
    (ho : oi.op = .alloc 32) (hS : S (w.alloc (.cells #[.int .i64 0, .int .i64 0, .slice none 0 0, .bool false, .bool false, .int .i64 0] 32)))
    (h : wpAnyH Tryd.prog md l.toArray Q S fuel (listed.setIfInBounds i true) (a.put oi.dst (.pointer (some ⟨w.heap.size, 0, none⟩))) (w.alloc (.cells #[.int .i64 0, .int .i64 0, .slice none 0 0, .bool false, .bool false, .int .i64 0] 32))) : wpAnyH Tryd.prog md l.toArray Q S (fuel + 1) listed a w :=
  ready_at i hi hr hw (.inl (by unfold execOp; simp only [ho, alloc_rd w, Sem.run_bind, Sem.run_pure, Result.andThen_ok])) hS h
end Go.Proofs.YtdcanhcejhaccaaDoor
