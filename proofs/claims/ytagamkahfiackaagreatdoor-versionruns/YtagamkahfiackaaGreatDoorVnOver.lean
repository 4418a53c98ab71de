/- A range over an iterator that itself ranges over another one: while it runs, the inner loop's own record turns; so what the outer loop says of the world must bear the turn of new blocks that are no cells. -/
import Derived.Test.YtagamkahfiackaaGreatDoorJ7
namespace Go.Proofs.YtagamkahfiackaaGreatDoor
open Go.RowKit Go.Sort Go.Shelf

section
variable {α : Type} {P : Program}
/-- Such an iterator's contract. -/
def SeqN (P : Program) (g : Nat) (lb : Array Value) (encs : α → Array Value) (Kp : World → World → Prop) (S Sp : List α → Prop) (N D : Nat) (w : World) : Prop :=
  ∀ (ly : Nat) (J Jx : List α → World → Prop) (W : World), Below w.heap.size w W → D ≤ W.heap.size → OwnFrom W.heap.size J → OwnFrom W.heap.size Jx →
    (∀ pre x V, J pre V → pre.length < N → YieldAt Fence.wide 7 P ly (encs x) V fun e V' => (e = .returned (.bool true) ∧ J (pre ++ [x]) V' ∧ Kp V V' ∧ KeepsFrom D V V') ∨ (e = .returned (.bool false) ∧ Jx (pre ++ [x]) V' ∧ KeepsFrom D V V')) → J [] W →
    CallsIn Fence.wide 8 P g (#[.func (.yield ly) #[] #[]] ++ lb) W fun e V => (∃ v, e = .returned v) ∧ ((∃ xs, S xs ∧ J xs V) ∨ (∃ pre, Sp pre ∧ Jx pre V))
/-- The loop's two blocks. -/
structure LoopAt (B : Nat) (r : Loop) (V : World) : Prop where
  lp : V.heap[B + 1]? = some (.loop r)
  df : V.heap[B]? = some (.deferred (some []))
theorem LoopAt.keep {B : Nat} {r : Loop} {V V' : World} {row : Option Nat} (h : LoopAt B r V) (hg : V.grownBy V' row) (hr : ∀ q, row = some q → B + 2 ≤ q) : LoopAt B r V' :=
  ⟨(hg.block _ (blk_lt h.lp) fun e => by have := hr _ e.symm; omega).trans h.lp, (hg.block _ (blk_lt h.df) fun e => by have := hr _ e.symm; omega).trans h.df⟩
theorem LoopAt.turn {B : Nat} {r : Loop} {V : World} (h : LoopAt B r V) (r' : Loop) : LoopAt B r' (V.putObj (B + 1) (.loop r')) :=
  ⟨World.putObj_heap_same (blk_lt h.lp), (World.putObj_heap_other (by omega)).trans h.df⟩
theorem own_mono {β : Type} {B B' : Nat} {I : β → World → Prop} (h : OwnFrom B I) (hB : B ≤ B') : OwnFrom B' I := fun s V V' row hs hg hr => h s V V' row hs hg fun q e => ⟨Nat.le_trans hB (hr q e).1, (hr q e).2⟩
theorem own_below {β : Type} {B : Nat} {I : β → World → Prop} (h : OwnFrom B I) {s : β} {V V' : World} (hs : I s V) (hb : Below V.heap.size V V') : I s V' := h s V V' none hs (grown_below _ hb) fun q e => by cases e
theorem range_over {g : Operand} {ps : Array Tmp} {assign body : Code} {Q : Exit → Act → World → Prop} {a : Act} {w : World} {gf : Nat} {lb : Array Value}
    (hg : a.eval g = .func (.func gf) #[] lb) (eg : ∀ args V, (callFunc gf args).run P V = .ok (.enter gf args) V)
    {encs : α → Array Value} {Kp : World → World → Prop} {S Sp : List α → Prop} {N : Nat} {w0 : World} (hseq : SeqN P gf lb encs Kp S Sp N (w.heap.size + 2) w0)
    (hKt : ∀ {A B C : World}, Kp A B → Kp B C → Kp A C) (hKb : ∀ (V : World) (q : Nat) (o o' : Obj), w.heap.size ≤ q → V.heap[q]? = some o → o.isCells = false → Kp V (V.putObj q o')) (hb0 : Below w0.heap.size w0 w) (hps : ∀ x, (encs x).size = ps.size)
    (I : List α → World → Prop) (Ix : Code → List α → World → Prop) (hI : OwnFrom w.heap.size I) (hIx : ∀ c, OwnFrom w.heap.size (Ix c)) (h0 : I [] w) (a₁ : α → Act)
    (hassign : ∀ (q : Nat) (x : α) (V : World) (K : Act → World → Prop), K (a₁ x) V →
      assign.wpIn (Fence.wide.inRound q) 7 P (Exit.then K (fun _ _ _ => False)) { tmps := (ps.zip (encs x)).foldl (fun t (p, v) => t.setIfInBounds p v) a.tmps, defers := [] } V)
    (hbody : ∀ (q : Nat) (pre : List α) (x : α) (V : World), I pre V → pre.length < N → body.wpIn (Fence.wide.inRound q) 7 P (ownPostG w.heap.size Kp I Ix (pre ++ [x]) V) (a₁ x) V)
    (hdone : ∀ (D : Nat) (xs : List α) (V : World), w.heap.size ≤ D → S xs → I xs V → V.heap[D]? = some (.deferred (some [])) → Q .normal { a with defers := { target := .collected D, args := #[] } :: a.defers } V)
    (hstop : ∀ (D : Nat) (c : Code) (pre : List α) (V : World), w.heap.size ≤ D → Sp pre → Ix c pre V → V.heap[D]? = some (.deferred (some [])) → c.wpIn Fence.wide 9 P Q { a with defers := { target := .collected D, args := #[] } :: a.defers } V) :
    (Code.rangeFunc g ps assign body).wpIn Fence.wide 9 P Q a w := by
  refine wpIn_rangeFunc fun fn hfn => ?_
  obtain ⟨B, hB⟩ : ∃ B, B = w.heap.size := ⟨_, rfl⟩
  obtain ⟨rc, hrc⟩ : ∃ rc : LoopState → Option Code → Loop, rc = fun st pe => { state := st, pending := pe, fn, tmps := a.tmps, params := ps, assign, body, defers := B } := ⟨_, rfl⟩
  have hE := run_enterLoop_outer (w := w) (P := P) fn a.tmps ps assign body
  obtain ⟨V1, hV1⟩ : ∃ V1, V1 = (w.alloc (.deferred (some []))).alloc (.loop (rc .ready none)) := ⟨_, rfl⟩
  have hs1 : V1.heap.size = B + 2 := by rw [hV1, hB]; simp [go_sem]
  have hb1 : Below w.heap.size w V1 := by rw [hV1]; exact below_step (below_alloc w _) (below_alloc _ _)
  obtain ⟨t0, t1, t2⟩ := two_box w (.deferred (some [])) (.loop (rc .ready none))
  rw [← hV1, ← hB] at t1 t2
  have hL1 : LoopAt B (rc .ready none) V1 := ⟨t2, t1⟩
  rw [← hB] at hI hIx hKb hbody hdone hstop hseq
  refine ⟨B + 1, [{ target := .collected B, args := #[] }], V1, { target := .fn (.func gf) lb, args := #[.func (.yield (B + 1)) #[] #[]] }, V1, gf, #[.func (.yield (B + 1)) #[] #[]] ++ lb, V1, ?_, ?_, fun _ _ => trivial, ?_, fun h => (by cases h), ?_⟩
  · rw [hV1, hrc, hB]; exact hE
  · simp only [resolve, hg]
    simp [go_sem]
  · simp [invoke, go_sem, eg]
  have hrow : ∀ {row : Option Nat} {V : World}, (∀ q, row = some q → V1.heap.size ≤ q ∧ ∃ o : Obj, V.heap[q]? = some o ∧ o.isCells = false) → ∀ q, row = some q → B + 2 ≤ q := fun h q e => by have := (h q e).1; omega
  refine (hseq (B + 1) (fun pre V => I pre V ∧ LoopAt B (rc .ready none) V) (fun pre V => ∃ c, Ix c pre V ∧ LoopAt B (rc .done (some c)) V) V1 (hb0.trans (hb1.mono hb0.size)) (by omega)
    (fun s X Y row hs hgr hr => ⟨(own_mono hI (by omega)) s X Y row hs.1 hgr hr, hs.2.keep hgr (hrow hr)⟩)
    (fun s X Y row hs hgr hr => by
      obtain ⟨c, hc, hl⟩ := hs
      exact ⟨c, (own_mono (hIx c) (by omega)) s X Y row hc hgr hr, hl.keep hgr (hrow hr)⟩)
    ?_ ⟨own_below hI h0 hb1, hL1⟩).mono ?_
  · rintro pre x V ⟨hi, hl⟩ hlen
    have hy := run_yield (P := P) (args := encs x) hl.lp (by rw [hrc]; exact hps x)
    have hl2 := hl.turn (rc .busy none)
    have hi2 : I pre (V.putObj (B + 1) (.loop (rc .busy none))) := hI.putObj _ hi (by omega) hl.lp rfl
    have hk2 := hKb V (B + 1) _ (.loop (rc .busy none)) (by omega) hl.lp rfl
    have hbg := run_beginRound (P := P) hl.lp (by rw [hrc])
    rw [hrc] at hy
    refine ⟨fn, _, assign, body, hy, roundIn_of_wpIn trivial (hassign _ x V _ ?_)⟩
    refine ⟨_, hbg, ?_⟩
    rw [show (V.putObj (B + 1) (.loop { rc .ready none with state := .busy })) = V.putObj (B + 1) (.loop (rc .busy none)) by rw [hrc]]
    refine wpIn_mono (hbody _ pre x _ hi2 hlen) ?_
    have fin : ∀ (j : Option Code) (V3 : World), KeepsFrom B (V.putObj (B + 1) (.loop (rc .busy none))) V3 → LoopAt B (rc .busy none) V3 ∧ (Instr.endRound (B + 1) j).run P V3 = .ok (.bool j.isNone) (V3.putObj (B + 1) (.loop (rc (if j.isNone then .ready else .done) j))) ∧ KeepsFrom (B + 2) V (V3.putObj (B + 1) (.loop (rc (if j.isNone then .ready else .done) j))) := fun j V3 hk => by
      have hl3 : LoopAt B (rc .busy none) V3 := ⟨hk.same _ _ (by omega) hl2.lp rfl, hk.same _ _ (Nat.le_refl _) hl2.df rfl⟩
      refine ⟨hl3, ?_, ?_⟩
      · have := run_endRound (P := P) j hl3.lp
        rw [this, hrc]
      · have h1 : KeepsFrom (B + 2) V (V.putObj (B + 1) (.loop (rc .busy none))) := KeepsFrom.of_grownBy (grownBy_putObj' V (B + 1) _) (fun q e => by cases e; omega)
        have h3 : KeepsFrom (B + 2) V3 (V3.putObj (B + 1) (.loop (rc (if j.isNone then .ready else .done) j))) := KeepsFrom.of_grownBy (grownBy_putObj' V3 (B + 1) _) (fun q e => by cases e; omega)
        exact (h1.trans ⟨hk.size, fun k o hk' hko ho => hk.same k o (by omega) hko ho⟩).trans h3
    rintro e a3 V3 hp
    cases e with
    | normal =>
      obtain ⟨hk, hkp, hi3⟩ := hp
      obtain ⟨hl3, hr, hkD⟩ := fin none V3 hk
      exact ⟨_, _, hr, .inl ⟨rfl, ⟨hI.putObj _ hi3 (by omega) hl3.lp rfl, hl3.turn _⟩, hKt (hKt hk2 hkp) (hKb _ _ _ _ (by omega) hl3.lp rfl), hkD⟩⟩
    | ret =>
      obtain ⟨hl3, hr, hkD⟩ := fin (some .ret) V3 hp.1
      exact ⟨_, _, hr, .inr ⟨rfl, ⟨.ret, (hIx _).putObj _ hp.2 (by omega) hl3.lp rfl, hl3.turn _⟩, hkD⟩⟩
    | exit id =>
      obtain ⟨hl3, hr, hkD⟩ := fin (some (.exit id)) V3 hp.1
      exact ⟨_, _, hr, .inr ⟨rfl, ⟨.exit id, (hIx _).putObj _ hp.2 (by omega) hl3.lp rfl, hl3.turn _⟩, hkD⟩⟩
    | goto t =>
      obtain ⟨hl3, hr, hkD⟩ := fin (some (.goto t)) V3 hp.1
      exact ⟨_, _, hr, .inr ⟨rfl, ⟨.goto t, (hIx _).putObj _ hp.2 (by omega) hl3.lp rfl, hl3.turn _⟩, hkD⟩⟩
    | panic ch => exact hp.elim
    | outgrown => exact hp.elim
  · rintro e V2 ⟨⟨v, rfl⟩, h⟩
    have hend : ∀ (st : LoopState) (j : Option Code), st ≠ .busy → LoopAt B (rc st j) V2 → ∃ V3, (Instr.endLoop (B + 1)).run P V2 = .ok j V3 ∧ V3 = V2.putObj (B + 1) (.loop { rc st j with state := .exhausted }) := fun st j hst hl => by
      have := run_endLoop (P := P) hl.lp (by rw [hrc]; exact hst)
      exact ⟨_, by rw [this, hrc], by rw [hrc]⟩
    rcases h with ⟨xs, hS, hi, hl⟩ | ⟨pre, hSp, c, hi, hl⟩
    · obtain ⟨V3, he, rfl⟩ := hend .ready none (by simp) hl
      exact ⟨none, _, he, hdone _ xs _ (Nat.le_refl _) hS (hI.putObj _ hi (by omega) hl.lp rfl) ((World.putObj_heap_other (by omega)).trans hl.df)⟩
    · obtain ⟨V3, he, rfl⟩ := hend .done (some c) (by simp) hl
      exact ⟨some c, _, he, hstop _ c pre _ (Nat.le_refl _) hSp ((hIx c).putObj _ hi (by omega) hl.lp rfl) ((World.putObj_heap_other (by omega)).trans hl.df)⟩
end
end Go.Proofs.YtagamkahfiackaaGreatDoor
