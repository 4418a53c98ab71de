/- Changed; A range over an iterator that itself ranges over another one: while it runs, the inner loop's own record turns; so what the outer loop says of the world must bear the turn of new blocks that are no cells; rows: the rows as of a commit, told by an iterator that ranges over another one; rows' iterator; Count; Range. -/
import Derived.Test.YtalmanfjiblhcaaGreatJ34
import Derived.Shelf.RegionOpen
import Derived.Test.YtalmanfjiblhcaaGreatJ12
namespace Go.Proofs.YtalmanfjiblhcaaGreat
open Go.RowKit Go.Sort Go.Shelf
attribute [local go_sem] Oper.semAt_some
abbrev Inl (l : List It) := { x : It // x ∈ l }
structure ChI (w : World) (bs br : Nat) (t : Int) (b : Bool) (W : World) : Prop where
 bx : Boxed W bs 3 (.int .i64 t)
 rx : Boxed W br 4 (.bool b)
 old : Below w.heap.size w W
 lo : w.heap.size ≤ bs ∧ w.heap.size ≤ br
theorem ChI.grown {w W W' : World} {bs br B : Nat} {t : Int} {b : Bool} {row : Option Nat} (h : ChI w bs br t b W) (hB : bs < B ∧ br < B) (hg : W.grownBy W' row) (hr : ∀ r, row = some r → B ≤ r) : ChI w bs br t b W' := by
 have key : ∀ k, k < B → k < W.heap.size → W'.heap[k]? = W.heap[k]? := fun k hk hl => hg.block k hl (fun e => by have := hr k e.symm; omega)
 exact ⟨(key _ hB.1 h.bx.lt).trans h.bx, (key _ hB.2 h.rx.lt).trans h.rx, ⟨hg.os.trans h.old.os, hg.tape.trans h.old.tape, hg.output.trans h.old.output, Nat.le_trans h.old.size hg.size, fun k hk => (key k (by have := h.lo; omega) (by have := h.old.size; omega)).trans (h.old.block k hk)⟩, h.lo⟩
theorem ChI.on {w W W' : World} {bs br : Nat} {t : Int} {b : Bool} (h : ChI w bs br t b W) (hb : Below W.heap.size W W') : ChI w bs br t b W' := ⟨blkKeep hb h.bx, blkKeep hb h.rx, below_step h.old hb, h.lo⟩
theorem ChI.set {w W : World} {bs br : Nat} {t : Int} {b : Bool} (h : ChI w bs br t b W) (hne : bs ≠ br) (c : Bool) : ChI w bs br t c (W.setCell ⟨br, 0, none⟩ (.bool c)) :=
 ⟨(heap_far _ hne).trans h.bx, h.rx.set _, ⟨h.old.os, h.old.tape, h.old.output, by rw [size_set]; exact h.old.size, fun k hk => (heap_far _ (by have := h.lo; omega)).trans (h.old.block k hk)⟩, h.lo⟩
end Go.Proofs.YtalmanfjiblhcaaGreat
namespace Go.Proofs.YtalmanfjiblhcaaGreat
open Go.RowKit Go.Sort Go.Shelf
section
variable {α : Type} {P : Program}
def SeqN (P : Program) (g : Nat) (lb : Array Value) (encs : α → Array Value) (Kp : World → World → Prop) (S Sp : List α → Prop) (N D : Nat) (w : World) : Prop :=
 ∀ (ly : Nat) (J Jx : List α → World → Prop) (W : World), Below w.heap.size w W → D ≤ W.heap.size → OwnFrom W.heap.size J → OwnFrom W.heap.size Jx →
  (∀ pre x V, J pre V → pre.length < N → YieldAt Fence.wide 7 P ly (encs x) V fun e V' => (e = .returned (.bool true) ∧ J (pre ++ [x]) V' ∧ Kp V V' ∧ KeepsFrom D V V') ∨ (e = .returned (.bool false) ∧ Jx (pre ++ [x]) V' ∧ KeepsFrom D V V')) → J [] W →
  CallsIn Fence.wide 8 P g (#[.func (.yield ly) #[] #[]] ++ lb) W fun e V => (∃ v, e = .returned v) ∧ ((∃ xs, S xs ∧ J xs V) ∨ (∃ pre, Sp pre ∧ Jx pre V))
structure LoopAt (B : Nat) (r : Loop) (V : World) : Prop where
 lp : V.heap[B + 1]? = some (.loop r)
 df : V.heap[B]? = some (.deferred (some []))
theorem LoopAt.keep {B : Nat} {r : Loop} {V V' : World} {row : Option Nat} (h : LoopAt B r V) (hg : V.grownBy V' row) (hr : ∀ q, row = some q → B + 2 ≤ q) : LoopAt B r V' :=
 ⟨(hg.block _ (blk_lt h.lp) fun e => by have := hr _ e.symm; omega).trans h.lp, (hg.block _ (blk_lt h.df) fun e => by have := hr _ e.symm; omega).trans h.df⟩
theorem LoopAt.turn {B : Nat} {r : Loop} {V : World} (h : LoopAt B r V) (r' : Loop) : LoopAt B r' (V.putObj (B + 1) (.loop r')) :=
 ⟨World.putObj_heap_same (blk_lt h.lp), (World.putObj_heap_other (by omega)).trans h.df⟩
theorem own_mono {β : Type} {B B' : Nat} {I : β → World → Prop} (h : OwnFrom B I) (hB : B ≤ B') : OwnFrom B' I := fun s V V' row hs hg hr => h s V V' row hs hg fun q e => ⟨Nat.le_trans hB (hr q e).1, (hr q e).2⟩
theorem own_below {β : Type} {B : Nat} {I : β → World → Prop} (h : OwnFrom B I) {s : β} {V V' : World} (hs : I s V) (hb : Below V.heap.size V V') : I s V' := h s V V' none hs (grown_below _ hb) fun q e => by cases e
theorem range_over {g : Operand} {ps : Array Tmp} {assign body : Code} {Q : Exit → Act → World → Prop} {a : Act} {w : World} {gf : Nat} {lb : Array Value}
 (hg : a.eval g = .func (.func gf) #[] lb) (eg : ∀ args V, (callFunc gf args).run P V = .ok (.enter gf args) V)
 {encs : α → Array Value} {Kp : World → World → Prop} {S Sp : List α → Prop} {N : Nat} {w0 : World} (hseq : SeqN P gf lb encs Kp S Sp N (w.heap.size + 2) w0)
 (hKt : ∀ {A B C : World}, Kp A B → Kp B C → Kp A C) (hKb : ∀ (V : World) (q : Nat) (o o' : Obj), w.heap.size ≤ q → V.heap[q]? = some o → o.isCells = false → Kp V (V.putObj q o')) (hb0 : Below w0.heap.size w0 w) (hps : ∀ x, (encs x).size = ps.size)
 (I : List α → World → Prop) (Ix : Code → List α → World → Prop) (hI : OwnFrom w.heap.size I) (hIx : ∀ c, OwnFrom w.heap.size (Ix c)) (h0 : I [] w) (a₁ : α → Act)
 (hassign : ∀ (q : Nat) (x : α) (V : World) (K : Act → World → Prop), K (a₁ x) V →
   assign.wpIn (Fence.wide.inRound q) 7 P (Exit.then K (fun _ _ _ => False)) { tmps := (ps.zip (encs x)).foldl (fun t (p, v) => t.setIfInBounds p v) a.tmps, defers := [] } V)
 (hbody : ∀ (q : Nat) (pre : List α) (x : α) (V : World), I pre V → pre.length < N → body.wpIn (Fence.wide.inRound q) 7 P (ownPostG w.heap.size Kp I Ix (pre ++ [x]) V) (a₁ x) V)
 (hdone : ∀ (D : Nat) (xs : List α) (V : World), w.heap.size ≤ D → S xs → I xs V → V.heap[D]? = some (.deferred (some [])) → Q .normal { a with defers := { target := .collected D, args := #[] } :: a.defers } V)
 (hstop : ∀ (D : Nat) (c : Code) (pre : List α) (V : World), w.heap.size ≤ D → Sp pre → Ix c pre V → V.heap[D]? = some (.deferred (some [])) → c.wpIn Fence.wide 9 P Q { a with defers := { target := .collected D, args := #[] } :: a.defers } V) :
 (Code.rangeFunc g ps assign body).wpIn Fence.wide 9 P Q a w := by
 refine wpIn_rangeFunc fun fn hfn => ?_
 obtain ⟨B, hB⟩ : ∃ B, B = w.heap.size := ⟨_, rfl⟩
 obtain ⟨rc, hrc⟩ : ∃ rc : LoopState → Option Code → Loop, rc = fun st pe => { state := st, pending := pe, fn, tmps := a.tmps, params := ps, assign, body, defers := B } := ⟨_, rfl⟩
 have hE := run_enterLoop_outer (w := w) (P := P) fn a.tmps ps assign body
 obtain ⟨V1, hV1⟩ : ∃ V1, V1 = (w.alloc (.deferred (some []))).alloc (.loop (rc .ready none)) := ⟨_, rfl⟩
 have hs1 : V1.heap.size = B + 2 := by rw [hV1, hB]; simp [go_sem]
 have hb1 : Below w.heap.size w V1 := by rw [hV1]; exact below_step (below_alloc w _) (below_alloc _ _)
 obtain ⟨t0, t1, t2⟩ := two_box w (.deferred (some [])) (.loop (rc .ready none))
 rw [← hV1, ← hB] at t1 t2
 have hL1 : LoopAt B (rc .ready none) V1 := ⟨t2, t1⟩
 rw [← hB] at hI hIx hKb hbody hdone hstop hseq
 refine ⟨B + 1, [{ target := .collected B, args := #[] }], V1, { target := .fn (.func gf) lb, args := #[.func (.yield (B + 1)) #[] #[]] }, V1, gf, #[.func (.yield (B + 1)) #[] #[]] ++ lb, V1, ?_, ?_, fun _ _ => trivial, ?_, fun h => (by cases h), ?_⟩
 · rw [hV1, hrc, hB]; exact hE
 · simp only [resolve, hg]
   simp [go_sem]
 · simp [invoke, go_sem, eg]
 have hrow : ∀ {row : Option Nat} {V : World}, (∀ q, row = some q → V1.heap.size ≤ q ∧ ∃ o : Obj, V.heap[q]? = some o ∧ o.isCells = false) → ∀ q, row = some q → B + 2 ≤ q := fun h q e => by have := (h q e).1; omega
 refine (hseq (B + 1) (fun pre V => I pre V ∧ LoopAt B (rc .ready none) V) (fun pre V => ∃ c, Ix c pre V ∧ LoopAt B (rc .done (some c)) V) V1 (hb0.trans (hb1.mono hb0.size)) (by omega)
  (fun s X Y row hs hgr hr => ⟨(own_mono hI (by omega)) s X Y row hs.1 hgr hr, hs.2.keep hgr (hrow hr)⟩)
  (fun s X Y row hs hgr hr => by
    obtain ⟨c, hc, hl⟩ := hs
    exact ⟨c, (own_mono (hIx c) (by omega)) s X Y row hc hgr hr, hl.keep hgr (hrow hr)⟩)
  ?_ ⟨own_below hI h0 hb1, hL1⟩).mono ?_
 · rintro pre x V ⟨hi, hl⟩ hlen
   have hy := run_yield (P := P) (args := encs x) hl.lp (by rw [hrc]; exact hps x)
   have hl2 := hl.turn (rc .busy none)
   have hi2 : I pre (V.putObj (B + 1) (.loop (rc .busy none))) := hI.putObj _ hi (by omega) hl.lp rfl
   have hk2 := hKb V (B + 1) _ (.loop (rc .busy none)) (by omega) hl.lp rfl
   have hbg := run_beginRound (P := P) hl.lp (by rw [hrc])
   rw [hrc] at hy
   refine ⟨fn, _, assign, body, hy, roundIn_of_wpIn trivial (hassign _ x V _ ?_)⟩
   refine ⟨_, hbg, ?_⟩
   rw [show (V.putObj (B + 1) (.loop { rc .ready none with state := .busy })) = V.putObj (B + 1) (.loop (rc .busy none)) by rw [hrc]]
   refine wpIn_mono (hbody _ pre x _ hi2 hlen) ?_
   have fin : ∀ (j : Option Code) (V3 : World), KeepsFrom B (V.putObj (B + 1) (.loop (rc .busy none))) V3 → LoopAt B (rc .busy none) V3 ∧ (Instr.endRound (B + 1) j).run P V3 = .ok (.bool j.isNone) (V3.putObj (B + 1) (.loop (rc (if j.isNone then .ready else .done) j))) ∧ KeepsFrom (B + 2) V (V3.putObj (B + 1) (.loop (rc (if j.isNone then .ready else .done) j))) := fun j V3 hk => by
    have hl3 : LoopAt B (rc .busy none) V3 := ⟨hk.same _ _ (by omega) hl2.lp rfl, hk.same _ _ (Nat.le_refl _) hl2.df rfl⟩
    refine ⟨hl3, ?_, ?_⟩
    · have := run_endRound (P := P) j hl3.lp
      rw [this, hrc]
    · have h1 : KeepsFrom (B + 2) V (V.putObj (B + 1) (.loop (rc .busy none))) := KeepsFrom.of_grownBy (grownBy_putObj' V (B + 1) _) (fun q e => by cases e; omega)
      have h3 : KeepsFrom (B + 2) V3 (V3.putObj (B + 1) (.loop (rc (if j.isNone then .ready else .done) j))) := KeepsFrom.of_grownBy (grownBy_putObj' V3 (B + 1) _) (fun q e => by cases e; omega)
      exact (h1.trans ⟨hk.size, fun k o hk' hko ho => hk.same k o (by omega) hko ho⟩).trans h3
   rintro e a3 V3 hp
   cases e with
   | normal =>
     obtain ⟨hk, hkp, hi3⟩ := hp
     obtain ⟨hl3, hr, hkD⟩ := fin none V3 hk
     exact ⟨_, _, hr, .inl ⟨rfl, ⟨hI.putObj _ hi3 (by omega) hl3.lp rfl, hl3.turn _⟩, hKt (hKt hk2 hkp) (hKb _ _ _ _ (by omega) hl3.lp rfl), hkD⟩⟩
   | ret =>
     obtain ⟨hl3, hr, hkD⟩ := fin (some .ret) V3 hp.1
     exact ⟨_, _, hr, .inr ⟨rfl, ⟨.ret, (hIx _).putObj _ hp.2 (by omega) hl3.lp rfl, hl3.turn _⟩, hkD⟩⟩
   | exit id =>
     obtain ⟨hl3, hr, hkD⟩ := fin (some (.exit id)) V3 hp.1
     exact ⟨_, _, hr, .inr ⟨rfl, ⟨.exit id, (hIx _).putObj _ hp.2 (by omega) hl3.lp rfl, hl3.turn _⟩, hkD⟩⟩
   | goto t =>
     obtain ⟨hl3, hr, hkD⟩ := fin (some (.goto t)) V3 hp.1
     exact ⟨_, _, hr, .inr ⟨rfl, ⟨.goto t, (hIx _).putObj _ hp.2 (by omega) hl3.lp rfl, hl3.turn _⟩, hkD⟩⟩
   | panic ch => exact hp.elim
   | outgrown => exact hp.elim
 · rintro e V2 ⟨⟨v, rfl⟩, h⟩
   have hend : ∀ (st : LoopState) (j : Option Code), st ≠ .busy → LoopAt B (rc st j) V2 → ∃ V3, (Instr.endLoop (B + 1)).run P V2 = .ok j V3 ∧ V3 = V2.putObj (B + 1) (.loop { rc st j with state := .exhausted }) := fun st j hst hl => by
    have := run_endLoop (P := P) hl.lp (by rw [hrc]; exact hst)
    exact ⟨_, by rw [this, hrc], by rw [hrc]⟩
   rcases h with ⟨xs, hS, hi, hl⟩ | ⟨pre, hSp, c, hi, hl⟩
   · obtain ⟨V3, he, rfl⟩ := hend .ready none (by simp) hl
     exact ⟨none, _, he, hdone _ xs _ (Nat.le_refl _) hS (hI.putObj _ hi (by omega) hl.lp rfl) ((World.putObj_heap_other (by omega)).trans hl.df)⟩
   · obtain ⟨V3, he, rfl⟩ := hend .done (some c) (by simp) hl
     exact ⟨some c, _, he, hstop _ c pre _ (Nat.le_refl _) hSp ((hIx c).putObj _ hi (by omega) hl.lp rfl) ((World.putObj_heap_other (by omega)).trans hl.df)⟩
end
end Go.Proofs.YtalmanfjiblhcaaGreat
namespace Go.Proofs.YtalmanfjiblhcaaGreat
open Go.RowKit Go.Sort Go.Shelf
attribute [local go_sem] Oper.semAt_some
def KpR (ob : Nat) (V V' : World) : Prop := V.heap.size ≤ V'.heap.size ∧ ∀ (k : Nat) (c : Array Value) (ty : TypeId), k ≠ ob → ty ≠ 102 → V.heap[k]? = some (.cells c ty (0, 0)) → V'.heap[k]? = some (.cells c ty (0, 0))
theorem kpR_t {ob : Nat} {A B C : World} (h : KpR ob A B) (k : KpR ob B C) : KpR ob A C := ⟨Nat.le_trans h.1 k.1, fun q c ty h1 h2 hq => k.2 q c ty h1 h2 (h.2 q c ty h1 h2 hq)⟩
theorem kpR_put (ob : Nat) (V : World) (q : Nat) {o : Obj} (o' : Obj) (hq : V.heap[q]? = some o) (ho : o.isCells = false) : KpR ob V (V.putObj q o') :=
 ⟨(grownBy_putObj' V q o').size, fun k c ty _ _ hk => (World.putObj_heap_other (by rintro rfl; rw [hq] at hk; cases hk; cases ho)).trans hk⟩
theorem kpR_below {ob : Nat} {V V' : World} (h : Below V.heap.size V V') : KpR ob V V' := ⟨h.size, fun k _ _ _ _ hk => (h.block k (blk_lt hk)).trans hk⟩
theorem kpR_own {β : Type} (ob B : Nat) (A : World) : OwnFrom B (fun (_ : β) V => KpR ob A V) := fun s V V' row hs hg hr =>
 ⟨Nat.le_trans hs.1 hg.size, fun k c ty h1 h2 hk => by
  have h3 := hs.2 k c ty h1 h2 hk
  refine (hg.block k (blk_lt h3) fun e => ?_).trans h3
  obtain ⟨_, o, ho, hc⟩ := hr k e.symm
  rw [h3] at ho; cases ho; cases hc⟩
theorem own_cells {w : World} {M : Nat → Option Nd} (h : Store w M) {k : Nat} (hk : Own M k) : ∃ (c : Array Value) (ty : TypeId), ty ≠ 102 ∧ w.heap[k]? = some (.cells c ty (0, 0)) := by
 obtain ⟨q, n, hq, rfl | e | e⟩ := hk
 · exact ⟨_, _, by decide, h.blk _ _ hq⟩
 · obtain ⟨c2, k2⟩ := row_block (h.its q n hq) e
   exact ⟨_, _, by decide, k2⟩
 · obtain ⟨c2, k2⟩ := row_block (h.ks q n hq) e
   exact ⟨_, _, by decide, k2⟩
theorem root_cells {w : World} {M : Nat → Option Nd} {p : Nat} {l : List It} {F : Nat → Prop} (h : TreeAt w M p l F) : ∃ (c : Array Value) (ty : TypeId), ty ≠ 102 ∧ w.heap[p]? = some (.cells c ty (0, 0)) := by
 rcases h.root with ⟨_, _, e⟩ | ⟨_, _, _, _, e⟩
 · exact ⟨_, _, by decide, e⟩
 · exact ⟨_, _, by decide, e⟩
theorem round_any {m m' l0 : Nat} {P : Program} {l : Nat} {f : FuncId} {tmps : Array Value} {assign body : Code} {w : World} {R : Ending → World → Prop} (h : RoundIn Fence.wide m P l f tmps assign body w R) : RoundIn (Fence.wide.inRound l0) m' P l f tmps assign body w R := ⟨h.1, fun c cs _ => h.2 c cs (room_wide _)⟩
structure RowsB (w : World) (ps bs br bt : Nat) (r : Rg) (t : Int) : Prop where
 b1 : w.heap[bs]? = some (.cells #[.pointer (some ⟨ps, 0, none⟩)] 97 (0, 0))
 b2 : w.heap[br]? = some (.cells #[.string r.f, .string r.t, .bool r.hf, .bool r.ht, .bool r.pf, .bool r.pt] 46 (0, 0))
 b3 : w.heap[bt]? = some (.cells #[.int .i64 t] 3 (0, 0))
theorem RowsB.on {w w' : World} {ps bs br bt : Nat} {r : Rg} {t : Int} (h : RowsB w ps bs br bt r t) (hb : Below w.heap.size w w') : RowsB w' ps bs br bt r t :=
 ⟨blkKeep hb h.b1, blkKeep hb h.b2, blkKeep hb h.b3⟩
def RowsTo (ps : Nat) (r : Rg) (t : Int) (W : World) (e : Ending) (w' : World) : Prop := ∃ bs br bt, e = .returned (.func (.func 81) #[] #[.pointer (some ⟨bs, 0, none⟩), .pointer (some ⟨br, 0, none⟩), .pointer (some ⟨bt, 0, none⟩)]) ∧
 Hid (Below W.heap.size W w' ∧ RowsB w' ps bs br bt r t ∧ W.heap.size ≤ bs ∧ W.heap.size ≤ br ∧ W.heap.size ≤ bt)
set_option maxRecDepth 100000 in
set_option maxHeartbeats 1000000 in
theorem rows_ (ps : Nat) (r : Rg) (t : Int) (w : World) : Calls Tryz.prog 50 #[.pointer (some ⟨ps, 0, none⟩), rgV r, .int .i64 t] w (RowsTo ps r t w) := by
 obtain ⟨W1, hW1⟩ : ∃ W1, W1 = ((w.alloc (.cells #[.pointer (some ⟨ps, 0, none⟩)] 97)).alloc (.cells #[.string r.f, .string r.t, .bool r.hf, .bool r.ht, .bool r.pf, .bool r.pt] 46)).alloc (.cells #[.int .i64 t] 3) := ⟨_, rfl⟩
 have HB : Hid (Below w.heap.size w W1 ∧ RowsB W1 ps w.heap.size (w.heap.size + 1) (w.heap.size + 1 + 1) r t) := by
  obtain ⟨b0, b1, b2⟩ := two_box w (.cells #[.pointer (some ⟨ps, 0, none⟩)] 97) (.cells #[.string r.f, .string r.t, .bool r.hf, .bool r.ht, .bool r.pf, .bool r.pt] 46)
  have b3 := below_alloc ((w.alloc (.cells #[.pointer (some ⟨ps, 0, none⟩)] 97)).alloc (.cells #[.string r.f, .string r.t, .bool r.hf, .bool r.ht, .bool r.pf, .bool r.pt] 46)) (.cells #[.int .i64 t] 3)
  have b4 := new_blk ((w.alloc (.cells #[.pointer (some ⟨ps, 0, none⟩)] 97)).alloc (.cells #[.string r.f, .string r.t, .bool r.hf, .bool r.ht, .bool r.pf, .bool r.pt] 46)) (.cells #[.int .i64 t] 3)
  rw [hW1]
  exact ⟨below_step b0 b3, blkKeep b3 b1, blkKeep b3 b2, by simp only [World.size_alloc] at b4; exact b4⟩
 unfold rgV
 go_enter Tryz.func50, Tryz.ntmps50
 go_wp2_with fail
 go_ret
 rw [← hW1]
 exact ⟨_, _, _, rfl, HB.out.1, HB.out.2, Nat.le_refl _, by omega, by omega⟩
def hvI (rd : Nat → List MV) (t : Int) (x : It) : Bool := (rowC (fV rd x.2) t).isSome
def encR {l : List It} (rd : Nat → List MV) (t : Int) (x : Inl l) : Array Value := #[.string x.1.1, .slice (rwV (asL (ctV rd x.1.2) t)).a (rwV (asL (ctV rd x.1.2) t)).n (rwV (asL (ctV rd x.1.2) t)).c]
theorem chain_row {W : Zn} {w V : World} {ps p : Nat} {M : Nat → Option Nd} {F : Nat → Prop} {l : List It} {rd : Nat → List MV} {ob : Nat} (hd : VnD W w ps p M F l rd) (hok : OkM (mdl rd l)) (hm : nVer (mdl rd l) ≤ 1000000) (t : Int) (ho : ∀ k, k < w.heap.size → k ≠ ob) (hV : KpR ob w V) (x : It) (hx : x ∈ l) :
 Calls Tryz.prog 62 #[.slice x.2.a x.2.n x.2.c, .int .i64 t] V fun e w' => e = .returned (.tuple #[.slice (rwV (asL (ctV rd x.2) t)).a (rwV (asL (ctV rd x.2) t)).n (rwV (asL (ctV rd x.2) t)).c, .bool (hvI rd t x)]) ∧ Below V.heap.size V w' := by
 obtain ⟨g, e, hc⟩ := hd.ch.at' x hx
 have hx2 : (x.1, fV rd x.2) ∈ mdl rd l := List.mem_map_of_mem hx
 have hasc : AscC (fV rd x.2) := hok.asc _ hx2
 have hlen : (fV rd x.2).length ≤ nVer (mdl rd l) := by
  have h1 := ch_le hok.srt x.1
  unfold chM at h1
  rw [mem_get hok.srt hx2] at h1
  exact h1
 have ec : ctV rd x.2 = rd g := by unfold ctV; rw [e]
 have hcV : ChAt V W.S x.2 (rd g) := hc.keep (fun g' hg' => by
  obtain ⟨cur, hb⟩ := hc.blk hg'
  exact (hV.2 g' cur _ (ho g' (blk_lt hb)) (by decide) hb).trans hb.symm) (fun g' cur hb => (hV.2 g' cur _ (ho g' (blk_lt hb)) (by decide) hb).trans hb.symm)
 unfold hvI
 unfold fV at hasc hlen ⊢
 rw [ec] at hasc hlen ⊢
 rw [pvs_len] at hlen
 obtain ⟨s1, s2, _⟩ := hcV.row.shape
 refine (row_ s1 s2 (by omega) hasc t).mono fun e w' ⟨e1, e2⟩ => ?_
 rw [(rw_row hcV hasc t).2] at e1
 exact ⟨e1, e2⟩
end Go.Proofs.YtalmanfjiblhcaaGreat
namespace Go.Proofs.YtalmanfjiblhcaaGreat
open Go.RowKit Go.Sort Go.Shelf
attribute [local go_sem] Oper.semAt_some
set_option maxRecDepth 100000 in
set_option maxHeartbeats 4000000 in
theorem rows1_ {W : Zn} {w0 w : World} {ps p : Nat} {M : Nat → Option Nd} {F : Nat → Prop} {l : List It} {rd : Nat → List MV} (hd : VnD W w0 ps p M F l rd) (hok : OkM (mdl rd l)) (hm : nVer (mdl rd l) ≤ 1000000) (r : Rg) (t : Int) {ob D bs br bt : Nat}
 (h0 : Below w0.heap.size w0 w) (hb : RowsB w ps bs br bt r t) (ho : w0.heap.size ≤ ob ∧ ob < bs ∧ ob < br ∧ ob < bt) :
 SeqN Tryz.prog 81 #[.pointer (some ⟨bs, 0, none⟩), .pointer (some ⟨br, 0, none⟩), .pointer (some ⟨bt, 0, none⟩)] (encR (l := l) rd t) (KpR ob) (fun ys => ys.map (·.1) = (selR r l).filter (hvI rd t)) (fun _ => True) l.length D w := by
 intro ly J Jx W1 hW1 hD hJ hJx hY hj0
 have h01 := below_step h0 hW1
 have hd1 := hd.on h01
 have hb1 := hb.on hW1
 have hlow : ∀ k, k < w0.heap.size → k ≠ ob := fun k hk => by omega
 have hbz : bs < W1.heap.size ∧ br < W1.heap.size ∧ bt < W1.heap.size := ⟨blk_lt hb1.b1, blk_lt hb1.b2, blk_lt hb1.b3⟩
 obtain ⟨W2, hW2⟩ : ∃ W2, W2 = W1.alloc (.cells #[.func (.yield ly) #[] #[]] 181) := ⟨_, rfl⟩
 have b2 : Below W1.heap.size W1 W2 := by rw [hW2]; exact below_alloc _ _
 have hyb : W2.heap[W1.heap.size]? = some (.cells #[.func (.yield ly) #[] #[]] 181 (0, 0)) := by rw [hW2]; exact new_blk _ _
 have hs2 : W2.heap.size = W1.heap.size + 1 := by rw [hW2]; simp [go_sem]
 have HB2 := Lib.hid (And.intro b2 (And.intro hyb hs2))
 have hb2 := hb1.on b2
 have hd2 := hd1.on b2
 have HK : Hid (∀ V, Below W2.heap.size W2 V → Calls Tryz.prog 60 #[.pointer (some ⟨ps, 0, none⟩)] V fun e w' => e = .returned (.pointer (some ⟨p, 0, none⟩)) ∧ w' = V) := fun V hV => kept_ (hd2.on hV).bs
 have HA : Hid (∀ V, Calls Tryz.prog 82 #[.pointer (some ⟨p, 0, none⟩), rgV r] V (AllTo p r V)) := fun V => allB_ p r V
 have HCells : Hid (∀ V, Below W2.heap.size W2 V → ((V.cell? ⟨bs, 0, none⟩ = some (.pointer (some ⟨ps, 0, none⟩)) ∧ V.cell? ⟨br, 0, none⟩ = some (.string r.f) ∧ V.cell? ⟨br, 1, none⟩ = some (.string r.t) ∧ V.cell? ⟨br, 2, none⟩ = some (.bool r.hf) ∧ V.cell? ⟨br, 3, none⟩ = some (.bool r.ht) ∧ V.cell? ⟨br, 4, none⟩ = some (.bool r.pf) ∧ V.cell? ⟨br, 5, none⟩ = some (.bool r.pt)) ∧ Below W2.heap.size W2 V)) := fun V hV => by
  have h := hb2.on hV
  exact ⟨⟨cell_of h.b1 rfl, cell_of h.b2 rfl, cell_of h.b2 rfl, cell_of h.b2 rfl, cell_of h.b2 rfl, cell_of h.b2 rfl, cell_of h.b2 rfl⟩, hV⟩
 have HC := Lib.hid (fun V (hV : KpR ob w0 V) x hx => chain_row hd hok hm t hlow hV x hx)
 have HD := Lib.hid (And.intro hd2 (And.intro hb2 (below_step h01 b2)))
 have HJ := Lib.hid (And.intro hJ hJx)
 have HJ0 : Hid (J [] W1) := hj0
 have HY := Lib.hid hY
 have HLow := Lib.hid hlow
 have HLt : Hid ((∀ k, Own M k → k < w0.heap.size) ∧ p < w0.heap.size) := ⟨fun k hk => hd.wk.st.lt hk, hd.tr.lt⟩
 have HO := Lib.hid (And.intro ho (And.intro hbz hD))
 clear hd hok hm h0 hb hW1 hJ hJx hY hj0 h01 hd1 hb1 b2 hyb hs2 hb2 hd2 ho hlow hbz hD
 unfold rgV at *
 refine callsIn_wide.2 (callsIn_wide.1 (callsIn_of_wp_marks (n := 9) Tryz.func81 rfl (wide_fn _) (wpIn_wide.2 ?_) wide_round))
 simp only [Tryz.ntmps81, List.size_toArray, List.length_cons, List.length_nil, Nat.reduceAdd, Nat.reduceSub, Array.replicate_succ, Array.replicate_zero, List.push_toArray, List.append_toArray, List.nil_append, List.cons_append]
 go_upto_region 1 with fail
 rw [← hW2]
 clear hW2
 refine wp_region_noPanic ?_
 go_region_held (fun V => (V.cell? ⟨bs, 0, none⟩ = some (.pointer (some ⟨ps, 0, none⟩)) ∧ V.cell? ⟨br, 0, none⟩ = some (.string r.f) ∧ V.cell? ⟨br, 1, none⟩ = some (.string r.t) ∧ V.cell? ⟨br, 2, none⟩ = some (.bool r.hf) ∧ V.cell? ⟨br, 3, none⟩ = some (.bool r.ht) ∧ V.cell? ⟨br, 4, none⟩ = some (.bool r.pf) ∧ V.cell? ⟨br, 5, none⟩ = some (.bool r.pt)) ∧ Below W2.heap.size W2 V)
  (first | (exact HCells.out _ (below_drew _)) | (exact HCells.out _ (below_step (by assumption : (_ ∧ _) ∧ Below W2.heap.size W2 _).2 (by assumption))) | assumption)
  (first
    | (go_at_call 60; refine (HK.out _ (by assumption : (_ ∧ _) ∧ Below W2.heap.size W2 _).2).mono ?_; rintro e w1 ⟨rfl, rfl⟩; clear HK)
    | (go_at_call 82; refine (HA.out _).mono ?_; rintro e W3 ⟨ct, cr, rfl, HX⟩; have hb := HX.out.1; clear HA)
    | fail)
 refine NoPanic.normal ?_
 go_wp2_with fail
 have hW23 := (by assumption : (_ ∧ _) ∧ Below W2.heap.size W2 W3).2
 obtain ⟨x1, x2, x3, x4, x5⟩ := HX.out
 obtain ⟨y1, y2, y3⟩ := HB2.out
 obtain ⟨⟨o1, o2, o3, o4⟩, ⟨z1, z2, z3⟩, hDW⟩ := HO.out
 have hct : W2.heap.size ≤ ct := x4
 have hcr : W2.heap.size ≤ cr := x5
 have h03 : Below w0.heap.size w0 W3 := below_step HD.out.2.2 hW23
 have hd3 := HD.out.1.on hW23
 have hb3 := HD.out.2.1.on hW23
 have hT := hd3.seq x2 x3
 have hyb3 : W3.heap[W1.heap.size]? = some (.cells #[.func (.yield ly) #[] #[]] 181 (0, 0)) := blkKeep hW23 y2
 have hsz3 : W1.heap.size < W3.heap.size := by have := hW23.size; omega
 have hcells : ∀ k, (Own M k ∨ k = p ∨ k = ct ∨ k = cr) → k ≠ ob ∧ ∃ (c : Array Value) (ty : TypeId), ty ≠ 102 ∧ W3.heap[k]? = some (.cells c ty (0, 0)) := fun k hk => by
  rcases hk with h | h | h | h
  · obtain ⟨c, ty, h1, h2⟩ := own_cells hd3.wk.st h
    exact ⟨HLow.out k (HLt.out.1 k h), c, ty, h1, h2⟩
  · obtain ⟨c, ty, h1, h2⟩ := root_cells hd3.tr
    exact ⟨by rw [h]; exact HLow.out p HLt.out.2, c, ty, h1, by rw [h]; exact h2⟩
  · exact ⟨by omega, #[.pointer (some ⟨p, 0, none⟩)], 156, by decide, by rw [h]; exact x2⟩
  · exact ⟨by omega, #[.string r.f, .string r.t, .bool r.hf, .bool r.ht, .bool r.pf, .bool r.pt], 46, by decide, by rw [h]; exact x3⟩
 have hseq := all_stopsS 8 (by omega) hT
 have hkb : ∀ (W : World) (ll : Nat) (o o' : Obj), W3.heap.size ≤ ll → W.heap[ll]? = some o → o.isCells = false → o.isWalk = false → KpT M p ct cr W (W.putObj ll o') := fun W ll o o' h1 _ _ _ k hk => World.putObj_heap_other (by have := hT.lts k hk; omega)
 have hI0 : J (([] : List (Inl l)).filter fun x => hvI rd t x.1) W3 ∧ KpR ob W3 W3 := ⟨own_below HJ.out.1 HJ0.out (below_step y1 hW23), Nat.le_refl _, fun _ _ _ _ _ hk => hk⟩
 have HR3 := Lib.hid (And.intro hyb3 (And.intro hb3 hcells))
 have HKpT : Hid (∀ A B, KpR ob W3 A → KpR ob W3 B → KpT M p ct cr A B) := fun A B hA hB k hk => by
  obtain ⟨hne, c, ty, h1, h2⟩ := hcells k hk
  exact (hB.2 k c ty hne h1 h2).trans (hA.2 k c ty hne h1 h2).symm
 have HK03 : Hid (KpR ob w0 W3) := kpR_below h03
 have HS := Lib.hid (And.intro hsz3 (And.intro hDW o2))
 clear x1 x2 x3 x4 x5 y1 y2 y3 hT HX HB2 hW23 HD h03 hd3 hb3 hyb3 hcells HJ0 HCells o1 o2 o3 o4 z1 z2 z3 hct hcr
 rw [← wpIn_wide (n := 9)]
 apply wpIn_rangeFunc_ownG (encs := encS (l := l)) (Kp := KpT M p ct cr) (S := fun ys => ys.map (·.1) = selR r l) (Sp := fun pre => pre.map (·.1) <+: selR r l) (N := l.length) (w0 := W3) wide_round (by omega) (gf := 117) (lb := #[.pointer (some ⟨ct, 0, none⟩), .pointer (some ⟨cr, 0, none⟩)]) rfl (wide_fn _) (enters_of Tryz.func117 (by kernel_rfl) rfl) hseq kpT_t hkb (Below.refl _ _) (fun _ => rfl)
  (fun pre V => J (pre.filter fun x => hvI rd t x.1) V ∧ KpR ob W3 V) (fun cc pre V => cc = .ret ∧ Jx (pre.filter fun x => hvI rd t x.1) V)
  (fun pre V V' row hi hg hr => ⟨(own_mono HJ.out.1 (by have := HS.out.1; omega)) _ V V' row hi.1 hg hr, kpR_own (β := Unit) ob W3.heap.size W3 () V V' row hi.2 hg hr⟩) (fun cc pre V V' row hi hg hr => ⟨hi.1, (own_mono HJ.out.2 (by have := HS.out.1; omega)) _ V V' row hi.2 hg hr⟩) hI0
 case hassign =>
  intro ll x W KK hK
  unfold encS encI
  rw [fold2]
  simp only [List.setIfInBounds_toArray, List.set_cons_zero, List.set_cons_succ]
  gi_wp2
  exact hK
 case hbody =>
  rintro ll pre ⟨x, hx⟩ V ⟨hj, hk⟩ hlen
  have c3 := cell_of (o := 0) (hk.2 bt _ _ (by have := HS.out; have := HO.out; omega) (by decide) HR3.out.2.1.b3) rfl
  have HCr := Lib.hid (HC.out V (kpR_t HK03.out hk) x hx)
  have HJV := Lib.hid hj
  have HKV := Lib.hid hk
  have hlen' : (pre.filter fun x => hvI rd t x.1).length < l.length := Nat.lt_of_le_of_lt (List.length_filter_le _ _) hlen
  have hfil : (pre ++ [(⟨x, hx⟩ : Inl l)]).filter (fun x => hvI rd t x.1) = if hvI rd t x = true then (pre.filter fun x => hvI rd t x.1) ++ [(⟨x, hx⟩ : Inl l)] else pre.filter fun x => hvI rd t x.1 := by
   rw [List.filter_append]
   by_cases q : hvI rd t x = true
   · rw [if_pos q]; simp [q]
   · rw [if_neg q]; simp [q]
  have HF := Lib.hid hfil
  have HYx := Lib.hid (fun V' (hV' : J (pre.filter fun x => hvI rd t x.1) V') => HY.out (pre.filter fun x => hvI rd t x.1) (⟨x, hx⟩ : Inl l) V' hV' hlen')
  unfold encR at HYx
  clear hj hk hlen hlen' hfil
  dsimp only at HYx
  generalize rwV (asL (ctV rd x.2) t) = q at *
  generalize hhv : hvI rd t x = hv at *
  dsimp only
  gi_wp2
  refine ⟨wide_fn _, (CallsIn.inRound ll (callsIn_wide.2 HCr.out)).mono ?_⟩
  rintro e V' ⟨rfl, hV'⟩
  have hj' := own_below HJ.out.1 HJV.out hV'
  have hk' := kpR_t HKV.out (kpR_below hV')
  have HKF : Hid (KeepsFrom W3.heap.size V V') := ⟨hV'.size, fun k o _ hko _ => (hV'.block k (blk_lt hko)).trans hko⟩
  have HK' := Lib.hid hk'
  have HJ' := Lib.hid hj'
  have c9 := cell_of (o := 0) (hk'.2 W1.heap.size _ _ (by have := HO.out; omega) (by decide) HR3.out.1) rfl
  clear hV' c3 HCr
  cases hv with
  | false =>
    rw [if_neg (by simp)] at HF
    clear hj' hk'
    gi_wp2
    refine ⟨fun f _ => wide_fn f, ?_⟩
    gi_wp2
    exact ⟨HKF.out, HKpT.out V V' HKV.out HK'.out, (by show J (List.filter _ _) V'; rw [HF.out]; exact HJ'.out), HK'.out⟩
  | true =>
    rw [if_pos rfl] at HF
    obtain ⟨fn, tmps, assign, body, hy, hR⟩ := HYx.out V' hj'
    have HR := Lib.hid hR
    clear hj' hk' hR
    gi_wp2
    refine (round_any HR.out).mono ?_
    rintro e V2 (⟨rfl, hJ3, hk3, hkd⟩ | ⟨rfl, hJx3, hkd⟩)
    · have HE : Hid (KeepsFrom W3.heap.size V V2 ∧ KpR ob W3 V2) := ⟨HKF.out.trans ⟨hkd.size, fun k o hk hko ho => hkd.same k o (by have := HS.out; omega) hko ho⟩, kpR_t HK'.out hk3⟩
      have HJ3 := Lib.hid hJ3
      clear hJ3 hk3 hkd hy HR
      gi_wp2
      exact ⟨HE.out.1, HKpT.out V V2 HKV.out HE.out.2, (by show J (List.filter _ _) V2; rw [HF.out]; exact HJ3.out), HE.out.2⟩
    · have HE : Hid (KeepsFrom W3.heap.size V V2) := HKF.out.trans ⟨hkd.size, fun k o hk hko ho => hkd.same k o (by have := HS.out; omega) hko ho⟩
      have HJ3 := Lib.hid hJx3
      clear hJx3 hkd hy HR
      gi_wp2
      exact ⟨HE.out, rfl, (by show Jx (List.filter _ _) V2; rw [HF.out]; exact HJ3.out)⟩
 case hstop =>
  rintro D1 cc pre V hD1 hsp ⟨rfl, hj⟩ hK
  have HI := Lib.hid (And.intro hj hK)
  clear hj hK hseq hkb hsp
  gi_wp2
  obtain ⟨hj, hK⟩ := HI.out
  refine ⟨by simp, .inl ⟨_, _, rfl, run_takeDeferred hK, ?_⟩⟩
  exact ⟨.tuple #[], by simp [results, Tryz.results81, go_sem], ⟨_, rfl⟩, .inr ⟨_, trivial, HJ.out.2.putObj _ hj (by have := HS.out; omega) hK rfl⟩⟩
 case hdone =>
  rintro D1 ys V hD1 hys ⟨hj, _⟩ hK1
  have HYs : Hid ((ys.filter fun x => hvI rd t x.1).map (·.1) = (selR r l).filter (hvI rd t)) := by
   show _ = _
   rw [← hys, List.filter_map]; rfl
  have HI := Lib.hid (And.intro hj hK1)
  clear hj hK1 hseq hkb hys
  go_wp2_with fail
  obtain ⟨hj, hK⟩ := HI.out
  refine ⟨by simp, .inl ⟨_, _, rfl, run_takeDeferred hK, ?_⟩⟩
  exact ⟨.tuple #[], by simp [results, Tryz.results81, go_sem], ⟨_, rfl⟩, .inl ⟨_, HYs.out, HJ.out.1.putObj _ hj (by have := HS.out; omega) hK rfl⟩⟩
end Go.Proofs.YtalmanfjiblhcaaGreat
namespace Go.Proofs.YtalmanfjiblhcaaGreat
open Go.RowKit Go.Sort Go.Shelf
attribute [local go_sem] Oper.semAt_some
def prI (rd : Nat → List MV) (t : Int) (x : It) : ByteArray × ByteArray := (x.1, (rowC (fV rd x.2) t).getD ⟨#[]⟩)
theorem rows_eq (rd : Nat → List MV) (r : Rg) (t : Int) (l : List It) : rowsM r t (mdl rd l) = ((selR r l).filter (hvI rd t)).map (prI rd t) := by
 unfold rowsM selM mdl mapV selR
 rw [List.filter_map, List.filterMap_map]
 show List.filterMap _ (List.filter (fun x => hasR r x.1) l) = _
 generalize List.filter (fun x => hasR r x.1) l = q
 induction q with
 | nil => rfl
 | cons x q ih =>
   rw [List.filter_cons]
   cases e : rowC (fV rd x.2) t with
   | none =>
     rw [List.filterMap_cons_none (by simp [e]), if_neg (by simp [hvI, e])]
     exact ih
   | some y =>
     rw [List.filterMap_cons_some (b := (x.1, y)) (by simp [e]), if_pos (by simp [hvI, e]), List.map_cons, ih]
     simp [prI, e]
theorem CnV.kp {w V : World} {b : Nat} {z : Int} (_h : CnV w b z V) (y : Int) : KpR b V (V.setCell ⟨b, 0, none⟩ (.int .i64 y)) := ⟨by rw [size_set]; exact Nat.le_refl _, fun k c ty hk _ hc => (heap_far _ hk).trans hc⟩
end Go.Proofs.YtalmanfjiblhcaaGreat
namespace Go.Proofs.YtalmanfjiblhcaaGreat
open Go.RowKit Go.Sort Go.Shelf
attribute [local go_sem] Oper.semAt_some
def RowO (w : World) (B : Nat) (v : Value) (l : List It) : Prop := w.ownsRow B 102 2 v l.length (cI l)
theorem infoVn : (Tryz.prog.info? 102).map (fun i => (i.zero, i.size, i.bytes)) = some (some (.agg #[.string ⟨#[]⟩, .slice none 0 0]), 2, 40) := by kernel_rfl
theorem app_vni {w : World} {B b : Nat} {v : Value} {l : List It} {x : It} (hown : RowO w B v l) (hb : w.heap[b]? = some (.cells #[.string x.1, .slice x.2.a x.2.n x.2.c] 102 (0, 0))) (hl : l.length ≤ 1000000) (hN : B ≤ w.heap.size) :
 ∃ a n c w', (Builtin.append_ #[96, 96] 96 #[v, .slice (some ⟨b, 0, none⟩) 1 1]).run Tryz.prog w = .ok (.slice a n c) w' ∧ RowO w' B (.slice a n c) (l ++ [x]) ∧ w.grownBy w' v.ownBlock := by
 obtain ⟨i0, hi, hz0, hz1, hz2⟩ := info_parts infoVn
 have news : ∀ j u, (cI [x])[j]? = some u → w.cell? ((⟨b, 0, none⟩ : Addr).add j) = some u := fun j u hj => by
  rw [Addr.add_lit]
  match j, hj with
  | 0, hj => exact (cell_of hb rfl).trans hj
  | 1, hj => exact (cell_of hb rfl).trans hj
  | j + 2, hj => simp [cI] at hj
 obtain ⟨v', w', hr, h2, h3, _⟩ := run_append_own_at (P := Tryz.prog) w B 96 96 102 i0 (.agg #[.string ⟨#[]⟩, .slice none 0 0]) 2 40 Tryz.underlying96 hi hz0 hz1 hz2 rfl (by decide) v l.length (cI l) hown ⟨b, 0, none⟩ 1 1 (cI [x]) (by rfl) news (cI_one [x]) (by unfold maxLen; omega) (by omega) hN
 have ho : RowO w' B v' (l ++ [x]) := by
  unfold RowO
  rw [cI_append, List.length_append]
  exact h2
 obtain ⟨a, c, rfl, _⟩ := row_shape ho
 exact ⟨a, _, c, w', hr, ho, h3⟩
theorem rowO_base {w : World} {B g : Nat} {v : Value} {l : List It} (h : RowO w B v l) (hg : v.ownBlock = some g) : B ≤ g := by
 rcases h.2 with ⟨rfl, _⟩ | ⟨g', cap, cur, rfl, hb, _⟩
 · cases hg
 · simp only [Value.ownBlock, Option.some.injEq] at hg
   omega
abbrev MI := It × ByteArray
def mi (z : MI) : ByteArray × ByteArray := (z.1.1, z.2)
structure RgI (w : World) (ob : Nat) (P : List (ByteArray × ByteArray)) (v : Value) (Z : List MI) (V : World) : Prop where
 bx : Boxed V ob 96 v
 own : RowO V w.heap.size v (Z.map (·.1))
 eq : Z.map mi = P
 rows : ∀ z ∈ Z, RowAt V z.1.2 z.2 ∧ (∀ g, z.1.2.a = some ⟨g, 0, none⟩ → w.heap.size ≤ g)
 old : Below w.heap.size w V
 lo : w.heap.size ≤ ob
theorem RgI.keep {w V V' : World} {ob : Nat} {P : List (ByteArray × ByteArray)} {v : Value} {Z : List MI} (h : RgI w ob P v Z V) (hk : ∀ (k : Nat) (c : Array Value) (ty : TypeId), V.heap[k]? = some (.cells c ty (0, 0)) → V'.heap[k]? = V.heap[k]?) (hb : Below w.heap.size w V') : RgI w ob P v Z V' :=
 ⟨(hk _ _ _ h.bx).trans h.bx, row_keep h.own fun g hg => by obtain ⟨cur, hc⟩ := row_block h.own hg; exact hk g _ _ hc, h.eq, fun z hz => ⟨(h.rows z hz).1.keep fun g hg => by obtain ⟨cur, hc⟩ := (h.rows z hz).1.blk hg; exact hk g _ _ hc, (h.rows z hz).2⟩, hb, h.lo⟩
theorem RgI.on {w V V' : World} {ob : Nat} {P : List (ByteArray × ByteArray)} {v : Value} {Z : List MI} (h : RgI w ob P v Z V) (hb : Below V.heap.size V V') : RgI w ob P v Z V' := h.keep (fun k _ _ hc => hb.block k (blk_lt hc)) (below_step h.old hb)
theorem RgI.grown {w V V' : World} {ob B : Nat} {P : List (ByteArray × ByteArray)} {v : Value} {Z : List MI} {row : Option Nat} (h : RgI w ob P v Z V) (hB : w.heap.size ≤ B) (hg : V.grownBy V' row) (hr : ∀ q, row = some q → B ≤ q ∧ ∃ o : Obj, V.heap[q]? = some o ∧ o.isCells = false) : RgI w ob P v Z V' := by
 refine h.keep (fun k c ty hc => hg.block k (blk_lt hc) fun e => ?_) ⟨hg.os.trans h.old.os, hg.tape.trans h.old.tape, hg.output.trans h.old.output, Nat.le_trans h.old.size hg.size, fun k hk => (hg.block k (by have := h.old.size; omega) fun e => by have := (hr k e.symm).1; omega).trans (h.old.block k hk)⟩
 obtain ⟨_, o, ho, hcc⟩ := hr k e.symm
 rw [hc] at ho; cases ho; cases hcc
theorem RgI.step {w V V1 V2 : World} {ob : Nat} {P : List (ByteArray × ByteArray)} {v : Value} {Z : List MI} (h : RgI w ob P v Z V) (hb : Below V.heap.size V V1) {y : It} {s : ByteArray} (hs : RowAt V1 y.2 s) (hlo : ∀ g, y.2.a = some ⟨g, 0, none⟩ → w.heap.size ≤ g) {a : Option Addr} {n c : Nat}
 (ho : RowO V2 w.heap.size (.slice a n c) (Z.map (·.1) ++ [y])) (hg : (V1.alloc (.cells #[.string y.1, .slice y.2.a y.2.n y.2.c] 102)).grownBy V2 v.ownBlock) :
 RgI w ob (P ++ [(y.1, s)]) (.slice a n c) (Z ++ [(y, s)]) (V2.setCell ⟨ob, 0, none⟩ (.slice a n c)) ∧ KpR ob V (V2.setCell ⟨ob, 0, none⟩ (.slice a n c)) ∧ (∀ (k : Nat) (o : Obj), V.heap[k]? = some o → o.isCells = false → (V2.setCell ⟨ob, 0, none⟩ (.slice a n c)).heap[k]? = some o) ∧ V.heap.size ≤ V2.heap.size ∧ Boxed V2 ob 96 v := by
 have hb2 := below_step hb (below_alloc V1 (.cells #[.string y.1, .slice y.2.a y.2.n y.2.c] 102))
 have hsz := hb2.size
 have h1 := h.on hb2
 have hne : ∀ g, v.ownBlock = some g → g ≠ ob := fun g hg' e => by
  obtain ⟨cur, hc⟩ := row_block h1.own hg'
  exact kind_ne h1.bx hc (by decide) e.symm
 have hblk : ∀ (k : Nat) (c : Array Value) (ty : TypeId), ty ≠ 102 → V.heap[k]? = some (.cells c ty (0, 0)) → V2.heap[k]? = some (.cells c ty (0, 0)) := fun k c ty ht hk => by
  have hk1 := (hb2.block k (blk_lt hk)).trans hk
  refine (hg.block k (blk_lt hk1) fun e => ?_).trans hk1
  obtain ⟨cur, hc⟩ := row_block h1.own e.symm
  exact kind_ne hk1 hc ht rfl
 have hbx2 : Boxed V2 ob 96 v := hblk _ _ _ (by decide) h.bx
 have hrow : ∀ (r : Vl) (x : ByteArray), RowAt (V1.alloc (.cells #[.string y.1, .slice y.2.a y.2.n y.2.c] 102)) r x → RowAt (V2.setCell ⟨ob, 0, none⟩ (.slice a n c)) r x := fun r x hr => hr.keep fun g hgr => by
  obtain ⟨cur, hc⟩ := hr.blk hgr
  have e1 : V2.heap[g]? = some (.cells cur 5 (0, 0)) := (hg.block g (blk_lt hc) fun e => by
   obtain ⟨cur2, hc2⟩ := row_block h1.own e.symm
   exact kind_ne hc hc2 (by decide) rfl).trans hc
  refine (heap_far _ ?_).trans (e1.trans hc.symm)
  rintro rfl
  exact kind_ne h1.bx hc (by decide) rfl
 refine ⟨⟨hbx2.set _, ?_, ?_, ?_, ?_, h.lo⟩, ⟨by rw [size_set]; exact Nat.le_trans hsz hg.size, fun k c ty hk ht hc => (heap_far _ hk).trans (hblk k c ty ht hc)⟩, fun k o hk hco => ?_, Nat.le_trans hsz hg.size, hbx2⟩
 · rw [List.map_append]
   refine row_keep ho (fun g hg' => heap_far _ fun e => ?_)
   obtain ⟨cur, hc⟩ := row_block ho hg'
   exact kind_ne hbx2 hc (by decide) e.symm
 · simp [h.eq, mi]
 · intro z hz
   rcases List.mem_append.1 hz with hz | hz
   · exact ⟨hrow _ _ (h1.rows z hz).1, (h.rows z hz).2⟩
   · rw [List.mem_singleton.1 hz]
     exact ⟨hrow _ _ (hs.on (below_alloc _ _)), hlo⟩
 · refine ⟨hg.os.trans h1.old.os, hg.tape.trans h1.old.tape, hg.output.trans h1.old.output, by rw [size_set]; exact Nat.le_trans h1.old.size hg.size, fun k hk => ?_⟩
   refine (heap_far _ (by have := h.lo; omega)).trans ((hg.block k (by have := h1.old.size; omega) fun e => ?_).trans (h1.old.block k hk))
   have := rowO_base h1.own e.symm
   omega
 · have hk1 := (hb2.block k (blk_lt hk)).trans hk
   refine (heap_far _ fun e => ?_).trans ((hg.block k (blk_lt hk1) fun e => ?_).trans hk1)
   · subst e
     rw [h.bx] at hk; cases hk; cases hco
   · obtain ⟨cur, hc⟩ := row_block h1.own e.symm
     rw [hk1] at hc; cases hc; cases hco
end Go.Proofs.YtalmanfjiblhcaaGreat
