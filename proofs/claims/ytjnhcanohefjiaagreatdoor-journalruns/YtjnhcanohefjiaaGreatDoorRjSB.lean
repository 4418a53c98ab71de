/- What stands while the law's step is done: the journal on its device, the document's device and ends, the step's own blocks. -/
import Derived.Test.YtjnhcanohefjiaaGreatDoorRjOpen
import Derived.Test.YtjnhcanohefjiaaGreatDoorRjCut
import Derived.Test.YtjnhcanohefjiaaGreatDoorRjFlush
import Derived.Test.YtjnhcanohefjiaaGreatDoorJJD
import Derived.Test.YtjnhcanohefjiaaGreatDoorJJF
import Derived.Test.YtjnhcanohefjiaaGreatDoorJJG
namespace Go.Proofs.YtjnhcanohefjiaaGreatDoor
open Go.RowKit Go.Sort Go.Maps

theorem num_ (n : Nat) (w : World) (hg : ErrType w) : Calls Tryz.prog 9 #[errV n] w fun e w' => e = .returned (.int .i64 n) ∧ Below w.heap.size w w' := by
  unfold errV
  by_cases h : n = 0
  · subst h; rw [if_pos rfl]; exact num11_nil w
  · rw [if_neg h]; exact num11 n w hg
theorem mod_at2 (q : Int) (hq : 0 < q) (hq2 : q ≤ 1000) (k : Int) : ∃ m : Nat, wrap64 ((IntKind.u64.wrap k).tmod q) = (m : Int) ∧ IntKind.i64.wrap ((IntKind.u64.wrap k).tmod q) = (m : Int) ∧ (m : Int) < q := by
  have h0 : 0 ≤ IntKind.u64.wrap k := by simp [IntKind.wrap, IntKind.bits, IntKind.signed]; omega
  generalize IntKind.u64.wrap k = m at *
  rw [Int.tmod_eq_emod_of_nonneg h0]
  have h1 := Int.emod_nonneg m (show q ≠ 0 by omega)
  have h2 := Int.emod_lt_of_pos m hq
  generalize m % q = r at *
  refine ⟨r.toNat, ?_, ?_, by omega⟩
  · have : wrap64 r = r := by simp [wrap64]; omega
    rw [this]; omega
  · rw [wraps_i64 r (by omega) (by omega)]; omega
/-- Something done, as a value. -/
def actV (A : ActV) : Value := .agg #[.int .i64 A.kind, .int .i64 A.at', .slice A.da A.dxs.length A.dc, .slice A.ca A.cs.length A.cc]
theorem act_cells {w : World} {b : Nat} {kd at' : Int} {v v' : Value} {t : TypeId} {z : Nat × Nat} (h : w.heap[b]? = some (.cells #[.int .i64 kd, .int .i64 at', v, v'] t z)) :
    w.cell? ⟨b, 0, none⟩ = some (.int .i64 kd) ∧ w.cell? ⟨b, 1, none⟩ = some (.int .i64 at') ∧ w.cell? ⟨b, 2, none⟩ = some v ∧ w.cell? ⟨b, 3, none⟩ = some v' :=
  ⟨cell_of h rfl, cell_of h rfl, cell_of h rfl, cell_of h rfl⟩
theorem Jn.keep {w w' : World} {base p aa bb q : Nat} {d : Dev} {K : Nat} {J : Jr} {rv ev : Value} (h : Jn w base p aa bb q d K J rv ev) (hk : ∀ k, Mine p aa bb q rv ev k → w'.heap[k]? = w.heap[k]?) : Jn w' base p aa bb q d K J rv ev :=
  ⟨h.dev.keep (hk p (.inl rfl)) (hk aa (.inr (.inl rfl))) (hk bb (.inr (.inr (.inl rfl)))), h.jr.keep (hk q (.inr (.inr (.inr (.inl rfl))))) (fun g hg => hk g (.inr (.inr (.inr (.inr (.inl hg)))))) (fun g hg => hk g (.inr (.inr (.inr (.inr (.inr hg)))))), h.lo⟩
theorem LstS.ext {w w' : World} {base p aa bb q : Nat} {d : Dev} {K : Nat} {J : Jr} {rv ev : Value} {a : Option Addr} {c : Nat} {l : List RS} {M' : Nat → Prop} (h : LstS w a c l) (hj : Jn w base p aa bb q d K J rv ev) (he : Ext (Mine p aa bb q rv ev) M' w w') : LstS w' a c l :=
  h.stay fun k _ _ hk => he.block k (blk_lt hk) (hj.free hk (by decide) (by decide) (by decide) (by decide))
theorem EdF.mono {w : World} {M M' : Nat → Prop} {ea : Option Addr} {ec : Nat} {es : List Nat} (h : EdF w M ea ec es) (hm : ∀ k, M' k → M k) : EdF w M' ea ec es :=
  ⟨fun i hi => by obtain ⟨b, o, e, h1, h2⟩ := h.ends i hi; exact ⟨b, o, e, h1, fun q => h2 (hm b q)⟩, h.cap⟩
/-- What stands while a step is done. -/
structure SB (w0 w : World) (X M0 : Nat → Prop) (V : World) (p aa bb q : Nat) (d : Dev) (K : Nat) (J : Jr) (rv ev : Value) (ra : Option Addr) (rc : Nat) (l : List RS) (ea : Option Addr) (ec : Nat) (es : List Nat) (c ar ac z : Array Value) : Prop where
  jn : Jn V w0.heap.size p aa bb q d K J rv ev
  off : ∀ k, Mine p aa bb q rv ev k → ¬ X k
  fr : ∀ k, w.heap.size ≤ k → k < w.heap.size + 4 → X k
  lt : ∀ k, X k → k < V.heap.size
  ls : LstS V ra rc l
  ed : EdF V (fun k => Mine p aa bb q rv ev k ∨ X k) ea ec es
  wd : V.heap[w.heap.size]? = some (.cells c 49 (0, 0))
  ar : V.heap[w.heap.size + 1]? = some (.cells ar 36 (0, 0))
  ac : V.heap[w.heap.size + 1 + 1]? = some (.cells ac 55 (0, 0))
  out : V.heap[w.heap.size + 1 + 1 + 1]? = some (.cells z 49 (0, 0))
  ex : Ext M0 (Mine p aa bb q rv ev) w V
  bw : Below w0.heap.size w0 V
  le : w0.heap.size ≤ w.heap.size
theorem SB.prog {w0 w : World} {X M0 : Nat → Prop} {V V' : World} {p aa bb q q' : Nat} {d d' : Dev} {K K' : Nat} {J J' : Jr} {rv ev rv' ev' : Value} {ra : Option Addr} {rc : Nat} {l : List RS} {ea : Option Addr} {ec : Nat} {es : List Nat} {c ar ac z : Array Value}
    (h : SB w0 w X M0 V p aa bb q d K J rv ev ra rc l ea ec es c ar ac z) (hj : Jn V' w0.heap.size p aa bb q' d' K' J' rv' ev') (he : Ext (Mine p aa bb q rv ev) (Mine p aa bb q' rv' ev') V V') : SB w0 w X M0 V' p aa bb q' d' K' J' rv' ev' ra rc l ea ec es c ar ac z := by
  have keep : ∀ {k : Nat} {o : Obj}, X k → V.heap[k]? = some o → V'.heap[k]? = some o := fun {k o} hx hk => (he.block k (blk_lt hk) (fun m => h.off k m hx)).trans hk
  have hf := h.fr
  have hoff : ∀ k, Mine p aa bb q' rv' ev' k → ¬ X k := fun k hk hx => by
    rcases he.new k hk with m | m
    · exact h.off k m hx
    · have := h.lt k hx; omega
  refine ⟨hj, hoff, h.fr, fun k hk => Nat.lt_of_lt_of_le (h.lt k hk) he.size, h.ls.ext h.jn he, h.ed.ext (M' := fun k => Mine p aa bb q' rv' ev' k ∨ X k) ?_, keep (hf _ (by omega) (by omega)) h.wd, keep (hf _ (by omega) (by omega)) h.ar, keep (hf _ (by omega) (by omega)) h.ac, keep (hf _ (by omega) (by omega)) h.out, h.ex.trans he, h.bw.trans (he.below h.bw.size (fun k hk => (h.jn.mine k hk).1)), h.le⟩
  exact ⟨he.os, he.tape, he.output, he.size, fun k hk hn => he.block k hk (fun m => hn (.inl m)), fun k hk => by
    rcases hk with m | m
    · rcases he.new k m with n | n
      · exact .inl (.inl n)
      · exact .inr n
    · exact .inl (.inr m)⟩
theorem SB.to {w0 w : World} {X M0 : Nat → Prop} {V V' : World} {p aa bb q : Nat} {d d' : Dev} {K K' : Nat} {J J' : Jr} {rv ev : Value} {ra : Option Addr} {rc : Nat} {l : List RS} {ea : Option Addr} {ec : Nat} {es : List Nat} {c ar ac z : Array Value}
    (h : SB w0 w X M0 V p aa bb q d K J rv ev ra rc l ea ec es c ar ac z) (hj : JnTo V w0.heap.size p aa bb q rv ev d' K' J' V') : ∃ rv' ev', SB w0 w X M0 V' p aa bb q d' K' J' rv' ev' ra rc l ea ec es c ar ac z := by
  obtain ⟨rv', ev', h1, h2⟩ := hj
  exact ⟨rv', ev', h.prog h1 h2⟩
theorem SB.ref {w0 w : World} {X M0 : Nat → Prop} {V V' : World} {p aa bb q : Nat} {d : Dev} {K : Nat} {J : Jr} {rv ev : Value} {ra ra' : Option Addr} {rc rc' : Nat} {l l' : List RS} {ea ea' : Option Addr} {ec ec' : Nat} {es es' : List Nat} {c ar ac z : Array Value}
    (h : SB w0 w X M0 V p aa bb q d K J rv ev ra rc l ea ec es c ar ac z) (hb : Below V.heap.size V V') (hl : LstS V' ra' rc' l') (he : EdF V' (fun k => Mine p aa bb q rv ev k ∨ X k) ea' ec' es') : SB w0 w X M0 V' p aa bb q d K J rv ev ra' rc' l' ea' ec' es' c ar ac z :=
  ⟨h.jn.on hb, h.off, h.fr, fun k hk => Nat.lt_of_lt_of_le (h.lt k hk) hb.size, hl, he, (hb.block _ (blk_lt h.wd)).trans h.wd, (hb.block _ (blk_lt h.ar)).trans h.ar, (hb.block _ (blk_lt h.ac)).trans h.ac, (hb.block _ (blk_lt h.out)).trans h.out, h.ex.trans (Ext.of_below _ hb), below_step h.bw hb, h.le⟩
theorem SB.on {w0 w : World} {X M0 : Nat → Prop} {V V' : World} {p aa bb q : Nat} {d : Dev} {K : Nat} {J : Jr} {rv ev : Value} {ra : Option Addr} {rc : Nat} {l : List RS} {ea : Option Addr} {ec : Nat} {es : List Nat} {c ar ac z : Array Value}
    (h : SB w0 w X M0 V p aa bb q d K J rv ev ra rc l ea ec es c ar ac z) (hb : Below V.heap.size V V') : SB w0 w X M0 V' p aa bb q d K J rv ev ra rc l ea ec es c ar ac z := h.ref hb (h.ls.on hb) (h.ed.on hb)
theorem SB.M {w0 w : World} {X M0 : Nat → Prop} {V : World} {p aa bb q : Nat} {d : Dev} {K : Nat} {J : Jr} {rv ev : Value} {ra : Option Addr} {rc : Nat} {l : List RS} {ea : Option Addr} {ec : Nat} {es : List Nat} {c ar ac z : Array Value}
    (h : SB w0 w X M0 V p aa bb q d K J rv ev ra rc l ea ec es c ar ac z) : ∀ k, (Mine p aa bb q rv ev k ∨ X k) → k < V.heap.size := fun k hk => by
  rcases hk with m | m
  · exact (h.jn.mine k m).2
  · exact h.lt k m
/-- One of its own blocks written. -/
theorem SB.far {w0 w : World} {X M0 : Nat → Prop} {V V' : World} {p aa bb q b : Nat} {d : Dev} {K : Nat} {J : Jr} {rv ev : Value} {ra : Option Addr} {rc : Nat} {l : List RS} {ea : Option Addr} {ec : Nat} {es : List Nat} {c ar ac z c' z' old : Array Value} {t : TypeId} {u : Nat × Nat}
    (h : SB w0 w X M0 V p aa bb q d K J rv ev ra rc l ea ec es c ar ac z) (hX : X b) (hwb : w.heap.size ≤ b) (hob : V.heap[b]? = some (.cells old t u)) (ht : t ≠ 110) (hf : ∀ k, k ≠ b → V'.heap[k]? = V.heap[k]?) (hs : V.heap.size ≤ V'.heap.size) (hos : V'.os = V.os) (htp : V'.tape = V.tape) (hou : V'.output = V.output)
    (h1 : b ≠ w.heap.size + 1 ∧ b ≠ w.heap.size + 1 + 1) (hc : V'.heap[w.heap.size]? = some (.cells c' 49 (0, 0))) (hz : V'.heap[w.heap.size + 1 + 1 + 1]? = some (.cells z' 49 (0, 0))) : SB w0 w X M0 V' p aa bb q d K J rv ev ra rc l ea ec es c' ar ac z' := by
  refine ⟨h.jn.keep (fun k hk => hf k (fun e => h.off k hk (by rw [e]; exact hX))), h.off, h.fr, fun k hk => Nat.lt_of_lt_of_le (h.lt k hk) hs, ?_, ⟨fun i hi => ?_, h.ed.cap⟩, hc, (hf _ (Ne.symm h1.1)).trans h.ar, (hf _ (Ne.symm h1.2)).trans h.ac, hz, ?_, ?_, h.le⟩
  · refine h.ls.stay fun k cs z hk => hf k fun e => ?_
    rw [e, hob] at hk
    simp only [Option.some.injEq, Obj.cells.injEq] at hk
    exact ht hk.2.1
  · obtain ⟨b1, o1, e, q1, q2⟩ := h.ed.ends i hi
    refine ⟨b1, o1, e, ?_, q2⟩
    have := hf b1 (fun e => q2 (.inr (by rw [e]; exact hX)))
    rw [← q1]
    simp [World.cell?, this]
  · exact ⟨hos.trans h.ex.os, htp.trans h.ex.tape, hou.trans h.ex.output, Nat.le_trans h.ex.size hs, fun k hk hn => (hf k (by omega)).trans (h.ex.block k hk hn), h.ex.new⟩
  · have := h.le
    exact ⟨hos.trans h.bw.os, htp.trans h.bw.tape, hou.trans h.bw.output, Nat.le_trans h.bw.size hs, fun k hk => (hf k (by omega)).trans (h.bw.block k hk)⟩
theorem SB.putw {w0 w : World} {X M0 : Nat → Prop} {V V' : World} {p aa bb q : Nat} {d : Dev} {K : Nat} {J : Jr} {rv ev : Value} {ra : Option Addr} {rc : Nat} {l : List RS} {ea : Option Addr} {ec : Nat} {es : List Nat} {c ar ac z c' : Array Value}
    (h : SB w0 w X M0 V p aa bb q d K J rv ev ra rc l ea ec es c ar ac z) (hp : Put V w.heap.size c' 49 V') : SB w0 w X M0 V' p aa bb q d K J rv ev ra rc l ea ec es c' ar ac z :=
  h.far (h.fr _ (Nat.le_refl _) (by omega)) (Nat.le_refl _) h.wd (by decide) hp.far (by rw [hp.size]; exact Nat.le_refl _) hp.os hp.tape hp.output ⟨by omega, by omega⟩ hp.blk ((hp.far _ (by omega)).trans h.out)
theorem SB.puto {w0 w : World} {X M0 : Nat → Prop} {V V' : World} {p aa bb q : Nat} {d : Dev} {K : Nat} {J : Jr} {rv ev : Value} {ra : Option Addr} {rc : Nat} {l : List RS} {ea : Option Addr} {ec : Nat} {es : List Nat} {c ar ac z z' : Array Value}
    (h : SB w0 w X M0 V p aa bb q d K J rv ev ra rc l ea ec es c ar ac z) (hp : Put V (w.heap.size + 1 + 1 + 1) z' 49 V') : SB w0 w X M0 V' p aa bb q d K J rv ev ra rc l ea ec es c ar ac z' :=
  h.far (h.fr _ (by omega) (by omega)) (by omega) h.out (by decide) hp.far (by rw [hp.size]; exact Nat.le_refl _) hp.os hp.tape hp.output ⟨by omega, by omega⟩ ((hp.far _ (by omega)).trans h.wd) hp.blk
theorem SB.setg {w0 w : World} {X M0 : Nat → Prop} {V : World} {p aa bb q b o : Nat} {d : Dev} {K : Nat} {J : Jr} {rv ev : Value} {ra : Option Addr} {rc : Nat} {l : List RS} {ea : Option Addr} {ec : Nat} {es : List Nat} {c ar ac z old : Array Value} {u : Nat × Nat}
    (h : SB w0 w X M0 V p aa bb q d K J rv ev ra rc l ea ec es c ar ac z) (hX : X b) (hwb : w.heap.size + 1 + 1 + 1 < b) (hob : V.heap[b]? = some (.cells old 5 u)) (v : Value) : SB w0 w X M0 (V.setCell ⟨b, o, none⟩ v) p aa bb q d K J rv ev ra rc l ea ec es c ar ac z :=
  h.far hX (by omega) hob (by decide) (fun k hk => heap_far v hk) (by simp [World.setCell]) rfl rfl rfl ⟨by omega, by omega⟩ ((heap_far v (by omega)).trans h.wd) ((heap_far v (by omega)).trans h.out)
/-- What the law's world is between two steps. -/
structure Wd (w0 w : World) (X : Nat → Prop) (p aa bb q : Nat) (d : Dev) (K : Nat) (J : Jr) (rv ev : Value) (x : RD) (ra : Option Addr) (rc : Nat) (ea : Option Addr) (ec : Nat) (a : Ar) : Prop where
  jn : Jn w w0.heap.size p aa bb q d K J rv ev
  off : ∀ k, Mine p aa bb q rv ev k → ¬ X k
  lt : ∀ k, X k → k < w.heap.size
  ls : LstS w ra rc x.l
  ed : EdF w (fun k => Mine p aa bb q rv ev k ∨ X k) ea ec J.ends
  tie : Tie d x
  rs : d.r = 2 ∧ d.s = 12
  lf : 0 ≤ d.left ∧ d.left ≤ 9223372036854775807
  ja : J.a = a
  inn : inJ d a
  calm : J.dead = 0 → Calm d J
  bw : Below w0.heap.size w0 w
/-- The law's world as cells: the device and the journal, the document's. -/
theorem rd_ex (x : RD) (ra : Option Addr) (rc : Nat) : ∃ v0 v1 v2 v3 v4 v5, rdV x ra rc = .agg #[v0, v1, v2, v3, v4, v5] ∧ (#[v0, v1, v2, v3, v4, v5] : Array Value).all (·.oneCell') = true := ⟨_, _, _, _, _, _, rfl, six_one _ _ _ _ _ _ _ _⟩
theorem rj_ex (J : Jr) (ea : Option Addr) (ec : Nat) : ∃ u0 u1 u2 u3 u4 u5 u6 u7 u8, rjV J ea ec = .agg #[u0, u1, u2, u3, u4, u5, u6, u7, u8] ∧ (#[u0, u1, u2, u3, u4, u5, u6, u7, u8] : Array Value).all (·.oneCell') = true ∧ u3 = .int .u64 J.ep := ⟨_, _, _, _, _, _, _, _, _, rfl, rj_one _ _ _ _ _ _ _ _ _ _ _, rfl⟩
/-- What a step hands back. -/
def StTo (w0 w : World) (X : Nat → Prop) (M0 : Nat → Prop) (p aa bb K : Nat) (a : Ar) (e : Ending) (w' : World) : Prop :=
  ∃ q d J rv ev x ra rc ea ec v0 v1 v2 v3 v4 v5 u0 u1 u2 u3 u4 u5 u6 u7 u8, e = .returned (.tuple #[.agg #[.pointer (some ⟨p, 0, none⟩), .pointer (some ⟨q, 0, none⟩), v0, v1, v2, v3, v4, v5, u0, u1, u2, u3, u4, u5, u6, u7, u8], .bool true]) ∧ rdV x ra rc = .agg #[v0, v1, v2, v3, v4, v5] ∧ rjV J ea ec = .agg #[u0, u1, u2, u3, u4, u5, u6, u7, u8] ∧ Wd w0 w' X p aa bb q d (K + 12) J rv ev x ra rc ea ec a ∧ Ext M0 (Mine p aa bb q rv ev) w w'
/-- The end of a step. -/
theorem step_end {w0 w V : World} {X X' : Nat → Prop} {M0 : Nat → Prop} {p aa bb q K K' : Nat} {d : Dev} {J : Jr} {rv ev : Value} {x : RD} {ra : Option Addr} {rc : Nat} {ea : Option Addr} {ec : Nat} {a : Ar} {ar ac c z : Array Value} {v0 v1 v2 v3 v4 v5 u0 u1 u2 u3 u4 u5 u6 u7 u8 : Value}
    (h : SB w0 w X' M0 V p aa bb q d K' J rv ev ra rc x.l ea ec J.ends c ar ac z) (hX : ∀ k, X k → X' k) (ht : Tie d x) (hrs : d.r = 2 ∧ d.s = 12) (hlf : 0 ≤ d.left ∧ d.left ≤ 9223372036854775807) (hja : J.a = a) (hin : inJ d a) (hcm : J.dead = 0 → Calm d J) (hv : rdV x ra rc = .agg #[v0, v1, v2, v3, v4, v5]) (hu : rjV J ea ec = .agg #[u0, u1, u2, u3, u4, u5, u6, u7, u8]) (hK : K' ≤ K + 12) (hl : K + 12 ≤ 1000000) :
    StTo w0 w X M0 p aa bb K a (.returned (.tuple #[.agg #[.pointer (some ⟨p, 0, none⟩), .pointer (some ⟨q, 0, none⟩), v0, v1, v2, v3, v4, v5, u0, u1, u2, u3, u4, u5, u6, u7, u8], .bool true])) V :=
  ⟨q, d, J, rv, ev, x, ra, rc, ea, ec, v0, v1, v2, v3, v4, v5, u0, u1, u2, u3, u4, u5, u6, u7, u8, rfl, hv, hu, ⟨h.jn.mono hK hl, fun k hk hx => h.off k hk (hX k hx), fun k hx => h.lt k (hX k hx), h.ls, h.ed.mono (fun k hk => hk.imp_right (hX k)), ht, hrs, hlf, hja, hin, hcm, h.bw⟩, h.ex⟩
theorem loadVar_wd {w : World} {b : Nat} {cs : Array Value} (h : w.heap[b]? = some (.cells cs 49 (0, 0))) (hc : cs.size = 17) : (loadVar 49 ⟨b, 0, none⟩).run Tryz.prog w = .ok (.agg cs) w :=
  run_loadVar_row w b 49 49 _ (0, 0) _ h Tryz.underlying49 rfl (by rw [hc]; exact infoW17)
theorem load_wd {w : World} {b : Nat} {cs : Array Value} (h : w.heap[b]? = some (.cells cs 49 (0, 0))) (hc : cs.size = 17) : (Instr.loadAt 49 (.pointer (some ⟨b, 0, none⟩))).run Tryz.prog w = .ok (.agg cs) w := by
  simp only [Instr.loadAt, Instr.sureAddr, Sem.run_bind, Sem.run_pure, Result.andThen]
  exact loadVar_wd h hc
theorem put_wd {w : World} {b : Nat} {old cs : Array Value} (h : w.heap[b]? = some (.cells old 49 (0, 0))) (ho : old.size = 17) (hc : cs.size = 17) (h1 : cs.all (·.oneCell') = true) : ∃ w', (Instr.storeAt 49 (.pointer (some ⟨b, 0, none⟩)) (.agg cs)).run Tryz.prog w = .ok () w' ∧ Put w b cs 49 w' := store_all h ho hc infoW17 h1
theorem results_wd {fn : Func} {p q : Tmp} (h : fn.results = #[.cell p 49, .tmp q]) (tmps : Array Value) (w : World) (b : Nat) (cs : Array Value) (v : Value) (hp : tmps.getD p undef = .pointer (some ⟨b, 0, none⟩)) (hq : tmps.getD q undef = v) (hb : w.heap[b]? = some (.cells cs 49 (0, 0))) (hc : cs.size = 17) :
    (results fn tmps).run Tryz.prog w = .ok (.tuple #[.agg cs, v]) w := by
  have hl := loadVar_wd hb hc
  simp only [results, h]
  rw [Array.getD_eq_getD_getElem?] at hp hq
  simp [Result.andThen, hp, hq, asAddr, hl]
section
variable {w : World} {b : Nat} {pv qv v0 v1 v2 v3 v4 v5 u0 u1 u2 u3 u4 u5 u6 u7 u8 : Value} {t : TypeId}
theorem wd_all (hv : (#[v0, v1, v2, v3, v4, v5] : Array Value).all (·.oneCell') = true) (hu : (#[u0, u1, u2, u3, u4, u5, u6, u7, u8] : Array Value).all (·.oneCell') = true) (hp : pv.oneCell' = true) (hq : qv.oneCell' = true) : (#[pv, qv, v0, v1, v2, v3, v4, v5, u0, u1, u2, u3, u4, u5, u6, u7, u8] : Array Value).all (·.oneCell') = true := by
  refine Array.all_eq_true_iff_forall_mem.2 fun y hy => ?_
  have hv' := Array.all_eq_true_iff_forall_mem.1 hv
  have hu' := Array.all_eq_true_iff_forall_mem.1 hu
  clear hv hu
  simp only [List.mem_toArray, List.mem_cons, List.not_mem_nil, or_false] at hy hv' hu'
  rcases hy with rfl | rfl | hy
  · exact hp
  · exact hq
  · by_cases h6 : y = v0 ∨ y = v1 ∨ y = v2 ∨ y = v3 ∨ y = v4 ∨ y = v5
    · exact hv' y h6
    · refine hu' y ?_
      rcases hy with e | e | e | e | e | e | e
      · exact absurd (.inl e) h6
      · exact absurd (.inr (.inl e)) h6
      · exact absurd (.inr (.inr (.inl e))) h6
      · exact absurd (.inr (.inr (.inr (.inl e)))) h6
      · exact absurd (.inr (.inr (.inr (.inr (.inl e))))) h6
      · exact absurd (.inr (.inr (.inr (.inr (.inr e))))) h6
      · exact e
/-- The document's parts loaded out of the law's world, and stored into it. -/
theorem load_wj {z : Nat × Nat} (h : w.heap[b]? = some (.cells #[pv, qv, v0, v1, v2, v3, v4, v5, u0, u1, u2, u3, u4, u5, u6, u7, u8] t z)) : (Instr.loadAt 43 (.pointer (some ⟨b, 8, none⟩))).run Tryz.prog w = .ok (.agg #[u0, u1, u2, u3, u4, u5, u6, u7, u8]) w :=
  load_mid h 43 8 _ _ Tryz.underlying43 rfl infoJ9 rfl
theorem load_wr {z : Nat × Nat} (h : w.heap[b]? = some (.cells #[pv, qv, v0, v1, v2, v3, v4, v5, u0, u1, u2, u3, u4, u5, u6, u7, u8] t z)) : (Instr.loadAt 33 (.pointer (some ⟨b, 2, none⟩))).run Tryz.prog w = .ok (.agg #[v0, v1, v2, v3, v4, v5]) w :=
  load_mid h 33 2 _ _ Tryz.underlying33 rfl infoRD rfl
theorem store_wj {u0' u1' u2' u3' u4' u5' u6' u7' u8' : Value} (h : w.heap[b]? = some (.cells #[pv, qv, v0, v1, v2, v3, v4, v5, u0, u1, u2, u3, u4, u5, u6, u7, u8] t (0, 0))) (hu : (#[u0', u1', u2', u3', u4', u5', u6', u7', u8'] : Array Value).all (·.oneCell') = true) : ∃ w', (Instr.storeAt 43 (.pointer (some ⟨b, 8, none⟩)) (.agg #[u0', u1', u2', u3', u4', u5', u6', u7', u8'])).run Tryz.prog w = .ok () w' ∧ Put w b #[pv, qv, v0, v1, v2, v3, v4, v5, u0', u1', u2', u3', u4', u5', u6', u7', u8'] t w' :=
  store_mid h 43 8 _ _ (by simp) infoJ9 hu (by simp only [putA, List.setIfInBounds_toArray, List.set_cons_succ, List.set_cons_zero])
theorem store_wr {v0' v1' v2' v3' v4' v5' : Value} (h : w.heap[b]? = some (.cells #[pv, qv, v0, v1, v2, v3, v4, v5, u0, u1, u2, u3, u4, u5, u6, u7, u8] t (0, 0))) (hv : (#[v0', v1', v2', v3', v4', v5'] : Array Value).all (·.oneCell') = true) : ∃ w', (Instr.storeAt 33 (.pointer (some ⟨b, 2, none⟩)) (.agg #[v0', v1', v2', v3', v4', v5'])).run Tryz.prog w = .ok () w' ∧ Put w b #[pv, qv, v0', v1', v2', v3', v4', v5', u0, u1, u2, u3, u4, u5, u6, u7, u8] t w' :=
  store_mid h 33 2 _ _ (by simp) infoRD hv (by simp only [putA, List.setIfInBounds_toArray, List.set_cons_succ, List.set_cons_zero])
end
end Go.Proofs.YtjnhcanohefjiaaGreatDoor
