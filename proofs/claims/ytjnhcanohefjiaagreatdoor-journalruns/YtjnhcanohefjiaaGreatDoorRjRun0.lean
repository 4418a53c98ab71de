/- What the walk of the law JournalRuns takes: the step whatever its kind; the law's world between two steps. -/
import Derived.Test.YtjnhcanohefjiaaGreatDoorRjStep5
import Derived.Test.YtjnhcanohefjiaaGreatDoorJJD
import Derived.Test.YtjnhcanohefjiaaGreatDoorJNil
namespace Go.Proofs.YtjnhcanohefjiaaGreatDoor
open Go.RowKit Go.Sort Go.Maps

theorem step_ {w0 w : World} {X : Nat → Prop} {p aa bb q : Nat} {d : Dev} {K : Nat} {J : Jr} {rv ev : Value} {x : RD} {ra : Option Addr} {rc : Nat} {ea : Option Addr} {ec : Nat} {a : Ar} {A : ActV} {v0 v1 v2 v3 v4 v5 u0 u1 u2 u3 u4 u5 u6 u7 u8 : Value} (h : Wd w0 w X p aa bb q d K J rv ev x ra rc ea ec a) (hA : AOk w0 A) (hE : ErrType w0) (hK : K + 24 ≤ 1000000) (hv : rdV x ra rc = .agg #[v0, v1, v2, v3, v4, v5]) (hv1 : (#[v0, v1, v2, v3, v4, v5] : Array Value).all (·.oneCell') = true) (hu : rjV J ea ec = .agg #[u0, u1, u2, u3, u4, u5, u6, u7, u8]) (hu1 : (#[u0, u1, u2, u3, u4, u5, u6, u7, u8] : Array Value).all (·.oneCell') = true) :
    Calls Tryz.prog 12 #[.agg #[.pointer (some ⟨p, 0, none⟩), .pointer (some ⟨q, 0, none⟩), v0, v1, v2, v3, v4, v5, u0, u1, u2, u3, u4, u5, u6, u7, u8], arV a, actV A] w (StTo w0 w X (Mine p aa bb q rv ev) p aa bb K a) := by
  obtain ⟨m, h1, h2, h3⟩ := mod_at2 7 (by omega) (by omega) A.kind
  have hm : m = 0 ∨ m = 1 ∨ m = 2 ∨ m = 3 ∨ m = 4 ∨ m = 5 ∨ m = 6 := by omega
  rcases hm with rfl | rfl | rfl | rfl | rfl | rfl | rfl
  · exact step0_ h hA hE hK hv hv1 hu hu1 ⟨h1, h2⟩
  · exact step1_ h hA hE hK hv hv1 hu hu1 ⟨h1, h2⟩
  · exact step2_ h hA hE hK hv hv1 hu hu1 ⟨h1, h2⟩
  · exact step3_ h hA hE hK hv hv1 hu hu1 ⟨h1, h2⟩
  · by_cases hat : A.at' < 0
    · exact step4a_ h hA hE hK hv hv1 hu hu1 ⟨h1, h2⟩ hat
    · exact step4b_ h hA hE hK hv hv1 hu hu1 ⟨h1, h2⟩ ⟨by omega, hA.ai.2⟩
  · exact step5_ h hA hE hK hv hv1 hu hu1 ⟨h1, h2⟩
  · exact step6_ h hA hE hK hv hv1 hu hu1 ⟨h1, h2⟩
section
variable {w0 w V : World} {X X' : Nat → Prop} {p aa bb q : Nat} {d : Dev} {K : Nat} {J : Jr} {rv ev : Value} {x : RD} {ra : Option Addr} {rc : Nat} {ea : Option Addr} {ec : Nat} {a : Ar}
theorem Wd.on (h : Wd w0 w X p aa bb q d K J rv ev x ra rc ea ec a) (hb : Below w.heap.size w V) : Wd w0 V X p aa bb q d K J rv ev x ra rc ea ec a :=
  ⟨h.jn.on hb, h.off, fun k hk => Nat.lt_of_lt_of_le (h.lt k hk) hb.size, h.ls.on hb, h.ed.on hb, h.tie, h.rs, h.lf, h.ja, h.inn, h.calm, below_step h.bw hb⟩
/-- New blocks counted among one's own. -/
theorem Wd.more (h : Wd w0 w X p aa bb q d K J rv ev x ra rc ea ec a) (hb : Below w.heap.size w V) : Wd w0 V (fun k => X k ∨ (w.heap.size ≤ k ∧ k < V.heap.size)) p aa bb q d K J rv ev x ra rc ea ec a := by
  refine ⟨h.jn.on hb, fun k hk hx => ?_, fun k hk => ?_, h.ls.on hb, ⟨fun i hi => ?_, h.ed.cap⟩, h.tie, h.rs, h.lf, h.ja, h.inn, h.calm, below_step h.bw hb⟩
  · have := (h.jn.mine k hk).2
    rcases hx with m | m
    · exact h.off k hk m
    · omega
  · rcases hk with m | m
    · have := h.lt k m
      have := hb.size
      omega
    · exact m.2
  · obtain ⟨b, o, e, q1, q2⟩ := h.ed.ends i hi
    have hl := block_lt_of_cell q1
    refine ⟨b, o, e, (hb.cell hl).trans q1, fun m => ?_⟩
    rcases m with m | m | m
    · exact q2 (.inl m)
    · exact q2 (.inr m)
    · have : b < w.heap.size := hl
      omega
theorem Wd.less (h : Wd w0 w X' p aa bb q d K J rv ev x ra rc ea ec a) (hX : ∀ k, X k → X' k) : Wd w0 w X p aa bb q d K J rv ev x ra rc ea ec a :=
  ⟨h.jn, fun k hk hx => h.off k hk (hX k hx), fun k hx => h.lt k (hX k hx), h.ls, h.ed.mono (fun k hk => hk.imp_right (hX k)), h.tie, h.rs, h.lf, h.ja, h.inn, h.calm, h.bw⟩
/-- One of one's own blocks written. -/
theorem Wd.put {b : Nat} {cs old : Array Value} {t t' : TypeId} {z : Nat × Nat} (h : Wd w0 w X p aa bb q d K J rv ev x ra rc ea ec a) (hp : Put w b cs t V) (hX : X b) (hob : w.heap[b]? = some (.cells old t' z)) (ht : t' ≠ 110) (hb : w0.heap.size ≤ b) : Wd w0 V X p aa bb q d K J rv ev x ra rc ea ec a := by
  refine ⟨h.jn.keep (fun k hk => hp.far k (fun e => h.off k hk (by rw [e]; exact hX))), h.off, fun k hk => by rw [hp.size]; exact h.lt k hk, ?_, h.ed.putM hp (.inr hX), h.tie, h.rs, h.lf, h.ja, h.inn, h.calm, hp.below h.bw hb⟩
  refine h.ls.stay fun k cs z hk => hp.far k fun e => ?_
  rw [e, hob] at hk
  simp only [Option.some.injEq, Obj.cells.injEq] at hk
  exact ht hk.2.1
end
/-- The loop under way. -/
def Run11 (w : World) (a : Ar) (X : Nat → Prop) (p aa bb B11 B18 i : Nat) (wr : World) : Prop :=
  ∃ q d J rv ev x ra rc ea ec v0 v1 v2 v3 v4 v5 u0 u1 u2 u3 u4 u5 u6 u7 u8, Wd w wr X p aa bb q d (12 * i) J rv ev x ra rc ea ec a ∧ rdV x ra rc = .agg #[v0, v1, v2, v3, v4, v5] ∧ rjV J ea ec = .agg #[u0, u1, u2, u3, u4, u5, u6, u7, u8] ∧ wr.heap[B18]? = some (.cells #[.pointer (some ⟨p, 0, none⟩), .pointer (some ⟨q, 0, none⟩), v0, v1, v2, v3, v4, v5, u0, u1, u2, u3, u4, u5, u6, u7, u8] 49 (0, 0)) ∧ ArAt wr B11 a
theorem alloc_wd (w : World) : (Instr.alloc 49 true (.tuple #[])).run Tryz.prog w = .ok (.pointer (some ⟨w.heap.size, 0, none⟩)) (w.alloc (.cells #[.pointer none, .pointer none, .int .i64 0, .int .i64 0, .slice none 0 0, .bool false, .bool false, .int .i64 0, .int .i64 0, .int .i64 0, .int .i64 0, .int .u64 0, .string ⟨#[]⟩, .slice none 0 0, .int .i64 0, .int .i64 0, .int .i64 0] 49)) := by
  have hz := (zero_of_info (show (Tryz.prog.info? 49).map (fun i => (i.zero, i.size)) = some (some (.agg #[.pointer none, .pointer none, .int .i64 0, .int .i64 0, .slice none 0 0, .bool false, .bool false, .int .i64 0, .int .i64 0, .int .i64 0, .int .i64 0, .int .u64 0, .string ⟨#[]⟩, .slice none 0 0, .int .i64 0, .int .i64 0, .int .i64 0]), 17) by kernel_rfl)).1 w
  simp [Instr.alloc, hz, newVar, newObj, go_sem, Value.cells, Result.andThen]
  rfl
theorem ready_alloc_wd {l : List Oper} {Q : Exit → Act → World → Prop} {md : Region.Mode} {S : World → Prop} (i : Nat) {oi : Oper} {post : List Oper} {fuel : Nat} {listed : Array Bool} {a : Act} {w : World} (hi : l.drop i = oi :: post) (hr : Region.ready md l.toArray listed = [i]) (hw : Region.wanted oi (yielded l.toArray a.tmps) = true)
    (ho : oi.op = .alloc 49) (hS : S (w.alloc (.cells #[.pointer none, .pointer none, .int .i64 0, .int .i64 0, .slice none 0 0, .bool false, .bool false, .int .i64 0, .int .i64 0, .int .i64 0, .int .i64 0, .int .u64 0, .string ⟨#[]⟩, .slice none 0 0, .int .i64 0, .int .i64 0, .int .i64 0] 49)))
    (h : wpAnyH Tryz.prog md l.toArray Q S fuel (listed.setIfInBounds i true) (a.put oi.dst (.pointer (some ⟨w.heap.size, 0, none⟩))) (w.alloc (.cells #[.pointer none, .pointer none, .int .i64 0, .int .i64 0, .slice none 0 0, .bool false, .bool false, .int .i64 0, .int .i64 0, .int .i64 0, .int .i64 0, .int .u64 0, .string ⟨#[]⟩, .slice none 0 0, .int .i64 0, .int .i64 0, .int .i64 0] 49))) : wpAnyH Tryz.prog md l.toArray Q S (fuel + 1) listed a w :=
  ready_at i hi hr hw (.inl (by unfold execOp; simp only [ho, alloc_wd w, Sem.run_bind, Sem.run_pure, Result.andThen_ok])) hS h
theorem new_x (r s : Int) (w : World) (h : 1 ≤ r ∧ r ≤ 16 ∧ 1 ≤ s ∧ s ≤ 16384) :
    Calls Tryz.prog 5 #[.int .i64 r, .int .i64 s] w fun e w' => ∃ p aa bb, e = .returned (.tuple #[.pointer (some ⟨p, 0, none⟩), .nilIface]) ∧ (w.heap.size ≤ p ∧ w.heap.size ≤ aa ∧ w.heap.size ≤ bb) ∧ Below w.heap.size w w' ∧ DevIn w' p aa bb (newD r s) 0 :=
  (new_ r s w h).mono fun _ _ ⟨h1, h2, h3⟩ => ⟨_, _, _, h1, ⟨by omega, by omega, by omega⟩, h2, h3⟩
/-- What is told of a journal, as the document's is. -/
theorem rj_of {J : Jr} {ea : Option Addr} {ec : Nat} {u0 u1 u2 u3 u4 u5 u6 u7 u8 : Value} (h : rjV J ea ec = .agg #[u0, u1, u2, u3, u4, u5, u6, u7, u8]) : u3 = .int .u64 (J.ep : Nat) ∧ u4 = .string (bs J.row) ∧ u7 = .int .i64 ((J.pss.length - J.sf : Nat) : Int) ∧ (#[u0, u1, u2, u3, u4, u5, u6, u7, u8] : Array Value).all (·.oneCell') = true := by
  unfold rjV at h
  injection h with h1
  have h2 : (#[u0, u1, u2, u3, u4, u5, u6, u7, u8] : Array Value).all (·.oneCell') = true := by rw [← h1]; exact rj_one _ _ _ _ _ _ _ _ _ _ _
  simp only [Array.mk.injEq, List.cons.injEq] at h1
  exact ⟨h1.2.2.2.1.symm, h1.2.2.2.2.1.symm, h1.2.2.2.2.2.2.2.1.symm, h2⟩
theorem rd_of {x : RD} {ra : Option Addr} {rc : Nat} {v0 v1 v2 v3 v4 v5 : Value} (h : rdV x ra rc = .agg #[v0, v1, v2, v3, v4, v5]) : (#[v0, v1, v2, v3, v4, v5] : Array Value).all (·.oneCell') = true := by
  unfold rdV rdC at h
  injection h with h1
  rw [← h1]; exact six_one _ _ _ _ _ _ _ _
end Go.Proofs.YtjnhcanohefjiaaGreatDoor
