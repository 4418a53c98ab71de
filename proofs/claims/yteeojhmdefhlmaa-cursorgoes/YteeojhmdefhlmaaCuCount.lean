/- Count: how many items of a tree lie in a range. -/
import Derived.Test.YteeojhmdefhlmaaCuAll
import Derived.Test.YteeojhmdefhlmaaCuEnds
namespace Go.Proofs.Yteeojhmdefhlmaa
open Go.RowKit Go.Sort Go.Shelf

attribute [local go_sem] Oper.semAt_some
/-- Between two rounds: the number so far, and what is old stays. -/
structure CnI (w : World) (n0 : Nat) (pre : List It) (W : World) : Prop where
  bx : Boxed W (n0 + 1) 3 (.int .i64 pre.length)
  old : Below n0 w W
  sz : n0 + 1 + 1 + 1 + 1 ≤ W.heap.size
theorem CnI.grown {w W W' : World} {n0 : Nat} {pre : List It} {row : Option Nat} (h : CnI w n0 pre W) (hw : n0 = w.heap.size) (hg : W.grownBy W' row) (hr : ∀ r, row = some r → n0 + 1 + 1 + 1 + 1 ≤ r) : CnI w n0 pre W' := by
  have key : ∀ k, k < n0 + 1 + 1 + 1 + 1 → W'.heap[k]? = W.heap[k]? := fun k hk => hg.block k (by have := h.sz; omega) (fun e => by have := hr k e.symm; omega)
  exact ⟨(key _ (by omega)).trans h.bx, ⟨hg.os.trans h.old.os, hg.tape.trans h.old.tape, hg.output.trans h.old.output, Nat.le_trans h.old.size hg.size, fun k hk => (key k (by omega)).trans (h.old.block k hk)⟩, Nat.le_trans h.sz hg.size⟩
theorem four_boxes (w : World) (o0 o1 o2 o3 : Obj) (W : World) (hW : W = (((w.alloc o0).alloc o1).alloc o2).alloc o3) :
    W.heap.size = w.heap.size + 1 + 1 + 1 + 1 ∧ Below w.heap.size w W ∧ W.heap[w.heap.size + 1]? = some o1 ∧ W.heap[w.heap.size + 1 + 1]? = some o2 ∧ W.heap[w.heap.size + 1 + 1 + 1]? = some o3 := by
  subst hW
  refine ⟨by simp [go_sem], below_step (below_three w _ _ _) (below_alloc _ _), blkKeep (below_alloc _ _) (blkKeep (below_alloc _ _) (two_alloc w o0 o1)), blkKeep (below_alloc _ _) (three_alloc w o0 o1 o2), ?_⟩
  have := new_blk (((w.alloc o0).alloc o1).alloc o2) o3
  simpa [go_sem] using this
set_option maxRecDepth 100000 in
set_option maxHeartbeats 2000000 in
theorem count_in {w : World} {M : Nat → Option Nd} {p : Nat} {l : List It} {F : Nat → Prop} (hs : Store w M) (ht : TreeAt w M p l F) (hl : l.length ≤ 1000000) (r : Rg) :
    CallsIn Fence.wide 9 Try.prog 23 #[.pointer (some ⟨p, 0, none⟩), rgV r] w fun e w' => e = .returned (.int .i64 (selR r l).length) ∧ Below w.heap.size w w' := by
  have HCh : Hid (∀ W, CallsIn Fence.wide 8 Try.prog 21 #[.pointer (some ⟨p, 0, none⟩), rgV r] W fun e w' => e = .returned (.func (.func 37) #[] #[.pointer (some ⟨W.heap.size, 0, none⟩), .pointer (some ⟨W.heap.size + 1, 0, none⟩)]) ∧ w' = (W.alloc (.cells #[.pointer (some ⟨p, 0, none⟩)] 38)).alloc (.cells #[.string r.f, .string r.t, .bool r.hf, .bool r.ht, .bool r.pf, .bool r.pt] 24)) := fun W => callsIn_wide.2 (all_ p r W)
  unfold rgV at *
  refine callsIn_of_wp_marks Try.func23 rfl (wide_fn _) ?_ wide_round
  simp only [Try.ntmps23, List.size_toArray, List.length_cons, List.length_nil, Nat.reduceAdd, Nat.reduceSub, Array.replicate_succ, Array.replicate_zero, List.push_toArray, List.append_toArray, List.nil_append, List.cons_append]
  gi_wp2_with (first | (refine ⟨trivial, ?_⟩; gi_at_call 21; refine (HCh.out _).mono ?_; rintro e w1 ⟨rfl, rfl⟩) | gi_in)
  clear HCh
  obtain ⟨W5, hW5⟩ : ∃ W5, W5 = (((w.alloc (.cells #[.string r.f, .string r.t, .bool r.hf, .bool r.ht, .bool r.pf, .bool r.pt] 24)).alloc (.cells #[.int .i64 0] 3)).alloc (.cells #[.pointer (some ⟨p, 0, none⟩)] 38)).alloc (.cells #[.string r.f, .string r.t, .bool r.hf, .bool r.ht, .bool r.pf, .bool r.pt] 24) := ⟨_, rfl⟩
  rw [← hW5]
  obtain ⟨hs5, hB5, q1, q2, q3⟩ := four_boxes w _ _ _ _ W5 hW5
  clear hW5
  have hT : Tr W5 M p l F (w.heap.size + 1 + 1) (w.heap.size + 1 + 1 + 1) r := ⟨hs.on hB5, ht.on hB5, q2, q3⟩
  have hlt : ∀ k, (Own M k ∨ k = p) → k < w.heap.size := by
    rintro k (h | rfl)
    · exact hs.lt h
    · exact ht.lt
  have hI0 : CnI w w.heap.size [] W5 := ⟨q1, hB5, by omega⟩
  have hseq := all_stops 8 (by omega) hT
  clear q1 q2 q3 hs ht hT
  refine wpIn_rangeFunc_ownG wide_round (by omega) (gf := 37) (lb := #[.pointer (some ⟨w.heap.size + 1 + 1, 0, none⟩), .pointer (some ⟨w.heap.size + 1 + 1 + 1, 0, none⟩)]) rfl (wide_fn _) (enters_of Try.func37 (by kernel_rfl) rfl) hseq kpT_t ?kb (Below.refl _ _) (fun _ => rfl)
    (fun pre W => CnI w w.heap.size pre W) (fun _ _ _ => False)
    (fun pre W W' row hi hg hr => CnI.grown hi rfl hg (fun r e => by have := (hr r e).1; omega)) (fun cc pre W W' row hi hg hr => hi) hI0
    (fun x => { tmps := #[.pointer (some ⟨p, 0, none⟩), .agg #[.string r.f, .string r.t, .bool r.hf, .bool r.ht, .bool r.pf, .bool r.pt], undef, .pointer (some ⟨w.heap.size, 0, none⟩), .int .i64 0, .pointer (some ⟨w.heap.size + 1, 0, none⟩), .pointer (some ⟨p, 0, none⟩),
      .agg #[.string r.f, .string r.t, .bool r.hf, .bool r.ht, .bool r.pf, .bool r.pt], .func (.func 37) #[] #[.pointer (some ⟨w.heap.size + 1 + 1, 0, none⟩), .pointer (some ⟨w.heap.size + 1 + 1 + 1, 0, none⟩)], .string x.1, .string x.2, undef, undef, undef], defers := [] })
    ?assign ?body ?done ?stop
  case kb =>
    intro W ll o o' hl2 _ _ _
    rintro k (h | h | h | h)
    · exact World.putObj_heap_other (by have := hlt k (.inl h); omega)
    · exact World.putObj_heap_other (by have := hlt k (.inr h); omega)
    · exact World.putObj_heap_other (by omega)
    · exact World.putObj_heap_other (by omega)
  case assign =>
    intro l x W KK hK
    unfold encI
    gi_wp2
    simpa using hK
  case body =>
    rintro ll pre x W hi hlen
    have hwr := wraps_i64 ((pre.length : Int) + 1) (by omega) (by omega)
    have c0 := hi.bx.cell
    have f0 := hi.bx.frozen
    have HI := Lib.hid hi
    clear hi
    gi_wp2
    have hi := HI.out
    have hss : (W.setCell ⟨w.heap.size + 1, 0, none⟩ (.int .i64 ((pre.length : Int) + 1))).heap.size = W.heap.size := size_set _ _ _
    refine ⟨⟨by rw [hss]; exact Nat.le_refl _, fun k o hk hko _ => (heap_far _ (by omega)).trans hko⟩, ?_, ?_, ?_, ?_⟩
    · rintro k (h | h | h | h)
      · exact heap_far _ (by have := hlt k (.inl h); omega)
      · exact heap_far _ (by have := hlt k (.inr h); omega)
      · exact heap_far _ (by omega)
      · exact heap_far _ (by omega)
    · have := hi.bx.set (.int .i64 ((pre.length : Int) + 1))
      rw [List.length_append]
      exact this
    · exact ⟨hi.old.os, hi.old.tape, hi.old.output, by rw [hss]; exact hi.old.size, fun k hk => (heap_far _ (by omega)).trans (hi.old.block k hk)⟩
    · rw [hss]; exact hi.sz
  case done =>
    rintro D ys W hD rfl hi hK5
    have c0 := hi.bx.cell
    have HI := Lib.hid (And.intro hi hK5)
    clear hi hK5
    gi_wp2
    obtain ⟨hi, hK5⟩ := HI.out
    refine ⟨by simp, .inl ⟨_, _, rfl, run_takeDeferred hK5, ?_⟩⟩
    exact ⟨_, by simp [results, Try.results23, go_sem], rfl, (CnI.grown hi rfl (grownBy_putObj' _ D _) (fun r e => by cases e; omega)).old⟩
  case stop =>
    rintro D cc pre W hD _ hf
    exact hf.elim
theorem count_ {w : World} {M : Nat → Option Nd} {p : Nat} {l : List It} {F : Nat → Prop} (hs : Store w M) (ht : TreeAt w M p l F) (hl : l.length ≤ 1000000) (r : Rg) :
    Calls Try.prog 23 #[.pointer (some ⟨p, 0, none⟩), rgV r] w fun e w' => e = .returned (.int .i64 (selR r l).length) ∧ Below w.heap.size w w' := callsIn_wide.1 (count_in hs ht hl r)
end Go.Proofs.Yteeojhmdefhlmaa
