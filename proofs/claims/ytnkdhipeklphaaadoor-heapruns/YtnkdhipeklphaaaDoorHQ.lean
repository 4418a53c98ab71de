/- How a queue lies in memory; New, nextTurn, Len, find, takeFirst. -/
import Derived.Test.YtnkdhipeklphaaaDoorHKp
namespace Go.Proofs.YtnkdhipeklphaaaDoor
open Go.RowKit Go.Sort Go.Maps

/-- A number is an int. -/
def inI (n : Int) : Prop := -9223372036854775808 ≤ n ∧ n ≤ 9223372036854775807
/-- How a pointer to a slot reads as a map's element. -/
def ptE (v : Value) : Option (DataW Unit × List MemPlace) :=
  match v with
  | .pointer none => some (.nil, [])
  | .pointer (some ⟨b, 0, none⟩) => some (.lit (.int .i64 b), [])
  | _ => none
theorem ptE_none : ptE (.pointer none) = some (.nil, []) := rfl
theorem ptE_pt (b : Nat) : ptE (pt b) = some (.lit (.int .i64 b), []) := rfl
theorem ptE_inv {v : Value} {b : Nat} {ps : List MemPlace} (h : ptE v = some (.lit (.int .i64 b), ps)) : v = pt b := by
  unfold ptE at h
  split at h
  · simp at h
  · rename_i c
    simp only [Option.some.injEq, Prod.mk.injEq, DataW.lit.injEq, Lit.int.injEq, true_and] at h
    have : c = b := by omega
    subst this; rfl
  · cases h
def kl (id : Int) : Lit := .int .i64 id
theorem keyed : Maps.Keyed Tryd.prog 3 := Maps.int_keyed Tryd.underlying3
theorem key_ (id : Int) (h : inI id) : keyOf Tryd.prog 3 (.int .i64 id) = some (kl id) := by
  refine keyOf_int_mk Tryd.underlying3 ?_
  unfold inI at h
  simp [Lit.wf]
  exact ⟨h.1, h.2⟩
/-- The map leads from the numbers in the line to their slots. -/
def MapQ (w : World) (N : Nat) (mv : Value) (t n : Nat) (b : Nat → Nat) (S : Nat → Sl) : Prop :=
  (mv = .map none ∧ n = 0) ∨ ∃ m D, mv = .map (some m) ∧ N ≤ m ∧ w.ownsMap Tryd.prog 3 ptE m t D ∧ (∀ k, k < n → has D (kl (S (b k)).id) = true ∧ D.atKey (kl (S (b k)).id) .nil = .lit (.int .i64 (b k))) ∧ ∀ id, inI id → has D (kl id) = true → ∃ k, k < n ∧ (S (b k)).id = id
/-- A queue: what it holds, in order, and how many turns were given out. -/
structure Qu (w : World) (N qb : Nat) (r : List Sl) (t : Nat) (mv v : Value) (n : Nat) (b : Nat → Nat) (S : Nat → Sl) : Prop where
  ln : Ln w N qb 54 [mv, .int .i64 t] v n b S
  hp : Hp kle (fun k => S (b k)) n
  cont : Cont (fun k => S (b k)) n r
  srt : Srt r
  map : MapQ w N mv t n b S
  wf : ∀ x ∈ r, x.text = ⟨#[]⟩ ∧ x.turn ≤ t ∧ inI x.id ∧ inI x.rank
  ids : ∀ x ∈ r, ∀ y ∈ r, x.id = y.id → x = y
  tl : t ≤ 1000000
theorem Qu.len {w : World} {N qb : Nat} {r : List Sl} {t : Nat} {mv v : Value} {n : Nat} {b : Nat → Nat} {S : Nat → Sl} (h : Qu w N qb r t mv v n b S) : r.length = n := h.cont.2.2.2
theorem MapQ.on {w w' : World} {N : Nat} {mv : Value} {t n : Nat} {b : Nat → Nat} {S : Nat → Sl} (h : MapQ w N mv t n b S) (hb : ∀ m es cl, w.heap[m]? = some (.map es cl) → N ≤ m → w'.heap[m]? = w.heap[m]?) : MapQ w' N mv t n b S := by
  rcases h with h | ⟨m, D, e, hN, hm, h1, h2⟩
  · exact .inl h
  · obtain ⟨es, cl, k1, k2, k3, k4⟩ := hm
    exact .inr ⟨m, D, e, hN, ⟨es, cl, (hb m es cl k1 hN).trans k1, k2, k3, k4⟩, h1, h2⟩
theorem MapQ.pm {w : World} {N : Nat} {mv : Value} {t n : Nat} {b b' : Nat → Nat} {S : Nat → Sl} (h : MapQ w N mv t n b S) (hp : Pm n b b') : MapQ w N mv t n b' S := by
  rcases h with h | ⟨m, D, e, hN, hm, h1, h2⟩
  · exact .inl h
  · refine .inr ⟨m, D, e, hN, hm, fun k hk => ?_, fun id hid hh => ?_⟩
    · obtain ⟨j, hj, e⟩ := hp.1 k hk
      rw [e]; exact h1 j hj
    · obtain ⟨k, hk, e⟩ := h2 id hid hh
      obtain ⟨j, hj, e'⟩ := hp.2 k hk
      exact ⟨j, hj, by rw [← e']; exact e⟩
theorem Fr.map {N hb m : Nat} {w w' : World} {es : Array MapEntry} {cl : Nat} (h : Fr N hb w w') (hm : w.heap[m]? = some (.map es cl)) (hne : m ≠ hb) : w'.heap[m]? = w.heap[m]? :=
  h.block m (blk_lt hm) (.inr ⟨hne, oth_map hm⟩)
/-- What stays while a queue is worked on. -/
structure FQ (N : Nat) (w w' : World) : Prop where
  os : w'.os = w.os
  tape : w'.tape = w.tape
  output : w'.output = w.output
  size : w.heap.size ≤ w'.heap.size
  low : ∀ k : Nat, k < w.heap.size → k < N → w'.heap[k]? = w.heap[k]?
  keep : ∀ (k : Nat) (c : Array Value) (t : TypeId) (z : Nat × Nat), w.heap[k]? = some (Obj.cells c t z) → t ≠ 59 → t ≠ 56 → t ≠ 54 → w'.heap[k]? = w.heap[k]?
theorem FQ.refl (N : Nat) (w : World) : FQ N w w := ⟨rfl, rfl, rfl, Nat.le_refl _, fun _ _ _ => rfl, fun _ _ _ _ _ _ _ _ => rfl⟩
theorem FQ.trans {N : Nat} {w w' w'' : World} (h : FQ N w w') (k : FQ N w' w'') : FQ N w w'' := by
  refine ⟨k.os.trans h.os, k.tape.trans h.tape, k.output.trans h.output, Nat.le_trans h.size k.size, fun i hi hN => ?_, fun i c t z hc h1 h2 h3 => ?_⟩
  · exact (k.low i (Nat.lt_of_lt_of_le hi h.size) hN).trans (h.low i hi hN)
  · have e := h.keep i c t z hc h1 h2 h3
    exact (k.keep i c t z (e.trans hc) h1 h2 h3).trans e
theorem Fr.fq {N hb : Nat} {w w' : World} {c : Array Value} {z : Nat × Nat} (h : Fr N hb w w') (hq : w.heap[hb]? = some (.cells c 54 z)) : FQ N w w' := by
  refine ⟨h.os, h.tape, h.output, h.size, fun k hk hN => h.block k hk (.inl hN), fun k c t z hc h1 h2 h3 => h.block k (blk_lt hc) (.inr ⟨fun e => ?_, oth_cells hc h1 h2⟩)⟩
  subst e
  rw [hq] at hc
  simp only [Option.some.injEq, Obj.cells.injEq] at hc
  exact h3 hc.2.1.symm
theorem below_fq {w w' : World} (h : Below w.heap.size w w') (N : Nat) : FQ N w w' := ⟨h.os, h.tape, h.output, h.size, fun k hk _ => h.block k hk, fun k _ _ _ hc _ _ _ => h.block k (blk_lt hc)⟩
theorem FQ.below {N : Nat} {w w' : World} (h : FQ N w w') (hN : N ≤ w.heap.size) : Below N w w' := ⟨h.os, h.tape, h.output, h.size, fun k hk => h.low k (by omega) hk⟩
theorem turned_fq {N m : Nat} {w w' : World} (h : w.mapTurned w' m) (hN : N ≤ m) : FQ N w w' := by
  have hg := h.grown
  obtain ⟨es, cl, es', cl', hm, rfl⟩ := h
  refine ⟨hg.os, hg.tape, hg.output, hg.size, fun k hk hkN => hg.block k hk (fun e => ?_), fun k c t z hc _ _ _ => hg.block k (blk_lt hc) (fun e => ?_)⟩
  · simp only [Option.some.injEq] at e; omega
  · simp only [Option.some.injEq] at e; subst e; rw [hm] at hc; cases hc
set_option maxHeartbeats 400000 in
theorem new_ (w : World) : Calls Tryd.prog 5 #[] w fun e w' => e = .returned (.pointer (some ⟨w.heap.size, 0, none⟩)) ∧ Below w.heap.size w w' ∧ Qu w' w.heap.size w.heap.size [] 0 (.map none) (.slice none 0 0) 0 (fun _ => 0) (fun _ => ⟨0, 0, ⟨#[]⟩, 0⟩) := by
  go_enter Tryd.func5, Tryd.ntmps5
  go_wp2_with fail
  go_ret
  refine ⟨rfl, (Below.refl _ _).alloc (Nat.le_refl _) _, ?_⟩
  refine ⟨⟨heap_alloc_new w _, by decide, by decide, Nat.le_refl _, .inl ⟨rfl, rfl⟩, fun k hk => by omega, by omega⟩, fun k _ h => by omega, cont_nil _, List.Pairwise.nil, .inl ⟨rfl, rfl⟩, fun x hx => by simp at hx, fun x hx => by simp at hx, by omega⟩
set_option maxHeartbeats 400000 in
theorem qlen_ {w : World} {N hb : Nat} {ty : TypeId} {rs : List Value} {v : Value} {n : Nat} {b : Nat → Nat} {S : Nat → Sl} (h : Ln w N hb ty rs v n b S) : Calls Tryd.prog 15 #[.pointer (some ⟨hb, 0, none⟩)] w fun e w' => e = .returned (.int .i64 n) ∧ w' = w := by
  have hc := h.head.1
  obtain ⟨a, c, rfl, _, _⟩ := h.len
  clear h
  go_enter Tryd.func15, Tryd.ntmps15
  go_wp2
  go_ret
  exact ⟨rfl, rfl⟩
set_option maxHeartbeats 400000 in
theorem qlen_nil (w : World) : Calls Tryd.prog 15 #[.pointer none] w fun e w' => e = .returned (.int .i64 0) ∧ w' = w := by
  go_enter Tryd.func15, Tryd.ntmps15
  go_wp2
  go_ret
  exact ⟨rfl, rfl⟩
set_option maxHeartbeats 400000 in
theorem turn_ (qb : Nat) (t : Int) (w : World) (hc : w.cell? ⟨qb, 2, none⟩ = some (.int .i64 t)) (hf : w.frozen? ⟨qb, 2, none⟩ = false) (h0 : 0 ≤ t) (h1 : t ≤ 1000000) :
    Calls Tryd.prog 19 #[.pointer (some ⟨qb, 0, none⟩)] w fun e w' => e = .returned (.int .i64 (t + 1)) ∧ w' = w.setCell ⟨qb, 2, none⟩ (.int .i64 (t + 1)) := by
  go_enter Tryd.func19, Tryd.ntmps19
  go_wp2
  go_ret
  exact ⟨rfl, rfl⟩
set_option maxHeartbeats 1000000 in
theorem take_ {w : World} {N hb : Nat} {ty : TypeId} {rs : List Value} {v : Value} {m : Nat} {b : Nat → Nat} {S : Nat → Sl} (h : Ln w N hb ty rs v (m + 1) b S) (hp : Hp kle (fun k => S (b k)) (m + 1)) :
    Calls Tryd.prog 26 #[.pointer (some ⟨hb, 0, none⟩)] w fun e w' => e = .returned (.pointer (some ⟨b 0, 0, none⟩)) ∧ ∃ v' b', Ln w' N hb ty rs v' m b' S ∧ Hp kle (fun k => S (b' k)) m ∧ Pm (m + 1) b b' ∧ b' m = b 0 ∧ SlotAt w' (b 0) (S (b 0)) m ∧ Fr N hb w w' := by
  have ta : ∀ (v : Value) (w : World), (Instr.typeAssert (.iface 56 v) 20 56 false).run Tryd.prog w = .ok v w := fun _ _ => by kernel_rfl
  have HP := Lib.hid (kpop_ h hp)
  unfold ifL pt at HP
  clear h hp
  go_enter Tryd.func26, Tryd.ntmps26
  go_wp2_with fail
  refine HP.out.mono ?_
  rintro e w2 ⟨rfl, v', b', h1, h2, h3, h4, h5, h6⟩
  have HE : Hid (Ln w2 N hb ty rs v' m b' S ∧ Hp kle (fun k => S (b' k)) m ∧ Pm (m + 1) b b' ∧ b' m = b 0 ∧ SlotAt w2 (b 0) (S (b 0)) m ∧ Fr N hb w w2) := ⟨h1, h2, h3, h4, h5, h6⟩
  clear h1 h2 h3 h4 h5 h6 HP
  go_wp2_with fail
  go_ret
  exact ⟨rfl, v', b', HE.out⟩
end Go.Proofs.YtnkdhipeklphaaaDoor
