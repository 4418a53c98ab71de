/- How a line of slots lies in memory; what stays when one is worked on. -/
import Derived.Test.YtnkdhipeklphaaaDoorHKey
import Derived.Test.YtnkdhipeklphaaaDoorChecked
import Derived.WalkKit
import Derived.WalkSpells
import Derived.WalkLawsBesides
import Derived.Lib.QuietBelow
import Derived.Lib.Hide
import Derived.Deep.RegionWith
import Derived.Deep.QuietTactic
import Derived.LoopN
import Derived.WalkSmall
import Derived.IntWalk
import Derived.Laws.StructEq
import Derived.BigQuiet
import Derived.BigRegion
import Derived.OwnWalk
import Derived.Deep.OwnRows
import Derived.Maps.OwnSet
namespace Go.Proofs.YtnkdhipeklphaaaDoor
open Go.RowKit Go.Sort

theorem ret_bool {a b : Bool} (h : a = b) : Ending.returned (.bool a) = .returned (.bool b) := by rw [h]
theorem ret_int {k : IntKind} {a b : Int} (h : a = b) : Ending.returned (.int k a) = .returned (.int k b) := by rw [h]
/-- A pointer to a block. -/
def pt (b : Nat) : Value := .pointer (some ⟨b, 0, none⟩)
/-- A slot's cells. -/
def slotC (s : Sl) (p : Nat) : Array Value := #[.int .i64 s.id, .int .i64 s.rank, .string s.text, .int .i64 s.turn, .int .i64 (p : Int)]
/-- A slot in memory. -/
def SlotAt (w : World) (b : Nat) (s : Sl) (p : Nat) : Prop := w.heap[b]? = some (.cells (slotC s p) 59 (0, 0))
/-- A row of pointers to slots. -/
def Row (w : World) (N : Nat) (v : Value) (n : Nat) (b : Nat → Nat) : Prop :=
  (v = .slice none 0 0 ∧ n = 0) ∨ ∃ g cap c, v = .slice (some ⟨g, 0, none⟩) n cap ∧ N ≤ g ∧ w.heap[g]? = some (.cells c 56 (0, 0)) ∧ n ≤ cap ∧ cap ≤ maxLen ∧ c.size = cap ∧ ∀ k, k < n → c[k]? = some (pt (b k))
/-- A line: its header, its row, its slots, each with its place. -/
structure Ln (w : World) (N hb : Nat) (ty : TypeId) (rs : List Value) (v : Value) (n : Nat) (b : Nat → Nat) (S : Nat → Sl) : Prop where
  hdr : w.heap[hb]? = some (.cells ⟨v :: rs⟩ ty (0, 0))
  tyS : ty ≠ 59
  tyP : ty ≠ 56
  low : N ≤ hb
  row : Row w N v n b
  slot : ∀ k, k < n → N ≤ b k ∧ SlotAt w (b k) (S (b k)) k
  lim : n ≤ 17592186044416
/-- A block that is neither a slot nor a row of slots. -/
def Oth (w : World) (k : Nat) : Prop := (∀ c z, w.heap[k]? ≠ some (.cells c 59 z)) ∧ ∀ c z, w.heap[k]? ≠ some (.cells c 56 z)
/-- What stays while a line is worked on: all that lies below N, and what is neither its header nor a slot nor a row of slots. -/
structure Fr (N hb : Nat) (w w' : World) : Prop where
  os : w'.os = w.os
  tape : w'.tape = w.tape
  output : w'.output = w.output
  size : w.heap.size ≤ w'.heap.size
  block : ∀ k, k < w.heap.size → (k < N ∨ (k ≠ hb ∧ Oth w k)) → w'.heap[k]? = w.heap[k]?
theorem Fr.refl (N hb : Nat) (w : World) : Fr N hb w w := ⟨rfl, rfl, rfl, Nat.le_refl _, fun _ _ _ => rfl⟩
theorem Oth.of {w w' : World} {k : Nat} (h : Oth w k) (e : w'.heap[k]? = w.heap[k]?) : Oth w' k := ⟨fun c z => by rw [e]; exact h.1 c z, fun c z => by rw [e]; exact h.2 c z⟩
theorem Fr.trans {N hb : Nat} {w w' w'' : World} (h : Fr N hb w w') (k : Fr N hb w' w'') : Fr N hb w w'' := by
  refine ⟨k.os.trans h.os, k.tape.trans h.tape, k.output.trans h.output, Nat.le_trans h.size k.size, fun i hi hc => ?_⟩
  have e := h.block i hi hc
  refine (k.block i (Nat.lt_of_lt_of_le hi h.size) ?_).trans e
  rcases hc with hc | ⟨hc, ho⟩
  · exact .inl hc
  · exact .inr ⟨hc, ho.of e⟩
theorem below_fr {w w' : World} (h : Below w.heap.size w w') (N hb : Nat) : Fr N hb w w' := ⟨h.os, h.tape, h.output, h.size, fun k hk _ => h.block k hk⟩
theorem Fr.below {N hb : Nat} {w w' : World} (h : Fr N hb w w') (hN : N ≤ w.heap.size) : Below N w w' := ⟨h.os, h.tape, h.output, h.size, fun k hk => h.block k (by omega) (.inl hk)⟩
theorem oth_none {w : World} {k : Nat} (h : w.heap[k]? = none) : Oth w k := ⟨fun c z => by rw [h]; simp, fun c z => by rw [h]; simp⟩
theorem oth_map {w : World} {k : Nat} {es : Array MapEntry} {cl : Nat} (h : w.heap[k]? = some (.map es cl)) : Oth w k := ⟨fun c z => by rw [h]; simp, fun c z => by rw [h]; simp⟩
theorem oth_cells {w : World} {k : Nat} {c : Array Value} {t : TypeId} {z : Nat × Nat} (h : w.heap[k]? = some (.cells c t z)) (h1 : t ≠ 59) (h2 : t ≠ 56) : Oth w k :=
  ⟨fun c z => by rw [h]; intro e; simp only [Option.some.injEq, Obj.cells.injEq] at e; exact h1 e.2.1, fun c z => by rw [h]; intro e; simp only [Option.some.injEq, Obj.cells.injEq] at e; exact h2 e.2.1⟩
theorem blk_lt {w : World} {k : Nat} {o : Obj} (h : w.heap[k]? = some o) : k < w.heap.size := (Array.getElem?_eq_some_iff.1 h).1
/-- A block of another type that is not the header. -/
theorem Fr.keep {N hb k : Nat} {w w' : World} {c : Array Value} {t : TypeId} {z : Nat × Nat} (h : Fr N hb w w') (hk : w.heap[k]? = some (.cells c t z)) (h0 : k ≠ hb) (h1 : t ≠ 59) (h2 : t ≠ 56) : w'.heap[k]? = some (.cells c t z) :=
  (h.block k (blk_lt hk) (.inr ⟨h0, oth_cells hk h1 h2⟩)).trans hk
theorem slot_lt {w : World} {b p : Nat} {s : Sl} (h : SlotAt w b s p) : b < w.heap.size := blk_lt h
theorem Row.on {w w' : World} {N : Nat} {v : Value} {n : Nat} {b : Nat → Nat} (h : Row w N v n b) (hb : Below w.heap.size w w') : Row w' N v n b := by
  rcases h with h | ⟨g, cap, c, e, h1, h2, h3⟩
  · exact .inl h
  · exact .inr ⟨g, cap, c, e, h1, (hb.block g (blk_lt h2)).trans h2, h3⟩
theorem SlotAt.on {w w' : World} {b p : Nat} {s : Sl} (h : SlotAt w b s p) (hb : Below w.heap.size w w') : SlotAt w' b s p := (hb.block b (slot_lt h)).trans h
theorem Ln.on {w w' : World} {N hb : Nat} {ty : TypeId} {rs : List Value} {v : Value} {n : Nat} {b : Nat → Nat} {S : Nat → Sl} (h : Ln w N hb ty rs v n b S) (hw : Below w.heap.size w w') : Ln w' N hb ty rs v n b S :=
  ⟨(hw.block hb (blk_lt h.hdr)).trans h.hdr, h.tyS, h.tyP, h.low, h.row.on hw, fun k hk => ⟨(h.slot k hk).1, (h.slot k hk).2.on hw⟩, h.lim⟩
theorem cell_of {w : World} {k o : Nat} {c : Array Value} {t : TypeId} {z : Nat × Nat} {v : Value} (h : w.heap[k]? = some (.cells c t z)) (hv : c[o]? = some v) : w.cell? ⟨k, o, none⟩ = some v := by
  simp [World.cell?, h, hv]
theorem frozen_of {w : World} {k o : Nat} {c : Array Value} {t : TypeId} (h : w.heap[k]? = some (.cells c t (0, 0))) : w.frozen? ⟨k, o, none⟩ = false := by
  simp [World.frozen?, h]
theorem SlotAt.cells {w : World} {b p : Nat} {s : Sl} (h : SlotAt w b s p) : w.cell? ⟨b, 0, none⟩ = some (.int .i64 s.id) ∧ w.cell? ⟨b, 1, none⟩ = some (.int .i64 s.rank) ∧ w.cell? ⟨b, 2, none⟩ = some (.string s.text) ∧ w.cell? ⟨b, 3, none⟩ = some (.int .i64 s.turn) ∧ w.cell? ⟨b, 4, none⟩ = some (.int .i64 (p : Int)) :=
  ⟨cell_of h rfl, cell_of h rfl, cell_of h rfl, cell_of h rfl, cell_of h rfl⟩
theorem Ln.head {w : World} {N hb : Nat} {ty : TypeId} {rs : List Value} {v : Value} {n : Nat} {b : Nat → Nat} {S : Nat → Sl} (h : Ln w N hb ty rs v n b S) : w.cell? ⟨hb, 0, none⟩ = some v ∧ w.frozen? ⟨hb, 0, none⟩ = false := ⟨cell_of h.hdr rfl, frozen_of h.hdr⟩
theorem Ln.inj {w : World} {N hb : Nat} {ty : TypeId} {rs : List Value} {v : Value} {n : Nat} {b : Nat → Nat} {S : Nat → Sl} (h : Ln w N hb ty rs v n b S) : ∀ i j, i < n → j < n → b i = b j → i = j := by
  intro i j hi hj e
  have h1 := (h.slot i hi).2.cells.2.2.2.2
  have h2 := (h.slot j hj).2.cells.2.2.2.2
  rw [e, h2] at h1
  simp at h1
  omega
/-- The row's slice, where there is something in it. -/
theorem Ln.some {w : World} {N hb : Nat} {ty : TypeId} {rs : List Value} {v : Value} {n : Nat} {b : Nat → Nat} {S : Nat → Sl} (h : Ln w N hb ty rs v n b S) (hn : 0 < n) : ∃ g cap c, v = .slice (some ⟨g, 0, none⟩) n cap ∧ N ≤ g ∧ w.heap[g]? = some (.cells c 56 (0, 0)) ∧ n ≤ cap ∧ cap ≤ maxLen ∧ c.size = cap ∧ (∀ k, k < n → c[k]? = some (pt (b k))) ∧ g ≠ hb ∧ (∀ k, k < n → g ≠ b k) ∧ ∀ k, k < n → hb ≠ b k := by
  rcases h.row with ⟨_, h0⟩ | ⟨g, cap, c, e, h1, h2, h3, h4, h5, h6⟩
  · omega
  · refine ⟨g, cap, c, e, h1, h2, h3, h4, h5, h6, fun e => ?_, fun k hk e => ?_, fun k hk e => ?_⟩
    · subst e; rw [h.hdr] at h2; simp only [Option.some.injEq, Obj.cells.injEq] at h2; exact h.tyP h2.2.1
    · have := (h.slot k hk).2; rw [SlotAt, ← e, h2] at this; simp at this
    · have := (h.slot k hk).2; rw [SlotAt, ← e, h.hdr] at this; simp only [Option.some.injEq, Obj.cells.injEq] at this; exact h.tyS this.2.1
theorem Ln.len {w : World} {N hb : Nat} {ty : TypeId} {rs : List Value} {v : Value} {n : Nat} {b : Nat → Nat} {S : Nat → Sl} (h : Ln w N hb ty rs v n b S) : ∃ a c, v = .slice a n c ∧ n ≤ c ∧ c ≤ maxLen := by
  rcases h.row with ⟨rfl, rfl⟩ | ⟨g, cap, c, e, h1, h2, h3, h4, h5, h6⟩
  · exact ⟨none, 0, rfl, Nat.le_refl _, by unfold maxLen; omega⟩
  · exact ⟨_, cap, e, h3, h4⟩
theorem heap_set {w : World} {k o : Nat} {c : Array Value} {t : TypeId} {z : Nat × Nat} (v : Value) (h : w.heap[k]? = some (.cells c t z)) : (w.setCell ⟨k, o, none⟩ v).heap[k]? = some (.cells (c.setIfInBounds o v) t z) := by
  simp [World.setCell, Array.getElem?_modify, h]
theorem heap_far {w : World} {k b o : Nat} (v : Value) (h : k ≠ b) : (w.setCell ⟨b, o, none⟩ v).heap[k]? = w.heap[k]? := Deep.blk_setCell_other w ⟨b, o, none⟩ v k h
theorem Ln.congr {w : World} {N hb : Nat} {ty : TypeId} {rs : List Value} {v : Value} {n : Nat} {b b' : Nat → Nat} {S S' : Nat → Sl} (h : Ln w N hb ty rs v n b S) (e : ∀ k, k < n → b' k = b k) (eS : ∀ k, k < n → S' (b k) = S (b k)) : Ln w N hb ty rs v n b' S' := by
  refine ⟨h.hdr, h.tyS, h.tyP, h.low, ?_, fun k hk => ?_, h.lim⟩
  · rcases h.row with h | ⟨g, cap, c, e', h1, h2, h3, h4, h5, h6⟩
    · exact .inl h
    · exact .inr ⟨g, cap, c, e', h1, h2, h3, h4, h5, fun k hk => by rw [e k hk]; exact h6 k hk⟩
  · rw [e k hk, eS k hk]; exact h.slot k hk
end Go.Proofs.YtnkdhipeklphaaaDoor
