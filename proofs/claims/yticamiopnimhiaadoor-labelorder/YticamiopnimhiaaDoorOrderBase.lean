/- The walk of the law LabelOrder: it returns true. -/
import Derived.Test.YticamiopnimhiaaDoorW5
import Derived.Deep.RegionHeld3
import Derived.Deep.Cut
import Derived.Deep.Light
namespace Go.Proofs.YticamiopnimhiaaDoor
open Go.RowKit Go.Sort
theorem box3 (w : World) (A B C D E F : Value) :
    let W := ((w.alloc (.cells #[A, B] 24)).alloc (.cells #[C, D] 24)).alloc (.cells #[E, F] 24)
    (W.cell? ⟨w.heap.size, 0, none⟩ = some A ∧ W.cell? ⟨w.heap.size, 1, none⟩ = some B) ∧ (W.cell? ⟨w.heap.size + 1, 0, none⟩ = some C ∧ W.cell? ⟨w.heap.size + 1, 1, none⟩ = some D) ∧ (W.cell? ⟨w.heap.size + 1 + 1, 0, none⟩ = some E ∧ W.cell? ⟨w.heap.size + 1 + 1, 1, none⟩ = some F) ∧ w.heap.size + 3 = W.heap.size ∧ Below w.heap.size w W := by
  refine ⟨⟨?_, ?_⟩, ⟨?_, ?_⟩, ⟨?_, ?_⟩, ?_, (((Below.refl _ _).alloc (Nat.le_refl _) _).alloc (by simp) _).alloc (by simp; omega) _⟩
  all_goals simp [go_sem]

theorem keep4 {W w' : World} {p q : Nat} {A B C D : Value} (hb : Below W.heap.size W w') (h0 : W.cell? ⟨p, 0, none⟩ = some A) (h1 : W.cell? ⟨p, 1, none⟩ = some B) (h2 : W.cell? ⟨q, 0, none⟩ = some C) (h3 : W.cell? ⟨q, 1, none⟩ = some D) :
    Below W.heap.size W w' ∧ w'.cell? ⟨p, 0, none⟩ = some A ∧ w'.cell? ⟨p, 1, none⟩ = some B ∧ w'.cell? ⟨q, 0, none⟩ = some C ∧ w'.cell? ⟨q, 1, none⟩ = some D :=
  ⟨hb, (hb.cell (block_lt_of_cell h0)).trans h0, (hb.cell (block_lt_of_cell h1)).trans h1, (hb.cell (block_lt_of_cell h2)).trans h2, (hb.cell (block_lt_of_cell h3)).trans h3⟩

theorem keepCall {W x w' : World} {P : Prop} (hS : Below W.heap.size W x ∧ P) (hcall : Below x.heap.size x w') : Below W.heap.size W w' := hS.1.trans (hcall.mono hS.1.size)
/-- A block made just ahead of a call reads behind it as it did. -/
theorem after1 {y w' : World} {A B : Value} (h : Below (y.alloc (.cells #[A, B] 24)).heap.size (y.alloc (.cells #[A, B] 24)) w') :
    w'.cell? ⟨y.heap.size, 0, none⟩ = some A ∧ w'.cell? ⟨y.heap.size, 1, none⟩ = some B ∧ w'.frozen? ⟨y.heap.size, 0, none⟩ = false ∧ w'.frozen? ⟨y.heap.size, 1, none⟩ = false ∧ y.heap.size < w'.heap.size ∧ ¬ y.heap.size = w'.heap.size ∧ ¬ w'.heap.size = y.heap.size := by
  have hs : y.heap.size + 1 ≤ w'.heap.size := by have := h.size; simpa using this
  refine ⟨?_, ?_, ?_, ?_, by omega, by omega, by omega⟩
  · rw [h.cell (by simp)]; simp [go_sem]
  · rw [h.cell (by simp)]; simp [go_sem]
  · rw [h.frozen (by simp)]; simp [go_sem]
  · rw [h.frozen (by simp)]; simp [go_sem]
theorem after1d {y w' : World} {A B : Value} (h : Below (y.alloc (.cells #[A, B] 24)).drew.heap.size (y.alloc (.cells #[A, B] 24)).drew w') :
    w'.cell? ⟨y.heap.size, 0, none⟩ = some A ∧ w'.cell? ⟨y.heap.size, 1, none⟩ = some B ∧ w'.frozen? ⟨y.heap.size, 0, none⟩ = false ∧ w'.frozen? ⟨y.heap.size, 1, none⟩ = false ∧ y.heap.size < w'.heap.size ∧ ¬ y.heap.size = w'.heap.size ∧ ¬ w'.heap.size = y.heap.size :=
  after1 ⟨h.os, h.tape, h.output, h.size, h.block⟩
theorem after2 {y w' : World} {A B C D : Value} (h : Below ((y.alloc (.cells #[A, B] 24)).alloc (.cells #[C, D] 24)).heap.size ((y.alloc (.cells #[A, B] 24)).alloc (.cells #[C, D] 24)) w') :
    (w'.cell? ⟨y.heap.size, 0, none⟩ = some A ∧ w'.cell? ⟨y.heap.size, 1, none⟩ = some B ∧ w'.frozen? ⟨y.heap.size, 0, none⟩ = false ∧ w'.frozen? ⟨y.heap.size, 1, none⟩ = false) ∧ (w'.cell? ⟨y.heap.size + 1, 0, none⟩ = some C ∧ w'.cell? ⟨y.heap.size + 1, 1, none⟩ = some D ∧ w'.frozen? ⟨y.heap.size + 1, 0, none⟩ = false ∧ w'.frozen? ⟨y.heap.size + 1, 1, none⟩ = false) ∧ y.heap.size + 1 < w'.heap.size := by
  have hs : y.heap.size + 2 ≤ w'.heap.size := by have := h.size; simpa using this
  refine ⟨⟨?_, ?_, ?_, ?_⟩, ⟨?_, ?_, ?_, ?_⟩, by omega⟩
  · rw [h.cell (by simp; omega)]; simp [go_sem]
  · rw [h.cell (by simp; omega)]; simp [go_sem]
  · rw [h.frozen (by simp; omega)]; simp [go_sem]
  · rw [h.frozen (by simp; omega)]; simp [go_sem]
  · rw [h.cell (by simp)]; simp [go_sem]
  · rw [h.cell (by simp)]; simp [go_sem]
  · rw [h.frozen (by simp)]; simp [go_sem]
  · rw [h.frozen (by simp)]; simp [go_sem]
theorem after2d {y w' : World} {A B C D : Value} (h : Below ((y.alloc (.cells #[A, B] 24)).alloc (.cells #[C, D] 24)).drew.heap.size ((y.alloc (.cells #[A, B] 24)).alloc (.cells #[C, D] 24)).drew w') :
    (w'.cell? ⟨y.heap.size, 0, none⟩ = some A ∧ w'.cell? ⟨y.heap.size, 1, none⟩ = some B ∧ w'.frozen? ⟨y.heap.size, 0, none⟩ = false ∧ w'.frozen? ⟨y.heap.size, 1, none⟩ = false) ∧ (w'.cell? ⟨y.heap.size + 1, 0, none⟩ = some C ∧ w'.cell? ⟨y.heap.size + 1, 1, none⟩ = some D ∧ w'.frozen? ⟨y.heap.size + 1, 0, none⟩ = false ∧ w'.frozen? ⟨y.heap.size + 1, 1, none⟩ = false) ∧ y.heap.size + 1 < w'.heap.size :=
  after2 ⟨h.os, h.tape, h.output, h.size, h.block⟩
/-- An older block likewise. -/
theorem afterOld {x w' : World} {b : Nat} {A B : Value} (h : Below x.heap.size x w') (hc : x.cell? ⟨b, 0, none⟩ = some A) (hd : x.cell? ⟨b, 1, none⟩ = some B) (hf : x.frozen? ⟨b, 0, none⟩ = false) (hg : x.frozen? ⟨b, 1, none⟩ = false) :
    w'.cell? ⟨b, 0, none⟩ = some A ∧ w'.cell? ⟨b, 1, none⟩ = some B ∧ w'.frozen? ⟨b, 0, none⟩ = false ∧ w'.frozen? ⟨b, 1, none⟩ = false ∧ b < w'.heap.size ∧ ¬ b = w'.heap.size ∧ ¬ w'.heap.size = b := by
  have hlt : b < x.heap.size := block_lt_of_cell hc
  have := h.size
  exact ⟨(h.cell hlt).trans hc, (h.cell hlt).trans hd, (h.frozen hlt).trans hf, (h.frozen hlt).trans hg, by omega, by omega, by omega⟩
theorem afterOldC {G : Prop} {x w' : World} {b : Nat} {A B : Value} (h : Below x.heap.size x w') (hc : x.cell? ⟨b, 0, none⟩ = some A) (hd : x.cell? ⟨b, 1, none⟩ = some B) (hf : x.frozen? ⟨b, 0, none⟩ = false) (hg : x.frozen? ⟨b, 1, none⟩ = false)
    (k : (w'.cell? ⟨b, 0, none⟩ = some A ∧ w'.cell? ⟨b, 1, none⟩ = some B ∧ w'.frozen? ⟨b, 0, none⟩ = false ∧ w'.frozen? ⟨b, 1, none⟩ = false ∧ b < w'.heap.size ∧ ¬ b = w'.heap.size ∧ ¬ w'.heap.size = b) → G) : G := k (afterOld h hc hd hf hg)
theorem afterOldA {G : Prop} {x w' : World} {o : Obj} {b : Nat} {A B : Value} (h : Below (x.alloc o).heap.size (x.alloc o) w') (hc : x.cell? ⟨b, 0, none⟩ = some A) (hd : x.cell? ⟨b, 1, none⟩ = some B) (hf : x.frozen? ⟨b, 0, none⟩ = false) (hg : x.frozen? ⟨b, 1, none⟩ = false)
    (k : (w'.cell? ⟨b, 0, none⟩ = some A ∧ w'.cell? ⟨b, 1, none⟩ = some B ∧ w'.frozen? ⟨b, 0, none⟩ = false ∧ w'.frozen? ⟨b, 1, none⟩ = false ∧ b < w'.heap.size ∧ ¬ b = w'.heap.size ∧ ¬ w'.heap.size = b) → G) : G := by
  have hx : Below x.heap.size x w' := ((Below.refl _ x).alloc (Nat.le_refl _) o).trans (h.mono (by simp))
  exact k (afterOld hx hc hd hf hg)

theorem grow_self (w : World) : w = grow (redrawn w w.drawn) #[] := by
  rw [grow_empty]; rfl

/-- The calls of Dominates and of the lattice's two operations in a world that has only grown. -/
def Dom (V : World) (r : Int) (c : Nat) (r' : Int) (c' : Nat) (x : Bool) : Prop :=
  ∀ d os, Calls Tryd.prog 15 #[.agg #[.int .i64 r, .int .u32 c], .agg #[.int .i64 r', .int .u32 c']] (grow (redrawn V d) os) fun e w'' => e = .returned (.bool x) ∧ ∃ p : Regrown, w'' = grow (redrawn V p.d) p.os
theorem dom_of (V : World) {r r' : Int} {c c' : Nat} {x : Bool} (hc : c < 4294967296) (hc' : c' < 4294967296) (h : domB r c r' c' = x) : Dom V r c r' c' x :=
  fun _ _ => h ▸ Calls.regrown_of (dom15 r r' c c' _ hc hc')
end Go.Proofs.YticamiopnimhiaaDoor
