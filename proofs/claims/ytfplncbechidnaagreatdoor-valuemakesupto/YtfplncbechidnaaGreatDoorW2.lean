/- Values in memory, and the walk of value.alike; within a function of values. -/
import Derived.Test.YtfplncbechidnaaGreatDoorW1
namespace Go.Proofs.YtfplncbechidnaaGreatDoor
open Go.RowKit Go.Sort

theorem below_step {W w w' : World} (h : Below W.heap.size W w) (hb : Below w.heap.size w w') : Below W.heap.size W w' := h.trans (hb.mono h.size)
theorem below_drew (W : World) : Below W.heap.size W W.drew := (Below.refl _ _).drew
/-- A value lies there. -/
def In4 (w : World) (blk off : Nat) (k n : Int) (t : ByteArray) (b : Bool) : Prop :=
  w.cell? ⟨blk, off, none⟩ = some (.int .i64 k) ∧ w.cell? ⟨blk, off + 1, none⟩ = some (.int .i64 n) ∧ w.cell? ⟨blk, off + 2, none⟩ = some (.string t) ∧ w.cell? ⟨blk, off + 3, none⟩ = some (.bool b)
theorem In4.on {w w' : World} {blk off : Nat} {k n : Int} {t : ByteArray} {b : Bool} (h : In4 w blk off k n t b) (hb : Below w.heap.size w w') : In4 w' blk off k n t b := by
  obtain ⟨h0, h1, h2, h3⟩ := h
  exact ⟨(hb.cell (block_lt_of_cell h0)).trans h0, (hb.cell (block_lt_of_cell h1)).trans h1, (hb.cell (block_lt_of_cell h2)).trans h2, (hb.cell (block_lt_of_cell h3)).trans h3⟩
theorem In4.alloc {w : World} {blk off : Nat} {k n : Int} {t : ByteArray} {b : Bool} (h : In4 w blk off k n t b) (o : Obj) : In4 (w.alloc o) blk off k n t b :=
  h.on ((Below.refl _ _).alloc (Nat.le_refl _) _)
theorem in4_new (w : World) (k n : Int) (t : ByteArray) (b : Bool) (ty : TypeId) : In4 (w.alloc (.cells #[.int .i64 k, .int .i64 n, .string t, .bool b] ty)) w.heap.size 0 k n t b := by
  refine ⟨?_, ?_, ?_, ?_⟩ <;> simp [go_sem]
theorem in8_new (w : World) (k n : Int) (t : ByteArray) (b : Bool) (k' n' : Int) (t' : ByteArray) (b' : Bool) (ty : TypeId) : In4 (w.alloc (.cells #[.int .i64 k, .int .i64 n, .string t, .bool b, .int .i64 k', .int .i64 n', .string t', .bool b'] ty)) w.heap.size 0 k n t b ∧ In4 (w.alloc (.cells #[.int .i64 k, .int .i64 n, .string t, .bool b, .int .i64 k', .int .i64 n', .string t', .bool b'] ty)) w.heap.size 4 k' n' t' b' := by
  refine ⟨⟨?_, ?_, ?_, ?_⟩, ⟨?_, ?_, ?_, ?_⟩⟩ <;> simp [go_sem]
/-- Two values laid behind one another and asked for their kind. -/
theorem are2n_ (q : Int) (k n : Int) (t : ByteArray) (b : Bool) (k' n' : Int) (t' : ByteArray) (b' : Bool) (w : World) (B : Nat) (hB : w.heap.size = B) :
    Calls Tryz.prog 51 #[.int .i64 q, .slice (some ⟨B, 0, none⟩) 2 2] (w.alloc (.cells #[.int .i64 k, .int .i64 n, .string t, .bool b, .int .i64 k', .int .i64 n', .string t', .bool b'] 23)) fun e w' => e = .returned (.bool (isK q k && isK q k')) ∧ Below w.heap.size w w' := by
  subst hB
  obtain ⟨⟨a0, a1, a2, a3⟩, ⟨b0, b1, b2, b3⟩⟩ := in8_new w k n t b k' n' t' b' 23
  refine (are2_ q k n t b k' n' t' b' w.heap.size _ a0 a1 a2 a3 b0 b1 b2 b3).mono fun e w' ⟨he, hb⟩ => ⟨he, ?_⟩
  exact below_step ((Below.refl _ _).alloc (Nat.le_refl _) _) hb
theorem are1n_ (q : Int) (k n : Int) (t : ByteArray) (b : Bool) (w : World) (B : Nat) (hB : w.heap.size = B) :
    Calls Tryz.prog 51 #[.int .i64 q, .slice (some ⟨B, 0, none⟩) 1 1] (w.alloc (.cells #[.int .i64 k, .int .i64 n, .string t, .bool b] 23)) fun e w' => e = .returned (.bool (isK q k)) ∧ Below w.heap.size w w' := by
  subst hB
  obtain ⟨a0, a1, a2, a3⟩ := in4_new w k n t b 23
  refine (are1_ q k n t b w.heap.size _ a0 a1 a2 a3).mono fun e w' ⟨he, hb⟩ => ⟨he, ?_⟩
  exact below_step ((Below.refl _ _).alloc (Nat.le_refl _) _) hb
theorem Frz.on {w w' : World} {blk off : Nat} (h : w.frozen? ⟨blk, off, none⟩ = false) (hl : blk < w.heap.size) (hb : Below w.heap.size w w') : w'.frozen? ⟨blk, off, none⟩ = false := (hb.frozen (p := ⟨blk, off, none⟩) hl).trans h
/-- Within a function of two values: where they lie, where its result lies. -/
def Fr2 (w V : World) (k n : Int) (t : ByteArray) (b : Bool) (k' n' : Int) (t' : ByteArray) (b' : Bool) : Prop :=
  In4 V w.heap.size 0 k n t b ∧ In4 V (w.heap.size + 1) 0 k' n' t' b' ∧ In4 V (w.heap.size + 1 + 1) 0 0 0 ⟨#[]⟩ false ∧
  (V.frozen? ⟨w.heap.size + 1 + 1, 0, none⟩ = false ∧ V.frozen? ⟨w.heap.size + 1 + 1, 1, none⟩ = false ∧ V.frozen? ⟨w.heap.size + 1 + 1, 2, none⟩ = false ∧ V.frozen? ⟨w.heap.size + 1 + 1, 3, none⟩ = false) ∧
  Below w.heap.size w V ∧ w.heap.size + 3 ≤ V.heap.size
theorem Fr2.on {w V V' : World} {k n : Int} {t : ByteArray} {b : Bool} {k' n' : Int} {t' : ByteArray} {b' : Bool} (h : Fr2 w V k n t b k' n' t' b') (hb : Below V.heap.size V V') : Fr2 w V' k n t b k' n' t' b' := by
  obtain ⟨h1, h2, h3, ⟨f0, f1, f2, f3⟩, h5, h6⟩ := h
  have hl : w.heap.size + 1 + 1 < V.heap.size := by omega
  exact ⟨h1.on hb, h2.on hb, h3.on hb, ⟨Frz.on f0 hl hb, Frz.on f1 hl hb, Frz.on f2 hl hb, Frz.on f3 hl hb⟩, below_step h5 hb, Nat.le_trans h6 hb.size⟩
theorem fr2_start (w : World) (k n : Int) (t : ByteArray) (b : Bool) (k' n' : Int) (t' : ByteArray) (b' : Bool) (ty : TypeId) : Fr2 w (((w.alloc (.cells #[.int .i64 k, .int .i64 n, .string t, .bool b] ty)).alloc (.cells #[.int .i64 k', .int .i64 n', .string t', .bool b'] ty)).alloc (.cells #[.int .i64 0, .int .i64 0, .string ⟨#[]⟩, .bool false] ty)) k n t b k' n' t' b' := by
  refine ⟨((in4_new w k n t b ty).alloc _).alloc _, ?_, ?_, ⟨?_, ?_, ?_, ?_⟩, (((Below.refl _ _).alloc (Nat.le_refl _) _).alloc (by simp) _).alloc (by simp; omega) _, by simp⟩
  · have := (in4_new (w.alloc (.cells #[.int .i64 k, .int .i64 n, .string t, .bool b] ty)) k' n' t' b' ty).alloc (.cells #[.int .i64 0, .int .i64 0, .string ⟨#[]⟩, .bool false] ty)
    simpa using this
  · have := in4_new ((w.alloc (.cells #[.int .i64 k, .int .i64 n, .string t, .bool b] ty)).alloc (.cells #[.int .i64 k', .int .i64 n', .string t', .bool b'] ty)) 0 0 ⟨#[]⟩ false ty
    simpa using this
  all_goals simp [go_sem]
def Fr1 (w V : World) (k n : Int) (t : ByteArray) (b : Bool) : Prop :=
  In4 V w.heap.size 0 k n t b ∧ In4 V (w.heap.size + 1) 0 0 0 ⟨#[]⟩ false ∧
  (V.frozen? ⟨w.heap.size + 1, 0, none⟩ = false ∧ V.frozen? ⟨w.heap.size + 1, 1, none⟩ = false ∧ V.frozen? ⟨w.heap.size + 1, 2, none⟩ = false ∧ V.frozen? ⟨w.heap.size + 1, 3, none⟩ = false) ∧
  Below w.heap.size w V ∧ w.heap.size + 2 ≤ V.heap.size
theorem Fr1.on {w V V' : World} {k n : Int} {t : ByteArray} {b : Bool} (h : Fr1 w V k n t b) (hb : Below V.heap.size V V') : Fr1 w V' k n t b := by
  obtain ⟨h1, h3, ⟨f0, f1, f2, f3⟩, h5, h6⟩ := h
  have hl : w.heap.size + 1 < V.heap.size := by omega
  exact ⟨h1.on hb, h3.on hb, ⟨Frz.on f0 hl hb, Frz.on f1 hl hb, Frz.on f2 hl hb, Frz.on f3 hl hb⟩, below_step h5 hb, Nat.le_trans h6 hb.size⟩
theorem fr1_start (w : World) (k n : Int) (t : ByteArray) (b : Bool) (ty : TypeId) : Fr1 w ((w.alloc (.cells #[.int .i64 k, .int .i64 n, .string t, .bool b] ty)).alloc (.cells #[.int .i64 0, .int .i64 0, .string ⟨#[]⟩, .bool false] ty)) k n t b := by
  refine ⟨(in4_new w k n t b ty).alloc _, ?_, ⟨?_, ?_, ?_, ?_⟩, ((Below.refl _ _).alloc (Nat.le_refl _) _).alloc (by simp) _, by simp⟩
  · have := in4_new (w.alloc (.cells #[.int .i64 k, .int .i64 n, .string t, .bool b] ty)) 0 0 ⟨#[]⟩ false ty
    simpa using this
  all_goals simp [go_sem]
theorem four_set {w V : World} (h : Below w.heap.size w V) (b : Nat) (hb : w.heap.size ≤ b) (A B C D : Value) : Below w.heap.size w ((((V.setCell ⟨b, 0, none⟩ A).setCell ⟨b, 1, none⟩ B).setCell ⟨b, 2, none⟩ C).setCell ⟨b, 3, none⟩ D) :=
  (((h.setCell hb _).setCell hb _).setCell hb _).setCell hb _
/-- A value is set where one lay. -/
theorem set_in4 {V : World} {blk : Nat} {k n : Int} {t : ByteArray} {b : Bool} (h : In4 V blk 0 k n t b) (A B C D : Value) :
    ((((V.setCell ⟨blk, 0, none⟩ A).setCell ⟨blk, 1, none⟩ B).setCell ⟨blk, 2, none⟩ C).setCell ⟨blk, 3, none⟩ D).cell? ⟨blk, 0, none⟩ = some A ∧ ((((V.setCell ⟨blk, 0, none⟩ A).setCell ⟨blk, 1, none⟩ B).setCell ⟨blk, 2, none⟩ C).setCell ⟨blk, 3, none⟩ D).cell? ⟨blk, 1, none⟩ = some B ∧ ((((V.setCell ⟨blk, 0, none⟩ A).setCell ⟨blk, 1, none⟩ B).setCell ⟨blk, 2, none⟩ C).setCell ⟨blk, 3, none⟩ D).cell? ⟨blk, 2, none⟩ = some C ∧ ((((V.setCell ⟨blk, 0, none⟩ A).setCell ⟨blk, 1, none⟩ B).setCell ⟨blk, 2, none⟩ C).setCell ⟨blk, 3, none⟩ D).cell? ⟨blk, 3, none⟩ = some D := by
  obtain ⟨h0, h1, h2, h3⟩ := h
  refine ⟨?_, ?_, ?_, ?_⟩ <;> simp [go_sem, h0, h1, h2, h3]
end Go.Proofs.YtfplncbechidnaaGreatDoor
