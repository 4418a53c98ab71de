/- The walks of what makes and what compares values; values in memory; two values compared. -/
import Derived.Test.YtlldamgnfaikhaaDoorChecked
import Derived.Test.YtlldamgnfaikhaaDoorShelf
import Derived.Test.YtlldamgnfaikhaaDoorOMath
import Derived.WalkKit
import Derived.WalkSpells
import Derived.WalkLawsBesides
import Derived.Lib.QuietBelow
import Derived.Lib.Hide
import Derived.Deep.RegionWith
import Derived.Deep.QuietTactic
import Derived.LoopN
import Derived.WalkSmall
import Derived.IntWalk
import Derived.Laws.StructEq
import Derived.BigQuiet
namespace Go.Proofs.YtlldamgnfaikhaaDoor
open Go.RowKit Go.Sort

def vNull : Val := ⟨0, 0, ⟨#[]⟩, false⟩
def vInt (n : Int) : Val := ⟨1, n, ⟨#[]⟩, false⟩
def vText (l : List UInt8) : Val := ⟨2, 0, ⟨l.toArray⟩, false⟩
def vBool (b : Bool) : Val := ⟨3, 0, ⟨#[]⟩, b⟩
/-- A number is an int. -/
def inI (n : Int) : Prop := -9223372036854775808 ≤ n ∧ n ≤ 9223372036854775807
theorem inI_zero : inI 0 := ⟨by decide, by decide⟩
theorem ret_bool {a b : Bool} (h : a = b) : Ending.returned (.bool a) = .returned (.bool b) := by rw [h]
theorem ret_int {k : IntKind} {a b : Int} (h : a = b) : Ending.returned (.int k a) = .returned (.int k b) := by rw [h]
/-- A value as it is handed on. -/
def agV (v : Val) : Value := .agg #[.int .i64 v.k, .int .i64 v.n, .string v.t, .bool v.b]
theorem null_ (w : World) : Calls Tryd.prog 35 #[] w fun e w' => e = .returned (.agg #[.int .i64 0, .int .i64 0, .string ⟨#[]⟩, .bool false]) ∧ Below w.heap.size w w' := by
  go_enter Tryd.func35, Tryd.ntmps35
  go_wp2_with fail
  exact bodyPost_ret (v := .agg #[.int .i64 0, .int .i64 0, .string ⟨#[]⟩, .bool false]) (by simp [results, Tryd.results35, go_sem]) rfl ⟨rfl, (Below.refl _ _).alloc (Nat.le_refl _) _⟩
theorem bool_ (b : Bool) (w : World) : Calls Tryd.prog 55 #[.bool b] w fun e w' => e = .returned (.agg #[.int .i64 3, .int .i64 0, .string ⟨#[]⟩, .bool b]) ∧ Below w.heap.size w w' := by
  go_enter Tryd.func55, Tryd.ntmps55
  go_wp2_with fail
  exact bodyPost_ret (v := .agg #[.int .i64 3, .int .i64 0, .string ⟨#[]⟩, .bool b]) (by simp [results, Tryd.results55, go_sem]) rfl ⟨rfl, (Below.refl _ _).alloc (Nat.le_refl _) _⟩
theorem int_ (n : Int) (w : World) : Calls Tryd.prog 52 #[.int .i64 n] w fun e w' => e = .returned (.agg #[.int .i64 1, .int .i64 n, .string ⟨#[]⟩, .bool false]) ∧ Below w.heap.size w w' := by
  go_enter Tryd.func52, Tryd.ntmps52
  go_wp2_with fail
  exact bodyPost_ret (v := .agg #[.int .i64 1, .int .i64 n, .string ⟨#[]⟩, .bool false]) (by simp [results, Tryd.results52, go_sem]) rfl ⟨rfl, (Below.refl _ _).alloc (Nat.le_refl _) _⟩
theorem text_ (t : ByteArray) (w : World) : Calls Tryd.prog 54 #[.string t] w fun e w' => e = .returned (.agg #[.int .i64 2, .int .i64 0, .string t, .bool false]) ∧ Below w.heap.size w w' := by
  go_enter Tryd.func54, Tryd.ntmps54
  go_wp2_with fail
  exact bodyPost_ret (v := .agg #[.int .i64 2, .int .i64 0, .string t, .bool false]) (by simp [results, Tryd.results54, go_sem]) rfl ⟨rfl, (Below.refl _ _).alloc (Nat.le_refl _) _⟩
theorem nanInt_ (x : Int) (w : World) : Calls Tryd.prog 61 #[.int .i64 x] w fun e w' => e = .returned (.bool false) ∧ w' = w := by
  go_enter Tryd.func61, Tryd.ntmps61
  go_wp2_with fail
  go_ret
  exact ⟨rfl, rfl⟩
theorem cmpInt_ (x y : Int) (w : World) : Calls Tryd.prog 44 #[.int .i64 x, .int .i64 y] w fun e w' => e = .returned (.int .i64 (Lib.compareInt x y)) ∧ w' = w := by
  unfold Lib.compareInt
  rcases (by omega : x < y ∨ x = y ∨ y < x) with h | rfl | h
  · have h1 : decide (x < y) = true := by simpa using h
    go_enter Tryd.func44, Tryd.ntmps44
    go_wp2_with (go_at_call 61; refine (nanInt_ _ _).mono ?_; rintro e w' ⟨rfl, rfl⟩)
    go_ret
    exact ⟨ret_int (by simp), rfl⟩
  · have h1 : decide (x < x) = false := by simp
    go_enter Tryd.func44, Tryd.ntmps44
    go_wp2_with (go_at_call 61; refine (nanInt_ _ _).mono ?_; rintro e w' ⟨rfl, rfl⟩)
    go_ret
    exact ⟨ret_int (by simp), rfl⟩
  · have h1 : decide (x < y) = false := by simp; omega
    have h2 : decide (y < x) = true := by simpa using h
    have h3 : (x == y) = false := by simp; omega
    go_enter Tryd.func44, Tryd.ntmps44
    go_wp2_with (go_at_call 61; refine (nanInt_ _ _).mono ?_; rintro e w' ⟨rfl, rfl⟩)
    go_ret
    exact ⟨ret_int (by simp), rfl⟩
theorem nanStr_ (s : ByteArray) (w : World) : Calls Tryd.prog 62 #[.string s] w fun e w' => e = .returned (.bool false) ∧ w' = w := by
  go_enter Tryd.func62, Tryd.ntmps62
  go_wp2_with fail
  go_ret
  exact ⟨rfl, rfl⟩
theorem cmpStr_ (s t : ByteArray) (w : World) : Calls Tryd.prog 45 #[.string s, .string t] w fun e w' => e = .returned (.int .i64 (cmpT s.toList t.toList)) ∧ w' = w := by
  by_cases h1 : Op.bytesLess s.toList t.toList = true
  · go_enter Tryd.func45, Tryd.ntmps45
    go_wp2_with (go_at_call 62; refine (nanStr_ _ _).mono ?_; rintro e w' ⟨rfl, rfl⟩)
    go_ret
    exact ⟨ret_int (by rw [cmpT, if_pos h1]), rfl⟩
  · have h1' : Op.bytesLess s.toList t.toList = false := by simpa using h1
    by_cases h2 : s.toList = t.toList
    · obtain rfl := toList_inj h2
      have h2' : (s.toList == s.toList) = true := by simp
      go_enter Tryd.func45, Tryd.ntmps45
      go_wp2_with (go_at_call 62; refine (nanStr_ _ _).mono ?_; rintro e w' ⟨rfl, rfl⟩)
      go_ret
      exact ⟨ret_int (by rw [cmpT, if_neg h1, h1', h2']; rfl), rfl⟩
    · have h2' : (s.toList == t.toList) = false := by simpa using h2
      go_enter Tryd.func45, Tryd.ntmps45
      go_wp2_with (go_at_call 62; refine (nanStr_ _ _).mono ?_; rintro e w' ⟨rfl, rfl⟩)
      go_ret
      exact ⟨ret_int (by rw [cmpT, if_neg h1, h1', h2']; rfl), rfl⟩
theorem rank_ (b : Bool) (w : World) : Calls Tryd.prog 46 #[.bool b] w fun e w' => e = .returned (.int .i64 (rk b)) ∧ w' = w := by
  cases b
  all_goals
    go_enter Tryd.func46, Tryd.ntmps46
    go_wp2_with fail
    go_ret
    exact ⟨rfl, rfl⟩
theorem comp_ (k n : Int) (t : ByteArray) (b : Bool) (k' n' : Int) (t' : ByteArray) (b' : Bool) (w : World) :
    Calls Tryd.prog 28 #[.agg #[.int .i64 k, .int .i64 n, .string t, .bool b], .agg #[.int .i64 k', .int .i64 n', .string t', .bool b']] w fun e w' => e = .returned (.int .i64 (cmpV ⟨k, n, t, b⟩ ⟨k', n', t', b'⟩)) ∧ Below w.heap.size w w' := by
  by_cases hk : k = k'
  · subst hk
    by_cases h1 : k = 1
    · subst h1
      go_enter Tryd.func28, Tryd.ntmps28
      go_wp2_with (go_at_call 44; refine (cmpInt_ _ _ _).mono ?_; rintro e w' ⟨rfl, rfl⟩)
      go_ret
      exact ⟨rfl, ((Below.refl _ _).alloc (Nat.le_refl _) _).alloc (by simp) _⟩
    by_cases h2 : k = 2
    · subst h2
      go_enter Tryd.func28, Tryd.ntmps28
      go_wp2_with (go_at_call 45; refine (cmpStr_ _ _ _).mono ?_; rintro e w' ⟨rfl, rfl⟩)
      go_ret
      exact ⟨rfl, ((Below.refl _ _).alloc (Nat.le_refl _) _).alloc (by simp) _⟩
    by_cases h3 : k = 3
    · subst h3
      go_enter Tryd.func28, Tryd.ntmps28
      go_wp2_with fail
      go_quiet (first | (go_at_call 46; refine Calls.quiet_of_same (rank_ _ _)) | (go_at_call 44; refine Calls.quiet_of_same (cmpInt_ _ _ _)))
      go_wp2_with fail
      go_ret
      exact ⟨rfl, below_drewN (((Below.refl _ _).alloc (Nat.le_refl _) _).alloc (by simp) _) _⟩
    · go_enter Tryd.func28, Tryd.ntmps28
      go_wp2_with fail
      go_ret
      exact ⟨ret_int (by simp [cmpV, h1, h2, h3]), ((Below.refl _ _).alloc (Nat.le_refl _) _).alloc (by simp) _⟩
  · go_enter Tryd.func28, Tryd.ntmps28
    go_wp2_with (go_at_call 44; refine (cmpInt_ _ _ _).mono ?_; rintro e w' ⟨rfl, rfl⟩)
    go_ret
    exact ⟨ret_int (by simp [cmpV, hk]), ((Below.refl _ _).alloc (Nat.le_refl _) _).alloc (by simp) _⟩
theorem below_step {W w w' : World} (h : Below W.heap.size W w) (hb : Below w.heap.size w w') : Below W.heap.size W w' := h.trans (hb.mono h.size)
theorem below_drew (W : World) : Below W.heap.size W W.drew := (Below.refl _ _).drew
/-- A value lies there. -/
def In4 (w : World) (blk off : Nat) (k n : Int) (t : ByteArray) (b : Bool) : Prop :=
  w.cell? ⟨blk, off, none⟩ = some (.int .i64 k) ∧ w.cell? ⟨blk, off + 1, none⟩ = some (.int .i64 n) ∧ w.cell? ⟨blk, off + 2, none⟩ = some (.string t) ∧ w.cell? ⟨blk, off + 3, none⟩ = some (.bool b)
theorem In4.on {w w' : World} {blk off : Nat} {k n : Int} {t : ByteArray} {b : Bool} (h : In4 w blk off k n t b) (hb : Below w.heap.size w w') : In4 w' blk off k n t b := by
  obtain ⟨h0, h1, h2, h3⟩ := h
  exact ⟨(hb.cell (block_lt_of_cell h0)).trans h0, (hb.cell (block_lt_of_cell h1)).trans h1, (hb.cell (block_lt_of_cell h2)).trans h2, (hb.cell (block_lt_of_cell h3)).trans h3⟩
theorem In4.alloc {w : World} {blk off : Nat} {k n : Int} {t : ByteArray} {b : Bool} (h : In4 w blk off k n t b) (o : Obj) : In4 (w.alloc o) blk off k n t b :=
  h.on ((Below.refl _ _).alloc (Nat.le_refl _) _)
theorem in4_new (w : World) (k n : Int) (t : ByteArray) (b : Bool) (ty : TypeId) : In4 (w.alloc (.cells #[.int .i64 k, .int .i64 n, .string t, .bool b] ty)) w.heap.size 0 k n t b := by
  refine ⟨?_, ?_, ?_, ?_⟩ <;> simp [go_sem]
theorem in8_new (w : World) (k n : Int) (t : ByteArray) (b : Bool) (k' n' : Int) (t' : ByteArray) (b' : Bool) (ty : TypeId) : In4 (w.alloc (.cells #[.int .i64 k, .int .i64 n, .string t, .bool b, .int .i64 k', .int .i64 n', .string t', .bool b'] ty)) w.heap.size 0 k n t b ∧ In4 (w.alloc (.cells #[.int .i64 k, .int .i64 n, .string t, .bool b, .int .i64 k', .int .i64 n', .string t', .bool b'] ty)) w.heap.size 4 k' n' t' b' := by
  refine ⟨⟨?_, ?_, ?_, ?_⟩, ⟨?_, ?_, ?_, ?_⟩⟩ <;> simp [go_sem]
theorem Frz.on {w w' : World} {blk off : Nat} (h : w.frozen? ⟨blk, off, none⟩ = false) (hl : blk < w.heap.size) (hb : Below w.heap.size w w') : w'.frozen? ⟨blk, off, none⟩ = false := (hb.frozen (p := ⟨blk, off, none⟩) hl).trans h
def Fr1 (w V : World) (k n : Int) (t : ByteArray) (b : Bool) : Prop :=
  In4 V w.heap.size 0 k n t b ∧ In4 V (w.heap.size + 1) 0 0 0 ⟨#[]⟩ false ∧
  (V.frozen? ⟨w.heap.size + 1, 0, none⟩ = false ∧ V.frozen? ⟨w.heap.size + 1, 1, none⟩ = false ∧ V.frozen? ⟨w.heap.size + 1, 2, none⟩ = false ∧ V.frozen? ⟨w.heap.size + 1, 3, none⟩ = false) ∧
  Below w.heap.size w V ∧ w.heap.size + 2 ≤ V.heap.size
theorem Fr1.on {w V V' : World} {k n : Int} {t : ByteArray} {b : Bool} (h : Fr1 w V k n t b) (hb : Below V.heap.size V V') : Fr1 w V' k n t b := by
  obtain ⟨h1, h3, ⟨f0, f1, f2, f3⟩, h5, h6⟩ := h
  have hl : w.heap.size + 1 < V.heap.size := by omega
  exact ⟨h1.on hb, h3.on hb, ⟨Frz.on f0 hl hb, Frz.on f1 hl hb, Frz.on f2 hl hb, Frz.on f3 hl hb⟩, below_step h5 hb, Nat.le_trans h6 hb.size⟩
theorem fr1_start (w : World) (k n : Int) (t : ByteArray) (b : Bool) (ty : TypeId) : Fr1 w ((w.alloc (.cells #[.int .i64 k, .int .i64 n, .string t, .bool b] ty)).alloc (.cells #[.int .i64 0, .int .i64 0, .string ⟨#[]⟩, .bool false] ty)) k n t b := by
  refine ⟨(in4_new w k n t b ty).alloc _, ?_, ⟨?_, ?_, ?_, ?_⟩, ((Below.refl _ _).alloc (Nat.le_refl _) _).alloc (by simp) _, by simp⟩
  · have := in4_new (w.alloc (.cells #[.int .i64 k, .int .i64 n, .string t, .bool b] ty)) 0 0 ⟨#[]⟩ false ty
    simpa using this
  all_goals simp [go_sem]
theorem four_set {w V : World} (h : Below w.heap.size w V) (b : Nat) (hb : w.heap.size ≤ b) (A B C D : Value) : Below w.heap.size w ((((V.setCell ⟨b, 0, none⟩ A).setCell ⟨b, 1, none⟩ B).setCell ⟨b, 2, none⟩ C).setCell ⟨b, 3, none⟩ D) :=
  (((h.setCell hb _).setCell hb _).setCell hb _).setCell hb _
/-- A value is set where one lay. -/
theorem set_in4 {V : World} {blk : Nat} {k n : Int} {t : ByteArray} {b : Bool} (h : In4 V blk 0 k n t b) (A B C D : Value) :
    ((((V.setCell ⟨blk, 0, none⟩ A).setCell ⟨blk, 1, none⟩ B).setCell ⟨blk, 2, none⟩ C).setCell ⟨blk, 3, none⟩ D).cell? ⟨blk, 0, none⟩ = some A ∧ ((((V.setCell ⟨blk, 0, none⟩ A).setCell ⟨blk, 1, none⟩ B).setCell ⟨blk, 2, none⟩ C).setCell ⟨blk, 3, none⟩ D).cell? ⟨blk, 1, none⟩ = some B ∧ ((((V.setCell ⟨blk, 0, none⟩ A).setCell ⟨blk, 1, none⟩ B).setCell ⟨blk, 2, none⟩ C).setCell ⟨blk, 3, none⟩ D).cell? ⟨blk, 2, none⟩ = some C ∧ ((((V.setCell ⟨blk, 0, none⟩ A).setCell ⟨blk, 1, none⟩ B).setCell ⟨blk, 2, none⟩ C).setCell ⟨blk, 3, none⟩ D).cell? ⟨blk, 3, none⟩ = some D := by
  obtain ⟨h0, h1, h2, h3⟩ := h
  refine ⟨?_, ?_, ?_, ?_⟩ <;> simp [go_sem, h0, h1, h2, h3]
def Fr0 (w V : World) : Prop :=
  In4 V w.heap.size 0 0 0 ⟨#[]⟩ false ∧ (V.frozen? ⟨w.heap.size, 0, none⟩ = false ∧ V.frozen? ⟨w.heap.size, 1, none⟩ = false ∧ V.frozen? ⟨w.heap.size, 2, none⟩ = false ∧ V.frozen? ⟨w.heap.size, 3, none⟩ = false) ∧ Below w.heap.size w V ∧ w.heap.size + 1 ≤ V.heap.size
theorem Fr0.on {w V V' : World} (h : Fr0 w V) (hb : Below V.heap.size V V') : Fr0 w V' := by
  obtain ⟨h3, ⟨f0, f1, f2, f3⟩, h5, h6⟩ := h
  have hl : w.heap.size < V.heap.size := by omega
  exact ⟨h3.on hb, ⟨Frz.on f0 hl hb, Frz.on f1 hl hb, Frz.on f2 hl hb, Frz.on f3 hl hb⟩, below_step h5 hb, Nat.le_trans h6 hb.size⟩
theorem fr0_start (w : World) (ty : TypeId) : Fr0 w (w.alloc (.cells #[.int .i64 0, .int .i64 0, .string ⟨#[]⟩, .bool false] ty)) := by
  refine ⟨in4_new w 0 0 ⟨#[]⟩ false ty, ⟨?_, ?_, ?_, ?_⟩, (Below.refl _ _).alloc (Nat.le_refl _) _, by simp⟩
  all_goals simp [go_sem]
def sameV (k n : Int) (t : ByteArray) (b : Bool) (k' n' : Int) (t' : ByteArray) (b' : Bool) : Bool := k == k' && (n == n' && (t.toList == t'.toList && b == b'))
theorem sameV_iff {k n : Int} {t : ByteArray} {b : Bool} {k' n' : Int} {t' : ByteArray} {b' : Bool} : sameV k n t b k' n' t' b' = true ↔ (⟨k, n, t, b⟩ : Val) = ⟨k', n', t', b'⟩ := by
  unfold sameV
  simp only [Bool.and_eq_true, beq_iff_eq, Val.mk.injEq]
  constructor
  · rintro ⟨a, b, c, d⟩; exact ⟨a, b, toList_inj c, d⟩
  · rintro ⟨a, b, c, d⟩; exact ⟨a, b, by rw [c], d⟩
theorem sameV_refl (k n : Int) (t : ByteArray) (b : Bool) : sameV k n t b k n t b = true := sameV_iff.2 rfl
theorem fieldsV : (Tryd.prog.fieldsOf 47).toList.map (fun f => (f.name, f.type, f.offset)) = [("Kind", 3, 0), ("Int", 3, 1), ("Text", 9, 2), ("Bool", 4, 3)] := by kernel_rfl
theorem guardV : Tryd.prog.eqGuardType Tryd.prog.depth 47 = false := by kernel_rfl
theorem heldV : Tryd.prog.stoodInHeld 47 = false := by kernel_rfl
theorem part_at (w : World) (A : Array Value) (i : Nat) (v : Value) (ty : TypeId) (hagg : (isAgg ty).run Tryd.prog w = .ok false w) (h : A[i]? = some v) : (part ty A i).run Tryd.prog w = .ok v w := by
  simp [part, Sem.run_bind, hagg, h]
theorem agg3 (w : World) : (isAgg 3).run Tryd.prog w = .ok false w := by
  unfold isAgg; rw [Sem.run_bind, run_underlying Tryd.underlying3 w]; rfl
theorem agg4 (w : World) : (isAgg 4).run Tryd.prog w = .ok false w := by
  unfold isAgg; rw [Sem.run_bind, run_underlying Tryd.underlying4 w]; rfl
theorem agg9 (w : World) : (isAgg 9).run Tryd.prog w = .ok false w := by
  unfold isAgg; rw [Sem.run_bind, run_underlying Tryd.underlying9 w]; rfl
theorem eqIn_ (w : World) (k n : Int) (t : ByteArray) (b : Bool) (k' n' : Int) (t' : ByteArray) (b' : Bool) :
    (Op.equalIn 10000 47 (.agg #[.int .i64 k, .int .i64 n, .string t, .bool b]) (.agg #[.int .i64 k', .int .i64 n', .string t', .bool b'])).run Tryd.prog w = .ok (sameV k n t b k' n' t' b') w := by
  rw [run_equalIn_struct w 9999 47 _ _ (by kernel_rfl) heldV]
  have hf := fieldsV
  generalize (Tryd.prog.fieldsOf 47).toList = fs at *
  obtain ⟨f0, f1, f2, f3, rfl⟩ : ∃ f0 f1 f2 f3, fs = [f0, f1, f2, f3] := by
    have hl := congrArg List.length hf
    rcases fs with _ | ⟨f0, _ | ⟨f1, _ | ⟨f2, _ | ⟨f3, _ | ⟨f4, fs⟩⟩⟩⟩⟩ <;> first | exact ⟨_, _, _, _, rfl⟩ | simp at hl
  simp only [List.map_cons, List.map_nil, List.cons.injEq, Prod.mk.injEq, and_true] at hf
  obtain ⟨⟨a0, a1, a2⟩, ⟨b0, b1, b2⟩, ⟨c0, c1, c2⟩, ⟨d0, d1, d2⟩⟩ := hf
  have p0 := part_at w #[.int .i64 k, .int .i64 n, .string t, .bool b] 0 (.int .i64 k) 3 (agg3 w) rfl
  have p1 := part_at w #[.int .i64 k, .int .i64 n, .string t, .bool b] 1 (.int .i64 n) 3 (agg3 w) rfl
  have p2 := part_at w #[.int .i64 k, .int .i64 n, .string t, .bool b] 2 (.string t) 9 (agg9 w) rfl
  have p3 := part_at w #[.int .i64 k, .int .i64 n, .string t, .bool b] 3 (.bool b) 4 (agg4 w) rfl
  have q0 := part_at w #[.int .i64 k', .int .i64 n', .string t', .bool b'] 0 (.int .i64 k') 3 (agg3 w) rfl
  have q1 := part_at w #[.int .i64 k', .int .i64 n', .string t', .bool b'] 1 (.int .i64 n') 3 (agg3 w) rfl
  have q2 := part_at w #[.int .i64 k', .int .i64 n', .string t', .bool b'] 2 (.string t') 9 (agg9 w) rfl
  have q3 := part_at w #[.int .i64 k', .int .i64 n', .string t', .bool b'] 3 (.bool b') 4 (agg4 w) rfl
  have e0 := run_equalIn_int (P := Tryd.prog) w 9998 3 .i64 .i64 k k' Tryd.underlying3
  have e1 := run_equalIn_int (P := Tryd.prog) w 9998 3 .i64 .i64 n n' Tryd.underlying3
  have e2 := run_equalIn_string (P := Tryd.prog) w 9998 9 t t' Tryd.underlying9
  have e3 := run_equalIn_bool' (P := Tryd.prog) w 9998 4 b b' Tryd.underlying4
  generalize #[Value.int .i64 k, Value.int .i64 n, Value.string t, Value.bool b] = A at *
  generalize #[Value.int .i64 k', Value.int .i64 n', Value.string t', Value.bool b'] = B at *
  unfold sameV
  simp only [Op.eqFields, a0, a1, a2, b0, b1, b2, c0, c1, c2, d0, d1, d2, Sem.run_bind, Sem.run_ite, p0, p1, p2, p3, q0, q1, q2, q3, e0, e1, e2, e3, Result.andThen_ok]
  cases (k == k') <;> cases (n == n') <;> cases (t.toList == t'.toList) <;> cases (b == b') <;> simp
/-- An error by its number; 0: none. -/
def errV (ty : TypeId) (e : Int) : Value := if e = 0 then .nilIface else .iface ty (.int .i64 e)
theorem size_list (s : ByteArray) : s.size = s.data.toList.length := Lib.size_eq s
theorem list_size (l : List UInt8) : (⟨l.toArray⟩ : ByteArray).size = l.length := by rw [size_list]
theorem ba_ext {s t : ByteArray} (h : s.data.toList = t.data.toList) : s = t := toList_inj (by rw [Lib.toList_data, Lib.toList_data]; exact h)
theorem ba_append (a b : ByteArray) : (a ++ b).data.toList = a.data.toList ++ b.data.toList := by simp
theorem size_of_valid {v : Val} (h : validN v = 0) : v.t.size ≤ 4096 := by
  unfold validN at h
  split at h
  · omega
  · split at h
    · omega
    · omega
end Go.Proofs.YtlldamgnfaikhaaDoor
