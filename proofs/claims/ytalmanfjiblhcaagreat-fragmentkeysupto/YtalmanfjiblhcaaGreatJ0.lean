/- Nothing of Go's library is asked for here; Plain facts on values: their order, their literals, numbers that may leave an int. No program is in it; Plain facts on values laid as bytes: the bytes are ordered as the values are, and are read as them. No program is in it; The walks of what makes and what compares values; values in memory; two values compared. -/
import Derived.Test.YtalmanfjiblhcaaGreatProg
import Derived.Lib.Replace
import Derived.Lib.ItoaNum
import Derived.Lib.AtoiAllCases
import Derived.Lib.Small
import Derived.Lib.Strings
import GoSem.Op.String
import Derived.Test.YtalmanfjiblhcaaGreatChecked
import Derived.WalkKit
import Derived.WalkSpells
import Derived.WalkLawsBesides
import Derived.Lib.QuietBelow
import Derived.Lib.Hide
import Derived.Deep.RegionWith
import Derived.Deep.QuietTactic
import Derived.LoopN
import Derived.WalkSmall
import Derived.IntWalk
import Derived.Laws.StructEq
import Derived.BigQuiet
namespace Go.Proofs.YtalmanfjiblhcaaGreat.Rw
open Go.Lib
structure Ordered {α : Type} (f : α → α → Int) : Prop where
 refl : ∀ a, f a a = 0
 anti : ∀ a b, f a b = -f b a
 low : ∀ a b, -1 ≤ f a b
 high : ∀ a b, f a b ≤ 1
 le_le : ∀ a b c, f a b ≤ 0 → f b c ≤ 0 → f a c ≤ 0
 le_lt : ∀ a b c, f a b ≤ 0 → f b c < 0 → f a c < 0
theorem less_irrefl : ∀ s, Op.bytesLess s s = false
 | [] => rfl
 | a :: s => by simp [Op.bytesLess, less_irrefl s]
theorem less_cons {a b : UInt8} {x y : List UInt8} : Op.bytesLess (a :: x) (b :: y) = true ↔ a.toNat < b.toNat ∨ (a = b ∧ Op.bytesLess x y = true) := by
 simp [Op.bytesLess, UInt8.lt_iff_toNat_lt]
theorem less_trans : ∀ s t u, Op.bytesLess s t = true → Op.bytesLess t u = true → Op.bytesLess s u = true
 | [], [], _, h, _ => by simp [Op.bytesLess] at h
 | _ :: _, [], _, h, _ => by simp [Op.bytesLess] at h
 | [], _ :: _, [], _, h => by simp [Op.bytesLess] at h
 | _ :: _, _ :: _, [], _, h => by simp [Op.bytesLess] at h
 | [], _ :: _, _ :: _, _, _ => by simp [Op.bytesLess]
 | a :: s, b :: t, c :: u, h1, h2 => by
   rw [less_cons] at *
   rcases h1 with h1 | ⟨rfl, h1⟩ <;> rcases h2 with h2 | ⟨rfl, h2⟩
   · left; omega
   · left; omega
   · left; omega
   · right; exact ⟨rfl, less_trans s t u h1 h2⟩
theorem less_total : ∀ s t, Op.bytesLess s t = false → Op.bytesLess t s = false → s = t
 | [], [], _, _ => rfl
 | [], _ :: _, h, _ => by simp [Op.bytesLess] at h
 | _ :: _, [], _, h => by simp [Op.bytesLess] at h
 | a :: s, b :: t, h1, h2 => by
   have n1 : ¬ Op.bytesLess (a :: s) (b :: t) = true := by rw [h1]; simp
   have n2 : ¬ Op.bytesLess (b :: t) (a :: s) = true := by rw [h2]; simp
   rw [less_cons] at n1 n2
   have e : a = b := UInt8.toNat_inj.1 (by omega)
   subst e
   rw [less_total s t (by by_cases h : Op.bytesLess s t = true; exact absurd (Or.inr ⟨rfl, h⟩) n1; simpa using h) (by by_cases h : Op.bytesLess t s = true; exact absurd (Or.inr ⟨rfl, h⟩) n2; simpa using h)]
structure Val where
 k : Int
 n : Int
 t : ByteArray
 b : Bool
theorem Ordered.on {α β : Type} {f : α → α → Int} (h : Ordered f) (g : β → α) : Ordered (fun x y => f (g x) (g y)) :=
 ⟨fun _ => h.refl _, fun _ _ => h.anti _ _, fun _ _ => h.low _ _, fun _ _ => h.high _ _, fun _ _ _ => h.le_le _ _ _, fun _ _ _ => h.le_lt _ _ _⟩
def okB (c : UInt8) : Bool := decide (32 ≤ c.toNat) && decide (c.toNat ≤ 126)
def fit (v : Val) : Bool := (v.k == 0 && v.n == 0 && v.t.size == 0 && !v.b) || (v.k == 1 && v.t.size == 0 && !v.b) || (v.k == 2 && v.n == 0 && !v.b) || (v.k == 3 && v.n == 0 && v.t.size == 0)
def validN (v : Val) : Int := if fit v = false then 3 else if v.t.size > 4096 then 2 else if v.t.data.toList.all okB = false then 3 else 0
theorem ba_empty {t : ByteArray} (h : t.size = 0) : t = ⟨#[]⟩ := by
 obtain ⟨⟨l⟩⟩ := t
 cases l with
 | nil => rfl
 | cons _ _ => simp [ByteArray.size] at h
theorem fit_of_valid {v : Val} (h : validN v = 0) : fit v = true := by
 unfold validN at h; by_cases hf : fit v = true
 · exact hf
 · rw [if_pos (by simpa using hf)] at h; cases h
theorem valid_kind {v : Val} (h : fit v = true) : v.k = 0 ∨ v.k = 1 ∨ v.k = 2 ∨ v.k = 3 := by
 simp only [fit, Bool.or_eq_true, Bool.and_eq_true, beq_iff_eq] at h; omega
theorem toList_inj {s t : ByteArray} (h : s.toList = t.toList) : s = t := by
 have e : s.data.toList = t.data.toList := by rw [toList_data, toList_data] at h; exact h
 obtain ⟨⟨l⟩⟩ := s; obtain ⟨⟨m⟩⟩ := t
 simp at e; rw [e]
end Go.Proofs.YtalmanfjiblhcaaGreat.Rw
namespace Go.Proofs.YtalmanfjiblhcaaGreat.Rw
open Go.Lib
def Apart (p q : List UInt8) : Prop := ∃ c x y r r', p = c ++ x :: r ∧ q = c ++ y :: r' ∧ x.toNat < y.toNat
theorem Apart.cons {p q : List UInt8} (h : Apart p q) (a : UInt8) : Apart (a :: p) (a :: q) := by
 obtain ⟨c, x, y, r, r', rfl, rfl, hxy⟩ := h
 exact ⟨a :: c, x, y, r, r', rfl, rfl, hxy⟩
def be : Nat → Nat → List UInt8
 | 0, _ => []
 | k + 1, x => UInt8.ofNat (x / 256 ^ k % 256) :: be k x
theorem be_len : ∀ k x, (be k x).length = k
 | 0, _ => rfl
 | k + 1, x => by rw [be, List.length_cons, be_len k x]
def word (n : Int) : Nat := (n + 9223372036854775808).toNat
def body (v : Val) : List UInt8 := if v.k = 1 then be 8 (word v.n) else if v.k = 2 then v.t.data.toList ++ [0] else if v.k = 3 then [if v.b = true then 1 else 0] else []
def encV (v : Val) : List UInt8 := UInt8.ofNat (v.k + 1).toNat :: body v
def encL (l : List Val) : List UInt8 := l.flatMap encV
theorem all_ok {v : Val} (h : validN v = 0) : ∀ c ∈ v.t.data.toList, 32 ≤ c.toNat ∧ c.toNat ≤ 126 := by
 unfold validN at h
 split at h
 · cases h
 · split at h
   · cases h
   · split at h
     · cases h
     · rename_i h3
       have h4 : v.t.data.toList.all okB = true := by simpa using h3
       intro c hc
       have := List.all_eq_true.1 h4 c hc
       simpa [okB] using this
theorem enc_append (x y : List Val) : encL (x ++ y) = encL x ++ encL y := by simp [encL]
end Go.Proofs.YtalmanfjiblhcaaGreat.Rw
namespace Go.Proofs.YtalmanfjiblhcaaGreat.Rw
open Go.RowKit Go.Sort
def vNull : Val := ⟨0, 0, ⟨#[]⟩, false⟩
def vInt (n : Int) : Val := ⟨1, n, ⟨#[]⟩, false⟩
def vBool (b : Bool) : Val := ⟨3, 0, ⟨#[]⟩, b⟩
def inI (n : Int) : Prop := -9223372036854775808 ≤ n ∧ n ≤ 9223372036854775807
theorem ret_bool {a b : Bool} (h : a = b) : Ending.returned (.bool a) = .returned (.bool b) := by rw [h]
theorem ret_int {k : IntKind} {a b : Int} (h : a = b) : Ending.returned (.int k a) = .returned (.int k b) := by rw [h]
def agV (v : Val) : Value := .agg #[.int .i64 v.k, .int .i64 v.n, .string v.t, .bool v.b]
theorem null_ (w : World) : Calls Tryz.prog 121 #[] w fun e w' => e = .returned (.agg #[.int .i64 0, .int .i64 0, .string ⟨#[]⟩, .bool false]) ∧ Below w.heap.size w w' := by
 go_enter Tryz.func121, Tryz.ntmps121
 go_wp2_with fail
 exact bodyPost_ret (v := .agg #[.int .i64 0, .int .i64 0, .string ⟨#[]⟩, .bool false]) (by simp [results, Tryz.results121, go_sem]) rfl ⟨rfl, (Below.refl _ _).alloc (Nat.le_refl _) _⟩
theorem bool_ (b : Bool) (w : World) : Calls Tryz.prog 152 #[.bool b] w fun e w' => e = .returned (.agg #[.int .i64 3, .int .i64 0, .string ⟨#[]⟩, .bool b]) ∧ Below w.heap.size w w' := by
 go_enter Tryz.func152, Tryz.ntmps152
 go_wp2_with fail
 exact bodyPost_ret (v := .agg #[.int .i64 3, .int .i64 0, .string ⟨#[]⟩, .bool b]) (by simp [results, Tryz.results152, go_sem]) rfl ⟨rfl, (Below.refl _ _).alloc (Nat.le_refl _) _⟩
theorem int_ (n : Int) (w : World) : Calls Tryz.prog 149 #[.int .i64 n] w fun e w' => e = .returned (.agg #[.int .i64 1, .int .i64 n, .string ⟨#[]⟩, .bool false]) ∧ Below w.heap.size w w' := by
 go_enter Tryz.func149, Tryz.ntmps149
 go_wp2_with fail
 exact bodyPost_ret (v := .agg #[.int .i64 1, .int .i64 n, .string ⟨#[]⟩, .bool false]) (by simp [results, Tryz.results149, go_sem]) rfl ⟨rfl, (Below.refl _ _).alloc (Nat.le_refl _) _⟩
theorem text_ (t : ByteArray) (w : World) : Calls Tryz.prog 151 #[.string t] w fun e w' => e = .returned (.agg #[.int .i64 2, .int .i64 0, .string t, .bool false]) ∧ Below w.heap.size w w' := by
 go_enter Tryz.func151, Tryz.ntmps151
 go_wp2_with fail
 exact bodyPost_ret (v := .agg #[.int .i64 2, .int .i64 0, .string t, .bool false]) (by simp [results, Tryz.results151, go_sem]) rfl ⟨rfl, (Below.refl _ _).alloc (Nat.le_refl _) _⟩
theorem below_step {W w w' : World} (h : Below W.heap.size W w) (hb : Below w.heap.size w w') : Below W.heap.size W w' := h.trans (hb.mono h.size)
theorem below_drew (W : World) : Below W.heap.size W W.drew := (Below.refl _ _).drew
def In4 (w : World) (blk off : Nat) (k n : Int) (t : ByteArray) (b : Bool) : Prop :=
 w.cell? ⟨blk, off, none⟩ = some (.int .i64 k) ∧ w.cell? ⟨blk, off + 1, none⟩ = some (.int .i64 n) ∧ w.cell? ⟨blk, off + 2, none⟩ = some (.string t) ∧ w.cell? ⟨blk, off + 3, none⟩ = some (.bool b)
theorem In4.on {w w' : World} {blk off : Nat} {k n : Int} {t : ByteArray} {b : Bool} (h : In4 w blk off k n t b) (hb : Below w.heap.size w w') : In4 w' blk off k n t b := by
 obtain ⟨h0, h1, h2, h3⟩ := h
 exact ⟨(hb.cell (block_lt_of_cell h0)).trans h0, (hb.cell (block_lt_of_cell h1)).trans h1, (hb.cell (block_lt_of_cell h2)).trans h2, (hb.cell (block_lt_of_cell h3)).trans h3⟩
theorem In4.alloc {w : World} {blk off : Nat} {k n : Int} {t : ByteArray} {b : Bool} (h : In4 w blk off k n t b) (o : Obj) : In4 (w.alloc o) blk off k n t b :=
 h.on ((Below.refl _ _).alloc (Nat.le_refl _) _)
theorem in4_new (w : World) (k n : Int) (t : ByteArray) (b : Bool) (ty : TypeId) : In4 (w.alloc (.cells #[.int .i64 k, .int .i64 n, .string t, .bool b] ty)) w.heap.size 0 k n t b := by
 refine ⟨?_, ?_, ?_, ?_⟩ <;> simp [go_sem]
theorem Frz.on {w w' : World} {blk off : Nat} (h : w.frozen? ⟨blk, off, none⟩ = false) (hl : blk < w.heap.size) (hb : Below w.heap.size w w') : w'.frozen? ⟨blk, off, none⟩ = false := (hb.frozen (p := ⟨blk, off, none⟩) hl).trans h
def Fr1 (w V : World) (k n : Int) (t : ByteArray) (b : Bool) : Prop :=
 In4 V w.heap.size 0 k n t b ∧ In4 V (w.heap.size + 1) 0 0 0 ⟨#[]⟩ false ∧
 (V.frozen? ⟨w.heap.size + 1, 0, none⟩ = false ∧ V.frozen? ⟨w.heap.size + 1, 1, none⟩ = false ∧ V.frozen? ⟨w.heap.size + 1, 2, none⟩ = false ∧ V.frozen? ⟨w.heap.size + 1, 3, none⟩ = false) ∧
 Below w.heap.size w V ∧ w.heap.size + 2 ≤ V.heap.size
theorem Fr1.on {w V V' : World} {k n : Int} {t : ByteArray} {b : Bool} (h : Fr1 w V k n t b) (hb : Below V.heap.size V V') : Fr1 w V' k n t b := by
 obtain ⟨h1, h3, ⟨f0, f1, f2, f3⟩, h5, h6⟩ := h
 have hl : w.heap.size + 1 < V.heap.size := by omega
 exact ⟨h1.on hb, h3.on hb, ⟨Frz.on f0 hl hb, Frz.on f1 hl hb, Frz.on f2 hl hb, Frz.on f3 hl hb⟩, below_step h5 hb, Nat.le_trans h6 hb.size⟩
theorem fr1_start (w : World) (k n : Int) (t : ByteArray) (b : Bool) (ty : TypeId) : Fr1 w ((w.alloc (.cells #[.int .i64 k, .int .i64 n, .string t, .bool b] ty)).alloc (.cells #[.int .i64 0, .int .i64 0, .string ⟨#[]⟩, .bool false] ty)) k n t b := by
 refine ⟨(in4_new w k n t b ty).alloc _, ?_, ⟨?_, ?_, ?_, ?_⟩, ((Below.refl _ _).alloc (Nat.le_refl _) _).alloc (by simp) _, by simp⟩
 · have := in4_new (w.alloc (.cells #[.int .i64 k, .int .i64 n, .string t, .bool b] ty)) 0 0 ⟨#[]⟩ false ty
   simpa using this
 all_goals simp [go_sem]
theorem four_set {w V : World} (h : Below w.heap.size w V) (b : Nat) (hb : w.heap.size ≤ b) (A B C D : Value) : Below w.heap.size w ((((V.setCell ⟨b, 0, none⟩ A).setCell ⟨b, 1, none⟩ B).setCell ⟨b, 2, none⟩ C).setCell ⟨b, 3, none⟩ D) :=
 (((h.setCell hb _).setCell hb _).setCell hb _).setCell hb _
def Fr0 (w V : World) : Prop :=
 In4 V w.heap.size 0 0 0 ⟨#[]⟩ false ∧ (V.frozen? ⟨w.heap.size, 0, none⟩ = false ∧ V.frozen? ⟨w.heap.size, 1, none⟩ = false ∧ V.frozen? ⟨w.heap.size, 2, none⟩ = false ∧ V.frozen? ⟨w.heap.size, 3, none⟩ = false) ∧ Below w.heap.size w V ∧ w.heap.size + 1 ≤ V.heap.size
theorem Fr0.on {w V V' : World} (h : Fr0 w V) (hb : Below V.heap.size V V') : Fr0 w V' := by
 obtain ⟨h3, ⟨f0, f1, f2, f3⟩, h5, h6⟩ := h
 have hl : w.heap.size < V.heap.size := by omega
 exact ⟨h3.on hb, ⟨Frz.on f0 hl hb, Frz.on f1 hl hb, Frz.on f2 hl hb, Frz.on f3 hl hb⟩, below_step h5 hb, Nat.le_trans h6 hb.size⟩
theorem fr0_start (w : World) (ty : TypeId) : Fr0 w (w.alloc (.cells #[.int .i64 0, .int .i64 0, .string ⟨#[]⟩, .bool false] ty)) := by
 refine ⟨in4_new w 0 0 ⟨#[]⟩ false ty, ⟨?_, ?_, ?_, ?_⟩, (Below.refl _ _).alloc (Nat.le_refl _) _, by simp⟩
 all_goals simp [go_sem]
def sameV (k n : Int) (t : ByteArray) (b : Bool) (k' n' : Int) (t' : ByteArray) (b' : Bool) : Bool := k == k' && (n == n' && (t.toList == t'.toList && b == b'))
theorem sameV_iff {k n : Int} {t : ByteArray} {b : Bool} {k' n' : Int} {t' : ByteArray} {b' : Bool} : sameV k n t b k' n' t' b' = true ↔ (⟨k, n, t, b⟩ : Val) = ⟨k', n', t', b'⟩ := by
 unfold sameV
 simp only [Bool.and_eq_true, beq_iff_eq, Val.mk.injEq]
 constructor
 · rintro ⟨a, b, c, d⟩; exact ⟨a, b, toList_inj c, d⟩
 · rintro ⟨a, b, c, d⟩; exact ⟨a, b, by rw [c], d⟩
theorem fieldsV : (Tryz.prog.fieldsOf 73).toList.map (fun f => (f.name, f.type, f.offset)) = [("Kind", 3, 0), ("Int", 3, 1), ("Text", 9, 2), ("Bool", 4, 3)] := by kernel_rfl
theorem guardV : Tryz.prog.eqGuardType Tryz.prog.depth 73 = false := by kernel_rfl
theorem heldV : Tryz.prog.stoodInHeld 73 = false := by kernel_rfl
theorem part_at (w : World) (A : Array Value) (i : Nat) (v : Value) (ty : TypeId) (hagg : (isAgg ty).run Tryz.prog w = .ok false w) (h : A[i]? = some v) : (part ty A i).run Tryz.prog w = .ok v w := by
 simp [part, Sem.run_bind, hagg, h]
theorem agg3 (w : World) : (isAgg 3).run Tryz.prog w = .ok false w := by
 unfold isAgg; rw [Sem.run_bind, run_underlying Tryz.underlying3 w]; rfl
theorem agg4 (w : World) : (isAgg 4).run Tryz.prog w = .ok false w := by
 unfold isAgg; rw [Sem.run_bind, run_underlying Tryz.underlying4 w]; rfl
theorem agg9 (w : World) : (isAgg 9).run Tryz.prog w = .ok false w := by
 unfold isAgg; rw [Sem.run_bind, run_underlying Tryz.underlying9 w]; rfl
theorem eqIn_ (w : World) (k n : Int) (t : ByteArray) (b : Bool) (k' n' : Int) (t' : ByteArray) (b' : Bool) :
 (Op.equalIn 10000 73 (.agg #[.int .i64 k, .int .i64 n, .string t, .bool b]) (.agg #[.int .i64 k', .int .i64 n', .string t', .bool b'])).run Tryz.prog w = .ok (sameV k n t b k' n' t' b') w := by
 rw [run_equalIn_struct w 9999 73 _ _ (by kernel_rfl) heldV]
 have hf := fieldsV
 generalize (Tryz.prog.fieldsOf 73).toList = fs at *
 obtain ⟨f0, f1, f2, f3, rfl⟩ : ∃ f0 f1 f2 f3, fs = [f0, f1, f2, f3] := by
  have hl := congrArg List.length hf
  rcases fs with _ | ⟨f0, _ | ⟨f1, _ | ⟨f2, _ | ⟨f3, _ | ⟨f4, fs⟩⟩⟩⟩⟩ <;> first | exact ⟨_, _, _, _, rfl⟩ | simp at hl
 simp only [List.map_cons, List.map_nil, List.cons.injEq, Prod.mk.injEq, and_true] at hf
 obtain ⟨⟨a0, a1, a2⟩, ⟨b0, b1, b2⟩, ⟨c0, c1, c2⟩, ⟨d0, d1, d2⟩⟩ := hf
 have p0 := part_at w #[.int .i64 k, .int .i64 n, .string t, .bool b] 0 (.int .i64 k) 3 (agg3 w) rfl
 have p1 := part_at w #[.int .i64 k, .int .i64 n, .string t, .bool b] 1 (.int .i64 n) 3 (agg3 w) rfl
 have p2 := part_at w #[.int .i64 k, .int .i64 n, .string t, .bool b] 2 (.string t) 9 (agg9 w) rfl
 have p3 := part_at w #[.int .i64 k, .int .i64 n, .string t, .bool b] 3 (.bool b) 4 (agg4 w) rfl
 have q0 := part_at w #[.int .i64 k', .int .i64 n', .string t', .bool b'] 0 (.int .i64 k') 3 (agg3 w) rfl
 have q1 := part_at w #[.int .i64 k', .int .i64 n', .string t', .bool b'] 1 (.int .i64 n') 3 (agg3 w) rfl
 have q2 := part_at w #[.int .i64 k', .int .i64 n', .string t', .bool b'] 2 (.string t') 9 (agg9 w) rfl
 have q3 := part_at w #[.int .i64 k', .int .i64 n', .string t', .bool b'] 3 (.bool b') 4 (agg4 w) rfl
 have e0 := run_equalIn_int (P := Tryz.prog) w 9998 3 .i64 .i64 k k' Tryz.underlying3
 have e1 := run_equalIn_int (P := Tryz.prog) w 9998 3 .i64 .i64 n n' Tryz.underlying3
 have e2 := run_equalIn_string (P := Tryz.prog) w 9998 9 t t' Tryz.underlying9
 have e3 := run_equalIn_bool' (P := Tryz.prog) w 9998 4 b b' Tryz.underlying4
 generalize #[Value.int .i64 k, Value.int .i64 n, Value.string t, Value.bool b] = A at *
 generalize #[Value.int .i64 k', Value.int .i64 n', Value.string t', Value.bool b'] = B at *
 unfold sameV
 simp only [Op.eqFields, a0, a1, a2, b0, b1, b2, c0, c1, c2, d0, d1, d2, Sem.run_bind, Sem.run_ite, p0, p1, p2, p3, q0, q1, q2, q3, e0, e1, e2, e3, Result.andThen_ok]
 cases (k == k') <;> cases (n == n') <;> cases (t.toList == t'.toList) <;> cases (b == b') <;> simp
def errV (ty : TypeId) (e : Int) : Value := if e = 0 then .nilIface else .iface ty (.int .i64 e)
theorem size_list (s : ByteArray) : s.size = s.data.toList.length := Lib.size_eq s
theorem ba_ext {s t : ByteArray} (h : s.data.toList = t.data.toList) : s = t := toList_inj (by rw [Lib.toList_data, Lib.toList_data]; exact h)
theorem size_of_valid {v : Val} (h : validN v = 0) : v.t.size ≤ 4096 := by
 unfold validN at h
 split at h
 · omega
 · split at h
   · omega
   · omega
end Go.Proofs.YtalmanfjiblhcaaGreat.Rw
