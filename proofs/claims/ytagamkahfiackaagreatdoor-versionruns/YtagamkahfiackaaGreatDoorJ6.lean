/- errors.As at an error of the type api.Errno and a target of that type: Go's own text of it, walked; and the law's 'num'; errors.As at an error of the type api.Errno and a target of that type, and the law's 'num'; Plain facts: the items of a list in order that lie in a range, from the first on and from the last on. No program is in it; Has, behindFrom, aheadOfTo, Empty; Regions that draw their order and make memory: each operation that may come up, one by one; Tree.From; Tree.Last, Tree.First; least; All, and its iterator: the items of a tree that lie in a range, in order. -/
import Derived.Test.YtagamkahfiackaaGreatDoorJ5
import Derived.LaidEql
import Derived.Stop.Asserts
import Derived.RowKitTokens
import Derived.Test.YtagamkahfiackaaGreatDoorJ4
import Derived.Test.YtagamkahfiackaaGreatDoorJ2
import Derived.RangeFuncWrites
import Derived.RangeFuncBox
import Derived.RangeFuncLeaves
import Derived.RangeFuncCalls
import Derived.RangeFuncBound
import Derived.Shelf.Abstract
import Derived.OwnWalkIn
import Derived.TacticsInMore
import Derived.LoopNIn
import Derived.LoopIn
import Derived.Sort.QuietIn
import Derived.Sort.LoopGhostIn
namespace Go.Proofs.YtagamkahfiackaaGreatDoor
open Go.RowKit Go.Extern.Stop Go.Stop Go.Extern

theorem rValueOf55 (t : Addr) (w : World) : (ReflectliteValue.unpack (.iface 94 (.pointer (some t)))).run Tryz.prog w
    = .ok (.agg #[.pointer (some ⟨2, 94, none⟩), .pointer (some ⟨w.heap.size, 0, none⟩), .int .u64 150]) (w.alloc (.cells #[.pointer (some t)] 94)) := by kernel_rfl
theorem rValueOf51 (n : Int) (w : World) : (ReflectliteValue.unpack (.iface 91 (.int .i64 n))).run Tryz.prog w
    = .ok (.agg #[.pointer (some ⟨2, 91, none⟩), .pointer (some ⟨w.heap.size, 0, none⟩), .int .u64 130]) (w.alloc (.cells #[.int .i64 n] 91)) := by kernel_rfl
theorem rType55 (a : Addr) (w : World) : (ReflectliteValue.methodAny (ReflectliteValue.valueError "reflectlite.Value.Type" 0) (fun t _ _ _ => ReflectliteType.toType t) #[.agg #[.pointer (some ⟨2, 94, none⟩), .pointer (some a), .int .u64 150]]).run Tryz.prog w
    = .ok (.iface 143 (.agg #[.pointer (some ⟨2, 94, none⟩)])) w := by kernel_rfl
theorem rMethodKind (h : Value) (w : World) : (Go.method 294 143 (.agg #[h]) "Kind").run Tryz.prog w = .ok (106, h) w := by kernel_rfl
theorem rKind55 (w : World) : ((ReflectliteType.abiMethod fun t => (fun a : Nat => Value.int IntKind.u8 (a : Int)) <$> Rtype.kind t) #[.pointer (some ⟨2, 94, none⟩)]).run Tryz.prog w = .ok (.int .u8 22) w := by kernel_rfl
theorem rKind51 (w : World) : ((ReflectliteType.abiMethod fun t => (fun a : Nat => Value.int IntKind.u8 (a : Int)) <$> Rtype.kind t) #[.pointer (some ⟨2, 91, none⟩)]).run Tryz.prog w = .ok (.int .u8 2) w := by kernel_rfl
theorem rMethodElem (h : Value) (w : World) : (Go.method 294 143 (.agg #[h]) "Elem").run Tryz.prog w = .ok (117, .agg #[h]) w := by kernel_rfl
theorem rMethodImplements (h : Value) (w : World) : (Go.method 294 143 (.agg #[h]) "Implements").run Tryz.prog w = .ok (118, .agg #[h]) w := by kernel_rfl
theorem rMethodAssignableTo (h : Value) (w : World) : (Go.method 294 143 (.agg #[h]) "AssignableTo").run Tryz.prog w = .ok (115, .agg #[h]) w := by kernel_rfl
theorem rElem55 (w : World) : (ReflectliteType.method ReflectliteType.elem #[.agg #[.pointer (some ⟨2, 94, none⟩)]]).run Tryz.prog w = .ok (.iface 143 (.agg #[.pointer (some ⟨2, 91, none⟩)])) w := by kernel_rfl
theorem rImplements51 (w : World) : (ReflectliteType.relation "Implements" ReflectliteType.implements_ #[.agg #[.pointer (some ⟨2, 91, none⟩)], .iface 143 (.agg #[.pointer (some ⟨2, 59, none⟩)])]).run Tryz.prog w = .ok (.bool true) w := by kernel_rfl
theorem rTypeOf51 (v : Value) (w : World) : (ReflectliteType.typeOf #[.iface 91 v]).run Tryz.prog w = .ok (.iface 143 (.agg #[.pointer (some ⟨2, 91, none⟩)])) w := by kernel_rfl
theorem rAssignable51 (w : World) : (ReflectliteType.relation "AssignableTo" ReflectliteType.assignableTo #[.agg #[.pointer (some ⟨2, 91, none⟩)], .iface 143 (.agg #[.pointer (some ⟨2, 91, none⟩)])]).run Tryz.prog w = .ok (.bool true) w := by kernel_rfl

theorem rMethod (z : Sem Value) (f : TypeId → Addr → Nat → Nat → Sem Value) (v : Value) :
    ReflectliteValue.method z f #[v] = (do match ← ReflectliteValue.parts v with | none => z | some (t, a, fl) => f t a fl (fl % 32)) := rfl
theorem rParts55 (a : Addr) (w : World) : (ReflectliteValue.parts (.agg #[.pointer (some ⟨2, 94, none⟩), .pointer (some a), .int .u64 150])).run Tryz.prog w = .ok (some (94, a, 150)) w := by kernel_rfl
theorem rIsNil55 (a p : Addr) (W : World) (ha : W.cell? a = some (.pointer (some p))) :
    (ReflectliteValue.method (ReflectliteValue.valueError "reflectlite.Value.IsNil" 0) ReflectliteValue.isNil #[.agg #[.pointer (some ⟨2, 94, none⟩), .pointer (some a), .int .u64 150]]).run Tryz.prog W = .ok (.bool false) W := by
  rw [rMethod]
  simp only [Sem.run_bind, rParts55, Result.andThen]
  simp [ReflectliteValue.isNil, loadVar, isAgg, underlying, Tryz.underlying94, ha, Result.andThen]
theorem rElemOf55 (w : World) : (Rtype.elem? 94).run Tryz.prog w = .ok (some 91) w := by kernel_rfl
theorem rMk51 (p : Addr) (w : World) : (ReflectliteValue.mk 91 p ReflectliteValue.flagAddr).run Tryz.prog w = .ok (.agg #[.pointer (some ⟨2, 91, none⟩), .pointer (some p), .int .u64 386]) w := by kernel_rfl
theorem rElemV55 (a p : Addr) (W : World) (ha : W.cell? a = some (.pointer (some p))) :
    (ReflectliteValue.method (ReflectliteValue.valueError "reflectlite.Value.Elem" 0) ReflectliteValue.elem #[.agg #[.pointer (some ⟨2, 94, none⟩), .pointer (some a), .int .u64 150]]).run Tryz.prog W
      = .ok (.agg #[.pointer (some ⟨2, 91, none⟩), .pointer (some p), .int .u64 386]) W := by
  rw [rMethod]
  simp only [Sem.run_bind, rParts55, Result.andThen]
  simp [ReflectliteValue.elem, loadVar, isAgg, underlying, Tryz.underlying94, ha, Result.andThen, rElemOf55, rMk51]
theorem rParts51a (a : Addr) (w : World) : (ReflectliteValue.parts (.agg #[.pointer (some ⟨2, 91, none⟩), .pointer (some a), .int .u64 386])).run Tryz.prog w = .ok (some (91, a, 386)) w := by kernel_rfl
theorem rParts51 (a : Addr) (w : World) : (ReflectliteValue.parts (.agg #[.pointer (some ⟨2, 91, none⟩), .pointer (some a), .int .u64 130])).run Tryz.prog w = .ok (some (91, a, 130)) w := by kernel_rfl
theorem rDirect51 (w : World) : (Rtype.directlyAssignable 91 91).run Tryz.prog w = .ok true w := by kernel_rfl
theorem rSet51 (ta b : Addr) (n : Int) (old : Value) (W : World) (hb : W.cell? b = some (.int .i64 n)) (ht : W.cell? ta = some old) (hf : W.frozen? ta = false) :
    (ReflectliteValue.set #[.agg #[.pointer (some ⟨2, 91, none⟩), .pointer (some ta), .int .u64 386], .agg #[.pointer (some ⟨2, 91, none⟩), .pointer (some b), .int .u64 130]]).run Tryz.prog W
      = .ok (.tuple #[]) (W.setCell ta (.int .i64 n)) := by
  change (_ >>= _ : Sem Value).run Tryz.prog W = _
  simp only [Sem.run_bind, Array.getLit, List.getElem_toArray, List.getElem_cons_zero, List.getElem_cons_succ, rParts51a, rParts51, Result.andThen]
  simp [ReflectliteValue.flagAddr, loadVar, isAgg, underlying, Tryz.underlying91, hb, Result.andThen, rDirect51, storeVar, Value.cells, storeCells, Addr.add]
  rw [run_store Tryz.prog W ta _ _ (by rfl)]
  simp [ht, hf]

end Go.Proofs.YtagamkahfiackaaGreatDoor

namespace Go.Proofs.YtagamkahfiackaaGreatDoor
open Go.RowKit Go.Extern.Stop Go.Stop Go.Extern

/-- What the library's type of errors reads as. -/
def ErrType (w : World) : Prop := w.cell? ⟨0, 0, none⟩ = some (.iface 143 (.agg #[.pointer (some ⟨2, 59, none⟩)]))
theorem ErrType.on {w w' : World} (h : ErrType w) (hb : Below w.heap.size w w') : ErrType w' := (hb.cell (block_lt_of_cell h)).trans h

set_option maxHeartbeats 4000000 in
theorem as27 (n : Int) (t : Addr) (old : Value) (w : World) (hg : w.cell? ⟨0, 0, none⟩ = some (.iface 143 (.agg #[.pointer (some ⟨2, 59, none⟩)]))) (ht0 : w.cell? t = some old) (hf0 : w.frozen? t = false) :
    Calls Tryz.prog 38 #[.iface 91 (.int .i64 n), .iface 94 (.pointer (some t))] w fun ev w' => ev = .returned (.bool true) ∧ w' = ((((w.alloc (.cells #[.pointer (some t)] 94)).alloc (.cells #[.pointer (some ⟨2, 94, none⟩), .pointer (some ⟨w.heap.size, 0, none⟩), .int .u64 150] 117)).alloc (.cells #[.pointer (some ⟨2, 94, none⟩), .pointer (some ⟨w.heap.size, 0, none⟩), .int .u64 150] 117)).alloc (.cells #[.int .i64 n] 91)).setCell t (.int .i64 n) := by
  have h36 := @run_callFunc_extern Tryz.prog 53 _ (fun args => ReflectliteValue.unpack (args.getD 0 (.tuple #[]))) Tryz.func53 (by kernel_rfl) (by kernel_rfl) (by kernel_rfl) (by kernel_rfl)
  have h37 := @run_callFunc_extern Tryz.prog 54 _ (ReflectliteValue.methodAny (ReflectliteValue.valueError "reflectlite.Value.Type" 0) (fun t _ _ _ => ReflectliteType.toType t)) Tryz.func54 (by kernel_rfl) (by kernel_rfl) (by kernel_rfl) (by kernel_rfl)
  have h38 := @run_callFunc_extern Tryz.prog 55 _ (ReflectliteValue.method (ReflectliteValue.valueError "reflectlite.Value.IsNil" 0) ReflectliteValue.isNil) Tryz.func55 (by kernel_rfl) (by kernel_rfl) (by kernel_rfl) (by kernel_rfl)
  have h88 := @run_callFunc_extern Tryz.prog 106 _ (ReflectliteType.abiMethod fun t => do pure (.int .u8 (← Rtype.kind t))) Tryz.func106 (by kernel_rfl) (by kernel_rfl) (by kernel_rfl) (by kernel_rfl)
  have h102 := @run_callFunc_extern Tryz.prog 117 _ (ReflectliteType.method ReflectliteType.elem) Tryz.func117 (by kernel_rfl) (by kernel_rfl) (by kernel_rfl) (by kernel_rfl)
  have h103 := @run_callFunc_extern Tryz.prog 118 _ (ReflectliteType.relation "Implements" ReflectliteType.implements_) Tryz.func118 (by kernel_rfl) (by kernel_rfl) (by kernel_rfl) (by kernel_rfl)
  have h49 := @run_callFunc_extern Tryz.prog 72 _ ReflectliteType.typeOf Tryz.func72 (by kernel_rfl) (by kernel_rfl) (by kernel_rfl) (by kernel_rfl)
  have h100 := @run_callFunc_extern Tryz.prog 115 _ (ReflectliteType.relation "AssignableTo" ReflectliteType.assignableTo) Tryz.func115 (by kernel_rfl) (by kernel_rfl) (by kernel_rfl) (by kernel_rfl)
  have h50 := @run_callFunc_extern Tryz.prog 73 _ (ReflectliteValue.method (ReflectliteValue.valueError "reflectlite.Value.Elem" 0) ReflectliteValue.elem) Tryz.func73 (by kernel_rfl) (by kernel_rfl) (by kernel_rfl) (by kernel_rfl)
  have h51 := @run_callFunc_extern Tryz.prog 74 _ ReflectliteValue.set Tryz.func74 (by kernel_rfl) (by kernel_rfl) (by kernel_rfl) (by kernel_rfl)
  have f1 := rValueOf55
  have f2 := rValueOf51
  have f3 := rType55
  have f4 := rMethodKind
  have f5 := rMethodElem
  have f6 := rMethodImplements
  have f7 := rMethodAssignableTo
  have f8 := rKind55
  have f9 := rKind51
  have f10 := rElem55
  have f11 := rImplements51
  have f12 := rTypeOf51
  have f13 := rAssignable51
  have n8 := rIsNil55 ⟨w.heap.size, 0, none⟩ t ((w.alloc (.cells #[.pointer (some t)] 94)).alloc (.cells #[.pointer (some ⟨2, 94, none⟩), .pointer (some ⟨w.heap.size, 0, none⟩), .int .u64 150] 117)) (by simp)
  have hlt : 0 < w.heap.size := block_lt_of_cell hg
  have hg2 : ((w.alloc (.cells #[.pointer (some t)] 94)).alloc (.cells #[.pointer (some ⟨2, 94, none⟩), .pointer (some ⟨w.heap.size, 0, none⟩), .int .u64 150] 117)).cell? ⟨0, 0, none⟩ = some (.iface 143 (.agg #[.pointer (some ⟨2, 59, none⟩)])) := by
    rw [World.cell?_alloc_lt _ _ ⟨0, 0, none⟩ (by simp), World.cell?_alloc_lt _ _ ⟨0, 0, none⟩ hlt]; exact hg
  have htl : t.block < w.heap.size := block_lt_of_cell ht0
  have el := rElemV55 ⟨w.heap.size, 0, none⟩ t (((w.alloc (.cells #[.pointer (some t)] 94)).alloc (.cells #[.pointer (some ⟨2, 94, none⟩), .pointer (some ⟨w.heap.size, 0, none⟩), .int .u64 150] 117)).alloc (.cells #[.pointer (some ⟨2, 94, none⟩), .pointer (some ⟨w.heap.size, 0, none⟩), .int .u64 150] 117)) (by rw [World.cell?_alloc_lt _ _ ⟨w.heap.size, 0, none⟩ (by simp; omega)]; simp)
  have st := rSet51 t ⟨w.heap.size + 1 + 1 + 1, 0, none⟩ n old ((((w.alloc (.cells #[.pointer (some t)] 94)).alloc (.cells #[.pointer (some ⟨2, 94, none⟩), .pointer (some ⟨w.heap.size, 0, none⟩), .int .u64 150] 117)).alloc (.cells #[.pointer (some ⟨2, 94, none⟩), .pointer (some ⟨w.heap.size, 0, none⟩), .int .u64 150] 117)).alloc (.cells #[.int .i64 n] 91))
    (by rw [World.cell?_alloc_at _ _ _ _ (by simp)]; rfl)
    (by rw [World.cell?_alloc_lt _ _ t (by simp; omega), World.cell?_alloc_lt _ _ t (by simp; omega), World.cell?_alloc_lt _ _ t (by simp; omega), World.cell?_alloc_lt _ _ t htl]; exact ht0)
    (by rw [World.frozen?_alloc_old _ _ t (by simp; omega), World.frozen?_alloc_old _ _ t (by simp; omega), World.frozen?_alloc_old _ _ t (by simp; omega), World.frozen?_alloc_old _ _ t (Nat.ne_of_lt htl)]; exact hf0)
  go_enter Tryz.func38, Tryz.ntmps38
  go_wp2
  refine wp_loop_rounds 1 ?_
  rw [rounds_succ]
  go_wp2
  go_ret
  exact ⟨rfl, rfl⟩

set_option maxHeartbeats 1000000 in
theorem num11_nil (w : World) :
    Calls Tryz.prog 21 #[.nilIface] w fun e w' => e = .returned (.int .i64 0) ∧ Below w.heap.size w w' := by
  go_enter Tryz.func21, Tryz.ntmps21
  go_wp2_with fail
  go_ret
  exact ⟨rfl, (Below.refl _ _).alloc (Nat.le_refl _) _⟩
set_option maxHeartbeats 1000000 in
theorem num11 (n : Int) (w : World) (hg : ErrType w) :
    Calls Tryz.prog 21 #[.iface 91 (.int .i64 n)] w fun e w' => e = .returned (.int .i64 n) ∧ Below w.heap.size w w' := by
  have hg1 : (w.alloc (.cells #[.int .i64 0] 91)).cell? ⟨0, 0, none⟩ = some (.iface 143 (.agg #[.pointer (some ⟨2, 59, none⟩)])) := by
    rw [World.cell?_alloc_lt _ _ ⟨0, 0, none⟩ (block_lt_of_cell hg)]; exact hg
  have hlt : 0 < w.heap.size := block_lt_of_cell hg
  have H27 := Lib.hid (as27 n ⟨w.heap.size, 0, none⟩ (.int .i64 0) (w.alloc (.cells #[.int .i64 0] 91)) hg1 (by simp) (by simp))
  clear hg1 hg
  go_enter Tryz.func21, Tryz.ntmps21
  go_wp2_with fail
  refine H27.out.mono ?_
  rintro e w1 ⟨rfl, rfl⟩
  go_wp2_with fail
  go_ret
  refine ⟨rfl, ?_⟩
  exact (((((Below.refl _ _).alloc (Nat.le_refl _) _).alloc (by simp) _).alloc (by simp; omega) _).alloc (by simp; omega) _).alloc (by simp; omega) _
/-- The number of an error. -/
theorem num_erA (w : World) (hg : ErrType w) : Calls Tryz.prog 21 #[erA] w fun e w' => e = .returned (.int .i64 1) ∧ Below w.heap.size w w' := num11 1 w hg
end Go.Proofs.YtagamkahfiackaaGreatDoor

namespace Go.Proofs.YtagamkahfiackaaGreatDoor
open Go.Lib

def selR (r : Rg) (l : List It) : List It := l.filter fun x => hasR r x.1
theorem beh_up {r : Rg} {x y : ByteArray} (h : ltb x y = true) (hx : behR r x = true) : behR r y = true := by
  unfold behR at hx ⊢
  cases hf : r.hf with
  | false => rfl
  | true =>
    rw [hf] at hx
    simp only [Bool.not_true, Bool.false_or, Bool.or_eq_true, Bool.and_eq_true] at hx ⊢
    left
    rcases hx with q | ⟨q, _⟩
    · exact ltb_trans q h
    · unfold sameb at q
      simp only [Bool.and_eq_true, Bool.not_eq_true'] at q
      rw [ltb_total q.1 q.2] at h
      exact h
theorem ahd_dn {r : Rg} {x y : ByteArray} (h : ltb x y = true) (hy : ahdR r y = true) : ahdR r x = true := by
  unfold ahdR at hy ⊢
  cases hf : r.ht with
  | false => rfl
  | true =>
    rw [hf] at hy
    simp only [Bool.not_true, Bool.false_or, Bool.or_eq_true, Bool.and_eq_true] at hy ⊢
    left
    rcases hy with q | ⟨q, _⟩
    · exact ltb_trans h q
    · unfold sameb at q
      simp only [Bool.and_eq_true, Bool.not_eq_true'] at q
      rw [ltb_total q.1 q.2] at h
      exact h
theorem frP_beh (r : Rg) (hf : r.hf = true) : frP r.f r.pf = fun x => behR r x.1 := by
  funext x
  unfold frP behR
  rw [hf]
  rcases ltb_cases x.1 r.f with q | q | q
  · cases r.pf <;> simp [q, ltb_asymm q, sameb_lt q]
  · rw [q]; cases r.pf <;> simp [ltb_irrefl, sameb_self]
  · cases r.pf <;> simp [q, ltb_asymm q, sameb_gt q]
theorem toP_ahd (r : Rg) (hf : r.ht = true) : toP r.t r.pt = fun x => ahdR r x.1 := by
  funext x
  unfold toP ahdR
  rw [hf]
  rcases ltb_cases x.1 r.t with q | q | q
  · cases r.pt <;> simp [q, ltb_asymm q, sameb_lt q]
  · rw [q]; cases r.pt <;> simp [ltb_irrefl, sameb_self]
  · cases r.pt <;> simp [q, ltb_asymm q, sameb_gt q]
/-- The first item that does not lie ahead of a range. -/
def lstO (r : Rg) (l : List It) : Option It := l.find? fun x => behR r x.1
theorem lst_first {r : Rg} (hf : r.hf = false) (l : List It) : lstO r l = l.head? := by
  unfold lstO
  cases l with
  | nil => rfl
  | cons x l => rw [List.find?_cons_of_pos (by unfold behR; rw [hf]; rfl)]; rfl
theorem find_split {P : It → Bool} : ∀ l : List It, ∃ j, j ≤ l.length ∧ l.find? P = l[j]? ∧ (∀ x ∈ l.take j, P x = false) ∧ (∀ x, l[j]? = some x → P x = true)
  | [] => ⟨0, Nat.le_refl _, rfl, by simp, by simp⟩
  | a :: l => by
    by_cases h : P a = true
    · exact ⟨0, Nat.zero_le _, by rw [List.find?_cons_of_pos h]; rfl, by simp, fun x hx => by simp at hx; rw [← hx]; exact h⟩
    · obtain ⟨j, h1, h2, h3, h4⟩ := find_split (P := P) l
      refine ⟨j + 1, by simp; omega, by rw [List.find?_cons_of_neg h, h2]; rfl, ?_, fun x hx => h4 x (by simpa using hx)⟩
      intro x hx
      rw [List.take_succ_cons] at hx
      rcases List.mem_cons.1 hx with rfl | hx
      · simpa using h
      · exact h3 x hx
theorem srt_at {l : List It} (hs : Srt l) {i j : Nat} {x y : It} (hij : i < j) (hi : l[i]? = some x) (hj : l[j]? = some y) : ltb x.1 y.1 = true := by
  obtain ⟨h1, e1⟩ := List.getElem?_eq_some_iff.1 hi
  obtain ⟨h2, e2⟩ := List.getElem?_eq_some_iff.1 hj
  have := List.pairwise_iff_getElem.1 hs i j h1 h2 hij
  rw [e1, e2] at this
  exact this
theorem mem_drop_at {l : List It} {j : Nat} {y : It} (h : y ∈ l.drop j) : ∃ i, j ≤ i ∧ l[i]? = some y := by
  obtain ⟨k, hk⟩ := List.getElem?_of_mem h
  rw [List.getElem?_drop] at hk
  exact ⟨j + k, by omega, hk⟩
theorem mem_take_at {l : List It} {j : Nat} {y : It} (h : y ∈ l.take j) : ∃ i, i < j ∧ l[i]? = some y := by
  obtain ⟨k, hk⟩ := List.getElem?_of_mem h
  rw [List.getElem?_take] at hk
  split at hk
  · rename_i q; exact ⟨k, q, hk⟩
  · cases hk
/-- Where one goes forwards: the items ahead of number j that lie in the range came; those from it on do not lie ahead of it. -/
structure Fo (r : Rg) (l : List It) (j : Nat) : Prop where
  le : j ≤ l.length
  beh : ∀ x ∈ l.drop j, behR r x.1 = true
theorem fo_start {l : List It} (hs : Srt l) (r : Rg) : ∃ j, lstO r l = l[j]? ∧ Fo r l j ∧ selR r (l.take j) = [] := by
  obtain ⟨j, h1, h2, h3, h4⟩ := find_split (P := fun x : It => behR r x.1) l
  refine ⟨j, h2, ⟨h1, fun x hx => ?_⟩, List.filter_eq_nil_iff.2 fun x hx => ?_⟩
  · obtain ⟨i, hi, hx2⟩ := mem_drop_at hx
    rcases Nat.lt_or_ge j i with q | q
    · obtain ⟨y, hy⟩ : ∃ y, l[j]? = some y := ⟨_, List.getElem?_eq_getElem (by have := (List.getElem?_eq_some_iff.1 hx2).1; omega)⟩
      exact beh_up (srt_at hs q hy hx2) (h4 y hy)
    · obtain rfl : i = j := by omega
      exact h4 x hx2
  · unfold hasR; rw [h3 x hx]; simp
theorem sel_snoc {r : Rg} {l : List It} {j : Nat} {x : It} (hx : l[j]? = some x) : selR r (l.take (j + 1)) = if hasR r x.1 then selR r (l.take j) ++ [x] else selR r (l.take j) := by
  unfold selR
  rw [List.take_add_one, hx, List.filter_append]
  simp only [Option.toList]
  by_cases h : hasR r x.1 = true
  · simp [h]
  · simp [h]
theorem Fo.step {r : Rg} {l : List It} {j : Nat} {x : It} (h : Fo r l j) (hx : l[j]? = some x) : Fo r l (j + 1) := by
  have hj := (List.getElem?_eq_some_iff.1 hx).1
  refine ⟨by omega, fun y hy => h.beh y ?_⟩
  rw [← List.drop_drop] at hy
  exact List.mem_of_mem_drop hy
theorem Fo.here {r : Rg} {l : List It} {j : Nat} {x : It} (h : Fo r l j) (hx : l[j]? = some x) (ha : ahdR r x.1 = true) : hasR r x.1 = true := by
  unfold hasR
  rw [ha, h.beh x ?_]
  · rfl
  · have : l.drop j = x :: l.drop (j + 1) := by
      obtain ⟨h1, h2⟩ := List.getElem?_eq_some_iff.1 hx
      rw [← h2, ← List.drop_eq_getElem_cons]
    rw [this]; exact List.mem_cons_self
theorem Fo.stop {r : Rg} {l : List It} {j : Nat} {x : It} (hs : Srt l) (hx : l[j]? = some x) (ha : ahdR r x.1 = false) : selR r (l.take j) = selR r l := by
  conv => rhs; rw [← List.take_append_drop j l]
  unfold selR
  have hnil : (l.drop j).filter (fun x => hasR r x.1) = [] := List.filter_eq_nil_iff.2 fun y hy => by
    obtain ⟨i, hi, hy2⟩ := mem_drop_at hy
    have : ahdR r y.1 = false := by
      rcases Nat.lt_or_ge j i with q | q
      · cases hh : ahdR r y.1 with
        | false => rfl
        | true => rw [ahd_dn (srt_at hs q hx hy2) hh] at ha; cases ha
      · obtain rfl : i = j := by omega
        rw [hx] at hy2; cases hy2; exact ha
    unfold hasR
    rw [this]; simp
  rw [List.filter_append, hnil, List.append_nil]
theorem sel_pre (r : Rg) (l : List It) (j : Nat) : selR r (l.take j) <+: selR r l := by
  refine ⟨selR r (l.drop j), ?_⟩
  unfold selR
  rw [← List.filter_append, List.take_append_drop]
theorem next_at {l : List It} (hs : Srt l) {j : Nat} {x : It} (hx : l[j]? = some x) : l.find? (frP x.1 true) = l[j + 1]? := by
  obtain ⟨i, h1, h2, h3, h4⟩ := find_split (P := frP x.1 true) l
  rw [h2]
  have hj := (List.getElem?_eq_some_iff.1 hx).1
  congr 1
  have a1 : ¬ i ≤ j := fun q => by
    obtain ⟨y, hy⟩ : ∃ y, l[i]? = some y := ⟨_, List.getElem?_eq_getElem (by omega)⟩
    have := h4 y hy
    simp only [frP, if_true] at this
    rcases Nat.lt_or_ge i j with q2 | q2
    · rw [ltb_asymm (srt_at hs q2 hy hx)] at this; cases this
    · obtain rfl : i = j := by omega
      rw [hx] at hy; cases hy
      rw [ltb_irrefl] at this; cases this
  have a2 : ¬ j + 1 < i := fun q => by
    obtain ⟨y, hy⟩ : ∃ y, l[j + 1]? = some y := ⟨_, List.getElem?_eq_getElem (by omega)⟩
    have hm : y ∈ l.take i := by
      refine List.mem_of_getElem? (i := j + 1) ?_
      rw [List.getElem?_take, if_pos q]; exact hy
    have := h3 y hm
    simp only [frP, if_true] at this
    rw [srt_at hs (Nat.lt_succ_self j) hx hy] at this
    cases this
  omega
end Go.Proofs.YtagamkahfiackaaGreatDoor

namespace Go.Proofs.YtagamkahfiackaaGreatDoor
open Go.RowKit Go.Sort

/-- A range, and an end, as values. -/
def rgV (r : Rg) : Value := .agg #[.string r.f, .string r.t, .bool r.hf, .bool r.ht, .bool r.pf, .bool r.pt]
def enV (e : En) : Value := .agg #[.string e.t, .bool e.h, .bool e.o]
/-- What a walk asks of two texts. -/
def Ord3 (a b : ByteArray) (x y z : Bool) : Prop := Op.bytesLess a.toList b.toList = x ∧ Op.bytesLess b.toList a.toList = y ∧ (a.toList == b.toList) = z ∧ (b.toList == a.toList) = z ∧ ltb a b = x ∧ ltb b a = y ∧ sameb a b = z ∧ sameb b a = z
theorem ord3 (a b : ByteArray) : Ord3 a b true false false ∨ Ord3 a b false false true ∨ Ord3 a b false true false := by
  have ne : ∀ {a b : ByteArray}, a ≠ b → (a.toList == b.toList) = false := fun {a b} h => by
    simp only [beq_eq_false_iff_ne, ne_eq]
    exact fun e => h (toList_inj e)
  rcases ltb_cases a b with h | rfl | h
  · exact .inl ⟨h, ltb_asymm h, ne (ltb_ne h), ne (Ne.symm (ltb_ne h)), h, ltb_asymm h, sameb_lt h, sameb_gt h⟩
  · exact .inr (.inl ⟨less_irrefl _, less_irrefl _, by simp, by simp, ltb_irrefl _, ltb_irrefl _, sameb_self _, sameb_self _⟩)
  · exact .inr (.inr ⟨ltb_asymm h, h, ne (Ne.symm (ltb_ne h)), ne (ltb_ne h), ltb_asymm h, h, sameb_gt h, sameb_lt h⟩)
set_option maxRecDepth 100000 in
theorem ahd_ (r : Rg) (k : ByteArray) (w : World) : Calls Tryz.prog 45 #[rgV r, .string k] w fun e w' => e = .returned (.bool (ahdR r k)) ∧ Below w.heap.size w w' := by
  obtain ⟨f, t, hf, ht, pf, po⟩ := r
  have HB := Lib.hid (below_alloc w (.cells #[.string f, .string t, .bool hf, .bool ht, .bool pf, .bool po] 28))
  obtain ⟨R, hR⟩ : ∃ R, R = ahdR ⟨f, t, hf, ht, pf, po⟩ k := ⟨_, rfl⟩
  have HR := Lib.hid hR
  rw [← hR]
  clear hR
  unfold rgV
  rcases ord3 k t with ⟨h1, h2, h3, _, h5, _, h6, _⟩ | ⟨h1, h2, h3, _, h5, _, h6, _⟩ | ⟨h1, h2, h3, _, h5, _, h6, _⟩
  all_goals (
    cases ht <;> cases po
    all_goals (
      go_enter Tryz.func45, Tryz.ntmps45
      go_wp2_with fail
      go_ret
      exact ⟨by rw [HR.out]; simp [ahdR, h5, h6], HB.out⟩))
/-- A range in memory: its six cells. -/
def RgAt (w : World) (b : Nat) (r : Rg) : Prop := w.cell? ⟨b, 0, none⟩ = some (.string r.f) ∧ w.cell? ⟨b, 1, none⟩ = some (.string r.t) ∧ w.cell? ⟨b, 2, none⟩ = some (.bool r.hf) ∧ w.cell? ⟨b, 3, none⟩ = some (.bool r.ht) ∧ w.cell? ⟨b, 4, none⟩ = some (.bool r.pf) ∧ w.cell? ⟨b, 5, none⟩ = some (.bool r.pt)
theorem RgAt.on {w w' : World} {b N : Nat} {r : Rg} (h : RgAt w b r) (hb : Below N w w') (hN : b < N) : RgAt w' b r := by
  obtain ⟨h0, h1, h2, h3, h4, h5⟩ := h
  exact ⟨(hb.cell (p := ⟨b, 0, none⟩) hN).trans h0, (hb.cell (p := ⟨b, 1, none⟩) hN).trans h1, (hb.cell (p := ⟨b, 2, none⟩) hN).trans h2, (hb.cell (p := ⟨b, 3, none⟩) hN).trans h3, (hb.cell (p := ⟨b, 4, none⟩) hN).trans h4, (hb.cell (p := ⟨b, 5, none⟩) hN).trans h5⟩
theorem rgAt_new (w : World) (r : Rg) (t : TypeId) : RgAt (w.alloc (.cells #[.string r.f, .string r.t, .bool r.hf, .bool r.ht, .bool r.pf, .bool r.pt] t)) w.heap.size r := by
  have h := new_blk w (.cells #[.string r.f, .string r.t, .bool r.hf, .bool r.ht, .bool r.pf, .bool r.pt] t)
  exact ⟨cell_of h rfl, cell_of h rfl, cell_of h rfl, cell_of h rfl, cell_of h rfl, cell_of h rfl⟩
end Go.Proofs.YtagamkahfiackaaGreatDoor

namespace Go.Proofs.YtagamkahfiackaaGreatDoor
open Go.RowKit Go.Sort

section
variable {P : Program} {l : List Oper} {Q : Exit → Act → World → Prop} {md : Region.Mode} {A B C : World → Prop} {e1 e2 : Nat}
/-- An operation comes up next. -/
def StepPh (P : Program) (md : Region.Mode) (l : List Oper) (Q : Exit → Act → World → Prop) (S : Array Bool → World → Prop) (fuel : Nat) (listed : Array Bool) (a : Act) (w : World) (i : Nat) : Prop :=
  wpOp P l.toArray Q i (fun a' w' => S (listed.setIfInBounds i true) w' ∧ wpAnyS P md l.toArray Q S fuel (listed.setIfInBounds i true) a' w') a w
def StepsPh (P : Program) (md : Region.Mode) (l : List Oper) (Q : Exit → Act → World → Prop) (S : Array Bool → World → Prop) (fuel : Nat) (listed : Array Bool) (a : Act) (w : World) (rs : List Nat) : Prop := ∀ i ∈ rs, StepPh P md l Q S fuel listed a w i
theorem steps_nil {S : Array Bool → World → Prop} {fuel : Nat} {listed : Array Bool} {a : Act} {w : World} : StepsPh P md l Q S fuel listed a w [] := fun _ h => by cases h
theorem steps_cons {S : Array Bool → World → Prop} {fuel : Nat} {listed : Array Bool} {a : Act} {w : World} {i : Nat} {rs : List Nat} (h : StepPh P md l Q S fuel listed a w i) (hs : StepsPh P md l Q S fuel listed a w rs) : StepsPh P md l Q S fuel listed a w (i :: rs) := fun j hj => by
  rcases List.mem_cons.1 hj with rfl | hj
  · exact h
  · exact hs j hj
theorem ready_all {S : Array Bool → World → Prop} (rs : List Nat) {fuel : Nat} {listed : Array Bool} {a : Act} {w : World} (hr : Region.ready md l.toArray listed = rs) (hne : rs.isEmpty = false) (h : StepsPh P md l Q S fuel listed a w rs) : wpAnyS P md l.toArray Q S (fuel + 1) listed a w := by
  subst hr
  refine ⟨fun h0 => (by rw [h0] at hne; cases hne), h⟩
theorem step_run {S : Array Bool → World → Prop} (i : Nat) {oi : Oper} {post : List Oper} {fuel : Nat} {listed : Array Bool} {a : Act} {w w' : World} {v : Value} (hi : l.drop i = oi :: post) (hw : Region.wanted oi (yielded l.toArray a.tmps) = true)
    (hrun : (execOp a.eval oi).run P w = .ok (.value v) w' ∨ ((execOp a.eval oi).run P w = .ok .skip w' ∧ v = undef)) (hS : S (listed.setIfInBounds i true) w')
    (h : wpAnyS P md l.toArray Q S fuel (listed.setIfInBounds i true) (a.put oi.dst v) w') : StepPh P md l Q S fuel listed a w i := by
  refine wpOp_step (at_list hi) fun K' hK => ?_
  rw [if_pos hw]
  unfold Oper.wp
  rcases hrun with e | ⟨e, rfl⟩
  · rw [e]
    exact hK _ _ ⟨hS, h⟩
  · rw [e]
    exact hK _ _ ⟨hS, h⟩
theorem step_store {S : Array Bool → World → Prop} (i : Nat) {oi : Oper} {post : List Oper} {fuel : Nat} {listed : Array Bool} {a : Act} {w w' : World} (hi : l.drop i = oi :: post) (hw : Region.wanted oi (yielded l.toArray a.tmps) = true)
    (t : TypeId) (x v : Operand) (ho : oi.op = .store t x v) (xv vv : Value) (hx : a.eval x = xv) (hv : a.eval v = vv) (hrun : (Instr.storeAt t xv vv).run P w = .ok () w') (hS : S (listed.setIfInBounds i true) w')
    (h : wpAnyS P md l.toArray Q S fuel (listed.setIfInBounds i true) (a.put oi.dst undef) w') : StepPh P md l Q S fuel listed a w i :=
  step_run i hi hw (.inr ⟨by unfold execOp; simp only [ho, hx, hv, hrun, Sem.run_bind, Sem.run_pure, Result.andThen_ok], rfl⟩) hS h
theorem step_alloc {S : Array Bool → World → Prop} (i : Nat) {oi : Oper} {post : List Oper} {fuel : Nat} {listed : Array Bool} {a : Act} {w : World} (hi : l.drop i = oi :: post) (hw : Region.wanted oi (yielded l.toArray a.tmps) = true)
    (t : TypeId) (ho : oi.op = .alloc t) (cs : Array Value) (hz : (zeroValue t).run P w = .ok (.agg cs) w)
    (h : ∀ p U, U.heap[p]? = some (.cells cs t (0, 0)) → Below w.heap.size w U → w.heap.size ≤ p → S (listed.setIfInBounds i true) U ∧ wpAnyS P md l.toArray Q S fuel (listed.setIfInBounds i true) (a.put oi.dst (.pointer (some ⟨p, 0, none⟩))) U) : StepPh P md l Q S fuel listed a w i := by
  obtain ⟨h1, h2⟩ := h w.heap.size (w.alloc (.cells cs t)) (new_blk w _) (below_alloc w _) (Nat.le_refl _)
  refine step_run i hi hw (.inl ?_) h1 h2
  unfold execOp
  simp only [ho]
  simp [go_sem, Sem.run_bind, Result.andThen, hz, Value.cells]
theorem blkKeep {V w' : World} {p : Nat} {o : Obj} (hb : Below V.heap.size V w') (h : V.heap[p]? = some o) : w'.heap[p]? = some o := (hb.block p (blk_lt h)).trans h
theorem cell_same {V V' : World} {b o : Nat} (h : V'.heap[b]? = V.heap[b]?) : V'.cell? ⟨b, o, none⟩ = V.cell? ⟨b, o, none⟩ := by unfold World.cell?; simp only [h]
theorem step_call {S : Array Bool → World → Prop} (i : Nat) {oi : Oper} {post : List Oper} {fuel : Nat} {listed : Array Bool} {a : Act} {w : World} (hi : l.drop i = oi :: post)
    (h : ∀ K' : Act → World → Prop, Shut (∀ a w, S (listed.setIfInBounds i true) w → (wpAnyS P md l.toArray Q S fuel (listed.setIfInBounds i true) a w) → K' a w) → if Region.wanted oi (yielded l.toArray a.tmps) = true then Oper.wp P oi a w K' Q else K' (a.put oi.dst undef) w) :
    StepPh P md l Q S fuel listed a w i := wpOp_step (at_list hi) fun K' hK => h K' fun a w hS hW => hK a w ⟨hS, hW⟩
end
end Go.Proofs.YtagamkahfiackaaGreatDoor

namespace Go.Proofs.YtagamkahfiackaaGreatDoor
open Go.RowKit Go.Sort

set_option maxRecDepth 100000 in
set_option maxHeartbeats 2000000 in
theorem from_f {w : World} {M : Nat → Option Nd} {p : Nat} {l : List It} {F : Nat → Prop} (hs : Store w M) (ht : TreeAt w M p l F) (k : ByteArray) :
    Calls Tryz.prog 46 #[.pointer (some ⟨p, 0, none⟩), .string k, .bool false] w fun e w' => e = .returned (tellV (l.find? (frP k false))) ∧ Below w.heap.size w w' := by
  obtain ⟨kx0, v0, hat, htop⟩ := ht.top
  have HT := Lib.hid htop
  have HS := Lib.hid hs
  have HA0 := Lib.hid hat
  obtain ⟨ans, hans⟩ : ∃ ans, ans = l.find? (frP k false) := ⟨_, rfl⟩
  have HANS := Lib.hid hans
  rw [← hans]
  have HB0 := Lib.hid (Below.refl w.heap.size w)
  have HTell : Hid (∀ V v o, Best V v o → Calls Tryz.prog 62 #[v] V fun e w' => ∃ t1 t2 t3, e = .returned (.tuple #[t1, t2, t3]) ∧ Hid (tellV o = .tuple #[t1, t2, t3]) ∧ Hid (Below V.heap.size V w')) := fun V v o hb => (tell_ hb).mono fun e w' ⟨e1, e2⟩ => by
    cases o with
    | none => exact ⟨_, _, _, e1, rfl, e2⟩
    | some x => exact ⟨_, _, _, e1, rfl, e2⟩
  clear hans htop hat hs ht
  go_enter Tryz.func46, Tryz.ntmps46
  go_wp2_with (first | (go_at_call 39; refine HT.out.mono ?_; rintro e w1 ⟨rfl, rfl⟩) | fail)
  rename World => w
  go_loopg [9, 10] kx0 (fun kx s9 s10 wr => ∃ lq bo, ((s10 = .pointer none ∧ Hid (lq = [])) ∨ ∃ h q F, h < kx ∧ s10 = .pointer (some ⟨q, 0, none⟩) ∧ Hid (Nod M (h + 1) 1 7 q lq F ∧ Srt lq)) ∧ Hid (Best wr s9 bo) ∧ Hid (Below w.heap.size w wr) ∧ Hid ((lq.find? (frP k false)).or bo = ans))
  case atStart => exact ⟨l, none, HA0.out, .inl ⟨rfl, rfl⟩, HB0, by show _ = _; rw [Option.or_none]; exact HANS.out.symm⟩
  case round =>
    clear HB0 HANS HA0
    obtain ⟨lq, bo, hcase, HBest, HB, HI⟩ := hrel
    rcases hcase with ⟨rfl, HL⟩ | ⟨h, q, F', hh, rfl, HN⟩
    · have HT2 := Lib.hid (HTell.out _ _ _ HBest.out)
      have HO : Hid (bo = ans) := by have := HI.out; rw [HL.out] at this; show bo = ans; simpa using this
      clear HTell HI HL HT
      go_wp2_with (first | (go_at_call 62; refine HT2.out.mono ?_; rintro e w2 ⟨t1, t2, t3, rfl, HV, HB2⟩) | fail)
      go_ret3
      exact ⟨by rw [← HO.out, HV.out]; rfl, below_step HB.out HB2.out⟩
    · obtain ⟨n, hq, hm1, hm7, hsi, hcut⟩ := cut_ HN.out.1 HN.out.2
      have hsr := HS.out.on HB.out
      obtain ⟨ai, ci, hiv, _⟩ := row_shape (hsr.its q n hq)
      have HC : Hid (∀ V, Below wr.heap.size wr V → V.cell? ⟨q, 0, none⟩ = some (.slice ai n.its.length ci)) := fun V hV => by rw [((hsr.on hV).cells hq).1, hiv]
      rcases about hsi k with ⟨I1, u, I3, hy⟩ | ⟨I1, I2, hy⟩
      · obtain ⟨g, c, e1, _⟩ := hsr.item hq hy.eq
        have HBn : Hid (Best wr (.pointer (some ⟨g, I1.length * 2, none⟩)) (some (k, u))) := Best.item hsr hq hy.eq (by rw [hiv] at e1 ⊢; rw [e1])
        rw [hiv] at e1
        simp only [Value.slice.injEq] at e1
        obtain ⟨rfl, hlen, rfl⟩ := e1
        have HFd : Hid (∀ V, Below wr.heap.size wr V → Calls Tryz.prog 40 #[.pointer (some ⟨q, 0, none⟩), .string k] V fun e w' => e = .returned (.tuple #[.int .i64 I1.length, .bool true]) ∧ Hid (Below V.heap.size V w')) := fun V hV => (find_yes (hsr.on hV) hq hsi (by omega) hy)
        have HO : Hid (ans = some (k, u)) := by
          obtain ⟨v2, lk, hc⟩ := hcut I1 ((k, u) :: I3) hy.eq
          obtain ⟨PP, SS, e⟩ := hc.mid
          have hsl := HN.out.2
          rw [e] at hsl
          obtain ⟨g1, g2⟩ := hsl.about_mid
          have := HI.out
          rw [e] at this
          show _ = _
          rw [← this, from_leaf (fun x hx => frP_lo (g1 x hx)) (fun x hx => by
            rcases List.mem_cons.1 hx with rfl | hx
            · simp [frP, ltb_irrefl]
            · exact frP_hi (g2 x hx))]
          simp
        obtain ⟨i1, hi1⟩ : ∃ i1, i1 = I1.length := ⟨_, rfl⟩
        obtain ⟨nl, hnl⟩ : ∃ nl, nl = n.its.length := ⟨_, rfl⟩
        rw [← hi1] at HFd HBn hlen
        rw [← hnl] at hlen HC
        have hlt : (i1 : Int) < nl := by omega
        clear hi1 hnl hy hcut hsr hiv hq hsi hlen HI HN HT hm1 hm7
        go_wp2_with (first
        | (go_at_call 40; refine (HFd.out _ (Below.refl _ _)).mono ?_; rintro e w2 ⟨rfl, HB2⟩; have d0 := HC.out _ HB2.out; have HT2 := Lib.hid (HTell.out _ _ _ (HBn.out.on HB2.out)))
        | (go_at_call 62; refine HT2.out.mono ?_; rintro e w3 ⟨t1, t2, t3, rfl, HV, HB3⟩)
        | fail)
        go_ret3
        exact ⟨by rw [HO.out, HV.out]; rfl, below_step (below_step HB.out HB2.out) HB3.out⟩
      · obtain ⟨v2, lk, hc⟩ := hcut I1 I2 hy.eq
        have HFd : Hid (∀ V, Below wr.heap.size wr V → Calls Tryz.prog 40 #[.pointer (some ⟨q, 0, none⟩), .string k] V fun e w' => e = .returned (.tuple #[.int .i64 I1.length, .bool false]) ∧ Hid (Below V.heap.size V w')) := fun V hV => (find_not (hsr.on hV) hq hsi (by omega) hy)
        have HF := Lib.hid (hc.first (frP_up k false) HN.out.2 (fun x hx => frP_lo (hy.lo x hx)) (fun x hx => frP_hi (hy.hi x hx)))
        have HCh : Hid (∀ V, Below wr.heap.size wr V → Calls Tryz.prog 41 #[.pointer (some ⟨q, 0, none⟩), .int .i64 I1.length] V fun e w' => e = .returned v2 ∧ w' = V) := fun V hV => hc.child V (hsr.on hV)
        have HAt := Lib.hid hc.next
        have hlen : n.its.length = I1.length + I2.length := by rw [hy.eq]; simp
        cases hIB : I2 with
        | nil =>
          have HNx : Hid ((lk.find? (frP k false)).or bo = ans) := by have := HI.out; rw [HF.out, hIB, List.head?_nil, Option.or_none] at this; exact this
          rw [hIB] at hlen
          obtain ⟨i1, hi1⟩ : ∃ i1, i1 = I1.length := ⟨_, rfl⟩
          obtain ⟨nl, hnl⟩ : ∃ nl, nl = n.its.length := ⟨_, rfl⟩
          rw [← hi1] at HFd HCh hlen
          rw [← hnl] at hlen HC
          have hlt : ¬ ((i1 : Int) < nl) := by simp at hlen; omega
          clear hi1 hnl hy hcut hsr hiv hq hsi hc hlen HF HI HN HTell HT hm1 hm7 hIB
          go_wp2_with (first
            | (go_at_call 40; refine (HFd.out _ (Below.refl _ _)).mono ?_; rintro e w2 ⟨rfl, HB2⟩; have d0 := HC.out _ HB2.out)
            | (go_at_call 41; refine (HCh.out _ HB2.out).mono ?_; rintro e w3 ⟨rfl, rfl⟩)
            | fail)
          rcases HAt.out with ⟨rfl, hl0⟩ | ⟨h', q', F2, hh', rfl, hN'⟩
          · go_roundg h
            case measure => omega
            case rel => exact ⟨lk, _, (.inl ⟨rfl, hl0⟩), HBest.out.on HB2.out, below_step HB.out HB2.out, HNx⟩
          · go_roundg h
            case measure => omega
            case rel => exact ⟨lk, _, (.inr ⟨h', q', F2, by omega, rfl, hN'⟩), HBest.out.on HB2.out, below_step HB.out HB2.out, HNx⟩
        | cons y B2 =>
          have hJe : n.its = I1 ++ y :: B2 := by rw [hy.eq, hIB]
          obtain ⟨g, c, e1, _⟩ := hsr.item hq hJe
          rw [hiv] at e1
          have HBn : Hid (Best wr (.pointer (some ⟨g, I1.length * 2, none⟩)) (some y)) := Best.item hsr hq hJe (by rw [hiv, e1])
          have HNx : Hid ((lk.find? (frP k false)).or (some y) = ans) := by have := HI.out; rw [HF.out, hIB, List.head?_cons, Option.or_assoc, Option.some_or] at this; exact this
          simp only [Value.slice.injEq] at e1
          obtain ⟨rfl, _, rfl⟩ := e1
          rw [hIB] at hlen
          obtain ⟨i1, hi1⟩ : ∃ i1, i1 = I1.length := ⟨_, rfl⟩
          obtain ⟨nl, hnl⟩ : ∃ nl, nl = n.its.length := ⟨_, rfl⟩
          rw [← hi1] at HFd HCh hlen
          rw [← hnl] at hlen HC
          rw [← hi1] at HBn
          have hlt : (i1 : Int) < nl := by simp at hlen; omega
          clear hi1 hnl hy hcut hsr hiv hq hsi hc hlen HF HI HN HTell HT hm1 hm7 hIB hJe
          go_wp2_with (first
            | (go_at_call 40; refine (HFd.out _ (Below.refl _ _)).mono ?_; rintro e w2 ⟨rfl, HB2⟩; have d0 := HC.out _ HB2.out)
            | (go_at_call 41; refine (HCh.out _ HB2.out).mono ?_; rintro e w3 ⟨rfl, rfl⟩)
            | fail)
          rcases HAt.out with ⟨rfl, hl0⟩ | ⟨h', q', F2, hh', rfl, hN'⟩
          · go_roundg h
            case measure => omega
            case rel => exact ⟨lk, _, (.inl ⟨rfl, hl0⟩), HBn.out.on HB2.out, below_step HB.out HB2.out, HNx⟩
          · go_roundg h
            case measure => omega
            case rel => exact ⟨lk, _, (.inr ⟨h', q', F2, by omega, rfl, hN'⟩), HBn.out.on HB2.out, below_step HB.out HB2.out, HNx⟩
set_option maxRecDepth 100000 in
set_option maxHeartbeats 2000000 in
theorem from_t {w : World} {M : Nat → Option Nd} {p : Nat} {l : List It} {F : Nat → Prop} (hs : Store w M) (ht : TreeAt w M p l F) (k : ByteArray) :
    Calls Tryz.prog 46 #[.pointer (some ⟨p, 0, none⟩), .string k, .bool true] w fun e w' => e = .returned (tellV (l.find? (frP k true))) ∧ Below w.heap.size w w' := by
  obtain ⟨kx0, v0, hat, htop⟩ := ht.top
  have HT := Lib.hid htop
  have HS := Lib.hid hs
  have HA0 := Lib.hid hat
  obtain ⟨ans, hans⟩ : ∃ ans, ans = l.find? (frP k true) := ⟨_, rfl⟩
  have HANS := Lib.hid hans
  rw [← hans]
  have HB0 := Lib.hid (Below.refl w.heap.size w)
  have HTell : Hid (∀ V v o, Best V v o → Calls Tryz.prog 62 #[v] V fun e w' => ∃ t1 t2 t3, e = .returned (.tuple #[t1, t2, t3]) ∧ Hid (tellV o = .tuple #[t1, t2, t3]) ∧ Hid (Below V.heap.size V w')) := fun V v o hb => (tell_ hb).mono fun e w' ⟨e1, e2⟩ => by
    cases o with
    | none => exact ⟨_, _, _, e1, rfl, e2⟩
    | some x => exact ⟨_, _, _, e1, rfl, e2⟩
  clear hans htop hat hs ht
  go_enter Tryz.func46, Tryz.ntmps46
  go_wp2_with (first | (go_at_call 39; refine HT.out.mono ?_; rintro e w1 ⟨rfl, rfl⟩) | fail)
  rename World => w
  go_loopg [9, 10] kx0 (fun kx s9 s10 wr => ∃ lq bo, ((s10 = .pointer none ∧ Hid (lq = [])) ∨ ∃ h q F, h < kx ∧ s10 = .pointer (some ⟨q, 0, none⟩) ∧ Hid (Nod M (h + 1) 1 7 q lq F ∧ Srt lq)) ∧ Hid (Best wr s9 bo) ∧ Hid (Below w.heap.size w wr) ∧ Hid ((lq.find? (frP k true)).or bo = ans))
  case atStart => exact ⟨l, none, HA0.out, .inl ⟨rfl, rfl⟩, HB0, by show _ = _; rw [Option.or_none]; exact HANS.out.symm⟩
  case round =>
    clear HB0 HANS HA0
    obtain ⟨lq, bo, hcase, HBest, HB, HI⟩ := hrel
    rcases hcase with ⟨rfl, HL⟩ | ⟨h, q, F', hh, rfl, HN⟩
    · have HT2 := Lib.hid (HTell.out _ _ _ HBest.out)
      have HO : Hid (bo = ans) := by have := HI.out; rw [HL.out] at this; show bo = ans; simpa using this
      clear HTell HI HL HT
      go_wp2_with (first | (go_at_call 62; refine HT2.out.mono ?_; rintro e w2 ⟨t1, t2, t3, rfl, HV, HB2⟩) | fail)
      go_ret3
      exact ⟨by rw [← HO.out, HV.out]; rfl, below_step HB.out HB2.out⟩
    · obtain ⟨n, hq, hm1, hm7, hsi, hcut⟩ := cut_ HN.out.1 HN.out.2
      have hsr := HS.out.on HB.out
      obtain ⟨ai, ci, hiv, _⟩ := row_shape (hsr.its q n hq)
      have HC : Hid (∀ V, Below wr.heap.size wr V → V.cell? ⟨q, 0, none⟩ = some (.slice ai n.its.length ci)) := fun V hV => by rw [((hsr.on hV).cells hq).1, hiv]
      rcases about hsi k with ⟨I1, u, I3, hy⟩ | ⟨I1, I2, hy⟩
      · obtain ⟨v2, lk, hc⟩ := hcut (I1 ++ [(k, u)]) I3 (by rw [hy.eq]; simp)
        have HFd : Hid (∀ V, Below wr.heap.size wr V → Calls Tryz.prog 40 #[.pointer (some ⟨q, 0, none⟩), .string k] V fun e w' => e = .returned (.tuple #[.int .i64 I1.length, .bool true]) ∧ Hid (Below V.heap.size V w')) := fun V hV => (find_yes (hsr.on hV) hq hsi (by omega) hy)
        have HF := Lib.hid (hc.first (frP_up k true) HN.out.2 (fun x hx => by
            rcases List.mem_append.1 hx with hx | hx
            · exact frP_lo (hy.lo x hx)
            · rw [List.mem_singleton.1 hx]; simp [frP, ltb_irrefl]) (fun x hx => frP_hi (hy.hi x hx)))
        have HCh : Hid (∀ V, Below wr.heap.size wr V → Calls Tryz.prog 41 #[.pointer (some ⟨q, 0, none⟩), .int .i64 ((I1.length : Int) + 1)] V fun e w' => e = .returned v2 ∧ w' = V) := fun V hV => by
          have := hc.child V (hsr.on hV)
          rw [show ((I1 ++ [(k, u)]).length : Int) = (I1.length : Int) + 1 by simp] at this
          exact this
        have HAt := Lib.hid hc.next
        have hlen : n.its.length = I1.length + I3.length + 1 := by rw [hy.eq]; simp; omega
        cases hIB : I3 with
        | nil =>
          have HNx : Hid ((lk.find? (frP k true)).or bo = ans) := by have := HI.out; rw [HF.out, hIB, List.head?_nil, Option.or_none] at this; exact this
          rw [hIB] at hlen
          obtain ⟨i1, hi1⟩ : ∃ i1, i1 = I1.length := ⟨_, rfl⟩
          obtain ⟨nl, hnl⟩ : ∃ nl, nl = n.its.length := ⟨_, rfl⟩
          rw [← hi1] at HFd HCh hlen
          rw [← hnl] at hlen HC
          have hw := wraps_i64 ((i1 : Int) + 1) (by omega) (by omega)
          have hlt : ¬ ((i1 : Int) + 1 < nl) := by simp at hlen; omega
          clear hi1 hnl hy hcut hsr hiv hq hsi hc hlen HF HI HN HTell HT hm1 hm7 hIB
          go_wp2_with (first
            | (go_at_call 40; refine (HFd.out _ (Below.refl _ _)).mono ?_; rintro e w2 ⟨rfl, HB2⟩; have d0 := HC.out _ HB2.out)
            | (go_at_call 41; refine (HCh.out _ HB2.out).mono ?_; rintro e w3 ⟨rfl, rfl⟩)
            | fail)
          rcases HAt.out with ⟨rfl, hl0⟩ | ⟨h', q', F2, hh', rfl, hN'⟩
          · go_roundg h
            case measure => omega
            case rel => exact ⟨lk, _, (.inl ⟨rfl, hl0⟩), HBest.out.on HB2.out, below_step HB.out HB2.out, HNx⟩
          · go_roundg h
            case measure => omega
            case rel => exact ⟨lk, _, (.inr ⟨h', q', F2, by omega, rfl, hN'⟩), HBest.out.on HB2.out, below_step HB.out HB2.out, HNx⟩
        | cons y B2 =>
          have hJe : n.its = (I1 ++ [(k, u)]) ++ y :: B2 := by rw [hy.eq, hIB]; simp
          obtain ⟨g, c, e1, _⟩ := hsr.item hq hJe
          rw [hiv] at e1
          have HBn : Hid (Best wr (.pointer (some ⟨g, (I1 ++ [(k, u)]).length * 2, none⟩)) (some y)) := Best.item hsr hq hJe (by rw [hiv, e1])
          have HNx : Hid ((lk.find? (frP k true)).or (some y) = ans) := by have := HI.out; rw [HF.out, hIB, List.head?_cons, Option.or_assoc, Option.some_or] at this; exact this
          simp only [Value.slice.injEq] at e1
          obtain ⟨rfl, _, rfl⟩ := e1
          rw [hIB] at hlen
          obtain ⟨i1, hi1⟩ : ∃ i1, i1 = I1.length := ⟨_, rfl⟩
          obtain ⟨nl, hnl⟩ : ∃ nl, nl = n.its.length := ⟨_, rfl⟩
          rw [← hi1] at HFd HCh hlen
          rw [← hnl] at hlen HC
          have hj : (I1 ++ [(k, u)]).length * 2 = (i1 + 1) * 2 := by rw [hi1]; simp
          rw [hj] at HBn
          have hw := wraps_i64 ((i1 : Int) + 1) (by omega) (by omega)
          have hlt : (i1 : Int) + 1 < nl := by simp at hlen; omega
          have htn : ((i1 : Int) + 1).toNat = i1 + 1 := by omega
          have hnn : (0 : Int) ≤ (i1 : Int) + 1 := by omega
          clear hi1 hnl hy hcut hsr hiv hq hsi hc hlen HF HI HN HTell HT hm1 hm7 hIB hJe hj
          go_wp2_with (first
            | (go_at_call 40; refine (HFd.out _ (Below.refl _ _)).mono ?_; rintro e w2 ⟨rfl, HB2⟩; have d0 := HC.out _ HB2.out)
            | (go_at_call 41; refine (HCh.out _ HB2.out).mono ?_; rintro e w3 ⟨rfl, rfl⟩)
            | fail)
          rcases HAt.out with ⟨rfl, hl0⟩ | ⟨h', q', F2, hh', rfl, hN'⟩
          · go_roundg h
            case measure => omega
            case rel => exact ⟨lk, _, (.inl ⟨rfl, hl0⟩), HBn.out.on HB2.out, below_step HB.out HB2.out, HNx⟩
          · go_roundg h
            case measure => omega
            case rel => exact ⟨lk, _, (.inr ⟨h', q', F2, by omega, rfl, hN'⟩), HBn.out.on HB2.out, below_step HB.out HB2.out, HNx⟩
      · obtain ⟨v2, lk, hc⟩ := hcut I1 I2 hy.eq
        have HFd : Hid (∀ V, Below wr.heap.size wr V → Calls Tryz.prog 40 #[.pointer (some ⟨q, 0, none⟩), .string k] V fun e w' => e = .returned (.tuple #[.int .i64 I1.length, .bool false]) ∧ Hid (Below V.heap.size V w')) := fun V hV => (find_not (hsr.on hV) hq hsi (by omega) hy)
        have HF := Lib.hid (hc.first (frP_up k true) HN.out.2 (fun x hx => frP_lo (hy.lo x hx)) (fun x hx => frP_hi (hy.hi x hx)))
        have HCh : Hid (∀ V, Below wr.heap.size wr V → Calls Tryz.prog 41 #[.pointer (some ⟨q, 0, none⟩), .int .i64 I1.length] V fun e w' => e = .returned v2 ∧ w' = V) := fun V hV => hc.child V (hsr.on hV)
        have HAt := Lib.hid hc.next
        have hlen : n.its.length = I1.length + I2.length := by rw [hy.eq]; simp
        cases hIB : I2 with
        | nil =>
          have HNx : Hid ((lk.find? (frP k true)).or bo = ans) := by have := HI.out; rw [HF.out, hIB, List.head?_nil, Option.or_none] at this; exact this
          rw [hIB] at hlen
          obtain ⟨i1, hi1⟩ : ∃ i1, i1 = I1.length := ⟨_, rfl⟩
          obtain ⟨nl, hnl⟩ : ∃ nl, nl = n.its.length := ⟨_, rfl⟩
          rw [← hi1] at HFd HCh hlen
          rw [← hnl] at hlen HC
          have hlt : ¬ ((i1 : Int) < nl) := by simp at hlen; omega
          clear hi1 hnl hy hcut hsr hiv hq hsi hc hlen HF HI HN HTell HT hm1 hm7 hIB
          go_wp2_with (first
            | (go_at_call 40; refine (HFd.out _ (Below.refl _ _)).mono ?_; rintro e w2 ⟨rfl, HB2⟩; have d0 := HC.out _ HB2.out)
            | (go_at_call 41; refine (HCh.out _ HB2.out).mono ?_; rintro e w3 ⟨rfl, rfl⟩)
            | fail)
          rcases HAt.out with ⟨rfl, hl0⟩ | ⟨h', q', F2, hh', rfl, hN'⟩
          · go_roundg h
            case measure => omega
            case rel => exact ⟨lk, _, (.inl ⟨rfl, hl0⟩), HBest.out.on HB2.out, below_step HB.out HB2.out, HNx⟩
          · go_roundg h
            case measure => omega
            case rel => exact ⟨lk, _, (.inr ⟨h', q', F2, by omega, rfl, hN'⟩), HBest.out.on HB2.out, below_step HB.out HB2.out, HNx⟩
        | cons y B2 =>
          have hJe : n.its = I1 ++ y :: B2 := by rw [hy.eq, hIB]
          obtain ⟨g, c, e1, _⟩ := hsr.item hq hJe
          rw [hiv] at e1
          have HBn : Hid (Best wr (.pointer (some ⟨g, I1.length * 2, none⟩)) (some y)) := Best.item hsr hq hJe (by rw [hiv, e1])
          have HNx : Hid ((lk.find? (frP k true)).or (some y) = ans) := by have := HI.out; rw [HF.out, hIB, List.head?_cons, Option.or_assoc, Option.some_or] at this; exact this
          simp only [Value.slice.injEq] at e1
          obtain ⟨rfl, _, rfl⟩ := e1
          rw [hIB] at hlen
          obtain ⟨i1, hi1⟩ : ∃ i1, i1 = I1.length := ⟨_, rfl⟩
          obtain ⟨nl, hnl⟩ : ∃ nl, nl = n.its.length := ⟨_, rfl⟩
          rw [← hi1] at HFd HCh hlen
          rw [← hnl] at hlen HC
          rw [← hi1] at HBn
          have hlt : (i1 : Int) < nl := by simp at hlen; omega
          clear hi1 hnl hy hcut hsr hiv hq hsi hc hlen HF HI HN HTell HT hm1 hm7 hIB hJe
          go_wp2_with (first
            | (go_at_call 40; refine (HFd.out _ (Below.refl _ _)).mono ?_; rintro e w2 ⟨rfl, HB2⟩; have d0 := HC.out _ HB2.out)
            | (go_at_call 41; refine (HCh.out _ HB2.out).mono ?_; rintro e w3 ⟨rfl, rfl⟩)
            | fail)
          rcases HAt.out with ⟨rfl, hl0⟩ | ⟨h', q', F2, hh', rfl, hN'⟩
          · go_roundg h
            case measure => omega
            case rel => exact ⟨lk, _, (.inl ⟨rfl, hl0⟩), HBn.out.on HB2.out, below_step HB.out HB2.out, HNx⟩
          · go_roundg h
            case measure => omega
            case rel => exact ⟨lk, _, (.inr ⟨h', q', F2, by omega, rfl, hN'⟩), HBn.out.on HB2.out, below_step HB.out HB2.out, HNx⟩
theorem tfrom_ {w : World} {M : Nat → Option Nd} {p : Nat} {l : List It} {F : Nat → Prop} (hs : Store w M) (ht : TreeAt w M p l F) (k : ByteArray) (b : Bool) :
    Calls Tryz.prog 46 #[.pointer (some ⟨p, 0, none⟩), .string k, .bool b] w fun e w' => e = .returned (tellV (l.find? (frP k b))) ∧ Below w.heap.size w w' := by
  cases b with
  | false => exact from_f hs ht k
  | true => exact from_t hs ht k
end Go.Proofs.YtagamkahfiackaaGreatDoor

namespace Go.Proofs.YtagamkahfiackaaGreatDoor
open Go.RowKit Go.Sort

theorem all_dn : Dn (fun _ => true) := fun _ _ _ _ => rfl
theorem lastL_all (l : List It) : lastL (fun _ => true) l = l.getLast? := by
  unfold lastL
  rw [List.filter_eq_self.2 (fun _ _ => rfl)]
theorem frP_first (x : It) : frP ⟨#[]⟩ false x = true := by
  simp only [frP, Bool.false_eq_true, if_false, Bool.not_eq_true']
  unfold ltb
  have e : (⟨#[]⟩ : ByteArray).toList = [] := by rw [Lib.toList_data]
  rw [e]
  cases x.1.toList <;> rfl
theorem find_first (l : List It) : l.find? (frP ⟨#[]⟩ false) = l.head? := by
  cases l with
  | nil => rfl
  | cons x l => rw [List.find?_cons_of_pos (frP_first x)]; rfl
theorem tfirst_ {w : World} {M : Nat → Option Nd} {p : Nat} {l : List It} {F : Nat → Prop} (hs : Store w M) (ht : TreeAt w M p l F) :
    Calls Tryz.prog 61 #[.pointer (some ⟨p, 0, none⟩)] w fun e w' => e = .returned (tellV l.head?) ∧ Below w.heap.size w w' := by
  have HF : Hid (Calls Tryz.prog 46 #[.pointer (some ⟨p, 0, none⟩), .string ⟨#[]⟩, .bool false] w fun e w' => ∃ t1 t2 t3, e = .returned (.tuple #[t1, t2, t3]) ∧ Hid (tellV l.head? = .tuple #[t1, t2, t3]) ∧ Hid (Below w.heap.size w w')) := (tfrom_ hs ht ⟨#[]⟩ false).mono fun e w' ⟨e1, e2⟩ => by
    rw [find_first] at e1
    cases h : l.head? with
    | none => rw [h] at e1; exact ⟨_, _, _, e1, rfl, e2⟩
    | some x => rw [h] at e1; exact ⟨_, _, _, e1, rfl, e2⟩
  clear hs ht
  go_enter Tryz.func61, Tryz.ntmps61
  go_wp2_with (first | (go_at_call 46; refine HF.out.mono ?_; rintro e w2 ⟨t1, t2, t3, rfl, HV, HB2⟩) | fail)
  go_ret3
  exact ⟨by rw [HV.out]; rfl, HB2.out⟩
end Go.Proofs.YtagamkahfiackaaGreatDoor

namespace Go.Proofs.YtagamkahfiackaaGreatDoor
open Go.RowKit Go.Sort Go.Shelf

attribute [local go_sem] Oper.semAt_some
theorem wide_fn (f : Nat) : Fence.wide.fn f := trivial
theorem wide_round : Fence.wide.round = none := rfl
theorem tell_parts (o : Option It) : ∃ (t1 : ByteArray) (t2 : Vl) (b : Bool), tellV o = .tuple #[.string t1, .slice t2.a t2.n t2.c, .bool b] ∧ ((o = none ∧ b = false) ∨ ∃ x : It, o = some x ∧ t1 = x.1 ∧ t2 = x.2 ∧ b = true) := by
  cases o with
  | none => exact ⟨⟨#[]⟩, vz, false, rfl, .inl ⟨rfl, rfl⟩⟩
  | some x => exact ⟨_, _, _, rfl, .inr ⟨x, rfl, rfl, rfl, rfl⟩⟩
set_option maxRecDepth 100000 in
set_option maxHeartbeats 1000000 in
theorem least_ {w : World} {M : Nat → Option Nd} {p : Nat} {l : List It} {F : Nat → Prop} (hs : Store w M) (ht : TreeAt w M p l F) (r : Rg) :
    Calls Tryz.prog 44 #[.pointer (some ⟨p, 0, none⟩), rgV r] w fun e w' => e = .returned (tellV (lstO r l)) ∧ Below w.heap.size w w' := by
  obtain ⟨t1, t2, b, e1, _⟩ := tell_parts (lstO r l)
  rw [e1]
  obtain ⟨f, t, hf, ho, pf, po⟩ := r
  have HB0 := Lib.hid (below_alloc w (.cells #[.string f, .string t, .bool hf, .bool ho, .bool pf, .bool po] 28))
  cases hf with
  | false =>
    have HC : Hid (Calls Tryz.prog 61 #[.pointer (some ⟨p, 0, none⟩)] (w.alloc (.cells #[.string f, .string t, .bool false, .bool ho, .bool pf, .bool po] 28)) fun e w' => e = .returned (.tuple #[.string t1, .slice t2.a t2.n t2.c, .bool b]) ∧ Below (w.alloc (.cells #[.string f, .string t, .bool false, .bool ho, .bool pf, .bool po] 28)).heap.size (w.alloc (.cells #[.string f, .string t, .bool false, .bool ho, .bool pf, .bool po] 28)) w') := by
      have := tfirst_ (hs.on HB0.out) (ht.on HB0.out)
      rw [← lst_first (r := ⟨f, t, false, ho, pf, po⟩) rfl, e1] at this
      exact this
    clear hs ht e1
    unfold rgV
    dsimp only
    go_enter Tryz.func44, Tryz.ntmps44
    go_wp2_with (first | (go_at_call 61; refine HC.out.mono ?_; rintro e w' ⟨rfl, hb⟩; have HB := Lib.hid hb; clear hb HC) | fail)
    go_ret3
    exact ⟨rfl, below_step HB0.out HB.out⟩
  | true =>
    have HC : Hid (Calls Tryz.prog 46 #[.pointer (some ⟨p, 0, none⟩), .string f, .bool pf] (w.alloc (.cells #[.string f, .string t, .bool true, .bool ho, .bool pf, .bool po] 28)) fun e w' => e = .returned (.tuple #[.string t1, .slice t2.a t2.n t2.c, .bool b]) ∧ Below (w.alloc (.cells #[.string f, .string t, .bool true, .bool ho, .bool pf, .bool po] 28)).heap.size (w.alloc (.cells #[.string f, .string t, .bool true, .bool ho, .bool pf, .bool po] 28)) w') := by
      have := tfrom_ (hs.on HB0.out) (ht.on HB0.out) f pf
      rw [show l.find? (frP f pf) = lstO ⟨f, t, true, ho, pf, po⟩ l by unfold lstO; rw [← frP_beh ⟨f, t, true, ho, pf, po⟩ rfl], e1] at this
      exact this
    clear hs ht e1
    unfold rgV
    dsimp only
    go_enter Tryz.func44, Tryz.ntmps44
    go_wp2_with (first | (go_at_call 46; refine HC.out.mono ?_; rintro e w' ⟨rfl, hb⟩; have HB := Lib.hid hb; clear hb HC) | fail)
    go_ret3
    exact ⟨rfl, below_step HB0.out HB.out⟩
/-- What an iterator leans on: the tree, and its two boxes. -/
structure Tr (W : World) (M : Nat → Option Nd) (p : Nat) (l : List It) (F : Nat → Prop) (bt br : Nat) (r : Rg) : Prop where
  st : Store W M
  tr : TreeAt W M p l F
  bt : W.heap[bt]? = some (.cells #[.pointer (some ⟨p, 0, none⟩)] 49 (0, 0))
  br : W.heap[br]? = some (.cells #[.string r.f, .string r.t, .bool r.hf, .bool r.ht, .bool r.pf, .bool r.pt] 28 (0, 0))
/-- What a round must keep. -/
def KpT (M : Nat → Option Nd) (p bt br : Nat) (W W' : World) : Prop := ∀ k, (Own M k ∨ k = p ∨ k = bt ∨ k = br) → W'.heap[k]? = W.heap[k]?
theorem kpT_t {M : Nat → Option Nd} {p bt br : Nat} {A B C : World} (h : KpT M p bt br A B) (k : KpT M p bt br B C) : KpT M p bt br A C := fun q hq => (k q hq).trans (h q hq)
theorem Tr.lts {W : World} {M : Nat → Option Nd} {p : Nat} {l : List It} {F : Nat → Prop} {bt br : Nat} {r : Rg} (h : Tr W M p l F bt br r) : ∀ k, (Own M k ∨ k = p ∨ k = bt ∨ k = br) → k < W.heap.size := by
  rintro k (q | rfl | rfl | rfl)
  · exact h.st.lt q
  · exact h.tr.lt
  · exact blk_lt h.bt
  · exact blk_lt h.br
theorem Tr.kp {W W' : World} {M : Nat → Option Nd} {p : Nat} {l : List It} {F : Nat → Prop} {bt br : Nat} {r : Rg} (h : Tr W M p l F bt br r) (k : KpT M p bt br W W') : Tr W' M p l F bt br r := by
  have hp := k p (.inr (.inl rfl))
  exact ⟨h.st.keep fun q hq => k q (.inl hq), ⟨h.tr.srt, h.tr.own, h.tr.root.imp (fun ⟨a, b, c⟩ => ⟨a, b, hp.trans c⟩) (fun ⟨a, b, c, d, e⟩ => ⟨a, b, c, d, hp.trans e⟩)⟩, (k bt (.inr (.inr (.inl rfl)))).trans h.bt, (k br (.inr (.inr (.inr rfl)))).trans h.br⟩
theorem Tr.on {W W' : World} {M : Nat → Option Nd} {p : Nat} {l : List It} {F : Nat → Prop} {bt br : Nat} {r : Rg} (h : Tr W M p l F bt br r) (hb : Below W.heap.size W W') : Tr W' M p l F bt br r := h.kp fun k hk => hb.block k (h.lts k hk)
theorem Tr.cells {W : World} {M : Nat → Option Nd} {p : Nat} {l : List It} {F : Nat → Prop} {bt br : Nat} {r : Rg} (h : Tr W M p l F bt br r) : W.cell? ⟨bt, 0, none⟩ = some (.pointer (some ⟨p, 0, none⟩)) ∧ W.cell? ⟨br, 0, none⟩ = some (.string r.f) ∧ W.cell? ⟨br, 1, none⟩ = some (.string r.t) ∧ W.cell? ⟨br, 2, none⟩ = some (.bool r.hf) ∧ W.cell? ⟨br, 3, none⟩ = some (.bool r.ht) ∧ W.cell? ⟨br, 4, none⟩ = some (.bool r.pf) ∧ W.cell? ⟨br, 5, none⟩ = some (.bool r.pt) :=
  ⟨cell_of h.bt rfl, cell_of h.br rfl, cell_of h.br rfl, cell_of h.br rfl, cell_of h.br rfl, cell_of h.br rfl, cell_of h.br rfl⟩
theorem abides_below {β : Type} {B : Nat} {J : β → World → Prop} (h : AbidesFrom B J) {s : β} {W W' : World} (hs : J s W) (hb : Below W.heap.size W W') : J s W' := h s W W' none hs ⟨hb.os, hb.tape, hb.output, hb.size, fun k hk _ => hb.block k hk⟩ (fun r e => by cases e)
def encI (x : It) : Array Value := #[.string x.1, .slice x.2.a x.2.n x.2.c]
set_option maxRecDepth 100000 in
set_option maxHeartbeats 2000000 in
theorem all1_in (n : Nat) (hn : 1 ≤ n) (ly : Nat) {M : Nat → Option Nd} {p : Nat} {l : List It} {F : Nat → Prop} {bt br : Nat} {r : Rg} (J Jx : List It → World → Prop)
    (hY : ∀ pre x W, x ∈ l → J pre W → pre.length < l.length → YieldAt Fence.wide (n - 1) Tryz.prog ly (encI x) W fun e W' => (e = .returned (.bool true) ∧ J (pre ++ [x]) W' ∧ KpT M p bt br W W') ∨ (e = .returned (.bool false) ∧ Jx (pre ++ [x]) W'))
    (W : World) (hJ : AbidesFrom W.heap.size J) (hT : Tr W M p l F bt br r) (h0 : J [] W) :
    CallsIn Fence.wide n Tryz.prog 43 #[.func (.yield ly) #[] #[], .pointer (some ⟨bt, 0, none⟩), .pointer (some ⟨br, 0, none⟩)] W fun e W' => (∃ v, e = .returned v) ∧ ((∃ ys, ys = selR r l ∧ J ys W') ∨ (∃ pre, pre <+: selR r l ∧ Jx pre W')) := by
  have hS := hT.tr.srt
  obtain ⟨j0, e0, hFo0, hnil⟩ := fo_start hS r
  obtain ⟨t1, t2, b, e1, hcur⟩ := tell_parts (lstO r l)
  have HL : Hid (Calls Tryz.prog 44 #[.pointer (some ⟨p, 0, none⟩), rgV r] W fun e w' => e = .returned (.tuple #[.string t1, .slice t2.a t2.n t2.c, .bool b]) ∧ Below W.heap.size W w') := by
    have := least_ hT.st hT.tr r
    rw [e1] at this
    exact this
  rw [e0] at hcur
  obtain ⟨c0, c1, c2, c3, c4, c5, c6⟩ := hT.cells
  have HT := Lib.hid hT
  have HJ := Lib.hid hJ
  have HJ0 : Hid (J (selR r (l.take j0)) W) := by rw [hnil]; exact h0
  have HFo := Lib.hid hFo0
  have HS := Lib.hid hS
  have HCur := Lib.hid hcur
  clear hT hJ h0 hFo0 hS hcur hnil e0 e1
  unfold rgV at *
  refine callsIn_of_wp Tryz.func43 rfl (wide_fn _) ?_ wide_round
  simp only [Tryz.ntmps43, List.size_toArray, List.length_cons, List.length_nil, Nat.reduceAdd, Nat.reduceSub, Array.replicate_succ, Array.replicate_zero, List.push_toArray, List.append_toArray, List.nil_append, List.cons_append]
  gi_wp2
  refine ⟨wide_fn _, (callsIn_wide.2 HL.out).mono ?_⟩
  rintro e W1 ⟨rfl, hb1⟩
  have HT1 := Lib.hid (HT.out.on hb1)
  have HJ1 := Lib.hid (abides_below HJ.out HJ0.out hb1)
  clear hb1 HL HT HJ0 c0 c1 c2 c3 c4 c5 c6
  gi_wp2
  gi_loopg [4, 5, 6] (l.length - j0) (fun kx v1 v2 v3 wr => ∃ j t1 t2 b, l.length - j ≤ kx ∧ v1 = .string t1 ∧ v2 = .slice t2.a t2.n t2.c ∧ v3 = .bool b ∧ Hid ((l[j]? = none ∧ b = false) ∨ ∃ x : It, l[j]? = some x ∧ t1 = x.1 ∧ t2 = x.2 ∧ b = true) ∧ Hid (Fo r l j) ∧ Hid (J (selR r (l.take j)) wr) ∧ Hid (Tr wr M p l F bt br r))
  case atStart => exact ⟨j0, t1, t2, b, Nat.le_refl _, rfl, rfl, rfl, HCur, HFo, HJ1, HT1⟩
  case round =>
    clear HCur HFo HJ1 HT1
    obtain ⟨j, t1, t2, b, hk, rfl, rfl, rfl, HC, HFo, HJj, HT⟩ := hrel
    obtain ⟨c0, c1, c2, c3, c4, c5, c6⟩ := HT.out.cells
    rcases HC.out with ⟨hnone, rfl⟩ | ⟨x, hx, rfl, rfl, rfl⟩
    · have hjl : l.length ≤ j := List.getElem?_eq_none_iff.1 hnone
      have HE : Hid (selR r (l.take j) = selR r l) := by show _ = _; rw [List.take_of_length_le hjl]
      clear hnone HC
      gi_wp2
      refine ⟨wide_fn _, ?_⟩
      gi_wp2
      refine ⟨fun f _ => wide_fn f, ?_⟩
      gi_wp2
      go_end0
      exact ⟨⟨_, rfl⟩, .inl ⟨_, rfl, by rw [← HE.out]; exact HJj.out⟩⟩
    · have hjl := (List.getElem?_eq_some_iff.1 hx).1
      have HX := Lib.hid hx
      have HA := Lib.hid (ahd_ r x.1)
      clear hx HC
      cases hah : ahdR r x.1 with
      | false =>
        rw [hah] at HA
        unfold rgV at HA
        have HE := Lib.hid (Fo.stop (r := r) HS.out HX.out hah)
        clear hah
        gi_wp2
        refine ⟨wide_fn _, (callsIn_wide.2 (HA.out wr)).mono ?_⟩
        rintro e W2 ⟨rfl, hb2⟩
        have HJ2 := Lib.hid (abides_below HJ.out HJj.out hb2)
        clear hb2
        gi_wp2
        refine ⟨fun f _ => wide_fn f, ?_⟩
        gi_wp2
        go_end0
        exact ⟨⟨_, rfl⟩, .inl ⟨_, rfl, by rw [← HE.out]; exact HJ2.out⟩⟩
      | true =>
        rw [hah] at HA
        unfold rgV at HA
        have HH := Lib.hid (HFo.out.here HX.out hah)
        clear hah
        gi_wp2
        refine ⟨wide_fn _, (callsIn_wide.2 (HA.out wr)).mono ?_⟩
        rintro e W2 ⟨rfl, hb2⟩
        have HT2 := Lib.hid (HT.out.on hb2)
        have hJ2 := abides_below HJ.out HJj.out hb2
        have hple : (selR r (l.take j)).length < l.length := Nat.lt_of_le_of_lt (List.length_filter_le _ _) (by rw [List.length_take]; omega)
        obtain ⟨fn, tmps, assign, body, hy, hR⟩ := hY (selR r (l.take j)) x W2 (List.mem_of_getElem? HX.out) hJ2 hple
        unfold encI at hy
        have HR := Lib.hid hR
        have HSn : Hid (selR r (l.take (j + 1)) = selR r (l.take j) ++ [x]) := by show _ = _; rw [sel_snoc HX.out, if_pos HH.out]
        clear hR hJ2 hb2 HT HJj hple c0 c1 c2 c3 c4 c5 c6
        gi_wp2
        refine HR.out.mono ?_
        rintro e W3 (⟨rfl, hJ3, hk3⟩ | ⟨rfl, hJx3⟩)
        · have HT3 := Lib.hid (HT2.out.kp hk3)
          obtain ⟨t1, t2, b, e1, hcur⟩ := tell_parts (l.find? (frP x.1 true))
          have HN : Hid (Calls Tryz.prog 46 #[.pointer (some ⟨p, 0, none⟩), .string x.1, .bool true] W3 fun e w' => e = .returned (.tuple #[.string t1, .slice t2.a t2.n t2.c, .bool b]) ∧ Below W3.heap.size W3 w') := by
            have := tfrom_ HT3.out.st HT3.out.tr x.1 true
            rw [e1] at this
            exact this
          rw [next_at HS.out HX.out] at hcur
          have HCur := Lib.hid hcur
          have HJ3 := Lib.hid hJ3
          obtain ⟨c0, c1, c2, c3, c4, c5, c6⟩ := HT3.out.cells
          clear hJ3 hk3 HR hy hcur e1 HT2
          gi_wp2
          refine ⟨wide_fn _, (callsIn_wide.2 HN.out).mono ?_⟩
          rintro e W4 ⟨rfl, hb4⟩
          have HT4 := Lib.hid (HT3.out.on hb4)
          have HJ4 : Hid (J (selR r (l.take (j + 1))) W4) := by rw [HSn.out]; exact abides_below HJ.out HJ3.out hb4
          clear hb4 HN HT3 HJ3 c0 c1 c2 c3 c4 c5 c6
          gi_wp2
          gi_roundg (l.length - (j + 1))
          case measure => omega
          case rel => exact ⟨j + 1, t1, t2, b, Nat.le_refl _, rfl, rfl, rfl, HCur, HFo.out.step HX.out, HJ4, HT4⟩
        · have HJ3 := Lib.hid hJx3
          clear hJx3 HR
          gi_wp2
          go_end0
          exact ⟨⟨_, rfl⟩, .inr ⟨_, by rw [← HSn.out]; exact sel_pre r l (j + 1), HJ3.out⟩⟩
theorem all_stops (n : Nat) (hn : 1 ≤ n) {M : Nat → Option Nd} {p : Nat} {l : List It} {F : Nat → Prop} {bt br : Nat} {r : Rg} {w : World} (hT : Tr w M p l F bt br r) :
    SeqStopsK Fence.wide n Tryz.prog 43 #[.pointer (some ⟨bt, 0, none⟩), .pointer (some ⟨br, 0, none⟩)] encI (KpT M p bt br) (fun ys => ys = selR r l) (fun pre => pre <+: selR r l) l.length w := fun ly J Jx W hW hJ _ hY h0 =>
  all1_in n hn ly J Jx (fun pre x W _ => hY pre x W) W hJ (hT.on hW) h0
/-- The same, where a round is asked for the items of the list alone. -/
def encS {l : List It} (x : { x : It // x ∈ l }) : Array Value := encI x.1
theorem all_stopsS (n : Nat) (hn : 1 ≤ n) {M : Nat → Option Nd} {p : Nat} {l : List It} {F : Nat → Prop} {bt br : Nat} {r : Rg} {w : World} (hT : Tr w M p l F bt br r) :
    SeqStopsK Fence.wide n Tryz.prog 43 #[.pointer (some ⟨bt, 0, none⟩), .pointer (some ⟨br, 0, none⟩)] (encS (l := l)) (KpT M p bt br) (fun ys => ys.map (·.1) = selR r l) (fun pre => pre.map (·.1) <+: selR r l) l.length w := fun ly J Jx W hW hJ hJx hY h0 => by
  refine (all1_in (M := M) (l := l) n hn ly (fun pre W => ∃ q : List { x : It // x ∈ l }, q.map (·.1) = pre ∧ J q W) (fun pre W => ∃ q : List { x : It // x ∈ l }, q.map (·.1) = pre ∧ Jx q W) (fun pre x W hx hp hlen => ?_) W (fun pre A B row ⟨q, e, hq⟩ hg hr => ⟨q, e, hJ q A B row hq hg hr⟩) (hT.on hW) ⟨[], rfl, h0⟩).mono ?_
  · obtain ⟨q, rfl, hq⟩ := hp
    have hlen' : q.length < l.length := by simpa using hlen
    refine (hY q ⟨x, hx⟩ W hq hlen').mono ?_
    rintro e W' (⟨e1, e2, e3⟩ | ⟨e1, e2⟩)
    · exact .inl ⟨e1, ⟨q ++ [⟨x, hx⟩], by simp, e2⟩, e3⟩
    · exact .inr ⟨e1, ⟨q ++ [⟨x, hx⟩], by simp, e2⟩⟩
  · rintro e W' ⟨h1, ⟨ys, h2, q, h3, h4⟩ | ⟨pre, h2, q, h3, h4⟩⟩
    · exact ⟨h1, .inl ⟨q, h3.trans h2, h4⟩⟩
    · exact ⟨h1, .inr ⟨q, by show List.map _ q <+: _; rw [h3]; exact h2, h4⟩⟩
set_option maxHeartbeats 1000000 in
theorem all_ (p : Nat) (r : Rg) (w : World) :
    Calls Tryz.prog 27 #[.pointer (some ⟨p, 0, none⟩), rgV r] w fun e w' => e = .returned (.func (.func 43) #[] #[.pointer (some ⟨w.heap.size, 0, none⟩), .pointer (some ⟨w.heap.size + 1, 0, none⟩)]) ∧ w' = (w.alloc (.cells #[.pointer (some ⟨p, 0, none⟩)] 49)).alloc (.cells #[.string r.f, .string r.t, .bool r.hf, .bool r.ht, .bool r.pf, .bool r.pt] 28) := by
  unfold rgV
  go_enter Tryz.func27, Tryz.ntmps27
  go_wp2_with fail
  go_ret
  exact ⟨rfl, rfl⟩
end Go.Proofs.YtagamkahfiackaaGreatDoor
