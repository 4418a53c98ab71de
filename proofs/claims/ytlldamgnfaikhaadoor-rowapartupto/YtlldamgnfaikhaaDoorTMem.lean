/- Bytes in memory: what pack's calls ask for beside order's. -/
import Derived.Test.YtlldamgnfaikhaaDoorChecked
import Derived.Test.YtlldamgnfaikhaaDoorKMath
import Derived.WalkKit
import Derived.WalkSpells
import Derived.WalkLawsBesides
import Derived.OwnWalk
import Derived.Laws.BytesArg
import Derived.Lib.AppendStr
import Derived.Lib.QuietBelow
import Derived.Lib.Hide
import Derived.Deep.RegionWith
import Derived.Deep.WholeRow
import Derived.Deep.LoopGhost
import Derived.Laws.ResultCell
import Derived.Lib.SlBytesConst
import Derived.Deep.AppendLies
import Derived.Test.YtlldamgnfaikhaaDoorOMem
namespace Go.Proofs.YtlldamgnfaikhaaDoor
open Go.RowKit Go.Sort Go.Maps

def rdT (xs : List Nat) (most : Int) : List Nat × Nat × Nat :=
  if most < 0 then ([], 0, 1) else if (rdU xs).2.2 ≠ 0 then ([], 0, (rdU xs).2.2) else if most < (rdU xs).1 then ([], 0, 2) else if xs.length - (rdU xs).2.1 < (rdU xs).1 then ([], 0, 12)
  else ((xs.drop (rdU xs).2.1).take (rdU xs).1, (rdU xs).2.1 + (rdU xs).1, 0)
def intOf : Value → Int | .int _ q => q | _ => 0
/-- A load and a store whose outcome is known. -/
theorem wpList_load_at {ops : Array Oper} {rest : List Oper} {op : Oper} {a : Act} {w : World} {Q : Exit → Act → World → Prop} (hgd : op.guard = none) (ty : TypeId) (x : Operand) (ho : op.op = .load ty x)
    (p v : Value) (hx : a.eval x = p) (hr : (Instr.loadAt ty p).run Tryd.prog w = .ok v w) (h : wpList Tryd.prog ops Q rest (a.put op.dst v) w) : wpList Tryd.prog ops Q (op :: rest) a w :=
  wpList_plain hgd fun _ hK => by
    unfold Oper.wp execOp
    simp only [ho, hx, hr, Sem.run_bind, Sem.run_pure, Result.andThen_ok]
    exact hK _ _ h
theorem wpList_store_at {ops : Array Oper} {rest : List Oper} {op : Oper} {a : Act} {w w' : World} {Q : Exit → Act → World → Prop} (hgd : op.guard = none) (ty : TypeId) (x y : Operand) (ho : op.op = .store ty x y)
    (p v : Value) (hx : a.eval x = p) (hy : a.eval y = v) (hr : (Instr.storeAt ty p v).run Tryd.prog w = .ok () w') (h : wpList Tryd.prog ops Q rest (a.put op.dst undef) w') : wpList Tryd.prog ops Q (op :: rest) a w :=
  wpList_plain hgd fun _ hK => by
    unfold Oper.wp execOp
    simp only [ho, hx, hy, hr, Sem.run_bind, Sem.run_pure, Result.andThen_ok]
    exact hK _ _ h
theorem results_cell {fn : Func} {p : Tmp} {ty : TypeId} (h : fn.results = #[.cell p ty]) (tmps : Array Value) (w : World) :
    (results fn tmps).run Tryd.prog w = ((asAddr (tmps.getD p undef)).run Tryd.prog w).andThen fun a w₁ => ((loadVar ty a).run Tryd.prog w₁).andThen fun v w₂ => .ok v w₂ := by
  simp only [results, h]
  simp [Sem.run_bind, Result.andThen]
  split
  · split <;> assumption
  · rfl
theorem kbelow_grow {w0 w w' : World} {v : Value} {es : List Nat} (hb : Below w0.heap.size w0 w) (hown : Own w w0.heap.size v es) (hg : w.grownBy w' v.ownBlock) : Below w0.heap.size w0 w' :=
  hb.grown hg hb.size (fun k hk => (World.ownsRow.lt hown k hk).1)
/-- The same at a step of a region that draws its order. -/
theorem kstep_append_bytes (w : World) {ops : Array Oper} {o : Oper} {act : Act} {K : Act → World → Prop} {Q : Exit → Act → World → Prop} {E : Prop} (hgd : o.guard = none) (s x : Operand)
    (ho : o.op = .call { callee := .builtin .append, args := #[s, x], argTypes := #[26, 26] }) (base : Nat) (v : Value) (es ys : List Nat) (hs : act.eval s = v) (hown : Own w base v es)
    (a : Option Addr) (m c' : Nat) (hx : act.eval x = .slice a m c') (hm : ys.length = m) (hnil : a = none → c' = 0) (hin : BytesIn w a ys) (hbytes : es.length + ys.length ≤ 140737488355328) (hbase : base ≤ w.heap.size)
    (hK : ∀ v' w', Own w' base v' (es ++ ys) → w.grownBy w' v.ownBlock → K (act.put o.dst v') w') : if Region.wanted o (yielded ops act.tmps) = true then Oper.wp Tryd.prog o act w K Q else E := by
  have hw : Region.wanted o (yielded ops act.tmps) = true := by simp [Region.wanted, hgd]
  rw [if_pos hw]
  exact wp_append_bytes w s x ho base v es ys hs hown a m c' hx hm hnil hin hbytes hbase hK
/-- What a call hands back that has made these bytes. -/
def Made (w : World) (xs : List Nat) (e : Ending) (w' : World) : Prop :=
  ∃ a c, e = .returned (.slice a xs.length c) ∧ Own w' w.heap.size (.slice a xs.length c) xs ∧ BytesIn w' a xs ∧ (a = none → c = 0) ∧ Below w.heap.size w w'
theorem made_of {w w' : World} {v : Value} {xs : List Nat} (h : Own w' w.heap.size v xs) (hb : Below w.heap.size w w') : Made w xs (.returned v) w' := by
  obtain ⟨a, c, rfl, h1, h2⟩ := h.bytes
  exact ⟨a, c, rfl, h, h1, h2, hb⟩
/-- An error by its number. -/
def errK (k : Nat) : Value := if k = 0 then .nilIface else .iface 57 (.int .i64 k)
theorem wraps_u64 (n : Int) (h0 : 0 ≤ n) (h1 : n < 2 ^ 64) : IntKind.u64.wrap n = n := by rw [IntKind.wrap_u64]; omega
theorem errK_not {e : Nat} (h : e ≠ 0) : errK e = .iface 57 (.int .i64 e) := by unfold errK; rw [if_neg h]
theorem own_mk {w : World} {base g c n : Nat} {xs : List Nat} (hn : xs.length = n) (h : w.ownsRow base 5 1 (.slice (some ⟨g, 0, none⟩) (0 + n) c) (0 + n) ([] ++ vals xs)) : Own w base (.slice (some ⟨g, 0, none⟩) n c) xs := by
  subst hn
  rw [Nat.zero_add, List.nil_append] at h
  exact h
theorem World.alloc_heap_new' (w : World) (o : Obj) : (w.alloc o).heap[w.heap.size]? = some o := by
  show (w.heap.push o)[w.heap.size]? = some o
  simp
/-- A pointer to a block. -/
def pt (b : Nat) : Value := .pointer (some ⟨b, 0, none⟩)
theorem blk_lt {w : World} {k : Nat} {o : Obj} (h : w.heap[k]? = some o) : k < w.heap.size := (Array.getElem?_eq_some_iff.1 h).1
theorem cell_of {w : World} {k o : Nat} {c : Array Value} {t : TypeId} {z : Nat × Nat} {v : Value} (h : w.heap[k]? = some (.cells c t z)) (hv : c[o]? = some v) : w.cell? ⟨k, o, none⟩ = some v := by
  simp [World.cell?, h, hv]
theorem frozen_of {w : World} {k o : Nat} {c : Array Value} {t : TypeId} (h : w.heap[k]? = some (.cells c t (0, 0))) : w.frozen? ⟨k, o, none⟩ = false := by
  simp [World.frozen?, h]
theorem heap_set {w : World} {k o : Nat} {c : Array Value} {t : TypeId} {z : Nat × Nat} (v : Value) (h : w.heap[k]? = some (.cells c t z)) : (w.setCell ⟨k, o, none⟩ v).heap[k]? = some (.cells (c.setIfInBounds o v) t z) := by
  simp [World.setCell, Array.getElem?_modify, h]
theorem below_drewN {W w : World} (h : Below W.heap.size W w) (n : Nat) : Below W.heap.size W (w.drewN n) := below_step h ⟨rfl, rfl, rfl, Nat.le_refl _, fun _ _ => rfl⟩
theorem bytes_new (w : World) (xs : List Nat) (fr : Nat × Nat) : BytesIn (w.alloc (.cells (vals xs).toArray 5 fr)) (some ⟨w.heap.size, 0, none⟩) xs := by
  intro i hi
  refine ⟨_, _, rfl, ?_⟩
  rw [Nat.zero_add]
  exact cell_of (World.alloc_heap_new' w _) (by simpa using vals_get xs i hi)
theorem below_alloc (w : World) (o : Obj) : Below w.heap.size w (w.alloc o) := (Below.refl _ _).alloc (Nat.le_refl _) _
end Go.Proofs.YtlldamgnfaikhaaDoor
