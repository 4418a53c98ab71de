/- A tree in memory; New, top, Len, Put. -/
import Derived.Test.YtagamkahfiackaaGreatDoorVPut2
namespace Go.Proofs.YtagamkahfiackaaGreatDoor
open Go.RowKit Go.Sort

structure TreeAt (w : World) (M : Nat → Option Nd) (p : Nat) (l : List It) (F : Nat → Prop) : Prop where
  srt : Srt l
  own : ¬ Own M p
  root : (l = [] ∧ (∀ x, ¬ F x) ∧ w.heap[p]? = some (.cells #[.pointer none, .int .i64 0] 84 (0, 0))) ∨ (∃ h q, l ≠ [] ∧ Nod M (h + 1) 1 7 q l F ∧ w.heap[p]? = some (.cells #[.pointer (some ⟨q, 0, none⟩), .int .i64 l.length] 84 (0, 0)))
/-- What a call on a tree leaves. -/
structure KeptT (M M' : Nat → Option Nd) (F F' : Nat → Prop) (p : Nat) (w w' : World) : Prop where
  st : Store w' M'
  ext : Ext (fun k => Own M k ∨ k = p) (fun k => Own M' k ∨ k = p) w w'
  rest : ∀ k, k < w.heap.size → ¬ F k → M' k = M k
  new : ∀ k, F' k → F k ∨ w.heap.size ≤ k
theorem Ext.widen {O O' : Nat → Prop} {w w' : World} (h : Ext O O' w w') (p : Nat) : Ext (fun k => O k ∨ k = p) (fun k => O' k ∨ k = p) w w' :=
  ⟨h.os, h.tape, h.output, h.size, fun k hk hn => h.block k hk fun q => hn (.inl q), fun k hk => hk.elim (fun q => (h.new k q).imp .inl id) (fun q => .inl (.inr q))⟩
theorem Ext.setp {O O' : Nat → Prop} {w0 w : World} {p o : Nat} {v : Value} (h : Ext (fun k => O k ∨ k = p) (fun k => O' k ∨ k = p) w0 w) : Ext (fun k => O k ∨ k = p) (fun k => O' k ∨ k = p) w0 (w.setCell ⟨p, o, none⟩ v) :=
  ⟨h.os, h.tape, h.output, by rw [size_set]; exact h.size, fun k hk hn => (heap_far _ fun e => hn (.inr e)).trans (h.block k hk hn), h.new⟩
theorem TreeAt.lt {w : World} {M : Nat → Option Nd} {p : Nat} {l : List It} {F : Nat → Prop} (h : TreeAt w M p l F) : p < w.heap.size := by
  rcases h.root with ⟨_, _, e⟩ | ⟨_, _, _, _, e⟩ <;> exact blk_lt e
theorem TreeAt.on {w w' : World} {M : Nat → Option Nd} {p : Nat} {l : List It} {F : Nat → Prop} (h : TreeAt w M p l F) (hb : Below w.heap.size w w') : TreeAt w' M p l F :=
  ⟨h.srt, h.own, h.root.imp (fun ⟨a, b, c⟩ => ⟨a, b, (hb.block p h.lt).trans c⟩) (fun ⟨a, b, c, d, e⟩ => ⟨a, b, c, d, (hb.block p h.lt).trans e⟩)⟩
/-- Another tree stays. -/
theorem TreeAt.other {w w' : World} {M M' : Nat → Option Nd} {p p' : Nat} {l : List It} {F F1 F1' : Nat → Prop} (h : TreeAt w M p l F) (hs : Store w M) (hk : KeptT M M' F1 F1' p' w w') (hp : p ≠ p') (hd : ∀ x, F x → ¬ F1 x) : TreeAt w' M' p l F ∧ (∀ x, F x → ¬ F1' x) := by
  have hpb : w'.heap[p]? = w.heap[p]? := hk.ext.block p h.lt fun q => q.elim h.own hp
  have hpo : ¬ Own M' p := fun q => by
    rcases hk.ext.new p (.inl q) with (r | r) | r
    · exact h.own r
    · exact hp r
    · have := h.lt; omega
  rcases h.root with ⟨a, b, c⟩ | ⟨a, b, c, d, e⟩
  · exact ⟨⟨h.srt, hpo, .inl ⟨a, b, hpb.trans c⟩⟩, fun x hx => (b x hx).elim⟩
  · have hlt := d.lt hs
    refine ⟨⟨h.srt, hpo, .inr ⟨a, b, c, d.frame fun k hk' => hk.rest k (hlt k hk') (hd k hk'), hpb.trans e⟩⟩, fun x hx g => ?_⟩
    rcases hk.new x g with r | r
    · exact hd x hx r
    · have := hlt x hx; omega
theorem ins_ne (k : ByteArray) (v : Vl) (l : List It) : ins k v l ≠ [] := by simp [ins]
theorem ins_len {l : List It} (h : Srt l) (k : ByteArray) (v : Vl) : (ins k v l).length = if (get k l).isSome then l.length else l.length + 1 := by
  rcases h.about k with ⟨e, g⟩ | ⟨u, e, g⟩
  · rw [g]
    simp only [Option.isSome_none, Bool.false_eq_true, if_false]
    conv => rhs; rw [e]
    simp [ins]; omega
  · rw [g]
    simp only [Option.isSome_some, if_true]
    conv => rhs; rw [e]
    simp [ins]
theorem alloc_vt (w : World) : (Instr.alloc 84 true (.tuple #[])).run Tryz.prog w = .ok (.pointer (some ⟨w.heap.size, 0, none⟩)) (w.alloc (.cells #[.pointer none, .int .i64 0] 84)) := by
  obtain ⟨i0, hi0, hz0, hz1, hz2⟩ := info_parts infoVT
  have hz : (zeroValue 84).run Tryz.prog w = .ok (.agg #[.pointer none, .int .i64 0]) w := by simp [zeroValue, typeInfo, hi0, hz0]
  simp [Instr.alloc, hz, newVar, newObj, go_sem, Value.cells, Result.andThen]
  rfl
theorem new_ (w : World) : Calls Tryz.prog 16 #[] w fun e w' => e = .returned (.pointer (some ⟨w.heap.size, 0, none⟩)) ∧ w' = w.alloc (.cells #[.pointer none, .int .i64 0] 84) := by
  go_enter Tryz.func16, Tryz.ntmps16
  go_wp2_with fail
  go_ret
  exact ⟨rfl, rfl⟩
theorem new_tree {w : World} {M : Nat → Option Nd} (h : Store w M) : Store (w.alloc (.cells #[.pointer none, .int .i64 0] 84)) M ∧ TreeAt (w.alloc (.cells #[.pointer none, .int .i64 0] 84)) M w.heap.size [] (fun _ => False) :=
  ⟨h.alloc _, List.Pairwise.nil, h.not_own (Nat.le_refl _), .inl ⟨rfl, fun _ q => q, new_blk w _⟩⟩
def rootV (w : World) (p : Nat) : Value := (w.cell? ⟨p, 0, none⟩).getD undef
theorem top_ {w : World} {p : Nat} {r v : Value} {q : Option Addr} (hr : r = .pointer q) (h : w.heap[p]? = some (.cells #[r, v] 84 (0, 0))) : Calls Tryz.prog 39 #[.pointer (some ⟨p, 0, none⟩)] w fun e w' => e = .returned r ∧ w' = w := by
  subst hr
  have c0 := cell_of (o := 0) h rfl
  clear h
  go_enter Tryz.func39, Tryz.ntmps39
  go_wp2_with fail
  go_ret
  exact ⟨rfl, rfl⟩
/-- What Put leaves. -/
def TPut (w : World) (M : Nat → Option Nd) (p : Nat) (l : List It) (F : Nat → Prop) (k : ByteArray) (v : Vl) (e : Ending) (w' : World) : Prop :=
  e = .returned (.tuple #[.slice ((get k l).getD vz).a ((get k l).getD vz).n ((get k l).getD vz).c, .bool (get k l).isSome]) ∧ ∃ M' F', KeptT M M' F F' p w w' ∧ TreeAt w' M' p (ins k v l) F'
end Go.Proofs.YtagamkahfiackaaGreatDoor
