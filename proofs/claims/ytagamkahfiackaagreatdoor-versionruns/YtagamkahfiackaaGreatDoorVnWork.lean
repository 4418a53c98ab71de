/- What lies below stays while one works on a tree of one's own; blocks of other kinds stay. -/
import Derived.Test.YtagamkahfiackaaGreatDoorVTPut2
namespace Go.Proofs.YtagamkahfiackaaGreatDoor
open Go.RowKit Go.Sort

theorem empty_store (w : World) : Store w (fun _ => none) :=
  ⟨fun _ _ e => (by cases e), fun _ _ e => (by cases e), fun _ _ e => (by cases e), fun _ _ _ _ _ e => (by cases e), fun _ _ _ _ _ e => (by cases e)⟩
/-- What lies below stays while one works on nodes of one's own. -/
structure Works (W w : World) (M : Nat → Option Nd) : Prop where
  st : Store w M
  below : Below W.heap.size W w
  mine : ∀ k, Own M k → W.heap.size ≤ k
theorem Works.start (W : World) : Works W W (fun _ => none) := ⟨empty_store W, Below.refl _ _, fun _ ⟨_, _, e, _⟩ => by cases e⟩
theorem Works.on {W w w' : World} {M : Nat → Option Nd} (h : Works W w M) (hb : Below w.heap.size w w') : Works W w' M := ⟨h.st.on hb, below_step h.below hb, h.mine⟩
theorem Works.kept {W w w' : World} {M M' : Nat → Option Nd} {F F' : Nat → Prop} {p : Nat} (h : Works W w M) (hp : W.heap.size ≤ p) (hk : KeptT M M' F F' p w w') : Works W w' M' := by
  have hs := h.below.size
  refine ⟨hk.st, ⟨hk.ext.os.trans h.below.os, hk.ext.tape.trans h.below.tape, hk.ext.output.trans h.below.output, Nat.le_trans hs hk.ext.size, fun k hk' => ?_⟩, fun k hk' => ?_⟩
  · refine (hk.ext.block k (by omega) fun q => ?_).trans (h.below.block k hk')
    rcases q with q | q
    · have := h.mine k q; omega
    · omega
  · rcases hk.ext.new k (.inl hk') with (q | q) | q
    · exact h.mine k q
    · omega
    · omega
/-- A block of another kind stays. -/
theorem KeptT.stays {M M' : Nat → Option Nd} {F F' : Nat → Prop} {p : Nat} {w w' : World} (hk : KeptT M M' F F' p w w') {b : Nat} {o : Obj} (hb : w.heap[b]? = some o) (hn : ¬ Own M b) (hp : b ≠ p) : w'.heap[b]? = some o ∧ ¬ Own M' b := by
  have hlt := blk_lt hb
  refine ⟨(hk.ext.block b hlt fun q => q.elim hn hp).trans hb, fun q => ?_⟩
  rcases hk.ext.new b (.inl q) with (q | q) | q
  · exact hn q
  · exact hp q
  · omega
/-- Blocks of other kinds than a tree's stay. -/
def Alien (w w' : World) : Prop := ∀ (b : Nat) (c : Array Value) (t : TypeId), w.heap[b]? = some (.cells c t (0, 0)) → t ≠ 103 → t ≠ 99 → t ≠ 82 → t ≠ 84 → w'.heap[b]? = some (.cells c t (0, 0))
theorem Store.alien {w : World} {M : Nat → Option Nd} (h : Store w M) {b : Nat} {c : Array Value} {t : TypeId} (hb : w.heap[b]? = some (.cells c t (0, 0))) (h1 : t ≠ 103) (h2 : t ≠ 99) (h3 : t ≠ 82) : ¬ Own M b := by
  rintro ⟨q, n, hq, rfl | e | e⟩
  · exact kind_ne hb (h.blk _ _ hq) h1 rfl
  · obtain ⟨c2, k2⟩ := row_block (h.its q n hq) e
    exact kind_ne hb k2 h2 rfl
  · obtain ⟨c2, k2⟩ := row_block (h.ks q n hq) e
    exact kind_ne hb k2 h3 rfl
theorem KeptT.alien {M M' : Nat → Option Nd} {F F' : Nat → Prop} {p : Nat} {w w' : World} {l : List It} {G : Nat → Prop} (hk : KeptT M M' F F' p w w') (hs : Store w M) (ht : TreeAt w M p l G) : Alien w w' := fun b c t hb h1 h2 h3 h4 => by
  refine (hk.stays hb (hs.alien hb h1 h2 h3) fun e => ?_).1
  subst e
  rcases ht.root with ⟨_, _, e⟩ | ⟨_, _, _, _, e⟩
  · exact kind_ne hb e h4 rfl
  · exact kind_ne hb e h4 rfl
end Go.Proofs.YtagamkahfiackaaGreatDoor
