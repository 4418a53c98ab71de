/- rows: the rows as of a commit, told by an iterator that ranges over another one. -/
import Derived.Test.YtagamkahfiackaaGreatDoorVnOver
namespace Go.Proofs.YtagamkahfiackaaGreatDoor
open Go.RowKit Go.Sort Go.Shelf

attribute [local go_sem] Oper.semAt_some
/-- What a round keeps: all rows of cells but one's own box and rows of items. -/
def KpR (ob : Nat) (V V' : World) : Prop := V.heap.size ≤ V'.heap.size ∧ ∀ (k : Nat) (c : Array Value) (ty : TypeId), k ≠ ob → ty ≠ 74 → V.heap[k]? = some (.cells c ty (0, 0)) → V'.heap[k]? = some (.cells c ty (0, 0))
theorem kpR_t {ob : Nat} {A B C : World} (h : KpR ob A B) (k : KpR ob B C) : KpR ob A C := ⟨Nat.le_trans h.1 k.1, fun q c ty h1 h2 hq => k.2 q c ty h1 h2 (h.2 q c ty h1 h2 hq)⟩
theorem kpR_put (ob : Nat) (V : World) (q : Nat) {o : Obj} (o' : Obj) (hq : V.heap[q]? = some o) (ho : o.isCells = false) : KpR ob V (V.putObj q o') :=
  ⟨(grownBy_putObj' V q o').size, fun k c ty _ _ hk => (World.putObj_heap_other (by rintro rfl; rw [hq] at hk; cases hk; cases ho)).trans hk⟩
theorem kpR_below {ob : Nat} {V V' : World} (h : Below V.heap.size V V') : KpR ob V V' := ⟨h.size, fun k _ _ _ _ hk => (h.block k (blk_lt hk)).trans hk⟩
theorem kpR_own {β : Type} (ob B : Nat) (A : World) : OwnFrom B (fun (_ : β) V => KpR ob A V) := fun s V V' row hs hg hr =>
  ⟨Nat.le_trans hs.1 hg.size, fun k c ty h1 h2 hk => by
    have h3 := hs.2 k c ty h1 h2 hk
    refine (hg.block k (blk_lt h3) fun e => ?_).trans h3
    obtain ⟨_, o, ho, hc⟩ := hr k e.symm
    rw [h3] at ho; cases ho; cases hc⟩
theorem own_cells {w : World} {M : Nat → Option Nd} (h : Store w M) {k : Nat} (hk : Own M k) : ∃ (c : Array Value) (ty : TypeId), ty ≠ 74 ∧ w.heap[k]? = some (.cells c ty (0, 0)) := by
  obtain ⟨q, n, hq, rfl | e | e⟩ := hk
  · exact ⟨_, _, by decide, h.blk _ _ hq⟩
  · obtain ⟨c2, k2⟩ := row_block (h.its q n hq) e
    exact ⟨_, _, by decide, k2⟩
  · obtain ⟨c2, k2⟩ := row_block (h.ks q n hq) e
    exact ⟨_, _, by decide, k2⟩
theorem root_cells {w : World} {M : Nat → Option Nd} {p : Nat} {l : List It} {F : Nat → Prop} (h : TreeAt w M p l F) : ∃ (c : Array Value) (ty : TypeId), ty ≠ 74 ∧ w.heap[p]? = some (.cells c ty (0, 0)) := by
  rcases h.root with ⟨_, _, e⟩ | ⟨_, _, _, _, e⟩
  · exact ⟨_, _, by decide, e⟩
  · exact ⟨_, _, by decide, e⟩
theorem round_any {m m' l0 : Nat} {P : Program} {l : Nat} {f : FuncId} {tmps : Array Value} {assign body : Code} {w : World} {R : Ending → World → Prop} (h : RoundIn Fence.wide m P l f tmps assign body w R) : RoundIn (Fence.wide.inRound l0) m' P l f tmps assign body w R := ⟨h.1, fun c cs _ => h.2 c cs (room_wide _)⟩
/-- Its three boxes. -/
structure RowsB (w : World) (ps bs br bt : Nat) (r : Rg) (t : Int) : Prop where
  b1 : w.heap[bs]? = some (.cells #[.pointer (some ⟨ps, 0, none⟩)] 25 (0, 0))
  b2 : w.heap[br]? = some (.cells #[.string r.f, .string r.t, .bool r.hf, .bool r.ht, .bool r.pf, .bool r.pt] 28 (0, 0))
  b3 : w.heap[bt]? = some (.cells #[.int .i64 t] 3 (0, 0))
theorem RowsB.on {w w' : World} {ps bs br bt : Nat} {r : Rg} {t : Int} (h : RowsB w ps bs br bt r t) (hb : Below w.heap.size w w') : RowsB w' ps bs br bt r t :=
  ⟨blkKeep hb h.b1, blkKeep hb h.b2, blkKeep hb h.b3⟩
def RowsTo (ps : Nat) (r : Rg) (t : Int) (W : World) (e : Ending) (w' : World) : Prop := ∃ bs br bt, e = .returned (.func (.func 47) #[] #[.pointer (some ⟨bs, 0, none⟩), .pointer (some ⟨br, 0, none⟩), .pointer (some ⟨bt, 0, none⟩)]) ∧
  Hid (Below W.heap.size W w' ∧ RowsB w' ps bs br bt r t ∧ W.heap.size ≤ bs ∧ W.heap.size ≤ br ∧ W.heap.size ≤ bt)
set_option maxRecDepth 100000 in
set_option maxHeartbeats 1000000 in
theorem rows_ (ps : Nat) (r : Rg) (t : Int) (w : World) : Calls Tryz.prog 28 #[.pointer (some ⟨ps, 0, none⟩), rgV r, .int .i64 t] w (RowsTo ps r t w) := by
  obtain ⟨W1, hW1⟩ : ∃ W1, W1 = ((w.alloc (.cells #[.pointer (some ⟨ps, 0, none⟩)] 25)).alloc (.cells #[.string r.f, .string r.t, .bool r.hf, .bool r.ht, .bool r.pf, .bool r.pt] 28)).alloc (.cells #[.int .i64 t] 3) := ⟨_, rfl⟩
  have HB : Hid (Below w.heap.size w W1 ∧ RowsB W1 ps w.heap.size (w.heap.size + 1) (w.heap.size + 1 + 1) r t) := by
    obtain ⟨b0, b1, b2⟩ := two_box w (.cells #[.pointer (some ⟨ps, 0, none⟩)] 25) (.cells #[.string r.f, .string r.t, .bool r.hf, .bool r.ht, .bool r.pf, .bool r.pt] 28)
    have b3 := below_alloc ((w.alloc (.cells #[.pointer (some ⟨ps, 0, none⟩)] 25)).alloc (.cells #[.string r.f, .string r.t, .bool r.hf, .bool r.ht, .bool r.pf, .bool r.pt] 28)) (.cells #[.int .i64 t] 3)
    have b4 := new_blk ((w.alloc (.cells #[.pointer (some ⟨ps, 0, none⟩)] 25)).alloc (.cells #[.string r.f, .string r.t, .bool r.hf, .bool r.ht, .bool r.pf, .bool r.pt] 28)) (.cells #[.int .i64 t] 3)
    rw [hW1]
    exact ⟨below_step b0 b3, blkKeep b3 b1, blkKeep b3 b2, by simp only [World.size_alloc] at b4; exact b4⟩
  unfold rgV
  go_enter Tryz.func28, Tryz.ntmps28
  go_wp2_with fail
  go_ret
  rw [← hW1]
  exact ⟨_, _, _, rfl, HB.out.1, HB.out.2, Nat.le_refl _, by omega, by omega⟩
def hvI (rd : Nat → List MV) (t : Int) (x : It) : Bool := (rowC (fV rd x.2) t).isSome
def encR {l : List It} (rd : Nat → List MV) (t : Int) (x : Inl l) : Array Value := #[.string x.1.1, .slice (rwV (asL (ctV rd x.1.2) t)).a (rwV (asL (ctV rd x.1.2) t)).n (rwV (asL (ctV rd x.1.2) t)).c]
/-- A chain's row, where the store lay. -/
theorem chain_row {W w V : World} {ps p : Nat} {M : Nat → Option Nd} {F : Nat → Prop} {l : List It} {rd : Nat → List MV} {ob : Nat} (hd : VnD W w ps p M F l rd) (hok : OkM (mdl rd l)) (hm : nVer (mdl rd l) ≤ 1000000) (t : Int) (ho : ∀ k, k < w.heap.size → k ≠ ob) (hV : KpR ob w V) (x : It) (hx : x ∈ l) :
    Calls Tryz.prog 24 #[.slice x.2.a x.2.n x.2.c, .int .i64 t] V fun e w' => e = .returned (.tuple #[.slice (rwV (asL (ctV rd x.2) t)).a (rwV (asL (ctV rd x.2) t)).n (rwV (asL (ctV rd x.2) t)).c, .bool (hvI rd t x)]) ∧ Below V.heap.size V w' := by
  obtain ⟨g, e, hc⟩ := hd.ch.at' x hx
  have hx2 : (x.1, fV rd x.2) ∈ mdl rd l := List.mem_map_of_mem hx
  have hasc : AscC (fV rd x.2) := hok.asc _ hx2
  have hlen : (fV rd x.2).length ≤ nVer (mdl rd l) := by
    have h1 := ch_le hok.srt x.1
    unfold chM at h1
    rw [mem_get hok.srt hx2] at h1
    exact h1
  have ec : ctV rd x.2 = rd g := by unfold ctV; rw [e]
  have hcV : ChAt V W.heap.size x.2 (rd g) := hc.keep (fun g' hg' => by
      obtain ⟨cur, hb⟩ := hc.blk hg'
      exact (hV.2 g' cur _ (ho g' (blk_lt hb)) (by decide) hb).trans hb.symm) (fun g' cur hb => (hV.2 g' cur _ (ho g' (blk_lt hb)) (by decide) hb).trans hb.symm)
  unfold hvI
  unfold fV at hasc hlen ⊢
  rw [ec] at hasc hlen ⊢
  rw [pvs_len] at hlen
  obtain ⟨s1, s2, _⟩ := hcV.row.shape
  refine (row_ s1 s2 (by omega) hasc t).mono fun e w' ⟨e1, e2⟩ => ?_
  rw [(rw_row hcV hasc t).2] at e1
  exact ⟨e1, e2⟩
end Go.Proofs.YtagamkahfiackaaGreatDoor
