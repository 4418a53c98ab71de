/- A store in memory: a tree, and a chain of its own at each key. -/
import Derived.Test.YtagamkahfiackaaGreatDoorVnWork
import Derived.Test.YtagamkahfiackaaGreatDoorVnCh2
import Derived.Test.YtagamkahfiackaaGreatDoorVGet
namespace Go.Proofs.YtagamkahfiackaaGreatDoor
open Go.RowKit Go.Sort

def ctV (rd : Nat → List MV) (v : Vl) : List MV := match v.a with
  | some ad => rd ad.block
  | none => []
def fV (rd : Nat → List MV) (v : Vl) : List PV := pvs (ctV rd v)
def mdl (rd : Nat → List MV) (l : List It) : List Ct := mapV (fV rd) l
/-- A chain in memory, with its rows; all of it lies from B on. -/
structure ChAt (w : World) (B : Nat) (v : Vl) (L : List MV) : Prop where
  row : RowV w (.slice v.a v.n v.c) L
  lo : ∀ g, v.a = some ⟨g, 0, none⟩ → B ≤ g
  rows : ∀ y ∈ L, RowAt w y.r y.v.tx ∧ (∀ g, y.r.a = some ⟨g, 0, none⟩ → B ≤ g)
structure Chs (w : World) (B : Nat) (rd : Nat → List MV) (l : List It) : Prop where
  at' : ∀ x ∈ l, ∃ g, x.2.a = some ⟨g, 0, none⟩ ∧ ChAt w B x.2 (rd g)
  ap : ∀ x ∈ l, ∀ y ∈ l, x.2.a = y.2.a → x.1 = y.1
theorem ChAt.blk {w : World} {B : Nat} {v : Vl} {L : List MV} (h : ChAt w B v L) {g : Nat} (hg : v.a = some ⟨g, 0, none⟩) : ∃ cur, w.heap[g]? = some (.cells cur 90 (0, 0)) := row_block h.row (by rw [hg]; rfl)
/-- A chain stays where its own block and its rows' do. -/
theorem ChAt.keep {w w' : World} {B : Nat} {v : Vl} {L : List MV} (h : ChAt w B v L) (h1 : ∀ g : Nat, v.a = some ⟨g, 0, none⟩ → w'.heap[g]? = w.heap[g]?) (h2 : ∀ (g : Nat) (cur : Array Value), w.heap[g]? = some (.cells cur 5 (0, 0)) → w'.heap[g]? = w.heap[g]?) : ChAt w' B v L := by
  refine ⟨row_keep h.row fun g hg => ?_, h.lo, fun y hy => ⟨(h.rows y hy).1.keep fun g hg => ?_, (h.rows y hy).2⟩⟩
  · obtain ⟨a, c, e, _, h3, _⟩ := row_shape h.row
    simp only [Value.slice.injEq] at e
    cases ha : v.a with
    | none => rw [ha] at hg; cases hg
    | some ad =>
      obtain ⟨g', e'⟩ := h3 ad (by rw [← e.1, ha])
      rw [ha, e'] at hg
      simp only [Value.ownBlock, Option.some.injEq] at hg
      subst hg
      exact h1 g' (by rw [ha, e'])
  · obtain ⟨cur, hc⟩ := (h.rows y hy).1.blk hg
    exact h2 g cur hc
theorem Chs.keep {w w' : World} {B : Nat} {rd : Nat → List MV} {l : List It} (h : Chs w B rd l) (h1 : ∀ (g : Nat) (cur : Array Value), w.heap[g]? = some (.cells cur 90 (0, 0)) → w'.heap[g]? = w.heap[g]?) (h2 : ∀ (g : Nat) (cur : Array Value), w.heap[g]? = some (.cells cur 5 (0, 0)) → w'.heap[g]? = w.heap[g]?) : Chs w' B rd l :=
  ⟨fun x hx => by
    obtain ⟨g, e, hc⟩ := h.at' x hx
    exact ⟨g, e, hc.keep (fun g' hg' => by obtain ⟨cur, hb⟩ := hc.blk hg'; exact h1 g' cur hb) h2⟩, h.ap⟩
theorem Chs.on {w w' : World} {B : Nat} {rd : Nat → List MV} {l : List It} (h : Chs w B rd l) (hb : Below w.heap.size w w') : Chs w' B rd l := h.keep (fun g _ hg => hb.block g (blk_lt hg)) (fun g _ hg => hb.block g (blk_lt hg))
/-- A store, made and worked on since W; m: its keys with their chains. -/
structure VnD (W w : World) (ps p : Nat) (M : Nat → Option Nd) (F : Nat → Prop) (l : List It) (rd : Nat → List MV) : Prop where
  wk : Works W w M
  tr : TreeAt w M p l F
  lp : W.heap.size ≤ p
  ls : W.heap.size ≤ ps
  bs : w.heap[ps]? = some (.cells #[.pointer (some ⟨p, 0, none⟩)] 54 (0, 0))
  ch : Chs w W.heap.size rd l
structure VnAt (W w : World) (ps : Nat) (m : List Ct) : Prop where
  ex : ∃ p M F l rd, VnD W w ps p M F l rd ∧ m = mdl rd l
  ok : OkM m
theorem VnD.on {W w w' : World} {ps p : Nat} {M : Nat → Option Nd} {F : Nat → Prop} {l : List It} {rd : Nat → List MV} (h : VnD W w ps p M F l rd) (hb : Below w.heap.size w w') : VnD W w' ps p M F l rd :=
  ⟨h.wk.on hb, h.tr.on hb, h.lp, h.ls, (hb.block ps (blk_lt h.bs)).trans h.bs, h.ch.on hb⟩
theorem VnAt.on {W w w' : World} {ps : Nat} {m : List Ct} (h : VnAt W w ps m) (hb : Below w.heap.size w w') : VnAt W w' ps m := by
  obtain ⟨p, M, F, l, rd, hd, e⟩ := h.ex
  exact ⟨⟨p, M, F, l, rd, hd.on hb, e⟩, h.ok⟩
theorem VnAt.below {W w : World} {ps : Nat} {m : List Ct} (h : VnAt W w ps m) : Below W.heap.size W w := by
  obtain ⟨p, M, F, l, rd, hd, e⟩ := h.ex
  exact hd.wk.below
/-- The chain of a key. -/
theorem VnD.chain {W w : World} {ps p : Nat} {M : Nat → Option Nd} {F : Nat → Prop} {l : List It} {rd : Nat → List MV} (h : VnD W w ps p M F l rd) (k : ByteArray) : ∃ L, ChAt w W.heap.size ((get k l).getD vz) L ∧ pvs L = chM k (mdl rd l) ∧ L = ctV rd ((get k l).getD vz) := by
  unfold chM mdl
  rw [mapV_get]
  cases e : get k l with
  | none => exact ⟨[], ⟨World.ownsRow_nil _ _ _ _, fun g hg => (by cases hg), fun y hy => (by cases hy)⟩, rfl, rfl⟩
  | some v =>
    obtain ⟨g, e1, hc⟩ := h.ch.at' (k, v) (get_mem e)
    simp only at e1 hc
    refine ⟨rd g, hc, ?_, ?_⟩
    · simp [fV, ctV, e1]
    · simp [ctV, e1]
theorem mdl_len (rd : Nat → List MV) (l : List It) : (mdl rd l).length = l.length := by simp [mdl, mapV]

/-! ### kept, New, Get -/
set_option maxRecDepth 100000 in
theorem kept_ {w : World} {ps p : Nat} (hb : w.heap[ps]? = some (.cells #[.pointer (some ⟨p, 0, none⟩)] 54 (0, 0))) : Calls Tryz.prog 22 #[.pointer (some ⟨ps, 0, none⟩)] w fun e w' => e = .returned (.pointer (some ⟨p, 0, none⟩)) ∧ w' = w := by
  have c0 := cell_of (o := 0) hb rfl
  clear hb
  go_enter Tryz.func22, Tryz.ntmps22
  go_wp2_with fail
  go_ret
  exact ⟨rfl, rfl⟩
theorem vnew_ (w : World) : Calls Tryz.prog 4 #[] w fun e w' => ∃ ps, e = .returned (.pointer (some ⟨ps, 0, none⟩)) ∧ Hid (VnAt w w' ps [] ∧ w.heap.size ≤ ps) := by
  have HN := Lib.hid (new_ w)
  go_enter Tryz.func4, Tryz.ntmps4
  go_wp2_with (first | (go_at_call 16; refine HN.out.mono ?_; rintro e w' ⟨rfl, rfl⟩) | fail)
  go_ret
  refine ⟨_, rfl, ⟨⟨⟨w.heap.size, fun _ => none, fun _ => False, [], fun _ => [], ?_, rfl⟩, ok_nil⟩, by simp [go_sem]⟩⟩
  have h := new_tree (empty_store w)
  have hB := below_alloc w (.cells #[.pointer none, .int .i64 0] 84)
  have hB2 := below_alloc (w.alloc (.cells #[.pointer none, .int .i64 0] 84)) (.cells #[.pointer (some ⟨w.heap.size, 0, none⟩)] 54)
  refine ⟨((Works.start w).on hB).on hB2, h.2.on hB2, Nat.le_refl _, by simp [go_sem], ?_, fun x hx => (by cases hx), fun x hx => (by cases hx)⟩
  have := new_blk (w.alloc (.cells #[.pointer none, .int .i64 0] 84)) (.cells #[.pointer (some ⟨w.heap.size, 0, none⟩)] 54)
  simpa [go_sem] using this
/-- What Get tells. -/
def GotTo (w : World) (o : Option ByteArray) (e : Ending) (w' : World) : Prop := ∃ r : Vl, e = .returned (.tuple #[.slice r.a r.n r.c, .bool o.isSome]) ∧ RowAt w' r (o.getD ⟨#[]⟩) ∧ (∀ g, r.a = some ⟨g, 0, none⟩ → w.heap.size ≤ g) ∧ Below w.heap.size w w'
/-- The row that a chain has as of a commit. -/
theorem rw_row {w : World} {B : Nat} {v : Vl} {L : List MV} (h : ChAt w B v L) (ha : AscC (pvs L)) (t : Int) : RowAt w (rwV (asL L t)) ((rowC (pvs L) t).getD ⟨#[]⟩) ∧ rwB (asL L t) = (rowC (pvs L) t).isSome := by
  unfold rowC
  rw [asL_as ha]
  cases e : asL L t with
  | none => exact ⟨rowAt_nil w, rfl⟩
  | some x =>
    have hx : x ∈ L := by
      unfold asL at e
      split at e
      · cases e
      · exact List.mem_of_getElem? e
    have hr := (h.rows x hx).1
    simp only [Option.map_some, rowO, rwV, rwB]
    cases x.v.gn with
    | true => exact ⟨rowAt_nil w, rfl⟩
    | false => exact ⟨hr, rfl⟩
set_option maxRecDepth 100000 in
theorem vget_ {W w : World} {ps : Nat} {m : List Ct} (h : VnAt W w ps m) (hm : nVer m ≤ 1000000) (k : ByteArray) (t : Int) :
    Calls Tryz.prog 6 #[.pointer (some ⟨ps, 0, none⟩), .string k, .int .i64 t] w (GotTo w (rowC (chM k m) t)) := by
  obtain ⟨p, M, F, l, rd, hd, rfl⟩ := h.ex
  have hasc := h.ok.ch k
  have hlen := ch_le h.ok.srt k
  have HK := Lib.hid (kept_ hd.bs)
  obtain ⟨L, hL, hpv, _⟩ := hd.chain k
  rw [← hpv] at hasc hlen ⊢
  rw [pvs_len] at hlen
  have HG : Hid (Calls Tryz.prog 23 #[.pointer (some ⟨p, 0, none⟩), .string k] w fun e w' => e = .returned (.tuple #[.slice ((get k l).getD vz).a ((get k l).getD vz).n ((get k l).getD vz).c, .bool (get k l).isSome]) ∧ Below w.heap.size w w') := tget_ hd.wk.st hd.tr k
  generalize (get k l).getD vz = v at *
  generalize (get k l).isSome = b at *
  have HR : Hid (∀ V, Below w.heap.size w V → Calls Tryz.prog 24 #[.slice v.a v.n v.c, .int .i64 t] V fun e w' => e = .returned (.tuple #[.slice (rwV (asL L t)).a (rwV (asL L t)).n (rwV (asL L t)).c, .bool (rowC (pvs L) t).isSome]) ∧ Below w.heap.size w w') := fun V hV => by
    obtain ⟨s1, s2, _⟩ := hL.row.shape
    refine (row_ s1 (s2.on hV) (by omega) hasc t).mono fun e w' ⟨e1, e2⟩ => ?_
    rw [(rw_row hL hasc t).2] at e1
    exact ⟨e1, below_step hV e2⟩
  have HC : Hid (∀ V, Below w.heap.size w V → Calls Tryz.prog 25 #[.slice (rwV (asL L t)).a (rwV (asL L t)).n (rwV (asL L t)).c] V (Made V ((rowC (pvs L) t).getD ⟨#[]⟩))) := fun V hV => by
    have hr := (rw_row hL hasc t).1.on hV
    obtain ⟨r1, r2, r3⟩ := hr.bytes
    exact clone_ r1 r2 r3 hr.le
  generalize rwV (asL L t) = r at *
  generalize rowC (pvs L) t = o at *
  clear h hd hasc hlen hL hpv hm
  go_enter Tryz.func6, Tryz.ntmps6
  go_wp2_with (first
    | (go_at_call 22; refine HK.out.mono ?_; rintro e w' ⟨rfl, rfl⟩)
    | (go_at_call 23; refine HG.out.mono ?_; rintro e w1 ⟨rfl, hb1⟩; have HB1 := Lib.hid hb1; clear hb1)
    | (go_at_call 24; refine (HR.out _ HB1.out).mono ?_; rintro e w2 ⟨rfl, hb2⟩; have HB2 := Lib.hid hb2; clear hb2)
    | (go_at_call 25; refine (HC.out _ HB2.out).mono ?_; rintro e w3 ⟨q, rfl, hq⟩; have HQ := Lib.hid hq; clear hq)
    | fail)
  go_ret2
  exact ⟨q, rfl, HQ.out.1, fun g hg => Nat.le_trans HB2.out.size (HQ.out.2.1 g hg), below_step HB2.out HQ.out.2.2⟩
end Go.Proofs.YtagamkahfiackaaGreatDoor
