/- What the laws on journals share: a device with a journal on it, and lists of the law's own beside it. -/
import Derived.Test.YtjnhcanohefjiaaGreatDoorJSure
namespace Go.Proofs.YtjnhcanohefjiaaGreatDoor
open Go.RowKit Go.Sort Go.Maps

/-- A journal opened on a new device. -/
theorem open_first {W : World} {base p aa bb : Nat} (n : Nat) (h1 : 1 ≤ n) (h2 : n ≤ 1000) (ep : Nat) (he : ep < 18446744073709551616) (hd : DevIn W p aa bb (newD 1 n) 0) (hlo : base ≤ p ∧ base ≤ aa ∧ base ≤ bb) (hw : base ≤ W.heap.size) :
    Calls Tryz.prog 7 #[.pointer (some ⟨p, 0, none⟩), .agg #[.int .i64 0, .int .i64 0, .int .i64 n], .int .u64 ep] W fun e w' => ∃ q la lc, e = .returned (.tuple #[.pointer (some ⟨q, 0, none⟩), .slice la 0 lc, .nilIface]) ∧ ∃ rv ev, Jn w' base p aa bb q (cleanD (arN n) [] (newD 1 n)) n ⟨arN n, ep, [], 0, 0⟩ rv ev ∧ Ext (fun k => k = p ∨ k = aa ∨ k = bb) (Mine p aa bb q rv ev) W w' := by
  obtain ⟨o1, _, _⟩ := opened_new n h1 (by omega) ep he
  have q := jopen_ hd hlo hw (arN n) (inR_n n (by omega)) (inJ_n n h1) rfl ep he (by rw [open_new]; exact o1) (by show 0 + n < 1000000; omega)
  rw [open_new] at q
  refine q.mono fun e w' ⟨q, rv, ev, la, lc, k1, k2, _, _, k5⟩ => ⟨q, la, lc, k1, rv, ev, ?_, k5⟩
  have e : 0 + (arN n).s.toNat = n := by simp
  rw [e] at k2
  exact k2
/-- A journal opened on a device at rest. -/
theorem open_rest {W : World} {base p aa bb : Nat} {d : Dev} {K : Nat} (n : Nat) (h2 : n ≤ 1000) (ep : Nat) (he : ep < 18446744073709551616) (hd : DevIn W p aa bb d K) (hr : Rest d (arN n)) (hlo : base ≤ p ∧ base ≤ aa ∧ base ≤ bb) (hw : base ≤ W.heap.size) (hK : K ≤ 900000) :
    Calls Tryz.prog 7 #[.pointer (some ⟨p, 0, none⟩), .agg #[.int .i64 0, .int .i64 0, .int .i64 n], .int .u64 ep] W (OpenTo W base p aa bb (cleanD (arN n) (openJ d (arN n) ep).row d) (K + n) (openJ d (arN n) ep)) := by
  have q := jopen_ hd hlo hw (arN n) (inR_n n (by omega)) hr.inn hr.cr ep he (hr.opened he).1 (by show K + n < 1000000; omega)
  exact q
/-- The law's state: all that lay there stays; the area in a box; the journal. -/
structure LI (w : World) (bx q n : Nat) (d : Dev) (K : Nat) (J : Jr) (rv ev : Value) (wr : World) : Prop where
  bw : Below w.heap.size w wr
  jn : Jn wr w.heap.size (w.heap.size + 2) w.heap.size (w.heap.size + 1) q d K J rv ev
  ar : ArAt wr bx (arN n)
abbrev MineL (w : World) (q : Nat) (rv ev : Value) : Nat → Prop := Mine (w.heap.size + 2) w.heap.size (w.heap.size + 1) q rv ev
theorem LI.on {w wr V : World} {bx q n : Nat} {d : Dev} {K : Nat} {J : Jr} {rv ev : Value} (h : LI w bx q n d K J rv ev wr) (hb : Below wr.heap.size wr V) : LI w bx q n d K J rv ev V := ⟨below_step h.bw hb, h.jn.on hb, h.ar.on hb⟩
theorem LI.ext {w wr V : World} {bx q n : Nat} {d d' : Dev} {K K' : Nat} {J J' : Jr} {rv ev rv' ev' : Value} (h : LI w bx q n d K J rv ev wr) (hj : Jn V w.heap.size (w.heap.size + 2) w.heap.size (w.heap.size + 1) q d' K' J' rv' ev') (hx : Ext (MineL w q rv ev) (MineL w q rv' ev') wr V) : LI w bx q n d' K' J' rv' ev' V :=
  ⟨h.bw.trans (hx.below h.bw.size (fun k hk => (h.jn.mine k hk).1)), hj, h.jn.area h.ar hx⟩
theorem LI.to {w wr V : World} {bx q n : Nat} {d d' : Dev} {K K' : Nat} {J J' : Jr} {rv ev : Value} (h : LI w bx q n d K J rv ev wr) (hj : JnTo wr w.heap.size (w.heap.size + 2) w.heap.size (w.heap.size + 1) q rv ev d' K' J' V) : ∃ rv' ev', LI w bx q n d' K' J' rv' ev' V ∧ Ext (MineL w q rv ev) (MineL w q rv' ev') wr V := by
  obtain ⟨rv', ev', h1, h2⟩ := hj
  exact ⟨rv', ev', h.ext h1 h2, h2⟩
/-- A row of slices of the law's own is none of the journal's. -/
theorem Jn.rows {w : World} {base p aa bb q b2 : Nat} {d : Dev} {K : Nat} {J : Jr} {rv ev v : Value} {vs : List Value} (h : Jn w base p aa bb q d K J rv ev) (hr : OwnR w b2 v vs) {g : Nat} (hg : v.ownBlock = some g) : ¬ Mine p aa bb q rv ev g := by
  obtain ⟨cur, hc⟩ := row_block hr hg
  exact h.free hc (by decide) (by decide) (by decide) (by decide)
theorem OwnR.ext {w w' : World} {base b2 p aa bb q : Nat} {d : Dev} {K : Nat} {J : Jr} {rv ev v : Value} {vs : List Value} {M' : Nat → Prop} (hr : OwnR w b2 v vs) (h : Jn w base p aa bb q d K J rv ev) (hx : Ext (Mine p aa bb q rv ev) M' w w') : OwnR w' b2 v vs :=
  row_keep hr fun g hg => hx.block g (World.ownsRow.lt hr g hg).2 (h.rows hr hg)
theorem Jn.beside {w w' : World} {base p aa bb q b2 : Nat} {d : Dev} {K : Nat} {J : Jr} {rv ev v : Value} {vs : List Value} (h : Jn w base p aa bb q d K J rv ev) (hr : OwnR w b2 v vs) (hg : w.grownBy w' v.ownBlock) : Jn w' base p aa bb q d K J rv ev := by
  have far : ∀ k, Mine p aa bb q rv ev k → w'.heap[k]? = w.heap[k]? := fun k hk => hg.block k (h.mine k hk).2 (fun e => h.rows hr e.symm hk)
  exact ⟨h.dev.keep (far p (.inl rfl)) (far aa (.inr (.inl rfl))) (far bb (.inr (.inr (.inl rfl)))), h.jr.keep (far q (.inr (.inr (.inr (.inl rfl))))) (fun g hgg => far g (.inr (.inr (.inr (.inr (.inl hgg)))))) (fun g hgg => far g (.inr (.inr (.inr (.inr (.inr hgg)))))), h.lo⟩
theorem LI.grow {w wr V : World} {bx q n : Nat} {d : Dev} {K : Nat} {J : Jr} {rv ev v : Value} {vs : List Value} (h : LI w bx q n d K J rv ev wr) (hr : OwnR wr w.heap.size v vs) (hg : wr.grownBy V v.ownBlock) : LI w bx q n d K J rv ev V := by
  refine ⟨h.bw.grown hg h.bw.size (fun k hk => (World.ownsRow.lt hr k hk).1), h.jn.beside hr hg, ?_⟩
  refine (hg.block bx (blk_lt h.ar) (fun e => ?_)).trans h.ar
  exact row_apart hr h.ar (by decide) e
/-- One record more has so many bytes more at most. -/
theorem app_bound (J : Jr) (xs : List Nat) (he : J.ep < 18446744073709551616) : (appJ J xs).row.length ≤ J.row.length + xs.length + 24 := by
  unfold appJ
  split
  · rename_i h
    rw [app_row, List.length_append]
    have hr : refu xs.length = 0 := by
      unfold appE at h
      split at h
      · rename_i h1; exact absurd h h1
      · split at h
        · rename_i h2; exact absurd h h2
        · rename_i h2; simpa using h2
    have := rec_le J.ep he xs (by have := refu_zero hr; omega)
    omega
  · omega
/-- Where there is room a record is laid behind just where it has a byte. -/
theorem app_iff {J : Jr} {xs : List Nat} (hd : J.dead = 0) (h2 : xs.length ≤ 1000) (he : J.ep < 18446744073709551616) (hr : J.row.length + xs.length + 24 ≤ 64 * J.a.s.toNat) : appE J xs = if xs = [] then 1 else 0 := by
  by_cases h0 : xs = []
  · subst h0
    unfold appE
    rw [if_neg (fun e => e hd), if_pos rfl, if_pos (by decide)]
    rfl
  · rw [if_neg h0]
    exact (app_room hd h0 h2 he hr).1
/-- The bytes of a text up to so many. -/
def cutP (m : Nat) (xs : List Nat) : List Nat := xs.take (min xs.length m)
theorem cutP_len (m : Nat) (xs : List Nat) : (cutP m xs).length = min xs.length m := by simp [cutP]
end Go.Proofs.YtjnhcanohefjiaaGreatDoor
