/- A journal in memory; what is its own, and what stays when one works on it. -/
import Derived.Test.YtjnhcanohefjiaaGreatDoorJMath
import Derived.Test.YtjnhcanohefjiaaGreatDoorRcRows
import Derived.Test.YtjnhcanohefjiaaGreatDoorDDev
namespace Go.Proofs.YtjnhcanohefjiaaGreatDoor
open Go.RowKit Go.Sort Go.Maps

/-- A journal, plainly: its area, its epoch, the records' payloads, how many of them are safe, the error that is answered for good. -/
structure Jr where
  a : Ar
  ep : Nat
  pss : List (List Nat)
  sf : Nat
  dead : Nat
def Jr.row (J : Jr) : List Nat := allB J.ep J.pss
def Jr.ends (J : Jr) : List Nat := endsL J.ep J.pss
/-- How many bytes the first records have. -/
def Jr.upto (J : Jr) (n : Nat) : Nat := (allB J.ep (J.pss.take n)).length
structure okJ (J : Jr) : Prop where
  pays : ∀ p ∈ J.pss, OkP p
  ep : J.ep < 18446744073709551616
  sf : J.sf ≤ J.pss.length
  len : J.row.length ≤ 64 * J.a.s.toNat
  g : 0 ≤ J.a.g ∧ J.a.g ≤ 16
  f : 0 ≤ J.a.f ∧ J.a.f ≤ 16384
  s : 1 ≤ J.a.s ∧ J.a.s ≤ 16384
theorem okJ.byte {J : Jr} (h : okJ J) : ∀ x ∈ J.row, x < 256 := allB_byte _ _ h.pays
theorem allB_len7 (ep : Nat) : ∀ pss : List (List Nat), 7 * pss.length ≤ (allB ep pss).length + pss.length
  | [] => by simp [allB]
  | p :: pss => by
    have ih := allB_len7 ep pss
    have h1 := enc_pos p.length
    have h2 := enc_pos ep
    rw [allB_cons, List.length_append, recB_length, List.length_cons]
    omega
theorem okJ.count {J : Jr} (h : okJ J) : J.pss.length ≤ 1048576 := by
  have h1 := allB_len7 J.ep J.pss
  have h2 := h.len
  have h3 := h.s
  unfold Jr.row at h2
  omega
theorem okJ.row_le {J : Jr} (h : okJ J) : J.row.length ≤ 1048576 := by
  have h2 := h.len
  have h3 := h.s
  omega
theorem upto_take (J : Jr) (n : Nat) : J.row.take (J.upto n) = allB J.ep (J.pss.take n) := by
  have e : J.row = allB J.ep (J.pss.take n) ++ allB J.ep (J.pss.drop n) := by rw [← allB_append, List.take_append_drop]; rfl
  rw [e]
  exact List.take_left
theorem upto_le (J : Jr) (n : Nat) : J.upto n ≤ J.row.length := by
  have e : J.row = allB J.ep (J.pss.take n) ++ allB J.ep (J.pss.drop n) := by rw [← allB_append, List.take_append_drop]; rfl
  rw [e, List.length_append]
  exact Nat.le_add_right _ _
theorem upto_all (J : Jr) : J.upto J.pss.length = J.row.length := by unfold Jr.upto; rw [List.take_length]; rfl
theorem upto_zero (J : Jr) : J.upto 0 = 0 := rfl
theorem ends_len (J : Jr) : J.ends.length = J.pss.length := endsL_length _ _
theorem ends_get (J : Jr) (n : Nat) (h0 : n ≠ 0) (hn : n ≤ J.pss.length) : J.ends.getD (n - 1) 0 = J.upto n := by
  unfold Jr.ends Jr.upto
  rw [endsL_get _ _ _ (by omega), show n - 1 + 1 = n by omega]
theorem upto_lt {J : Jr} {n : Nat} (hn : n < J.pss.length) : J.upto n < J.row.length := by
  have e : J.row = allB J.ep (J.pss.take n) ++ allB J.ep (J.pss.drop n) := by rw [← allB_append, List.take_append_drop]; rfl
  have h7 := allB_len7 J.ep (J.pss.drop n)
  rw [List.length_drop] at h7
  unfold Jr.upto
  rw [e, List.length_append]
  omega
/-- A journal's cells. -/
def jrC (p : Nat) (J : Jr) (rv ev : Value) : Array Value := #[.pointer (some ⟨p, 0, none⟩), .int .i64 J.a.g, .int .i64 J.a.f, .int .i64 J.a.s, .int .u64 J.ep, rv, ev, .int .i64 J.sf, errV J.dead]
/-- A journal: its own block q, on the device p; its row and its ends in rows of its own, from base on. -/
structure JrIn (w : World) (base p q : Nat) (J : Jr) (rv ev : Value) : Prop where
  blk : w.heap[q]? = some (.cells (jrC p J rv ev) 80 (0, 0))
  row : Own w base rv J.row
  ends : OwnI w base ev J.ends
  ok : okJ J
theorem row_keep {w w' : World} {base e s n : Nat} {v : Value} {xs : List Value} (h : w.ownsRow base e s v n xs) (hk : ∀ g, v.ownBlock = some g → w'.heap[g]? = w.heap[g]?) : w'.ownsRow base e s v n xs := by
  refine ⟨h.1, ?_⟩
  rcases h.2 with h1 | ⟨g, cap, cur, rfl, h1, h2, h3⟩
  · exact .inl h1
  · exact .inr ⟨g, cap, cur, rfl, h1, (hk g rfl).trans h2, h3⟩
theorem row_block {w : World} {base e s n : Nat} {v : Value} {xs : List Value} (h : w.ownsRow base e s v n xs) {g : Nat} (hg : v.ownBlock = some g) : ∃ cur, w.heap[g]? = some (.cells cur e (0, 0)) := by
  rcases h.2 with ⟨e1, _⟩ | ⟨g', cap, cur, e1, h1, h2, _⟩
  · rw [e1] at hg; cases hg
  · rw [e1] at hg
    simp only [Value.ownBlock, Option.some.injEq] at hg
    subst hg
    exact ⟨cur, h2⟩
theorem JrIn.cells {w : World} {base p q : Nat} {J : Jr} {rv ev : Value} (h : JrIn w base p q J rv ev) : w.cell? ⟨q, 0, none⟩ = some (.pointer (some ⟨p, 0, none⟩)) ∧ w.cell? ⟨q, 1, none⟩ = some (.int .i64 J.a.g) ∧ w.cell? ⟨q, 2, none⟩ = some (.int .i64 J.a.f) ∧ w.cell? ⟨q, 3, none⟩ = some (.int .i64 J.a.s) ∧ w.cell? ⟨q, 4, none⟩ = some (.int .u64 J.ep) ∧ w.cell? ⟨q, 5, none⟩ = some rv ∧ w.cell? ⟨q, 6, none⟩ = some ev ∧ w.cell? ⟨q, 7, none⟩ = some (.int .i64 J.sf) ∧ w.cell? ⟨q, 8, none⟩ = some (errV J.dead) :=
  ⟨cell_of h.blk rfl, cell_of h.blk rfl, cell_of h.blk rfl, cell_of h.blk rfl, cell_of h.blk rfl, cell_of h.blk rfl, cell_of h.blk rfl, cell_of h.blk rfl, cell_of h.blk rfl⟩
theorem JrIn.keep {w w' : World} {base p q : Nat} {J : Jr} {rv ev : Value} (h : JrIn w base p q J rv ev) (h1 : w'.heap[q]? = w.heap[q]?) (h2 : ∀ g, rv.ownBlock = some g → w'.heap[g]? = w.heap[g]?) (h3 : ∀ g, ev.ownBlock = some g → w'.heap[g]? = w.heap[g]?) : JrIn w' base p q J rv ev :=
  ⟨h1.trans h.blk, row_keep h.row h2, row_keep h.ends h3, h.ok⟩
theorem JrIn.lts {w : World} {base p q : Nat} {J : Jr} {rv ev : Value} (h : JrIn w base p q J rv ev) : q < w.heap.size ∧ (∀ g, rv.ownBlock = some g → g < w.heap.size) ∧ (∀ g, ev.ownBlock = some g → g < w.heap.size) :=
  ⟨blk_lt h.blk, fun g hg => (World.ownsRow.lt h.row g hg).2, fun g hg => (World.ownsRow.lt h.ends g hg).2⟩
theorem JrIn.on {w w' : World} {base p q : Nat} {J : Jr} {rv ev : Value} (h : JrIn w base p q J rv ev) (hb : Below w.heap.size w w') : JrIn w' base p q J rv ev :=
  h.keep (hb.block q h.lts.1) (fun g hg => hb.block g (h.lts.2.1 g hg)) (fun g hg => hb.block g (h.lts.2.2 g hg))
/-- No block of a device. -/
theorem DevIn.other {w : World} {p a b : Nat} {d : Dev} {K : Nat} (h : DevIn w p a b d K) {k : Nat} {c : Array Value} {t : TypeId} {z : Nat × Nat} (hk : w.heap[k]? = some (.cells c t z)) (ht : t ≠ 71) : k ≠ p ∧ k ≠ a ∧ k ≠ b := by
  refine ⟨fun e => ?_, fun e => ?_, fun e => ?_⟩
  · rw [e, h.blk] at hk
    simp only [Option.some.injEq, Obj.cells.injEq] at hk
    exact ht hk.2.1.symm
  · obtain ⟨es, cl, h1⟩ := h.mapA
    rw [e, h1] at hk; cases hk
  · obtain ⟨es, cl, h1⟩ := h.mapB
    rw [e, h1] at hk; cases hk
theorem JrIn.apart {w : World} {base p q p' a b : Nat} {J : Jr} {rv ev : Value} {d : Dev} {K : Nat} (h : JrIn w base p q J rv ev) (hd : DevIn w p' a b d K) : (q ≠ p' ∧ q ≠ a ∧ q ≠ b) ∧ (∀ g, rv.ownBlock = some g → g ≠ p' ∧ g ≠ a ∧ g ≠ b) ∧ (∀ g, ev.ownBlock = some g → g ≠ p' ∧ g ≠ a ∧ g ≠ b) := by
  refine ⟨hd.other h.blk (by decide), fun g hg => ?_, fun g hg => ?_⟩
  · obtain ⟨cur, hc⟩ := row_block h.row hg
    exact hd.other hc (by decide)
  · obtain ⟨cur, hc⟩ := row_block h.ends hg
    exact hd.other hc (by decide)
/-- It stays while the device is worked on. -/
theorem JrIn.fd {w w' : World} {base p q p' a b : Nat} {J : Jr} {rv ev : Value} {d : Dev} {K : Nat} (h : JrIn w base p q J rv ev) (hd : DevIn w p' a b d K) (hf : Fd p' a b w w') : JrIn w' base p q J rv ev := by
  obtain ⟨⟨a1, a2, a3⟩, h2, h3⟩ := h.apart hd
  exact h.keep (hf.block q h.lts.1 a1 a2 a3) (fun g hg => hf.block g (h.lts.2.1 g hg) (h2 g hg).1 (h2 g hg).2.1 (h2 g hg).2.2) (fun g hg => hf.block g (h.lts.2.2 g hg) (h3 g hg).1 (h3 g hg).2.1 (h3 g hg).2.2)
/-- What is a journal's own, its device with it. -/
def Mine (p aa bb q : Nat) (rv ev : Value) (k : Nat) : Prop := k = p ∨ k = aa ∨ k = bb ∨ k = q ∨ rv.ownBlock = some k ∨ ev.ownBlock = some k
/-- All but these blocks stays; what is one's own then was so, or is new. -/
structure Ext (M M' : Nat → Prop) (w w' : World) : Prop where
  os : w'.os = w.os
  tape : w'.tape = w.tape
  output : w'.output = w.output
  size : w.heap.size ≤ w'.heap.size
  block : ∀ k, k < w.heap.size → ¬ M k → w'.heap[k]? = w.heap[k]?
  new : ∀ k, M' k → M k ∨ w.heap.size ≤ k
theorem Ext.refl (M : Nat → Prop) (w : World) : Ext M M w w := ⟨rfl, rfl, rfl, Nat.le_refl _, fun _ _ _ => rfl, fun _ h => .inl h⟩
theorem Ext.trans {M M' M'' : Nat → Prop} {w w' w'' : World} (h : Ext M M' w w') (k : Ext M' M'' w' w'') : Ext M M'' w w'' := by
  refine ⟨k.os.trans h.os, k.tape.trans h.tape, k.output.trans h.output, Nat.le_trans h.size k.size, fun i hi hn => ?_, fun i hi => ?_⟩
  · refine (k.block i (Nat.lt_of_lt_of_le hi h.size) fun hm => ?_).trans (h.block i hi hn)
    rcases h.new i hm with q | q
    · exact hn q
    · omega
  · rcases k.new i hi with q | q
    · exact h.new i q
    · exact .inr (Nat.le_trans h.size q)
theorem Ext.of_below {w w' : World} (M : Nat → Prop) (h : Below w.heap.size w w') : Ext M M w w' := ⟨h.os, h.tape, h.output, h.size, fun k hk _ => h.block k hk, fun _ h => .inl h⟩
theorem Ext.of_fd {w w' : World} {p aa bb : Nat} (q : Nat) (rv ev : Value) (h : Fd p aa bb w w') : Ext (Mine p aa bb q rv ev) (Mine p aa bb q rv ev) w w' :=
  ⟨h.os, h.tape, h.output, h.size, fun k hk hn => h.block k hk (fun e => hn (.inl e)) (fun e => hn (.inr (.inl e))) (fun e => hn (.inr (.inr (.inl e)))), fun _ h => .inl h⟩
theorem Ext.below {M M' : Nat → Prop} {w w' : World} {N : Nat} (h : Ext M M' w w') (hN : N ≤ w.heap.size) (hM : ∀ k, M k → N ≤ k) : Below N w w' :=
  ⟨h.os, h.tape, h.output, h.size, fun k hk => h.block k (by omega) (fun q => by have := hM k q; omega)⟩
/-- A journal on its device. -/
structure Jn (w : World) (base p aa bb q : Nat) (d : Dev) (K : Nat) (J : Jr) (rv ev : Value) : Prop where
  dev : DevIn w p aa bb d K
  jr : JrIn w base p q J rv ev
  lo : base ≤ p ∧ base ≤ aa ∧ base ≤ bb ∧ base ≤ q
theorem Jn.on {w w' : World} {base p aa bb q : Nat} {d : Dev} {K : Nat} {J : Jr} {rv ev : Value} (h : Jn w base p aa bb q d K J rv ev) (hb : Below w.heap.size w w') : Jn w' base p aa bb q d K J rv ev := ⟨h.dev.on hb, h.jr.on hb, h.lo⟩
theorem Jn.mine {w : World} {base p aa bb q : Nat} {d : Dev} {K : Nat} {J : Jr} {rv ev : Value} (h : Jn w base p aa bb q d K J rv ev) : ∀ k, Mine p aa bb q rv ev k → base ≤ k ∧ k < w.heap.size := by
  obtain ⟨l1, l2, l3, l4⟩ := h.lo
  obtain ⟨d1, d2, d3⟩ := h.dev.lts
  rintro k (rfl | rfl | rfl | rfl | hk | hk)
  · exact ⟨l1, d1⟩
  · exact ⟨l2, d2⟩
  · exact ⟨l3, d3⟩
  · exact ⟨l4, h.jr.lts.1⟩
  · exact World.ownsRow.lt h.jr.row k hk
  · exact World.ownsRow.lt h.jr.ends k hk
theorem Jn.fd {w w' : World} {base p aa bb q : Nat} {d d' : Dev} {K K' : Nat} {J : Jr} {rv ev : Value} (h : Jn w base p aa bb q d K J rv ev) (hd : DevIn w' p aa bb d' K') (hf : Fd p aa bb w w') : Jn w' base p aa bb q d' K' J rv ev := ⟨hd, h.jr.fd h.dev hf, h.lo⟩
/-- What a call leaves of a journal. -/
def JnTo (w : World) (base p aa bb q : Nat) (rv ev : Value) (d : Dev) (K : Nat) (J : Jr) (w' : World) : Prop :=
  ∃ rv' ev', Jn w' base p aa bb q d K J rv' ev' ∧ Ext (Mine p aa bb q rv ev) (Mine p aa bb q rv' ev') w w'
/-- One cell of its own block set. -/
theorem Jn.setq {w w' : World} {base p aa bb q : Nat} {d : Dev} {K : Nat} {J J' : Jr} {rv ev rv' ev' : Value} (h : Jn w base p aa bb q d K J rv ev) (hb : w'.heap[q]? = some (.cells (jrC p J' rv' ev') 80 (0, 0))) (hf : ∀ k, k ≠ q → w'.heap[k]? = w.heap[k]?) (hr : Own w base rv' J'.row) (he : OwnI w base ev' J'.ends) (hok : okJ J') : Jn w' base p aa bb q d K J' rv' ev' := by
  obtain ⟨⟨a1, a2, a3⟩, _, _⟩ := h.jr.apart h.dev
  refine ⟨h.dev.keep (hf p (Ne.symm a1)) (hf aa (Ne.symm a2)) (hf bb (Ne.symm a3)), ⟨hb, row_keep hr fun g hg => hf g fun e => ?_, row_keep he fun g hg => hf g fun e => ?_, hok⟩, h.lo⟩
  · obtain ⟨cur, hc⟩ := row_block hr hg
    rw [e, h.jr.blk] at hc
    simp only [Option.some.injEq, Obj.cells.injEq] at hc
    exact absurd hc.2.1 (by decide)
  · obtain ⟨cur, hc⟩ := row_block he hg
    rw [e, h.jr.blk] at hc
    simp only [Option.some.injEq, Obj.cells.injEq] at hc
    exact absurd hc.2.1 (by decide)
theorem Ext.setq {w w' : World} {p aa bb q : Nat} {rv ev rv' ev' : Value} (hos : w'.os = w.os) (htp : w'.tape = w.tape) (hou : w'.output = w.output) (hs : w.heap.size ≤ w'.heap.size) (hf : ∀ k, k ≠ q → w'.heap[k]? = w.heap[k]?) (hr : ∀ k, rv'.ownBlock = some k → rv.ownBlock = some k) (he : ∀ k, ev'.ownBlock = some k → ev.ownBlock = some k) : Ext (Mine p aa bb q rv ev) (Mine p aa bb q rv' ev') w w' := by
  refine ⟨hos, htp, hou, hs, fun k _ hn => hf k (fun e => hn (.inr (.inr (.inr (.inl e))))), ?_⟩
  rintro k (e | e | e | e | e | e)
  · exact .inl (.inl e)
  · exact .inl (.inr (.inl e))
  · exact .inl (.inr (.inr (.inl e)))
  · exact .inl (.inr (.inr (.inr (.inl e))))
  · exact .inl (.inr (.inr (.inr (.inr (.inl (hr k e))))))
  · exact .inl (.inr (.inr (.inr (.inr (.inr (he k e))))))
/-- A row of one's own cut short. -/
theorem row_cut {w : World} {base e n cap : Nat} {a : Option Addr} {xs : List Value} (h : w.ownsRow base e 1 (.slice a n cap) n xs) (m : Nat) (hm : m ≤ n) : w.ownsRow base e 1 (.slice a m cap) m (xs.take m) := by
  have hl := h.1
  refine ⟨by rw [List.length_take]; omega, ?_⟩
  rcases h.2 with ⟨e1, e2⟩ | ⟨g, cap', cur, e1, h1, h2, h3, h4, h5, h6⟩
  · cases e1
    exact .inl ⟨by rw [show m = 0 by omega], by omega⟩
  · cases e1
    refine .inr ⟨g, cap, cur, rfl, h1, h2, by omega, h4, h5, ?_⟩
    rw [← h6, List.take_take, Nat.mul_one, Nat.mul_one, Nat.min_eq_left hm]
end Go.Proofs.YtjnhcanohefjiaaGreatDoor
