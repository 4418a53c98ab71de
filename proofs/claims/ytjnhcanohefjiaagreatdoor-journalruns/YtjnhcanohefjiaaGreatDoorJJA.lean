/- A journal in memory; what is its own, and what stays when one works on it; journal's small functions: isIn; disk's Size; an area in memory; journal.read: the bytes of an area's sectors; isNoughts; endsOf; journal.endsOf: where the records of payloads end; journal's Len, Room, Waits, Epoch; refuse, fail, end, part. -/
import Derived.Test.YtjnhcanohefjiaaGreatDoorJPB
import Derived.Test.YtjnhcanohefjiaaGreatDoorJRB
import Derived.Test.YtjnhcanohefjiaaGreatDoorJDA
import Derived.Test.YtjnhcanohefjiaaGreatDoorDRead
namespace Go.Proofs.YtjnhcanohefjiaaGreatDoor
open Go.RowKit Go.Sort Go.Maps

/-- A journal, plainly: its area, its epoch, the records' payloads, how many of them are safe, the error that is answered for good. -/
structure Jr where
  a : Ar
  ep : Nat
  pss : List (List Nat)
  sf : Nat
  dead : Nat
def Jr.row (J : Jr) : List Nat := allB J.ep J.pss
def Jr.ends (J : Jr) : List Nat := endsL J.ep J.pss
/-- How many bytes the first records have. -/
def Jr.upto (J : Jr) (n : Nat) : Nat := (allB J.ep (J.pss.take n)).length
structure okJ (J : Jr) : Prop where
  pays : ∀ p ∈ J.pss, OkP p
  ep : J.ep < 18446744073709551616
  sf : J.sf ≤ J.pss.length
  len : J.row.length ≤ 64 * J.a.s.toNat
  g : 0 ≤ J.a.g ∧ J.a.g ≤ 16
  f : 0 ≤ J.a.f ∧ J.a.f ≤ 16384
  s : 1 ≤ J.a.s ∧ J.a.s ≤ 16384
theorem okJ.byte {J : Jr} (h : okJ J) : ∀ x ∈ J.row, x < 256 := allB_byte _ _ h.pays
theorem allB_len7 (ep : Nat) : ∀ pss : List (List Nat), 7 * pss.length ≤ (allB ep pss).length + pss.length
  | [] => by simp [allB]
  | p :: pss => by
    have ih := allB_len7 ep pss
    have h1 := enc_pos p.length
    have h2 := enc_pos ep
    rw [allB_cons, List.length_append, recB_length, List.length_cons]
    omega
theorem okJ.count {J : Jr} (h : okJ J) : J.pss.length ≤ 1048576 := by
  have h1 := allB_len7 J.ep J.pss
  have h2 := h.len
  have h3 := h.s
  unfold Jr.row at h2
  omega
theorem okJ.row_le {J : Jr} (h : okJ J) : J.row.length ≤ 1048576 := by
  have h2 := h.len
  have h3 := h.s
  omega
theorem upto_take (J : Jr) (n : Nat) : J.row.take (J.upto n) = allB J.ep (J.pss.take n) := by
  have e : J.row = allB J.ep (J.pss.take n) ++ allB J.ep (J.pss.drop n) := by rw [← allB_append, List.take_append_drop]; rfl
  rw [e]
  exact List.take_left
theorem upto_le (J : Jr) (n : Nat) : J.upto n ≤ J.row.length := by
  have e : J.row = allB J.ep (J.pss.take n) ++ allB J.ep (J.pss.drop n) := by rw [← allB_append, List.take_append_drop]; rfl
  rw [e, List.length_append]
  exact Nat.le_add_right _ _
theorem upto_all (J : Jr) : J.upto J.pss.length = J.row.length := by unfold Jr.upto; rw [List.take_length]; rfl
theorem upto_zero (J : Jr) : J.upto 0 = 0 := rfl
theorem ends_len (J : Jr) : J.ends.length = J.pss.length := endsL_length _ _
theorem ends_get (J : Jr) (n : Nat) (h0 : n ≠ 0) (hn : n ≤ J.pss.length) : J.ends.getD (n - 1) 0 = J.upto n := by
  unfold Jr.ends Jr.upto
  rw [endsL_get _ _ _ (by omega), show n - 1 + 1 = n by omega]
theorem upto_lt {J : Jr} {n : Nat} (hn : n < J.pss.length) : J.upto n < J.row.length := by
  have e : J.row = allB J.ep (J.pss.take n) ++ allB J.ep (J.pss.drop n) := by rw [← allB_append, List.take_append_drop]; rfl
  have h7 := allB_len7 J.ep (J.pss.drop n)
  rw [List.length_drop] at h7
  unfold Jr.upto
  rw [e, List.length_append]
  omega
/-- A journal's cells. -/
def jrC (p : Nat) (J : Jr) (rv ev : Value) : Array Value := #[.pointer (some ⟨p, 0, none⟩), .int .i64 J.a.g, .int .i64 J.a.f, .int .i64 J.a.s, .int .u64 J.ep, rv, ev, .int .i64 J.sf, errV J.dead]
/-- A journal: its own block q, on the device p; its row and its ends in rows of its own, from base on. -/
structure JrIn (w : World) (base p q : Nat) (J : Jr) (rv ev : Value) : Prop where
  blk : w.heap[q]? = some (.cells (jrC p J rv ev) 80 (0, 0))
  row : Own w base rv J.row
  ends : OwnI w base ev J.ends
  ok : okJ J
theorem row_keep {w w' : World} {base e s n : Nat} {v : Value} {xs : List Value} (h : w.ownsRow base e s v n xs) (hk : ∀ g, v.ownBlock = some g → w'.heap[g]? = w.heap[g]?) : w'.ownsRow base e s v n xs := by
  refine ⟨h.1, ?_⟩
  rcases h.2 with h1 | ⟨g, cap, cur, rfl, h1, h2, h3⟩
  · exact .inl h1
  · exact .inr ⟨g, cap, cur, rfl, h1, (hk g rfl).trans h2, h3⟩
theorem row_block {w : World} {base e s n : Nat} {v : Value} {xs : List Value} (h : w.ownsRow base e s v n xs) {g : Nat} (hg : v.ownBlock = some g) : ∃ cur, w.heap[g]? = some (.cells cur e (0, 0)) := by
  rcases h.2 with ⟨e1, _⟩ | ⟨g', cap, cur, e1, h1, h2, _⟩
  · rw [e1] at hg; cases hg
  · rw [e1] at hg
    simp only [Value.ownBlock, Option.some.injEq] at hg
    subst hg
    exact ⟨cur, h2⟩
theorem JrIn.cells {w : World} {base p q : Nat} {J : Jr} {rv ev : Value} (h : JrIn w base p q J rv ev) : w.cell? ⟨q, 0, none⟩ = some (.pointer (some ⟨p, 0, none⟩)) ∧ w.cell? ⟨q, 1, none⟩ = some (.int .i64 J.a.g) ∧ w.cell? ⟨q, 2, none⟩ = some (.int .i64 J.a.f) ∧ w.cell? ⟨q, 3, none⟩ = some (.int .i64 J.a.s) ∧ w.cell? ⟨q, 4, none⟩ = some (.int .u64 J.ep) ∧ w.cell? ⟨q, 5, none⟩ = some rv ∧ w.cell? ⟨q, 6, none⟩ = some ev ∧ w.cell? ⟨q, 7, none⟩ = some (.int .i64 J.sf) ∧ w.cell? ⟨q, 8, none⟩ = some (errV J.dead) :=
  ⟨cell_of h.blk rfl, cell_of h.blk rfl, cell_of h.blk rfl, cell_of h.blk rfl, cell_of h.blk rfl, cell_of h.blk rfl, cell_of h.blk rfl, cell_of h.blk rfl, cell_of h.blk rfl⟩
theorem JrIn.keep {w w' : World} {base p q : Nat} {J : Jr} {rv ev : Value} (h : JrIn w base p q J rv ev) (h1 : w'.heap[q]? = w.heap[q]?) (h2 : ∀ g, rv.ownBlock = some g → w'.heap[g]? = w.heap[g]?) (h3 : ∀ g, ev.ownBlock = some g → w'.heap[g]? = w.heap[g]?) : JrIn w' base p q J rv ev :=
  ⟨h1.trans h.blk, row_keep h.row h2, row_keep h.ends h3, h.ok⟩
theorem JrIn.lts {w : World} {base p q : Nat} {J : Jr} {rv ev : Value} (h : JrIn w base p q J rv ev) : q < w.heap.size ∧ (∀ g, rv.ownBlock = some g → g < w.heap.size) ∧ (∀ g, ev.ownBlock = some g → g < w.heap.size) :=
  ⟨blk_lt h.blk, fun g hg => (World.ownsRow.lt h.row g hg).2, fun g hg => (World.ownsRow.lt h.ends g hg).2⟩
theorem JrIn.on {w w' : World} {base p q : Nat} {J : Jr} {rv ev : Value} (h : JrIn w base p q J rv ev) (hb : Below w.heap.size w w') : JrIn w' base p q J rv ev :=
  h.keep (hb.block q h.lts.1) (fun g hg => hb.block g (h.lts.2.1 g hg)) (fun g hg => hb.block g (h.lts.2.2 g hg))
/-- No block of a device. -/
theorem DevIn.other {w : World} {p a b : Nat} {d : Dev} {K : Nat} (h : DevIn w p a b d K) {k : Nat} {c : Array Value} {t : TypeId} {z : Nat × Nat} (hk : w.heap[k]? = some (.cells c t z)) (ht : t ≠ 71) : k ≠ p ∧ k ≠ a ∧ k ≠ b := by
  refine ⟨fun e => ?_, fun e => ?_, fun e => ?_⟩
  · rw [e, h.blk] at hk
    simp only [Option.some.injEq, Obj.cells.injEq] at hk
    exact ht hk.2.1.symm
  · obtain ⟨es, cl, h1⟩ := h.mapA
    rw [e, h1] at hk; cases hk
  · obtain ⟨es, cl, h1⟩ := h.mapB
    rw [e, h1] at hk; cases hk
theorem JrIn.apart {w : World} {base p q p' a b : Nat} {J : Jr} {rv ev : Value} {d : Dev} {K : Nat} (h : JrIn w base p q J rv ev) (hd : DevIn w p' a b d K) : (q ≠ p' ∧ q ≠ a ∧ q ≠ b) ∧ (∀ g, rv.ownBlock = some g → g ≠ p' ∧ g ≠ a ∧ g ≠ b) ∧ (∀ g, ev.ownBlock = some g → g ≠ p' ∧ g ≠ a ∧ g ≠ b) := by
  refine ⟨hd.other h.blk (by decide), fun g hg => ?_, fun g hg => ?_⟩
  · obtain ⟨cur, hc⟩ := row_block h.row hg
    exact hd.other hc (by decide)
  · obtain ⟨cur, hc⟩ := row_block h.ends hg
    exact hd.other hc (by decide)
/-- It stays while the device is worked on. -/
theorem JrIn.fd {w w' : World} {base p q p' a b : Nat} {J : Jr} {rv ev : Value} {d : Dev} {K : Nat} (h : JrIn w base p q J rv ev) (hd : DevIn w p' a b d K) (hf : Fd p' a b w w') : JrIn w' base p q J rv ev := by
  obtain ⟨⟨a1, a2, a3⟩, h2, h3⟩ := h.apart hd
  exact h.keep (hf.block q h.lts.1 a1 a2 a3) (fun g hg => hf.block g (h.lts.2.1 g hg) (h2 g hg).1 (h2 g hg).2.1 (h2 g hg).2.2) (fun g hg => hf.block g (h.lts.2.2 g hg) (h3 g hg).1 (h3 g hg).2.1 (h3 g hg).2.2)
/-- What is a journal's own, its device with it. -/
def Mine (p aa bb q : Nat) (rv ev : Value) (k : Nat) : Prop := k = p ∨ k = aa ∨ k = bb ∨ k = q ∨ rv.ownBlock = some k ∨ ev.ownBlock = some k
/-- All but these blocks stays; what is one's own then was so, or is new. -/
structure Ext (M M' : Nat → Prop) (w w' : World) : Prop where
  os : w'.os = w.os
  tape : w'.tape = w.tape
  output : w'.output = w.output
  size : w.heap.size ≤ w'.heap.size
  block : ∀ k, k < w.heap.size → ¬ M k → w'.heap[k]? = w.heap[k]?
  new : ∀ k, M' k → M k ∨ w.heap.size ≤ k
theorem Ext.refl (M : Nat → Prop) (w : World) : Ext M M w w := ⟨rfl, rfl, rfl, Nat.le_refl _, fun _ _ _ => rfl, fun _ h => .inl h⟩
theorem Ext.trans {M M' M'' : Nat → Prop} {w w' w'' : World} (h : Ext M M' w w') (k : Ext M' M'' w' w'') : Ext M M'' w w'' := by
  refine ⟨k.os.trans h.os, k.tape.trans h.tape, k.output.trans h.output, Nat.le_trans h.size k.size, fun i hi hn => ?_, fun i hi => ?_⟩
  · refine (k.block i (Nat.lt_of_lt_of_le hi h.size) fun hm => ?_).trans (h.block i hi hn)
    rcases h.new i hm with q | q
    · exact hn q
    · omega
  · rcases k.new i hi with q | q
    · exact h.new i q
    · exact .inr (Nat.le_trans h.size q)
theorem Ext.of_below {w w' : World} (M : Nat → Prop) (h : Below w.heap.size w w') : Ext M M w w' := ⟨h.os, h.tape, h.output, h.size, fun k hk _ => h.block k hk, fun _ h => .inl h⟩
theorem Ext.of_fd {w w' : World} {p aa bb : Nat} (q : Nat) (rv ev : Value) (h : Fd p aa bb w w') : Ext (Mine p aa bb q rv ev) (Mine p aa bb q rv ev) w w' :=
  ⟨h.os, h.tape, h.output, h.size, fun k hk hn => h.block k hk (fun e => hn (.inl e)) (fun e => hn (.inr (.inl e))) (fun e => hn (.inr (.inr (.inl e)))), fun _ h => .inl h⟩
theorem Ext.below {M M' : Nat → Prop} {w w' : World} {N : Nat} (h : Ext M M' w w') (hN : N ≤ w.heap.size) (hM : ∀ k, M k → N ≤ k) : Below N w w' :=
  ⟨h.os, h.tape, h.output, h.size, fun k hk => h.block k (by omega) (fun q => by have := hM k q; omega)⟩
/-- A journal on its device. -/
structure Jn (w : World) (base p aa bb q : Nat) (d : Dev) (K : Nat) (J : Jr) (rv ev : Value) : Prop where
  dev : DevIn w p aa bb d K
  jr : JrIn w base p q J rv ev
  lo : base ≤ p ∧ base ≤ aa ∧ base ≤ bb ∧ base ≤ q
theorem Jn.on {w w' : World} {base p aa bb q : Nat} {d : Dev} {K : Nat} {J : Jr} {rv ev : Value} (h : Jn w base p aa bb q d K J rv ev) (hb : Below w.heap.size w w') : Jn w' base p aa bb q d K J rv ev := ⟨h.dev.on hb, h.jr.on hb, h.lo⟩
theorem Jn.mine {w : World} {base p aa bb q : Nat} {d : Dev} {K : Nat} {J : Jr} {rv ev : Value} (h : Jn w base p aa bb q d K J rv ev) : ∀ k, Mine p aa bb q rv ev k → base ≤ k ∧ k < w.heap.size := by
  obtain ⟨l1, l2, l3, l4⟩ := h.lo
  obtain ⟨d1, d2, d3⟩ := h.dev.lts
  rintro k (rfl | rfl | rfl | rfl | hk | hk)
  · exact ⟨l1, d1⟩
  · exact ⟨l2, d2⟩
  · exact ⟨l3, d3⟩
  · exact ⟨l4, h.jr.lts.1⟩
  · exact World.ownsRow.lt h.jr.row k hk
  · exact World.ownsRow.lt h.jr.ends k hk
theorem Jn.fd {w w' : World} {base p aa bb q : Nat} {d d' : Dev} {K K' : Nat} {J : Jr} {rv ev : Value} (h : Jn w base p aa bb q d K J rv ev) (hd : DevIn w' p aa bb d' K') (hf : Fd p aa bb w w') : Jn w' base p aa bb q d' K' J rv ev := ⟨hd, h.jr.fd h.dev hf, h.lo⟩
/-- What a call leaves of a journal. -/
def JnTo (w : World) (base p aa bb q : Nat) (rv ev : Value) (d : Dev) (K : Nat) (J : Jr) (w' : World) : Prop :=
  ∃ rv' ev', Jn w' base p aa bb q d K J rv' ev' ∧ Ext (Mine p aa bb q rv ev) (Mine p aa bb q rv' ev') w w'
/-- One cell of its own block set. -/
theorem Jn.setq {w w' : World} {base p aa bb q : Nat} {d : Dev} {K : Nat} {J J' : Jr} {rv ev rv' ev' : Value} (h : Jn w base p aa bb q d K J rv ev) (hb : w'.heap[q]? = some (.cells (jrC p J' rv' ev') 80 (0, 0))) (hf : ∀ k, k ≠ q → w'.heap[k]? = w.heap[k]?) (hr : Own w base rv' J'.row) (he : OwnI w base ev' J'.ends) (hok : okJ J') : Jn w' base p aa bb q d K J' rv' ev' := by
  obtain ⟨⟨a1, a2, a3⟩, _, _⟩ := h.jr.apart h.dev
  refine ⟨h.dev.keep (hf p (Ne.symm a1)) (hf aa (Ne.symm a2)) (hf bb (Ne.symm a3)), ⟨hb, row_keep hr fun g hg => hf g fun e => ?_, row_keep he fun g hg => hf g fun e => ?_, hok⟩, h.lo⟩
  · obtain ⟨cur, hc⟩ := row_block hr hg
    rw [e, h.jr.blk] at hc
    simp only [Option.some.injEq, Obj.cells.injEq] at hc
    exact absurd hc.2.1 (by decide)
  · obtain ⟨cur, hc⟩ := row_block he hg
    rw [e, h.jr.blk] at hc
    simp only [Option.some.injEq, Obj.cells.injEq] at hc
    exact absurd hc.2.1 (by decide)
theorem Ext.setq {w w' : World} {p aa bb q : Nat} {rv ev rv' ev' : Value} (hos : w'.os = w.os) (htp : w'.tape = w.tape) (hou : w'.output = w.output) (hs : w.heap.size ≤ w'.heap.size) (hf : ∀ k, k ≠ q → w'.heap[k]? = w.heap[k]?) (hr : ∀ k, rv'.ownBlock = some k → rv.ownBlock = some k) (he : ∀ k, ev'.ownBlock = some k → ev.ownBlock = some k) : Ext (Mine p aa bb q rv ev) (Mine p aa bb q rv' ev') w w' := by
  refine ⟨hos, htp, hou, hs, fun k _ hn => hf k (fun e => hn (.inr (.inr (.inr (.inl e))))), ?_⟩
  rintro k (e | e | e | e | e | e)
  · exact .inl (.inl e)
  · exact .inl (.inr (.inl e))
  · exact .inl (.inr (.inr (.inl e)))
  · exact .inl (.inr (.inr (.inr (.inl e))))
  · exact .inl (.inr (.inr (.inr (.inr (.inl (hr k e))))))
  · exact .inl (.inr (.inr (.inr (.inr (.inr (he k e))))))
/-- A row of one's own cut short. -/
theorem row_cut {w : World} {base e n cap : Nat} {a : Option Addr} {xs : List Value} (h : w.ownsRow base e 1 (.slice a n cap) n xs) (m : Nat) (hm : m ≤ n) : w.ownsRow base e 1 (.slice a m cap) m (xs.take m) := by
  have hl := h.1
  refine ⟨by rw [List.length_take]; omega, ?_⟩
  rcases h.2 with ⟨e1, e2⟩ | ⟨g, cap', cur, e1, h1, h2, h3, h4, h5, h6⟩
  · cases e1
    exact .inl ⟨by rw [show m = 0 by omega], by omega⟩
  · cases e1
    refine .inr ⟨g, cap, cur, rfl, h1, h2, by omega, h4, h5, ?_⟩
    rw [← h6, List.take_take, Nat.mul_one, Nat.mul_one, Nat.min_eq_left hm]
end Go.Proofs.YtjnhcanohefjiaaGreatDoor

namespace Go.Proofs.YtjnhcanohefjiaaGreatDoor
open Go.RowKit Go.Sort Go.Maps

/-- An area as a value. -/
def arV (a : Ar) : Value := .agg #[.int .i64 a.g, .int .i64 a.f, .int .i64 a.s]
def inR (a : Ar) : Prop := inI a.g ∧ inI a.f ∧ inI a.s
theorem wraps_i64 (n : Int) (h0 : -9223372036854775808 ≤ n) (h1 : n ≤ 9223372036854775807) : IntKind.i64.wrap n = n := by rw [IntKind.wrap_i64]; omega
/-- An area in a block of its own. -/
def ArAt (w : World) (b : Nat) (a : Ar) : Prop := w.heap[b]? = some (.cells #[.int .i64 a.g, .int .i64 a.f, .int .i64 a.s] 36 (0, 0))
theorem ArAt.on {w w' : World} {b : Nat} {a : Ar} (h : ArAt w b a) (hb : Below w.heap.size w w') : ArAt w' b a := (hb.block b (blk_lt h)).trans h
theorem ArAt.cells {w : World} {b : Nat} {a : Ar} (h : ArAt w b a) : w.cell? ⟨b, 0, none⟩ = some (.int .i64 a.g) ∧ w.cell? ⟨b, 1, none⟩ = some (.int .i64 a.f) ∧ w.cell? ⟨b, 2, none⟩ = some (.int .i64 a.s) := ⟨cell_of h rfl, cell_of h rfl, cell_of h rfl⟩
def arW' (w : World) (a : Ar) : World := w.alloc (.cells #[.int .i64 a.g, .int .i64 a.f, .int .i64 a.s] 36)
theorem arW'_at (w : World) (a : Ar) : ArAt (arW' w a) w.heap.size a := World.alloc_heap_new' _ _
theorem arW'_below (w : World) (a : Ar) : Below w.heap.size w (arW' w a) := (Below.refl _ _).alloc (Nat.le_refl _) _
set_option maxHeartbeats 1000000 in
theorem dsize_ {w : World} {p aa bb : Nat} {d : Dev} {K : Nat} (h : DevIn w p aa bb d K) :
    Calls Tryz.prog 48 #[.pointer (some ⟨p, 0, none⟩)] w fun e w' => e = .returned (.tuple #[.int .i64 d.r, .int .i64 d.s]) ∧ Below w.heap.size w w' := by
  obtain ⟨c0, c1, _, _, _, _, _⟩ := h.cells
  clear h
  generalize d.r = r at *
  generalize d.s = s at *
  go_enter Tryz.func48, Tryz.ntmps48
  go_wp2_with fail
  go_quiet (fail)
  have HB := Lib.hid (below_drewN (Below.refl w.heap.size w) nq)
  go_wp2_with fail
  go_ret2
  exact ⟨rfl, HB.out⟩
set_option maxRecDepth 100000 in
set_option maxHeartbeats 2000000 in
theorem isIn_ {w : World} {p aa bb : Nat} {d : Dev} {K : Nat} (h : DevIn w p aa bb d K) (a : Ar) (hr : inR a) :
    Calls Tryz.prog 23 #[arV a, .pointer (some ⟨p, 0, none⟩)] w fun e w' => e = .returned (.bool (decide (inJ d a))) ∧ Below w.heap.size w w' := by
  have hb := arW'_below w a
  have HS := Lib.hid (dsize_ (h.on hb))
  have HA := Lib.hid (arW'_at w a)
  have HB := Lib.hid hb
  have hl := h.lim
  unfold inJ
  unfold arW' at *
  clear hb h
  obtain ⟨g, f, s⟩ := a
  obtain ⟨⟨r1, r2⟩, ⟨r3, r4⟩, r5, r6⟩ := hr
  unfold arV
  simp only at *
  generalize d.r = dr at *
  generalize d.s = ds at *
  obtain ⟨l1, l2, l3, l4⟩ := hl
  generalize hV : w.alloc (.cells #[.int .i64 g, .int .i64 f, .int .i64 s] 36) = V at *
  have key : ∀ b : Bool, b = decide (0 ≤ g ∧ g < dr ∧ 0 ≤ f ∧ 1 ≤ s ∧ s ≤ ds ∧ f ≤ ds - s) → ∀ (e : Ending) (w' : World), e = .returned (.bool b) → Below w.heap.size w w' → e = .returned (.bool (decide (0 ≤ g ∧ g < dr ∧ 0 ≤ f ∧ 1 ≤ s ∧ s ≤ ds ∧ f ≤ ds - s))) ∧ Below w.heap.size w w' := by
    intro b hb e w' he hw
    exact ⟨he.trans (ret_bool hb), hw⟩
  go_enter Tryz.func23, Tryz.ntmps23
  go_wp2_with fail
  refine HS.out.mono ?_
  rintro e w1 ⟨rfl, hb1⟩
  have HB1 := Lib.hid (below_step HB.out hb1)
  obtain ⟨x0, x1, x2⟩ := (HA.out.on hb1).cells
  simp only at x0 x1 x2
  clear hb1 HS HA hV
  by_cases c1 : g < 0
  · go_wp2_with fail
    go_ret
    exact key false (by symm; exact decide_eq_false (by omega)) _ _ rfl HB1.out
  · by_cases c2 : g ≥ dr
    · go_wp2_with fail
      go_ret
      exact key false (by symm; exact decide_eq_false (by omega)) _ _ rfl HB1.out
    · by_cases c3 : f < 0
      · go_wp2_with fail
        go_ret
        exact key false (by symm; exact decide_eq_false (by omega)) _ _ rfl HB1.out
      · by_cases c4 : s < 1
        · go_wp2_with fail
          go_ret
          exact key false (by symm; exact decide_eq_false (by omega)) _ _ rfl HB1.out
        · by_cases c5 : s ≤ ds
          · have w1 := wraps_i64 (ds - s) (by omega) (by omega)
            by_cases c6 : f ≤ ds - s
            · go_wp2_with fail
              go_ret
              exact key true (by symm; exact decide_eq_true (by omega)) _ _ rfl HB1.out
            · have b6 : decide (f ≤ ds - s) = false := decide_eq_false c6
              go_wp2_with fail
              go_ret
              exact key false (by symm; exact decide_eq_false (by omega)) _ _ rfl HB1.out
          · have b5 : decide (s ≤ ds) = false := decide_eq_false c5
            go_wp2_with fail
            go_ret
            exact key false (by symm; exact decide_eq_false (by omega)) _ _ rfl HB1.out
end Go.Proofs.YtjnhcanohefjiaaGreatDoor

namespace Go.Proofs.YtjnhcanohefjiaaGreatDoor
open Go.RowKit Go.Sort Go.Maps

theorem own_some' {w : World} {base : Nat} {v : Value} {xs : List Nat} (h : Own w base v xs) (hp : 0 < xs.length) : ∃ g c, v = .slice (some ⟨g, 0, none⟩) xs.length c ∧ xs.length ≤ c ∧ base ≤ g ∧ g < w.heap.size := by
  rcases h.2 with ⟨_, e⟩ | ⟨g, cap, cur, e, h1, h2, h3, _⟩
  · omega
  · exact ⟨g, cap, e, h3, h1, blk_lt h2⟩
theorem World.size_alloc' (w : World) (o : Obj) : (w.alloc o).heap.size = w.heap.size + 1 := by simp
set_option maxRecDepth 100000 in
set_option maxHeartbeats 2000000 in
theorem jread_ {w : World} {p aa bb : Nat} {d : Dev} {K : Nat} (h : DevIn w p aa bb d K) (a : Ar) (hin : inJ d a) (hc : d.crashed = false) :
    Calls Tryz.prog 24 #[.pointer (some ⟨p, 0, none⟩), arV a] w fun e w' => ∃ g c, e = .returned (.tuple #[.slice (some ⟨g, 0, none⟩) (64 * a.s.toNat) c, .nilIface]) ∧ BytesIn w' (some ⟨g, 0, none⟩) (heldJ d a) ∧ 64 * a.s.toNat ≤ c ∧ Below w.heap.size w w' := by
  obtain ⟨i0, hi, hz0, hz1, hz2⟩ := info_parts infoB
  have hlim := h.lim
  have HR : Hid (∀ W (i : Nat), i < a.s.toNat → Below w.heap.size w W → Calls Tryz.prog 49 #[.pointer (some ⟨p, 0, none⟩), .int .i64 a.g, .int .i64 (a.f + i)] W (GotC W (readD d (a.g, a.f + i)))) := fun W i hi hW => read_ok (h.on hW) (a.g, a.f + i) (inJ_has hin hi) hc
  have HL : Hid (∀ i, (secsB d a.g a.f i).length = 64 * i) := secsB_len h.ok a.g a.f
  have HC : Hid (∀ i : Nat, (readD d (a.g, a.f + i)).length = 64) := fun i => (okC_read h.ok _).1
  have hb0 := arW'_below w a
  have hat := arW'_at w a
  obtain ⟨n, hn⟩ : ∃ n, n = a.s.toNat := ⟨_, rfl⟩
  unfold heldJ
  rw [← hn] at HR ⊢
  obtain ⟨i1, i2, i3, i4, i5, i6⟩ := hin
  have hs : a.s = (n : Int) := by omega
  have hn1 : 1 ≤ n := by omega
  have hn2 : n ≤ 16384 := by omega
  have hf2 : a.f ≤ 16384 := by omega
  unfold arW' at hb0 hat
  unfold arV
  obtain ⟨g, f, s⟩ := a
  simp only at *
  subst hs
  clear h hn i1 i2 i4 i5 i6
  have HB0 := Lib.hid hb0
  have HA := Lib.hid hat
  obtain ⟨x0, x1, x2⟩ := hat.cells
  simp only at x0 x1 x2
  have hw1 := wraps_i64 ((n : Int) * 64) (by omega) (by omega)
  clear hb0 hat
  have hsz := HB0.out.size
  go_enter Tryz.func24, Tryz.ntmps24
  go_wp2_with (first
    | (at_make; refine wpList_make_own _ rfl _ _ _ rfl w.heap.size 5 i0 _ 1 Tryz.underlying53 hi hz0 hz1 .i64 .i64 _ (64 * n) rfl rfl (by omega) (by rw [hz2]; omega) (by unfold maxLen; omega) hsz ?_
       intro w1 hown hgrow
       have HB := Lib.hid (HB0.out.grown hgrow hsz (fun k hk => by cases hk))
       have HO : Hid (Own w1 w.heap.size (.slice (some ⟨w.heap.size + 1, 0, none⟩) 0 (64 * n)) []) := by
         have q := hown
         rw [World.size_alloc'] at q
         exact q
       have HA1 := Lib.hid (HA.out.on (below_grown_none hgrow))
       obtain ⟨y0, y1, y2⟩ := HA1.out.cells
       clear hown hgrow x0 x1 x2)
    | fail)
  go_loopw [6, 16] (fun ov iv wr => ∃ i : Nat, iv = .int .i64 i ∧ i ≤ n ∧ Hid (Own wr w.heap.size ov (secsB d g f i)) ∧ Hid (Below w.heap.size w wr) ∧ Hid (ArAt wr w.heap.size ⟨g, f, (n : Int)⟩)) (fun _ iv _ => n - (intOf iv).toNat)
  case atStart => exact ⟨0, rfl, Nat.zero_le _, HO, HB, HA1⟩
  case round =>
    obtain ⟨i, rfl, hin, HO1, HB1, HA2⟩ := hrel
    clear HO HB y0 y1 y2 HA1
    obtain ⟨z0, z1, z2⟩ := HA2.out.cells
    by_cases hlt : i < n
    · have hlt2 : (i : Int) < (n : Int) := by omega
      have hwr := wraps_i64 (f + i) (by omega) (by omega)
      have HL1 := HL.out i
      go_wp2_with (first
        | (go_at_call 49; refine (HR.out _ i hlt HB1.out).mono ?_; rintro e w2 ⟨gg, rfl, hgg, hgb, hb2⟩
           have HO2 := Lib.hid (HO1.out.on hb2)
           have HB2 := Lib.hid (below_step HB1.out hb2)
           have HG := Lib.hid (ct_bytes 5 hgb)
           have HA3 := Lib.hid (HA2.out.on hb2)
           clear hgg hgb hb2)
        | (at_builtin; refine wpList_append_bytes _ rfl _ _ rfl w.heap.size _ (secsB d g f i) (readD d (g, f + i)) rfl HO2.out (some ⟨gg, 0, none⟩) 64 64 rfl (HC.out i) (by simp) HG.out (by rw [HL1, HC.out i]; omega) HB2.out.size ?_
           intro v' w3 hown hgrow
           have HO3 := Lib.hid hown
           have HB3 := Lib.hid (below_grow HB2.out HO2.out hgrow)
           have HA4 : Hid (ArAt w3 w.heap.size ⟨g, f, (n : Int)⟩) := (hgrow.block _ (blk_lt HA3.out) (fun e => by
             obtain ⟨cur, hc⟩ := row_block HO2.out e.symm
             have := HA3.out
             unfold ArAt at this
             rw [this] at hc
             simp only [Option.some.injEq, Obj.cells.injEq] at hc
             exact absurd hc.2.1 (by decide))).trans HA3.out
           clear hown hgrow)
        | fail)
      go_roundw
      case rel => exact ⟨i + 1, by go_num, by omega, by rw [secsB_snoc]; exact HO3, HB3, HA4⟩
      case measure => simp [intOf]; omega
    · have hlt2 : ¬ (i : Int) < (n : Int) := by omega
      obtain rfl : i = n := by omega
      have HL1 := HL.out i
      obtain ⟨gg, c, hv, hcap, _, _⟩ := own_some' HO1.out (by rw [HL1]; omega)
      subst hv
      have hby := HO1.out.cells.2.1
      rw [HL1] at hcap ⊢
      have HE := Lib.hid (And.intro hby hcap)
      clear hby hcap HL1
      go_wp2_with fail
      go_ret2
      exact ⟨gg, c, rfl, HE.out.1, HE.out.2, HB1.out⟩
set_option maxRecDepth 100000 in
set_option maxHeartbeats 1000000 in
theorem noughts_ (a : Option Addr) (xs : List Nat) (n c : Nat) (w : World) (h : BytesIn w a xs) (hn : xs.length = n) (hlim : n ≤ 1048576) :
    Calls Tryz.prog 51 #[.slice a n c] w fun e w' => e = .returned (.bool (nought xs)) ∧ w' = w := by
  have HN : Hid (nought xs = (xs.drop 0).all (fun x => decide (x = 0))) := rfl
  have HI := Lib.hid h
  clear h
  go_enter Tryz.func51, Tryz.ntmps51
  go_wp2_with fail
  go_loopw [7] (fun iv wr => ∃ i : Nat, iv = .int .i64 i ∧ i ≤ n ∧ wr = w ∧ Hid (nought xs = (xs.drop i).all (fun x => decide (x = 0)))) (fun iv _ => n - (intOf iv).toNat)
  case atStart => exact ⟨0, rfl, Nat.zero_le _, rfl, HN⟩
  case round =>
    obtain ⟨i, rfl, hi, rfl, HT⟩ := hrel
    by_cases hlt : i < n
    · obtain ⟨b, o, rfl, hcell⟩ := HI.out i (by omega)
      have hlt2 : (i : Int) < (n : Int) := by omega
      have hi0 : (0 : Int) ≤ (i : Int) := by omega
      have hd : xs.drop i = xs.getD i 0 :: xs.drop (i + 1) := by
        rw [List.drop_eq_getElem_cons (by omega), List.getD_eq_getElem?_getD, List.getElem?_eq_getElem (by omega)]; rfl
      have HD := Lib.hid hd
      generalize xs.getD i 0 = x at *
      clear hd
      by_cases hx : x = 0
      · subst hx
        go_wp2_with fail
        go_roundw
        case rel => exact ⟨i + 1, by go_num, by omega, trivial, by rw [HT.out, HD.out]; rfl⟩
        case measure => simp [intOf]; omega
      · have hx2 : ((x : Int) == 0) = false := by simpa using (by omega : ¬ (x : Int) = 0)
        have hf : nought xs = false := by rw [HT.out, HD.out]; simp [hx]
        go_wp2_with fail
        go_ret
        exact ⟨by first | rfl | (rw [hf]; rfl), rfl⟩
    · have hlt2 : ¬ (i : Int) < (n : Int) := by omega
      have ht : nought xs = true := by rw [HT.out, List.drop_eq_nil_of_le (by omega)]; rfl
      go_wp2_with fail
      go_ret
      exact ⟨by first | rfl | (rw [ht]; rfl), rfl⟩
end Go.Proofs.YtjnhcanohefjiaaGreatDoor

namespace Go.Proofs.YtjnhcanohefjiaaGreatDoor
open Go.RowKit Go.Sort Go.Maps

theorem set_next (es : List Nat) (n i : Nat) (hl : es.length = n) (hi : i < n) : (valsI (es.take i ++ List.replicate (n - i) 0)).set i (.int .i64 (es.getD i 0 : Nat)) = valsI (es.take (i + 1) ++ List.replicate (n - (i + 1)) 0) := by
  apply List.ext_getElem?
  intro j
  have hget : es.getD i 0 = es[i]'(by omega) := by rw [List.getD_eq_getElem?_getD, List.getElem?_eq_getElem (by omega)]; rfl
  rw [List.getElem?_set]
  have hlen : (valsI (es.take i ++ List.replicate (n - i) 0)).length = n := by simp [valsI]; omega
  by_cases hj : i = j
  · subst hj
    rw [if_pos rfl, if_pos (by omega)]
    unfold valsI
    rw [List.getElem?_map, List.getElem?_append_left (by simp; omega), List.getElem?_take, if_pos (by omega), List.getElem?_eq_getElem (by omega), hget]
    rfl
  · rw [if_neg hj]
    unfold valsI
    rw [List.getElem?_map, List.getElem?_map]
    congr 1
    by_cases hlt : j < i
    · rw [List.getElem?_append_left (by simp; omega), List.getElem?_append_left (by simp; omega), List.getElem?_take, List.getElem?_take, if_pos hlt, if_pos (by omega)]
    · rw [List.getElem?_append_right (by simp; omega), List.getElem?_append_right (by simp; omega), List.getElem?_replicate, List.getElem?_replicate]
      simp only [List.length_take]
      by_cases hn : j < n
      · rw [if_pos (by omega), if_pos (by omega)]
      · rw [if_neg (by omega), if_neg (by omega)]
theorem allB_step (ep : Nat) (yss : List (List Nat)) (i : Nat) (hi : i < yss.length) : (allB ep (yss.take (i + 1))).length = (allB ep (yss.take i)).length + (recB ep (yss.getD i [])).length := by
  have e : yss.take (i + 1) = yss.take i ++ [yss.getD i []] := by
    rw [List.take_add_one, List.getElem?_eq_getElem hi, List.getD_eq_getElem?_getD, List.getElem?_eq_getElem hi]; rfl
  rw [e, allB_append, allB_one, List.length_append]
theorem lenR_ok (ep : Nat) (p : List Nat) (h : OkP p) : lenR ep p.length = ((recB ep p).length, 0) := by
  have h0 : p.length ≠ 0 := fun e => h.1 (List.eq_nil_of_length_eq_zero e)
  have hr : refu p.length = 0 := refu_ok (by omega) (by have := h.2.1; omega)
  unfold lenR
  rw [if_pos hr, recB_length]
  rfl
theorem made_ints {w : World} {base g n : Nat} (es : List Nat) (h : w.ownsRow base 3 1 (.slice (some ⟨g, 0, none⟩) n n) n (madeCells (Value.int .i64 0).cells (n * 1)).toList) : w.ownsRow base 3 1 (.slice (some ⟨g, 0, none⟩) n n) n (valsI (es.take 0 ++ List.replicate (n - 0) 0)) := by
  have e : (madeCells (Value.int .i64 0).cells (n * 1)).toList = valsI (es.take 0 ++ List.replicate (n - 0) 0) := by
    rw [show (Value.int IntKind.i64 0).cells = #[.int .i64 0] from rfl, toList_madeCells_one]
    simp [valsI]
  rw [← e]
  exact h
set_option maxRecDepth 100000 in
set_option maxHeartbeats 2000000 in
theorem endsOf_ (ep : Nat) (la : Option Addr) (yss : List (List Nat)) (n c : Nat) (w : World) (h : ListIn w la yss) (hn : yss.length = n) (hok : ∀ p ∈ yss, OkP p) (he : ep < 18446744073709551616) (hlim : (allB ep yss).length ≤ 1048576) (hcnt : n ≤ 1048576) :
    Calls Tryz.prog 27 #[.int .u64 ep, .slice la n c] w fun e w' => ∃ v, e = .returned v ∧ OwnI w' w.heap.size v (endsL ep yss) ∧ Below w.heap.size w w' := by
  obtain ⟨i0, hi, hz0, hz1, hz2⟩ := info_parts infoI
  have HI := Lib.hid h
  have HLe : Hid ((endsL ep yss).length = n) := by rw [endsL_length]; exact hn
  have HSt : Hid (∀ i, i < n → (allB ep (yss.take (i + 1))).length = (allB ep (yss.take i)).length + (recB ep (yss.getD i [])).length ∧ (endsL ep yss).getD i 0 = (allB ep (yss.take (i + 1))).length ∧ (allB ep (yss.take (i + 1))).length ≤ 1048576) := fun i hi => by
    refine ⟨allB_step ep yss i (by omega), endsL_get ep yss i (by omega), ?_⟩
    have e : allB ep yss = allB ep (yss.take (i + 1)) ++ allB ep (yss.drop (i + 1)) := by rw [← allB_append, List.take_append_drop]
    rw [e, List.length_append] at hlim
    omega
  have HL : Hid (∀ W i, i < n → Calls Tryz.prog 22 #[.int .u64 ep, .int .i64 ((yss.getD i []).length : Nat)] W fun e w' => e = .returned (.tuple #[.int .i64 ((recB ep (yss.getD i [])).length : Nat), .nilIface]) ∧ w' = W) := fun W i hi => by
    have hp : OkP (yss.getD i []) := hok _ (by rw [List.getD_eq_getElem?_getD, List.getElem?_eq_getElem (by omega)]; exact List.getElem_mem (by omega))
    have q := rlen_ ep ((yss.getD i []).length : Nat) W he (by omega) (by have := hp.2.1; omega)
    rw [lenR_ok ep _ hp] at q
    exact q
  have HSe : Hid (∀ i, i < n → (valsI ((endsL ep yss).take i ++ List.replicate (n - i) 0)).set i (.int .i64 ((endsL ep yss).getD i 0 : Nat)) = valsI ((endsL ep yss).take (i + 1) ++ List.replicate (n - (i + 1)) 0)) := fun i hi => set_next _ n i HLe.out hi
  clear h hok hlim
  go_enter Tryz.func27, Tryz.ntmps27
  go_wp2_with (first
    | (at_make; refine wpList_make_full _ rfl _ _ _ rfl w.heap.size 3 i0 _ 1 Tryz.underlying41 hi hz0 hz1 .i64 .i64 _ _ n rfl rfl rfl rfl (by rw [hz2]; omega) (by unfold maxLen; omega) (Nat.le_refl _) ?_
       intro w1 hown hgrow
       have HB := Lib.hid ((Below.refl w.heap.size w).grown hgrow (Nat.le_refl _) (fun k hk => by cases hk))
       have HO := Lib.hid (made_ints (endsL ep yss) hown)
       clear hown hgrow)
    | fail)
  go_loopw [6, 16] (fun ev iv wr => ∃ i : Nat, iv = .int .i64 i ∧ ev = .int .i64 ((allB ep (yss.take i)).length : Nat) ∧ i ≤ n ∧ Hid (wr.ownsRow w.heap.size 3 1 (.slice (some ⟨w.heap.size, 0, none⟩) n n) n (valsI ((endsL ep yss).take i ++ List.replicate (n - i) 0))) ∧ Hid (Below w.heap.size w wr)) (fun _ iv _ => n - (intOf iv).toNat)
  case atStart => exact ⟨0, rfl, rfl, Nat.zero_le _, HO, HB⟩
  case round =>
    obtain ⟨i, rfl, rfl, hin, HO1, HB1⟩ := hrel
    clear HO HB
    by_cases hlt : i < n
    · have hlt2 : (i : Int) < (n : Int) := by omega
      have hi0 : (0 : Int) ≤ (i : Int) := by omega
      obtain ⟨b, o, rfl, a1, c1, hc1, _⟩ := (HI.out.on HB1.out) i (by omega)
      obtain ⟨s1, s2, s3⟩ := HSt.out i hlt
      have HLi := Lib.hid (fun W => HL.out W i hlt)
      have HSi := Lib.hid (HSe.out i hlt)
      rw [s2] at HSi
      obtain ⟨hO2, hG2⟩ := HO1.out.stored i (.int .i64 ((allB ep (yss.take (i + 1))).length : Nat))
      rw [HSi.out] at hO2
      have HO2 := Lib.hid hO2
      have HB2 := Lib.hid (HB1.out.grown hG2 HB1.out.size (fun k hk => by cases hk; exact Nat.le_refl _))
      have hcl : wr.cell? ⟨w.heap.size, i, none⟩ = some (.int .i64 (((endsL ep yss).take i ++ List.replicate (n - i) 0).getD i 0 : Nat)) := by
        rw [HO1.out.cellAt i (by omega)]
        have hl3 : i < ((endsL ep yss).take i ++ List.replicate (n - i) 0).length := by rw [List.length_append, List.length_take, HLe.out, List.length_replicate]; omega
        simp only [valsI, List.getElem?_map, List.getElem?_eq_getElem hl3, List.getD_eq_getElem?_getD]; rfl
      have hfz := HO1.out.frozenAt i
      clear hO2 hG2 HSi s2
      generalize ((endsL ep yss).take i ++ List.replicate (n - i) 0).getD i 0 = old at *
      generalize (recB ep (yss.getD i [])).length = rl at *
      generalize (yss.getD i []).length = yl at *
      rw [s1] at HO2 HB2 s3
      have HS1 := Lib.hid s1
      clear s1
      generalize (allB ep (yss.take i)).length = en at *
      have hw1 := wraps_i64 ((en : Int) + (rl : Int)) (by omega) (by omega)
      go_wp2_with (first
        | (go_at_call 22; refine (HLi.out _).mono ?_; rintro e w2 ⟨rfl, rfl⟩)
        | fail)
      go_roundw
      case rel => exact ⟨i + 1, by go_num, by rw [HS1.out]; go_num, by omega, HO2, HB2⟩
      case measure => simp [intOf]; omega
    · have hlt2 : ¬ (i : Int) < (n : Int) := by omega
      obtain rfl : i = n := by omega
      have HF : Hid (OwnI wr w.heap.size (.slice (some ⟨w.heap.size, 0, none⟩) i i) (endsL ep yss)) := by
        have q := HO1.out
        rw [Nat.sub_self, List.replicate_zero, List.append_nil, List.take_of_length_le (by rw [HLe.out]; exact Nat.le_refl _)] at q
        unfold OwnI
        rw [HLe.out]
        exact q
      go_wp2_with fail
      go_ret
      exact ⟨_, rfl, HF.out, HB1.out⟩
end Go.Proofs.YtjnhcanohefjiaaGreatDoor

namespace Go.Proofs.YtjnhcanohefjiaaGreatDoor
open Go.RowKit Go.Sort Go.Maps

theorem Own.shape {w : World} {base : Nat} {v : Value} {xs : List Nat} (h : Own w base v xs) : (v = .slice none 0 0 ∧ xs = []) ∨ ∃ g c, v = .slice (some ⟨g, 0, none⟩) xs.length c ∧ xs.length ≤ c ∧ BytesIn w (some ⟨g, 0, none⟩) xs := by
  rcases h.2 with ⟨e, e0⟩ | ⟨g, cap, cur, e, h1, h2, h3, _⟩
  · exact .inl ⟨e, List.eq_nil_of_length_eq_zero e0⟩
  · subst e
    exact .inr ⟨g, cap, rfl, h3, h.cells.2.1⟩
theorem OwnI.shape {w : World} {base : Nat} {v : Value} {xs : List Nat} (h : OwnI w base v xs) : ∃ a c, v = .slice a xs.length c ∧ xs.length ≤ c := by
  rcases h.2 with ⟨e, e0⟩ | ⟨g, cap, cur, e, h1, h2, h3, _⟩
  · exact ⟨none, 0, by rw [e, e0], by omega⟩
  · exact ⟨_, cap, e, h3⟩
set_option maxHeartbeats 1000000 in
theorem jlen_ {w : World} {base p q : Nat} {J : Jr} {rv ev : Value} (h : JrIn w base p q J rv ev) :
    Calls Tryz.prog 13 #[.pointer (some ⟨q, 0, none⟩)] w fun e w' => e = .returned (.int .i64 (J.row.length : Nat)) ∧ w' = w := by
  obtain ⟨_, _, _, _, _, c5, _⟩ := h.cells
  obtain ⟨a, c, hv, _⟩ := h.row.bytes
  subst hv
  generalize J.row.length = n at *
  clear h
  go_enter Tryz.func13, Tryz.ntmps13
  go_wp2_with fail
  go_ret
  exact ⟨rfl, rfl⟩
set_option maxHeartbeats 1000000 in
theorem jepoch_ {w : World} {base p q : Nat} {J : Jr} {rv ev : Value} (h : JrIn w base p q J rv ev) :
    Calls Tryz.prog 17 #[.pointer (some ⟨q, 0, none⟩)] w fun e w' => e = .returned (.int .u64 (J.ep : Nat)) ∧ w' = w := by
  obtain ⟨_, _, _, _, c4, _⟩ := h.cells
  generalize J.ep = n at *
  clear h
  go_enter Tryz.func17, Tryz.ntmps17
  go_wp2_with fail
  go_ret
  exact ⟨rfl, rfl⟩
theorem below_drewNs (w : World) (n : Nat) : Below w.heap.size w (w.drewN n) := below_drewN (Below.refl _ _) n
set_option maxHeartbeats 1000000 in
theorem jroom_ {w : World} {base p q : Nat} {J : Jr} {rv ev : Value} (h : JrIn w base p q J rv ev) :
    Calls Tryz.prog 14 #[.pointer (some ⟨q, 0, none⟩)] w fun e w' => e = .returned (.int .i64 (64 * J.a.s - (J.row.length : Nat))) ∧ Below w.heap.size w w' := by
  obtain ⟨_, _, _, c3, _, c5, _⟩ := h.cells
  obtain ⟨a, c, hv, _⟩ := h.row.bytes
  have hs := h.ok.s
  have hl := h.ok.row_le
  subst hv
  generalize J.row.length = n at *
  generalize J.a.s = s at *
  clear h
  have hw1 := wraps_i64 (s * 64) (by omega) (by omega)
  have hw2 := wraps_i64 (s * 64 - (n : Int)) (by omega) (by omega)
  go_enter Tryz.func14, Tryz.ntmps14
  go_wp2_with fail
  go_big_quiet (fail)
  have HB := Lib.hid (below_drewNs w nq)
  go_wp2_with fail
  go_ret
  exact ⟨ret_int (by omega), HB.out⟩
set_option maxHeartbeats 1000000 in
theorem jwaits_ {w : World} {base p q : Nat} {J : Jr} {rv ev : Value} (h : JrIn w base p q J rv ev) :
    Calls Tryz.prog 16 #[.pointer (some ⟨q, 0, none⟩)] w fun e w' => e = .returned (.int .i64 ((J.pss.length - J.sf : Nat) : Int)) ∧ Below w.heap.size w w' := by
  obtain ⟨_, _, _, _, _, _, c6, c7, _⟩ := h.cells
  obtain ⟨a, c, hv, _⟩ := h.ends.shape
  have hs := h.ok.sf
  have hl := h.ok.count
  rw [ends_len] at hv
  subst hv
  generalize J.pss.length = n at *
  generalize J.sf = s at *
  clear h
  have hw2 := wraps_i64 ((n : Int) - (s : Int)) (by omega) (by omega)
  go_enter Tryz.func16, Tryz.ntmps16
  go_wp2_with fail
  go_big_quiet (fail)
  have HB := Lib.hid (below_drewNs w nq)
  go_wp2_with fail
  go_ret
  exact ⟨ret_int (by omega), HB.out⟩
set_option maxHeartbeats 1000000 in
theorem jrefuse_ {w : World} {base p q : Nat} {J : Jr} {rv ev : Value} (h : JrIn w base p q J rv ev) :
    Calls Tryz.prog 41 #[.pointer (some ⟨q, 0, none⟩)] w fun e w' => e = .returned (errV J.dead) ∧ w' = w := by
  obtain ⟨_, _, _, _, _, _, _, _, c8⟩ := h.cells
  generalize errV J.dead = n at *
  clear h
  go_enter Tryz.func41, Tryz.ntmps41
  go_wp2_with fail
  go_ret
  exact ⟨rfl, rfl⟩
theorem okJ.kill {J : Jr} (h : okJ J) (k : Nat) : okJ { J with dead := k } := ⟨h.pays, h.ep, h.sf, h.len, h.g, h.f, h.s⟩
set_option maxHeartbeats 1000000 in
theorem jfail_ {w : World} {base p aa bb q : Nat} {d : Dev} {K : Nat} {J : Jr} {rv ev : Value} (h : Jn w base p aa bb q d K J rv ev) (k : Nat) :
    Calls Tryz.prog 44 #[.pointer (some ⟨q, 0, none⟩), errV k] w fun e w' => e = .returned (errV k) ∧ Jn w' base p aa bb q d K { J with dead := k } rv ev ∧ Ext (Mine p aa bb q rv ev) (Mine p aa bb q rv ev) w w' := by
  obtain ⟨_, _, _, _, _, _, _, _, c8⟩ := h.jr.cells
  have f8 : w.frozen? ⟨q, 8, none⟩ = false := frozen_of h.jr.blk
  have hb : (w.setCell ⟨q, 8, none⟩ (errV k)).heap[q]? = some (.cells (jrC p { J with dead := k } rv ev) 80 (0, 0)) := heap_set _ h.jr.blk
  have hf : ∀ i, i ≠ q → (w.setCell ⟨q, 8, none⟩ (errV k)).heap[i]? = w.heap[i]? := fun i hi => heap_far _ hi
  have H : Hid (Jn (w.setCell ⟨q, 8, none⟩ (errV k)) base p aa bb q d K { J with dead := k } rv ev ∧ Ext (Mine p aa bb q rv ev) (Mine p aa bb q rv ev) w (w.setCell ⟨q, 8, none⟩ (errV k))) :=
    ⟨h.setq hb hf h.jr.row h.jr.ends (h.jr.ok.kill k), Ext.setq rfl rfl rfl (by simp [World.setCell]) hf (fun _ h => h) (fun _ h => h)⟩
  clear h hb hf
  generalize errV J.dead = m at *
  by_cases hk : k = 0
  · subst hk
    have e0 : errV 0 = .nilIface := rfl
    rw [e0] at H ⊢
    go_enter Tryz.func44, Tryz.ntmps44
    go_wp2_with fail
    go_ret
    exact ⟨rfl, H.out⟩
  · rw [errV_not hk] at H ⊢
    go_enter Tryz.func44, Tryz.ntmps44
    go_wp2_with fail
    go_ret
    exact ⟨rfl, H.out⟩
set_option maxHeartbeats 1000000 in
theorem jend_ {w : World} {base p q : Nat} {J : Jr} {rv ev : Value} (h : JrIn w base p q J rv ev) (n : Nat) (hn : n ≤ J.pss.length) :
    Calls Tryz.prog 45 #[.pointer (some ⟨q, 0, none⟩), .int .i64 n] w fun e w' => e = .returned (.int .i64 (J.upto n : Nat)) ∧ w' = w := by
  by_cases h0 : n = 0
  · subst h0
    rw [upto_zero]
    clear h hn
    go_enter Tryz.func45, Tryz.ntmps45
    go_wp2_with fail
    go_ret
    exact ⟨rfl, rfl⟩
  · obtain ⟨_, _, _, _, _, _, c6, _⟩ := h.cells
    obtain ⟨a, c, hv, hcell⟩ := h.ends.slice
    rw [ends_len] at hv hcell
    obtain ⟨b, o, rfl, hc⟩ := hcell (n - 1) (by omega)
    rw [ends_get J n h0 hn] at hc
    have hcn := h.ok.count
    subst hv
    generalize J.upto n = u at *
    generalize J.pss.length = l at *
    clear h hcell
    obtain ⟨m, rfl⟩ : ∃ m, n = m + 1 := ⟨n - 1, by omega⟩
    rw [Nat.add_sub_cancel] at hc
    have hne : (((m + 1 : Nat) : Int) == 0) = false := by simpa using (by omega : ¬ ((m + 1 : Nat) : Int) = 0)
    have hw := wraps_i64 (m : Int) (by omega) (by omega)
    have hs : (m : Int) + 1 - 1 = m := by omega
    have h1 : (m : Int) < (l : Int) := by omega
    have h2 : (0 : Int) ≤ (m : Int) := by omega
    clear h0 hn
    go_enter Tryz.func45, Tryz.ntmps45
    go_wp2_with fail
    go_ret
    exact ⟨rfl, rfl⟩
end Go.Proofs.YtjnhcanohefjiaaGreatDoor
