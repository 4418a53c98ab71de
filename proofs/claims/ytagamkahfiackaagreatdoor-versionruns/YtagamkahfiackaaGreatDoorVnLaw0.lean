/- What the law's walk leans on. -/
import Derived.Test.YtagamkahfiackaaGreatDoorVnStep
import Derived.Test.YtagamkahfiackaaGreatDoorVnItems
import Derived.Test.YtagamkahfiackaaGreatDoorJ7
namespace Go.Proofs.YtagamkahfiackaaGreatDoor
open Go.RowKit Go.Sort Go.Shelf

def rgO (r : Rg) (ty : TypeId) : Obj := .cells #[.string r.f, .string r.t, .bool r.hf, .bool r.ht, .bool r.pf, .bool r.pt] ty (0, 0)
theorem rgO_at {w : World} {b : Nat} {r : Rg} {ty : TypeId} (h : w.heap[b]? = some (rgO r ty)) : RgAt w b r := ⟨cell_of h rfl, cell_of h rfl, cell_of h rfl, cell_of h rfl, cell_of h rfl, cell_of h rfl⟩
/-- Bytes of one's own that may be written over. -/
structure PlainAt (N : Nat) (w : World) (a : Option Addr) (n : Nat) : Prop where
  at' : 0 < n → ∃ (g : Nat) (cs : Array Value), a = some ⟨g, 0, none⟩ ∧ N ≤ g ∧ w.heap[g]? = some (.cells cs 5 (0, 0)) ∧ n ≤ cs.size
theorem RowAt.plain {N : Nat} {w : World} {r : Vl} {s : ByteArray} (h : RowAt w r s) (hN : ∀ g, r.a = some ⟨g, 0, none⟩ → N ≤ g) : PlainAt N w r.a r.n := ⟨fun hn => by
  rcases h.own.2 with ⟨e, _⟩ | ⟨g, cap, cur, e, _, h2, h3, h4, h5, h6⟩
  · simp only [Value.slice.injEq] at e
    omega
  · simp only [Value.slice.injEq] at e
    exact ⟨g, cur, e.1, hN g e.1, h2, by omega⟩⟩
theorem PlainAt.on {N : Nat} {w w' : World} {a : Option Addr} {n : Nat} (h : PlainAt N w a n) (hb : Below w.heap.size w w') : PlainAt N w' a n := ⟨fun hn => by
  obtain ⟨g, cs, e, h1, h2, h3⟩ := h.at' hn
  exact ⟨g, cs, e, h1, blkKeep hb h2, h3⟩⟩
theorem PlainAt.set {w0 w : World} {a : Option Addr} {n j : Nat} (h : PlainAt w0.heap.size w a n) (hb : Below w0.heap.size w0 w) (hj : j < n) (u : Value) : ∃ g x, a = some ⟨g, 0, none⟩ ∧ w.cell? ⟨g, j, none⟩ = some x ∧ w.frozen? ⟨g, j, none⟩ = false ∧ PlainAt w0.heap.size (w.setCell ⟨g, j, none⟩ u) a n ∧ Below w0.heap.size w0 (w.setCell ⟨g, j, none⟩ u) := by
  obtain ⟨g, cs, e, h1, h2, h3⟩ := h.at' (by omega)
  refine ⟨g, cs[j]'(by omega), e, cell_of h2 (Array.getElem?_eq_getElem (by omega)), frozen_of h2, ⟨fun _ => ⟨g, _, e, h1, heap_set u h2, by simpa using h3⟩⟩, ⟨hb.os, hb.tape, hb.output, by rw [size_set]; exact hb.size, fun k hk => (heap_far _ (by omega)).trans (hb.block k hk)⟩⟩
/-- Between two acts. -/
structure LawI (W w0 wr : World) (ps b9 : Nat) (r : Rg) (i : Nat) (lv : Value) : Prop where
  both : ∃ R m, BothAt W wr ps lv R m ∧ nVer m ≤ i
  rg : wr.heap[b9]? = some (rgO r 28)
  old : Below w0.heap.size w0 W
theorem LawI.old' {W w0 wr : World} {ps b9 i : Nat} {r : Rg} {lv : Value} (h : LawI W w0 wr ps b9 r i lv) : Below w0.heap.size w0 wr := by
  obtain ⟨R, m, hb, _⟩ := h.both
  exact below_step h.old hb.vn.below
theorem LawI.on {W w0 wr wr' : World} {ps b9 i : Nat} {r : Rg} {lv : Value} (h : LawI W w0 wr ps b9 r i lv) (hb : Below wr.heap.size wr wr') : LawI W w0 wr' ps b9 r i lv := by
  obtain ⟨R, m, h1, h2⟩ := h.both
  exact ⟨⟨R, m, h1.on hb, h2⟩, blkKeep hb h.rg, h.old⟩
/-- An act. -/
theorem LawI.step {W w0 wr : World} {ps b9 i : Nat} {r : Rg} {lv : Value} (h : LawI W w0 wr ps b9 r i lv) (hi : i ≤ 100) (hg : ErrType W) (x : ActV) (hs : x.row.size ≤ 140737488355328) :
    Calls Tryz.prog 5 #[.pointer (some ⟨ps, 0, none⟩), lv, .agg #[.int .i64 x.kd, .int .i64 x.tm, .string x.key, .string x.row, .bool x.gn]] wr fun e w' => ∃ (a : Option Addr) (n c : Nat), e = .returned (.tuple #[.slice a n c, .bool true]) ∧ Hid (LawI W w0 w' ps b9 r (i + 1) (.slice a n c)) := by
  obtain ⟨R, m, h1, h2⟩ := h.both
  refine (step_ h1 (by omega) hg x hs).mono fun e w' ⟨lv', R', m', e1, e2⟩ => ?_
  obtain ⟨a, c, e3, _⟩ := row_shape e2.out.1.ro
  subst e3
  exact ⟨a, _, c, e1, ⟨R', m', e2.out.1, by have := e2.out.2.1; omega⟩, e2.out.2.2 _ _ _ h.rg (by decide) (by decide) (by decide) (by decide) (by decide), h.old⟩
/-- What is asked behind an act. -/
theorem LawI.asks {W w0 wr : World} {ps b9 i : Nat} {r : Rg} {a : Option Addr} {n c : Nat} (h : LawI W w0 wr ps b9 r i (.slice a n c)) (hi : i ≤ 101) (k : ByteArray) (t : Int) :
    ∃ (s : ByteArray) (b : Bool), s.size ≤ 140737488355328 ∧
      (∀ V, Below wr.heap.size wr V → Calls Tryz.prog 6 #[.pointer (some ⟨ps, 0, none⟩), .string k, .int .i64 t] V fun e w' => ∃ q : Vl, e = .returned (.tuple #[.slice q.a q.n q.c, .bool b]) ∧ Hid (RowAt w' q s ∧ PlainAt V.heap.size w' q.a q.n ∧ Below V.heap.size V w')) ∧
      (∀ V, Below wr.heap.size wr V → Calls Tryz.prog 7 #[.slice a n c, .string k, .int .i64 t] V fun e w' => e = .returned (.tuple #[.string s, .bool b]) ∧ Below V.heap.size V w') ∧
      (∀ V, Below wr.heap.size wr V → Calls Tryz.prog 8 #[.pointer (some ⟨ps, 0, none⟩)] V fun e w' => e = .returned (.int .i64 n) ∧ Below V.heap.size V w') := by
  obtain ⟨R, m, h1, h2⟩ := h.both
  have hlen := RelR.len h1.vn.ok h1.re
  obtain ⟨a', c', e3, _⟩ := row_shape h1.ro
  simp only [Value.slice.injEq] at e3
  obtain ⟨_, hn, _⟩ := e3
  obtain ⟨p, M, F, l, rd, hd, hm⟩ := h1.vn.ex
  refine ⟨(rowC (chM k m) t).getD ⟨#[]⟩, (rowC (chM k m) t).isSome, ?_, fun V hV => ?_, fun V hV => ?_, fun V hV => ?_⟩
  · obtain ⟨L, hL, hpv, _⟩ := hd.chain k
    rw [hm, ← hpv]
    exact (rw_row hL (by rw [hpv, ← hm]; exact h1.vn.ok.ch k) t).1.le
  · refine (vget_ (h1.vn.on hV) (by omega) k t).mono fun e w' ⟨q, e1, e2, e4, e5⟩ => ⟨q, e1, e2, e2.plain e4, e5⟩
  · have := rget16_ (row_on h1.ro hV : RowRV V W.heap.size _ R) (by omega) k (h1.re.asc h1.vn.ok k) t
    rw [← h1.re k] at this
    exact this
  · have := versions_ (h1.vn.on hV) (by omega)
    rw [← hlen, ← hn] at this
    exact this
/-- What is asked at last. -/
theorem LawI.last {W w0 wr : World} {ps b9 i : Nat} {r : Rg} {a : Option Addr} {n c : Nat} (h : LawI W w0 wr ps b9 r i (.slice a n c)) (hi : i ≤ 101) (t : Int) :
    ∃ (P P0 : List P2) (b : Bool), P.length ≤ 1000 ∧ P0.length ≤ 1000 ∧
      (∀ V, Below wr.heap.size wr V → Calls Tryz.prog 10 #[.pointer (some ⟨ps, 0, none⟩), rgV r, .int .i64 t] V (RangeTo V P)) ∧
      (∀ V, Below wr.heap.size wr V → Calls Tryz.prog 11 #[.slice a n c, rgV r, .int .i64 t] V (RRangeTo V P)) ∧
      (∀ V, Below wr.heap.size wr V → Calls Tryz.prog 12 #[.pointer (some ⟨ps, 0, none⟩), rgV r, .int .i64 t] V fun e w' => e = .returned (.bool b) ∧ Below V.heap.size V w') ∧
      (∀ V, Below wr.heap.size wr V → Calls Tryz.prog 13 #[.slice a n c, rgV r, .int .i64 t] V fun e w' => e = .returned (.bool b) ∧ Below V.heap.size V w') ∧
      (∀ V, Below wr.heap.size wr V → Calls Tryz.prog 14 #[.pointer (some ⟨ps, 0, none⟩), .int .i64 t] V fun e w' => e = .returned (.int .i64 P0.length) ∧ Below V.heap.size V w') ∧
      (∀ V, Below wr.heap.size wr V → Calls Tryz.prog 11 #[.slice a n c, rgV r00, .int .i64 t] V (RRangeTo V P0)) := by
  obtain ⟨R, m, h1, h2⟩ := h.both
  have hlen := RelR.len h1.vn.ok h1.re
  have hml := h1.vn.ok.len
  have hP : ∀ r', (rowsM r' t m).length ≤ 1000 := fun r' => by
    have e1 : (rowsM r' t m).length ≤ (selM r' m).length := List.length_filterMap_le _ _
    have e2 : (selM r' m).length ≤ m.length := List.length_filter_le _ _
    omega
  refine ⟨rowsM r t m, rowsM r00 t m, chgM r t m, hP r, hP r00, fun V hV => ?_, fun V hV => ?_, fun V hV => ?_, fun V hV => ?_, fun V hV => ?_, fun V hV => ?_⟩
  · exact vrange_ (h1.vn.on hV) (by omega) r t
  · exact rrange_ (row_on h1.ro hV : RowRV V W.heap.size _ R) (by omega) h1.re h1.vn.ok r t
  · exact changed_ (h1.vn.on hV) (by omega) r t
  · have := rchg_ (row_on h1.ro hV : RowRV V W.heap.size _ R) (by omega) r t
    rw [← chg_link h1.re h1.vn.ok r t]
    exact this
  · exact count_ (h1.vn.on hV) (by omega) t
  · exact rrange_ (row_on h1.ro hV : RowRV V W.heap.size _ R) (by omega) h1.re h1.vn.ok r00 t
/-- Lists item by item, from then on. -/
theorem items_on {w1 w2 B B2 : World} {a a2 : Option Addr} {c c2 : Nat} {Z : List MI} {P : List P2} (h : RowO w1 B.heap.size (.slice a Z.length c) (Z.map (·.1))) (hz : Z.map mi = P) (hrows : ∀ z ∈ Z, RowAt w1 z.1.2 z.2) (h2 : RowP2 w2 B2.heap.size (.slice a2 P.length c2) P) (hl : P.length ≤ 1000) {V : World} (hV1 : Below w1.heap.size w1 V) (hV2 : Below w2.heap.size w2 V) :
    Calls Tryz.prog 9 #[.slice a Z.length c, .slice a2 P.length c2] V fun e w' => e = .returned (.bool true) ∧ Below V.heap.size V w' :=
  items_ (row_on h hV1) hz (fun z hz => (hrows z hz).on hV1) (row_on h2 hV2) (by omega)
end Go.Proofs.YtagamkahfiackaaGreatDoor
