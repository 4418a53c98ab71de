/- What the law JournalFull stands on: a journal with a list of the law's own beside it, and what becomes of one text; The law JournalFull, walked. -/
import Derived.Test.YtjnhcanohefjiaaGreatDoorJJD
import Derived.Test.YtjnhcanohefjiaaGreatDoorJJE
import Derived.Test.YtjnhcanohefjiaaGreatDoorJJF
namespace Go.Proofs.YtjnhcanohefjiaaGreatDoor
open Go.RowKit Go.Sort Go.Maps

/-- Slices of old bytes. -/
def OldIn (w : World) (vs : List Value) (yss : List (List Nat)) : Prop := vs.length = yss.length ∧ ∀ k, k < yss.length → ∃ a c, vs.getD k undef = .slice a (yss.getD k []).length c ∧ BytesIn w a (yss.getD k [])
theorem OldIn.snoc {w : World} {vs : List Value} {yss : List (List Nat)} {a : Option Addr} {c : Nat} {ys : List Nat} (h : OldIn w vs yss) (hb : BytesIn w a ys) : OldIn w (vs ++ [.slice a ys.length c]) (yss ++ [ys]) := by
  refine ⟨by simp [h.1], fun k hk => ?_⟩
  rw [List.length_append, List.length_singleton] at hk
  rcases Nat.lt_or_ge k yss.length with h1 | h1
  · have e1 : (vs ++ [Value.slice a ys.length c]).getD k undef = vs.getD k undef := by rw [List.getD_eq_getElem?_getD, List.getD_eq_getElem?_getD, List.getElem?_append_left (by rw [h.1]; exact h1)]
    have e2 : (yss ++ [ys]).getD k [] = yss.getD k [] := by rw [List.getD_eq_getElem?_getD, List.getD_eq_getElem?_getD, List.getElem?_append_left h1]
    rw [e1, e2]
    exact h.2 k h1
  · obtain rfl : k = yss.length := by omega
    have e1 : (vs ++ [Value.slice a ys.length c]).getD yss.length undef = .slice a ys.length c := by rw [← h.1]; simp
    have e2 : (yss ++ [ys]).getD yss.length [] = ys := by simp
    rw [e1, e2]
    exact ⟨a, c, rfl, hb⟩
theorem flush_dims {d : Dev} {J : Jr} (h : Calm d J) (hj : okJ J) (he : flushE d J = 0) : (flushD d J).r = d.r ∧ (flushD d J).s = d.s := by
  by_cases hs : J.sf = J.pss.length
  · obtain ⟨f1, _, _⟩ := flush_none (d := d) hs
    rw [f1]; exact ⟨rfl, rfl⟩
  · obtain ⟨f1, f2, _⟩ := flush_some (d := d) h.alive hs
    rw [f2] at he
    rw [f1]
    have hlt := upto_lt (J := J) (n := J.sf) (by have := hj.sf; omega)
    obtain ⟨_, _, _, _, g5, g6⟩ := wrt_good h.ok h.pend h.cr h.inn hj.byte hlt hj.len h.row he
    exact ⟨g5, g6⟩
/-- All that lay there stays; the journal. -/
structure LJ (w : World) (q : Nat) (d : Dev) (K : Nat) (J : Jr) (rv ev : Value) (wr : World) : Prop where
  bw : Below w.heap.size w wr
  jn : Jn wr w.heap.size (w.heap.size + 2) w.heap.size (w.heap.size + 1) q d K J rv ev
theorem LJ.on {w wr V : World} {q : Nat} {d : Dev} {K : Nat} {J : Jr} {rv ev : Value} (h : LJ w q d K J rv ev wr) (hb : Below wr.heap.size wr V) : LJ w q d K J rv ev V := ⟨below_step h.bw hb, h.jn.on hb⟩
theorem LJ.to {w wr V : World} {q : Nat} {d d' : Dev} {K K' : Nat} {J J' : Jr} {rv ev : Value} (h : LJ w q d K J rv ev wr) (hj : JnTo wr w.heap.size (w.heap.size + 2) w.heap.size (w.heap.size + 1) q rv ev d' K' J' V) : ∃ rv' ev', LJ w q d' K' J' rv' ev' V ∧ Ext (MineL w q rv ev) (MineL w q rv' ev') wr V := by
  obtain ⟨rv', ev', h1, h2⟩ := hj
  exact ⟨rv', ev', ⟨h.bw.trans (h2.below h.bw.size (fun k hk => (h.jn.mine k hk).1)), h1⟩, h2⟩
theorem LJ.grow {w wr V : World} {q : Nat} {d : Dev} {K : Nat} {J : Jr} {rv ev v : Value} {vs : List Value} (h : LJ w q d K J rv ev wr) (hr : OwnR wr w.heap.size v vs) (hg : wr.grownBy V v.ownBlock) : LJ w q d K J rv ev V :=
  ⟨h.bw.grown hg h.bw.size (fun k hk => (World.ownsRow.lt hr k hk).1), h.jn.beside hr hg⟩
/-- A journal with the law's list beside it. -/
def FuS (w : World) (q n : Nat) (d : Dev) (J : Jr) (lv : Value) (vs : List Value) (V : World) : Prop := ∃ rv ev, LJ w q d n J rv ev V ∧ OwnR V w.heap.size lv vs
theorem FuS.on {w wr V : World} {q n : Nat} {d : Dev} {J : Jr} {lv : Value} {vs : List Value} (h : FuS w q n d J lv vs wr) (hb : Below wr.heap.size wr V) : FuS w q n d J lv vs V := by
  obtain ⟨rv, ev, h1, h2⟩ := h
  exact ⟨rv, ev, h1.on hb, h2.on hb⟩
theorem FuS.bw {w wr : World} {q n : Nat} {d : Dev} {J : Jr} {lv : Value} {vs : List Value} (h : FuS w q n d J lv vs wr) : Below w.heap.size w wr := by
  obtain ⟨rv, ev, h1, h2⟩ := h
  exact h1.bw
theorem FuS.ok {w wr : World} {q n : Nat} {d : Dev} {J : Jr} {lv : Value} {vs : List Value} (h : FuS w q n d J lv vs wr) : okJ J := by
  obtain ⟨rv, ev, h1, h2⟩ := h
  exact h1.jn.jr.ok
theorem FuS.row {w wr : World} {q n : Nat} {d : Dev} {J : Jr} {lv : Value} {vs : List Value} (h : FuS w q n d J lv vs wr) : OwnR wr w.heap.size lv vs := by
  obtain ⟨rv, ev, h1, h2⟩ := h
  exact h2
theorem FuS.grow {w wr V : World} {q n : Nat} {d : Dev} {J : Jr} {lv lv' : Value} {vs vs' : List Value} (h : FuS w q n d J lv vs wr) (hr : OwnR V w.heap.size lv' vs') (hg : wr.grownBy V lv.ownBlock) : FuS w q n d J lv' vs' V := by
  obtain ⟨rv, ev, h1, h2⟩ := h
  exact ⟨rv, ev, h1.grow h2 hg, hr⟩
/-- The law's copy of a text. -/
def PB (V : World) (a : Option Addr) (c : Nat) (xs : List Nat) : Prop := BytesIn V a xs ∧ (a = none → c = 0)
theorem PB.on {V V' : World} {a : Option Addr} {c : Nat} {xs : List Nat} (h : PB V a c xs) (hb : Below V.heap.size V V') : PB V' a c xs := ⟨h.1.on hb, h.2⟩
/-- So far. -/
def FuI (w : World) (q n : Nat) (d : Dev) (lv : Value) (i : Nat) (wr : World) : Prop := ∃ J vs, FuS w q n d J lv vs wr ∧ J.a = arN n ∧ J.ep = 3 ∧ J.sf = 0 ∧ Calm d J ∧ J.pss.length ≤ i ∧ OldIn w vs J.pss
theorem fu_app {w wr : World} {q n : Nat} {d : Dev} {J : Jr} {lv : Value} {vs : List Value} (h : FuS w q n d J lv vs wr) (a : Option Addr) (xs : List Nat) (l c : Nat) (hl : xs.length = l) (hby : BytesIn wr a xs) (hx : ∀ x ∈ xs, x < 256) (hc : a = none → c = 0) (hlim : l ≤ 9223372036854775807) :
    Calls Tryz.prog 18 #[.pointer (some ⟨q, 0, none⟩), .slice a l c] wr fun e w' => e = .returned (errV (appE J xs)) ∧ FuS w q n d (appJ J xs) lv vs w' := by
  obtain ⟨rv, ev, h1, h2⟩ := h
  refine (jappend_ h1.jn a xs l c hl hby hx hc hlim).mono fun e w' ⟨q1, q2⟩ => ⟨q1, ?_⟩
  obtain ⟨rv', ev', k1, k2⟩ := h1.to q2
  exact ⟨rv', ev', k1, h2.ext h1.jn k2⟩
theorem fu_len {w wr : World} {q n : Nat} {d : Dev} {J : Jr} {lv : Value} {vs : List Value} (h : FuS w q n d J lv vs wr) :
    Calls Tryz.prog 13 #[.pointer (some ⟨q, 0, none⟩)] wr fun e w' => e = .returned (.int .i64 (J.row.length : Nat)) ∧ FuS w q n d J lv vs w' := by
  have h0 := h
  obtain ⟨rv, ev, h1, h2⟩ := h
  exact (jlen_ h1.jn.jr).mono fun e w' ⟨q1, q2⟩ => ⟨q1, by rw [q2]; exact h0⟩
theorem fu_room {w wr : World} {q n R : Nat} {d : Dev} {J : Jr} {lv : Value} {vs : List Value} (h : FuS w q n d J lv vs wr) (ha : J.a = arN n) (hR : J.row.length + R = 64 * n) :
    Calls Tryz.prog 14 #[.pointer (some ⟨q, 0, none⟩)] wr fun e w' => e = .returned (.int .i64 (R : Nat)) ∧ FuS w q n d J lv vs w' ∧ Below wr.heap.size wr w' := by
  have h0 := h
  obtain ⟨rv, ev, h1, h2⟩ := h
  have e0 : (64 * J.a.s - (J.row.length : Nat) : Int) = (R : Nat) := by
    rw [ha]
    show 64 * (n : Int) - _ = _
    omega
  refine (jroom_ h1.jn.jr).mono fun e w' ⟨q1, q2⟩ => ⟨by rw [q1, e0], h0.on q2, q2⟩
theorem fu_num {w wr : World} {q n : Nat} {d : Dev} {J : Jr} {lv : Value} {vs : List Value} (hE : ErrType w) (h : FuS w q n d J lv vs wr) (r : Int) :
    Calls Tryz.prog 9 #[.iface 68 (.int .i64 r)] wr fun e w' => e = .returned (.int .i64 r) ∧ FuS w q n d J lv vs w' :=
  (num11 r wr (hE.on h.bw)).mono fun _ _ ⟨q1, q2⟩ => ⟨q1, h.on q2⟩
/-- What becomes of one text. -/
theorem fu_cases {J : Jr} {n : Nat} (xs : List Nat) (ha : J.a = arN n) (hep : J.ep = 3) (hd : J.dead = 0) :
    (∃ r, 1 ≤ r ∧ r ≤ 2 ∧ lenR 3 xs.length = (0, r) ∧ appE J xs = r ∧ appJ J xs = J) ∨ (∃ k, lenR 3 xs.length = (k, 0) ∧ 64 * n < J.row.length + k ∧ appE J xs = 10 ∧ appJ J xs = J) ∨ (∃ k, lenR 3 xs.length = (k, 0) ∧ J.row.length + k ≤ 64 * n ∧ appE J xs = 0 ∧ appJ J xs = { J with pss := J.pss ++ [xs] } ∧ (appJ J xs).row.length = J.row.length + k) := by
  by_cases hr : refu xs.length = 0
  · have hk : lenR 3 xs.length = ((recB 3 xs).length, 0) := by
      unfold lenR
      rw [if_pos hr, recB_length]
      simp
    have hs : J.a.s.toNat = n := by rw [ha]; simp
    by_cases hf : 64 * n < J.row.length + (recB 3 xs).length
    · have e1 : appE J xs = 10 := by unfold appE; rw [if_neg (by simpa using hd), if_neg (by simpa using hr), hs, hep, if_pos hf]
      exact .inr (.inl ⟨_, hk, hf, e1, if_neg (by rw [e1]; decide)⟩)
    · have e1 : appE J xs = 0 := by unfold appE; rw [if_neg (by simpa using hd), if_neg (by simpa using hr), hs, hep, if_neg hf]
      have e2 : appJ J xs = { J with pss := J.pss ++ [xs] } := if_pos e1
      exact .inr (.inr ⟨_, hk, by omega, e1, e2, by rw [e2, app_row, List.length_append, hep]⟩)
  · have e1 : appE J xs = refu xs.length := by unfold appE; rw [if_neg (by simpa using hd), if_pos hr]
    refine .inl ⟨refu xs.length, by omega, ?_, if_neg hr, e1, if_neg (by rw [e1]; exact hr)⟩
    unfold refu
    split
    · omega
    · split <;> omega
theorem fu_waits {w wr : World} {q n m : Nat} {d : Dev} {J : Jr} {lv : Value} {vs : List Value} (h : FuS w q n d J lv vs wr) (hm : J.pss.length - J.sf = m) :
    Calls Tryz.prog 16 #[.pointer (some ⟨q, 0, none⟩)] wr fun e w' => e = .returned (.int .i64 (m : Nat)) ∧ FuS w q n d J lv vs w' := by
  have h0 := h
  obtain ⟨rv, ev, h1, h2⟩ := h
  have q := jwaits_ h1.jn.jr
  rw [hm] at q
  exact q.mono fun _ _ ⟨q1, q2⟩ => ⟨q1, h0.on q2⟩
/-- Flushed. -/
theorem fu_flush {w wr : World} {q K n : Nat} {d : Dev} {J : Jr} {lv : Value} {vs : List Value} (h : FuS w q K d J lv vs wr) (ha : J.a = arN n) (hK : K + n < 1000000) (hE : flushE d J = 0) (hJ : flushJ d J = { J with sf := J.pss.length }) :
    Calls Tryz.prog 19 #[.pointer (some ⟨q, 0, none⟩)] wr fun e w' => e = .returned .nilIface ∧ FuS w q (K + n) (flushD d J) { J with sf := J.pss.length } lv vs w' := by
  obtain ⟨rv, ev, h1, h2⟩ := h
  have hs : J.a.s.toNat = n := by rw [ha]; simp
  refine (jflush_ h1.jn (by rw [hs]; exact hK)).mono fun e w' ⟨q1, q2⟩ => ⟨by rw [q1, hE]; rfl, ?_⟩
  rw [hs, hJ] at q2
  obtain ⟨rv', ev', k1, k2⟩ := h1.to q2
  exact ⟨rv', ev', k1, h2.ext h1.jn k2⟩
/-- What lies there then. -/
theorem fu_end {d : Dev} {J : Jr} {n : Nat} (hj : okJ J) (ha : J.a = arN n) (hc : Calm d J) (hd : d.armed = false ∧ d.r = 1 ∧ d.s = n) (hn : 1 ≤ n ∧ n ≤ 6) :
    flushE d J = 0 ∧ flushJ d J = { J with sf := J.pss.length } ∧ Rest (flushD d J) (arN n) ∧ (openJ (flushD d J) (arN n) J.ep).pss = J.pss := by
  obtain ⟨f1, f2⟩ := hc.flush_calm hj hd.1
  obtain ⟨g1, g2⟩ := hc.flush hj f1
  obtain ⟨r1, r2⟩ := flush_dims hc hj f1
  rw [g2] at g1
  have hj2 : okJ { J with sf := J.pss.length } := ⟨hj.pays, hj.ep, Nat.le_refl _, hj.len, hj.g, hj.f, hj.s⟩
  have hs := g1.seen hj2
  have hs2 : (openJ (flushD d J) J.a J.ep).pss = J.pss.take J.pss.length := hs
  rw [List.take_length, ha] at hs2
  refine ⟨f1, g2, ⟨g1.ok, g1.pend, g1.cr, f2, by rw [← ha]; exact g1.inn, ?_⟩, hs2⟩
  rw [r1, r2, hd.2.1, hd.2.2]
  omega
theorem fu_shape {w wr : World} {q n : Nat} {d : Dev} {J : Jr} {lv : Value} {vs : List Value} {yss : List (List Nat)} (h : FuS w q n d J lv vs wr) (hOld : OldIn w vs yss) : ∃ lla llc, lv = .slice lla yss.length llc := by
  obtain ⟨rv, ev, h1, h2⟩ := h
  obtain ⟨lla, llc, hlv, _, _⟩ := ownR_list h2 h1.bw hOld.1 hOld.2
  exact ⟨lla, llc, hlv⟩
/-- Opened again. -/
theorem fu_open {w wr : World} {q K n yl llc ep : Nat} {lla : Option Addr} {d : Dev} {J : Jr} {vs : List Value} {yss : List (List Nat)} (h : FuS w q K d J (.slice lla yl llc) vs wr) (he : ep < 18446744073709551616) (hrest : Rest d (arN n)) (hseen : (openJ d (arN n) ep).pss = yss) (hn : n ≤ 1000) (hK : K ≤ 900000) (hOld : OldIn w vs yss) (hyl : yss.length = yl) :
    Calls Tryz.prog 7 #[.pointer (some ⟨w.heap.size + 2, 0, none⟩), .agg #[.int .i64 0, .int .i64 0, .int .i64 n], .int .u64 ep] wr fun e w' => ∃ q2 la2 lc2, e = .returned (.tuple #[.pointer (some ⟨q2, 0, none⟩), .slice la2 yl lc2, .nilIface]) ∧ ListIn w' la2 yss ∧ ListIn w' lla yss ∧ Below w.heap.size w w' := by
  obtain ⟨rv, ev, hLI, hO⟩ := h
  obtain ⟨lla', llc', hlv, hli, _⟩ := ownR_list hO hLI.bw hOld.1 hOld.2
  obtain ⟨rfl, _, _⟩ : lla = lla' ∧ yl = yss.length ∧ llc = llc' := by
    injection hlv with a b c
    exact ⟨a, b, c⟩
  refine (open_rest n hn ep he hLI.jn.dev hrest ⟨by omega, by omega, by omega⟩ hLI.bw.size hK).mono fun e w' ⟨q2, rv2, ev2, la2, lc2, g1, g2, g3, g4, g5⟩ => ?_
  rw [hseen] at g1 g3
  rw [hyl] at g1
  have hM : ∀ k, (k = w.heap.size + 2 ∨ k = w.heap.size ∨ k = w.heap.size + 1) → k = w.heap.size + 2 ∨ k = w.heap.size ∨ k = w.heap.size + 1 ∨ wr.heap.size ≤ k := fun k hk => by rcases hk with h | h | h <;> simp [h]
  exact ⟨q2, la2, lc2, g1, g3.list, ((hli.free hLI.jn.dev (M := fun k => k = w.heap.size + 2 ∨ k = w.heap.size ∨ k = w.heap.size + 1) hM).ext g5).list, hLI.bw.trans (g5.below hLI.bw.size (fun k hk => by rcases hk with e | e | e <;> omega))⟩
theorem errV_some {r : Nat} (h : 1 ≤ r) : errV r = .iface 68 (.int .i64 r) := by
  obtain ⟨r', rfl⟩ : ∃ r', r = r' + 1 := ⟨r - 1, by omega⟩
  rfl
theorem fu_rlen {l k r : Nat} (hk : lenR 3 (l : Int) = (k, r)) (hl : l ≤ 9223372036854775807) {g : Value} (hg : errV r = g) (V : World) :
    Calls Tryz.prog 22 #[.int .u64 3, .int .i64 l] V fun e w' => e = .returned (.tuple #[.int .i64 k, g]) ∧ w' = V := by
  have q := rlen_ 3 (l : Int) V (by decide) (by omega) (by omega)
  have h1 : (lenR 3 (l : Int)).1 = k := by rw [hk]
  have h2 : (lenR 3 (l : Int)).2 = r := by rw [hk]
  rw [h1, h2, hg] at q
  exact q
theorem fu_appE {w wr : World} {q n : Nat} {d : Dev} {J J' : Jr} {lv : Value} {vs : List Value} {a : Option Addr} {xs : List Nat} {l c E : Nat} {g : Value} (hE : appE J xs = E) (hJ : appJ J xs = J') (hg : errV E = g) (hl : xs.length = l) (hx : ∀ x ∈ xs, x < 256) (hlim : l ≤ 9223372036854775807) (h : FuS w q n d J lv vs wr) (hp : PB wr a c xs) :
    Calls Tryz.prog 18 #[.pointer (some ⟨q, 0, none⟩), .slice a l c] wr fun e w' => e = .returned g ∧ FuS w q n d J' lv vs w' := by
  have q := fu_app h a xs l c hl hp.1 hx hp.2 hlim
  rw [hE, hJ, hg] at q
  exact q
theorem fu_lenE {w wr : World} {q n L : Nat} {d : Dev} {J : Jr} {lv : Value} {vs : List Value} (hL : J.row.length = L) (h : FuS w q n d J lv vs wr) :
    Calls Tryz.prog 13 #[.pointer (some ⟨q, 0, none⟩)] wr fun e w' => e = .returned (.int .i64 (L : Nat)) ∧ FuS w q n d J lv vs w' := by
  have q := fu_len h
  rw [hL] at q
  exact q
end Go.Proofs.YtjnhcanohefjiaaGreatDoor

namespace Go.Proofs.YtjnhcanohefjiaaGreatDoor
open Go.RowKit Go.Sort Go.Maps

set_option maxRecDepth 100000 in
set_option maxHeartbeats 1000000 in
theorem full_law (a1 : Option Addr) (n1 c1 : Nat) (f1 : Nat → TxV) (z : Int) (w : World) (hin1 : TxsAt w a1 n1 f1) (hlim : ∀ i, i < n1 → (f1 i).xs.length ≤ 140737488351232) (hE : ErrType w) :
    Calls Tryz.prog 4 #[.slice a1 n1 c1, .int .i64 z] w fun e w' => e = .returned (.bool true) ∧ Below w.heap.size w w' := by
  obtain ⟨ar, har⟩ : ∃ ar : Nat, (z % 18446744073709551616) % 6 = (ar : Int) := ⟨((z % 18446744073709551616) % 6).toNat, by omega⟩
  obtain ⟨n, hn⟩ : ∃ n : Nat, n = ar + 1 := ⟨_, rfl⟩
  have hn1 : 1 ≤ n := by omega
  have hn6 : n ≤ 6 := by omega
  have hwz : IntKind.u64.wrap z = z % 18446744073709551616 := by rw [IntKind.wrap_u64]
  have hwr : IntKind.u64.wrap ((z % 18446744073709551616) % 6) = (ar : Int) := by rw [har, IntKind.wrap_u64]; omega
  have hwa2 := wraps_i64 (ar : Int) (by omega) (by omega)
  have ht1 : (z % 18446744073709551616).tmod 6 = (ar : Int) := by rw [Int.tmod_eq_emod_of_nonneg (by omega)]; exact har
  have hnn : (1 : Int) + (ar : Int) = (n : Int) := by omega
  have hwn := wraps_i64 (n : Int) (by omega) (by omega)
  clear hn
  have HN := Lib.hid (new_ 1 n w (by omega))
  have HT1 := Lib.hid hin1
  have HLim := Lib.hid hlim
  have HE := Lib.hid hE
  have HSu := Lib.hid (fun W => sure_ W)
  obtain ⟨o1, o2, o3⟩ := opened_new n hn1 (by omega) 3 (by decide)
  obtain ⟨_, _, _, _, o5, o6⟩ := clean_good (okD_new 1 (n : Nat)) rfl rfl (inJ_n n hn1) (fun x hx => by cases hx) (begins_nil _ _) o1
  obtain ⟨d1, hd1⟩ : ∃ d1, d1 = cleanD (arN n) [] (newD 1 (n : Nat)) := ⟨_, rfl⟩
  have HO1 : Hid (∀ W, DevIn W (w.heap.size + 2) w.heap.size (w.heap.size + 1) (newD 1 n) 0 → w.heap.size ≤ W.heap.size → Calls Tryz.prog 7 #[.pointer (some ⟨w.heap.size + 2, 0, none⟩), .agg #[.int .i64 0, .int .i64 0, .int .i64 n], .int .u64 3] W fun e w' => ∃ q la lc, e = .returned (.tuple #[.pointer (some ⟨q, 0, none⟩), .slice la 0 lc, .nilIface]) ∧ ∃ rv ev, Jn w' w.heap.size (w.heap.size + 2) w.heap.size (w.heap.size + 1) q d1 n ⟨arN n, 3, [], 0, 0⟩ rv ev ∧ Ext (fun k => k = w.heap.size + 2 ∨ k = w.heap.size ∨ k = w.heap.size + 1) (MineL w q rv ev) W w') := fun W hd hw => by
    rw [hd1]
    exact open_first n hn1 (by omega) 3 (by decide) hd ⟨by omega, by omega, by omega⟩ hw
  rw [← hd1] at o2 o3 o5 o6
  have HC1 := Lib.hid (And.intro o2 (And.intro o3 (And.intro o5 o6)))
  clear hin1 hlim hE o1 o2 o3 o5 o6 hd1
  go_enter Tryz.func4, Tryz.ntmps4
  go_wp2_with fail
  refine HN.out.mono ?_
  rintro e w1 ⟨rfl, hb1, hd1'⟩
  unfold pt
  have HD := Lib.hid hd1'
  have HB := Lib.hid hb1
  clear hb1 hd1' HN hwz hwr hwa2 ht1 hnn hwn har
  go_wp2_with fail
  refine (HO1.out w1 HD.out HB.out.size).mono ?_
  rintro e w2 ⟨q, la, lc, rfl, rv, ev, hj2, hx2⟩
  have HI0 : Hid (FuI w q n d1 (.slice none 0 0) 0 w2) := ⟨_, [], ⟨rv, ev, ⟨HB.out.trans (hx2.below HB.out.size (fun k hk => by rcases hk with e | e | e <;> omega)), hj2⟩, ownR_nil _ _⟩, rfl, rfl, rfl, HC1.out.1, Nat.le_refl _, rfl, fun k hk => by simp at hk⟩
  clear hj2 hx2 HB HD HO1
  go_wp2_with fail
  go_loopw [11, 12] (fun sv iv wr => ∃ (lv : Value) (i : Nat), lv = sv ∧ iv = .int .i64 i ∧ i ≤ n1 ∧ i ≤ 40 ∧ Hid (FuI w q n d1 lv i wr)) (fun _ iv _ => 40 - (intOf iv).toNat)
  case atStart => exact ⟨_, 0, rfl, rfl, Nat.zero_le _, by omega, HI0⟩
  case round =>
    obtain ⟨lv, i, rfl, rfl, hin, hi40, HI⟩ := hrel
    clear HI0
    by_cases hlt : i < n1 ∧ i < 40
    · obtain ⟨hl1, hl2⟩ := hlt
      have hlt1 : (i : Int) < (n1 : Int) := by omega
      have hlt2 : (i : Int) < 40 := by omega
      have hi0 : (0 : Int) ≤ (i : Int) := by omega
      obtain ⟨b, o, rfl, hcl0, hby, hbt, hnl, hcp⟩ := HT1.out i hl1
      have hll := HLim.out i hl1
      obtain ⟨J, vs, hS, e1, e2, e3, e4, e5, hOld⟩ := HI.out
      have hBw := hS.bw
      have hcl : wr.cell? ⟨b, o + i, none⟩ = some (.slice (f1 i).a (f1 i).xs.length (f1 i).c) := (hBw.cell (block_lt_of_cell hcl0)).trans hcl0
      have FC : Hid (∀ V, Below w.heap.size w V → V.cell? ⟨b, o + i, none⟩ = some (.slice (f1 i).a (f1 i).xs.length (f1 i).c)) := fun V hV => (hV.cell (block_lt_of_cell hcl0)).trans hcl0
      have hle : J.row.length ≤ 64 * n := by have := hS.ok.len; rw [e1] at this; simpa using this
      obtain ⟨L, hL⟩ : ∃ L, L = J.row.length := ⟨_, rfl⟩
      obtain ⟨R, hR⟩ : ∃ R, J.row.length + R = 64 * n := ⟨64 * n - J.row.length, by omega⟩
      have HS := Lib.hid hS
      have HRm : Hid (∀ V, FuS w q n d1 J lv vs V → Calls Tryz.prog 14 #[.pointer (some ⟨q, 0, none⟩)] V fun e w' => e = .returned (.int .i64 (R : Nat)) ∧ FuS w q n d1 J lv vs w' ∧ Below V.heap.size V w') := fun V hV => fu_room hV e1 hR
      have HX : Hid (BytesIn w (f1 i).a (f1 i).xs ∧ (∀ x ∈ (f1 i).xs, x < 256) ∧ ((f1 i).a = none → (f1 i).c = 0)) := ⟨hby, hbt, hnl⟩
      have hcs := fu_cases (f1 i).xs e1 e2 e4.alive
      rw [← hL] at hcs hle
      have hvl : vs.length ≤ 10000000 := by rw [hOld.1]; omega
      have HSn : Hid (OldIn w (vs ++ [.slice (f1 i).a (f1 i).xs.length (f1 i).c]) (J.pss ++ [(f1 i).xs])) := hOld.snoc hby
      have HJ := Lib.hid (And.intro e1 (And.intro e2 (And.intro e3 (And.intro e4 (And.intro e5 hOld)))))
      clear hcl0 hby hbt hnl hcp hS e1 e2 e3 e4 e5 hOld HI hBw
      generalize hxs : (f1 i).xs = xs at *
      clear hxs
      obtain ⟨l, hl⟩ : ∃ l, xs.length = l := ⟨_, rfl⟩
      have HXL := Lib.hid hl
      rw [hl] at hcl FC hcs hll HSn
      clear hl
      generalize (f1 i).a = ta at *
      generalize (f1 i).c = tc at *
      have hsum : (L : Int) + (R : Int) = 64 * (n : Int) := by omega
      rcases hcs with ⟨r, hr1, hr2, hk, hE', hJ'⟩ | ⟨k, hk, hf, hE', hJ'⟩ | ⟨k, hk, hf, hE', hJ', hrow⟩
      · have e9 : errV r = .iface 68 (.int .i64 r) := errV_some hr1
        have HK1 := Lib.hid (fun V => fu_rlen hk (by omega) e9 V)
        have HAp := Lib.hid (fun V a c (g1 : FuS w q n d1 J lv vs V) (g2 : PB V a c xs) => fu_appE hE' hJ' e9 HXL.out HX.out.2.1 (by omega) g1 g2)
        have HLn := Lib.hid (fun V (g : FuS w q n d1 J lv vs V) => fu_lenE hL.symm g)
        have HNm : Hid (∀ V, FuS w q n d1 J lv vs V → Calls Tryz.prog 9 #[.iface 68 (.int .i64 r)] V fun e w' => e = .returned (.int .i64 r) ∧ FuS w q n d1 J lv vs w') := fun V g => fu_num HE.out g r
        have HZ : Hid (∀ V, FuS w q n d1 J lv vs V → FuI w q n d1 lv (i + 1) V) := fun V g => ⟨J, vs, g, HJ.out.1, HJ.out.2.1, HJ.out.2.2.1, HJ.out.2.2.2.1, Nat.le_succ_of_le HJ.out.2.2.2.2.1, HJ.out.2.2.2.2.2⟩
        clear hk hE' hJ' e9 HJ HSn hR hr1 hr2 HC1 HSu
        clear hL
        go_wp2_with (first
          | (at_builtin; refine wpList_append_bytes _ rfl _ _ rfl wr.heap.size _ [] xs rfl (own_nil _ _) ta l tc rfl HXL.out HX.out.2.2 (HX.out.1.on HS.out.bw) (by rw [HXL.out]; simp; omega) (Nat.le_refl _) ?_
             intro v5 w5 hown5 hgrow5
             have hb5 : Below wr.heap.size wr w5 := (Below.refl _ _).grown hgrow5 (Nat.le_refl _) (fun k hk => by cases hk)
             rw [List.nil_append] at hown5
             obtain ⟨xa, xc, hv5, hp5, hp6⟩ := hown5.bytes
             rw [HXL.out] at hv5
             subst hv5
             have HP : Hid (PB w5 xa xc xs) := ⟨hp5, hp6⟩
             have HS1 := Lib.hid (HS.out.on hb5)
             clear hp5 hp6 hown5 hgrow5 hb5)
          | (go_at_call 22; refine (HK1.out _).mono ?_; rintro e w6 ⟨rfl, rfl⟩)
          | (go_at_call 14; refine (HRm.out _ HS1.out).mono ?_; rintro e w7 ⟨rfl, hS7, hb7⟩
             have HP2 := Lib.hid (HP.out.on hb7)
             have HS2 := Lib.hid hS7
             clear hS7 hb7)
          | fail)
        refine (HAp.out _ _ _ HS2.out HP2.out).mono ?_
        rintro e w8 ⟨rfl, hS8⟩
        have HS3 := Lib.hid hS8
        clear hS8 HAp HP HP2 HS1 HS2 HS hcl
        go_wp2_with (first
          | (go_at_call 13; refine (HLn.out _ HS3.out).mono ?_; rintro e w9 ⟨rfl, hS9⟩; have HS3 := Lib.hid hS9; clear hS9)
          | (go_at_call 14; refine (HRm.out _ HS3.out).mono ?_; rintro e w9 ⟨rfl, hS9, _⟩; have HS3 := Lib.hid hS9; clear hS9)
          | (go_at_call 9; refine (HNm.out _ HS3.out).mono ?_; rintro e w9 ⟨rfl, hS9⟩; have HS3 := Lib.hid hS9; clear hS9)
          | fail)
        go_roundw
        case rel => exact ⟨_, i + 1, rfl, by go_num, by omega, by omega, Lib.hid (HZ.out _ HS3.out)⟩
        case measure => simp [intOf]; omega
      · have hkr : (R : Int) < (k : Int) := by omega
        have hkr2 : decide (R < k) = true := decide_eq_true (by omega)
        have HK1 : Hid (∀ V, Calls Tryz.prog 22 #[.int .u64 3, .int .i64 l] V fun e w' => e = .returned (.tuple #[.int .i64 k, .nilIface]) ∧ w' = V) := fun V => fu_rlen hk (by omega) rfl V
        have HAp : Hid (∀ V a c, FuS w q n d1 J lv vs V → PB V a c xs → Calls Tryz.prog 18 #[.pointer (some ⟨q, 0, none⟩), .slice a l c] V fun e w' => e = .returned (.iface 68 (.int .i64 10)) ∧ FuS w q n d1 J lv vs w') := fun V a c g1 g2 => fu_appE hE' hJ' rfl HXL.out HX.out.2.1 (by omega) g1 g2
        have HLn := Lib.hid (fun V (g : FuS w q n d1 J lv vs V) => fu_lenE hL.symm g)
        have HNm : Hid (∀ V, FuS w q n d1 J lv vs V → Calls Tryz.prog 9 #[.iface 68 (.int .i64 10)] V fun e w' => e = .returned (.int .i64 10) ∧ FuS w q n d1 J lv vs w') := fun V g => fu_num HE.out g 10
        have HZ : Hid (∀ V, FuS w q n d1 J lv vs V → FuI w q n d1 lv (i + 1) V) := fun V g => ⟨J, vs, g, HJ.out.1, HJ.out.2.1, HJ.out.2.2.1, HJ.out.2.2.2.1, Nat.le_succ_of_le HJ.out.2.2.2.2.1, HJ.out.2.2.2.2.2⟩
        clear hk hE' hJ' HJ HSn hR hf HC1 HSu hL
        go_wp2_with (first
          | (at_builtin; refine wpList_append_bytes _ rfl _ _ rfl wr.heap.size _ [] xs rfl (own_nil _ _) ta l tc rfl HXL.out HX.out.2.2 (HX.out.1.on HS.out.bw) (by rw [HXL.out]; simp; omega) (Nat.le_refl _) ?_
             intro v5 w5 hown5 hgrow5
             have hb5 : Below wr.heap.size wr w5 := (Below.refl _ _).grown hgrow5 (Nat.le_refl _) (fun k hk => by cases hk)
             rw [List.nil_append] at hown5
             obtain ⟨xa, xc, hv5, hp5, hp6⟩ := hown5.bytes
             rw [HXL.out] at hv5
             subst hv5
             have HP : Hid (PB w5 xa xc xs) := ⟨hp5, hp6⟩
             have HS1 := Lib.hid (HS.out.on hb5)
             clear hp5 hp6 hown5 hgrow5 hb5)
          | (go_at_call 22; refine (HK1.out _).mono ?_; rintro e w6 ⟨rfl, rfl⟩)
          | (go_at_call 14; refine (HRm.out _ HS1.out).mono ?_; rintro e w7 ⟨rfl, hS7, hb7⟩
             have HP2 := Lib.hid (HP.out.on hb7)
             have HS2 := Lib.hid hS7
             clear hS7 hb7)
          | fail)
        refine (HAp.out _ _ _ HS2.out HP2.out).mono ?_
        rintro e w8 ⟨rfl, hS8⟩
        have HS3 := Lib.hid hS8
        clear hS8 HAp HP HP2 HS1 HS2 HS hcl
        go_wp2_with (first
          | (go_at_call 13; refine (HLn.out _ HS3.out).mono ?_; rintro e w9 ⟨rfl, hS9⟩; have HS3 := Lib.hid hS9; clear hS9)
          | (go_at_call 14; refine (HRm.out _ HS3.out).mono ?_; rintro e w9 ⟨rfl, hS9, _⟩; have HS3 := Lib.hid hS9; clear hS9)
          | (go_at_call 9; refine (HNm.out _ HS3.out).mono ?_; rintro e w9 ⟨rfl, hS9⟩; have HS3 := Lib.hid hS9; clear hS9)
          | fail)
        go_roundw
        case rel => exact ⟨_, i + 1, rfl, by go_num, by omega, by omega, Lib.hid (HZ.out _ HS3.out)⟩
        case measure => simp [intOf]; omega
      · obtain ⟨R2, hR2⟩ : ∃ R2, R = R2 + k := ⟨R - k, by omega⟩
        obtain ⟨L2, hL2⟩ : ∃ L2, L2 = L + k := ⟨_, rfl⟩
        have hkr : ¬ (R : Int) < (k : Int) := by omega
        have hkr2 : decide (R < k) = false := decide_eq_false (by omega)
        have hsum2 : (L2 : Int) + (R2 : Int) = 64 * (n : Int) := by omega
        have hsub : (R : Int) - (k : Int) = (R2 : Int) := by omega
        obtain ⟨J2, hJ2⟩ : ∃ J2, J2 = ({ J with pss := J.pss ++ [xs] } : Jr) := ⟨_, rfl⟩
        rw [← hJ2] at hJ'
        rw [hJ', ← hL2] at hrow
        have hcalm2 : Calm d1 J2 := by
          have q := HJ.out.2.2.2.1.append HS.out.ok.sf xs
          rw [hJ'] at q
          exact q
        have ha2 : J2.a = arN n := by rw [hJ2]; exact HJ.out.1
        have HK1 : Hid (∀ V, Calls Tryz.prog 22 #[.int .u64 3, .int .i64 l] V fun e w' => e = .returned (.tuple #[.int .i64 k, .nilIface]) ∧ w' = V) := fun V => fu_rlen hk (by omega) rfl V
        have HAp : Hid (∀ V a c, FuS w q n d1 J lv vs V → PB V a c xs → Calls Tryz.prog 18 #[.pointer (some ⟨q, 0, none⟩), .slice a l c] V fun e w' => e = .returned .nilIface ∧ FuS w q n d1 J2 lv vs w') := fun V a c g1 g2 => fu_appE hE' hJ' rfl HXL.out HX.out.2.1 (by omega) g1 g2
        have HLn := Lib.hid (fun V (g : FuS w q n d1 J2 lv vs V) => fu_lenE hrow g)
        have HRm2 : Hid (∀ V, FuS w q n d1 J2 lv vs V → Calls Tryz.prog 14 #[.pointer (some ⟨q, 0, none⟩)] V fun e w' => e = .returned (.int .i64 (R2 : Nat)) ∧ FuS w q n d1 J2 lv vs w' ∧ Below V.heap.size V w') := fun V hV => fu_room hV ha2 (by rw [hrow]; omega)
        have HZ : Hid (∀ V lv', FuS w q n d1 J2 lv' (vs ++ [.slice ta l tc]) V → FuI w q n d1 lv' (i + 1) V) := fun V lv' g => ⟨J2, _, g, ha2, by rw [hJ2]; exact HJ.out.2.1, by rw [hJ2]; exact HJ.out.2.2.1, hcalm2, by rw [hJ2]; show (J.pss ++ [xs]).length ≤ _; rw [List.length_append, List.length_singleton]; have := HJ.out.2.2.2.2.1; omega, by rw [hJ2]; exact HSn.out⟩
        clear hk hE' hJ' HJ HSn hR hf HC1 HSu hL hR2 hL2 hJ2 hrow hcalm2 ha2
        go_wp2_with (first
          | (at_builtin; refine wpList_append_bytes _ rfl _ _ rfl wr.heap.size _ [] xs rfl (own_nil _ _) ta l tc rfl HXL.out HX.out.2.2 (HX.out.1.on HS.out.bw) (by rw [HXL.out]; simp; omega) (Nat.le_refl _) ?_
             intro v5 w5 hown5 hgrow5
             have hb5 : Below wr.heap.size wr w5 := (Below.refl _ _).grown hgrow5 (Nat.le_refl _) (fun k hk => by cases hk)
             rw [List.nil_append] at hown5
             obtain ⟨xa, xc, hv5, hp5, hp6⟩ := hown5.bytes
             rw [HXL.out] at hv5
             subst hv5
             have HP : Hid (PB w5 xa xc xs) := ⟨hp5, hp6⟩
             have HS1 := Lib.hid (HS.out.on hb5)
             clear hp5 hp6 hown5 hgrow5 hb5)
          | (go_at_call 22; refine (HK1.out _).mono ?_; rintro e w6 ⟨rfl, rfl⟩)
          | (go_at_call 14; refine (HRm.out _ HS1.out).mono ?_; rintro e w7 ⟨rfl, hS7, hb7⟩
             have HP2 := Lib.hid (HP.out.on hb7)
             have HS2 := Lib.hid hS7
             clear hS7 hb7)
          | fail)
        refine (HAp.out _ _ _ HS2.out HP2.out).mono ?_
        rintro e w8 ⟨rfl, hS8⟩
        have HS3 := Lib.hid hS8
        clear hS8 HAp HP HP2 HS1 HS2 HS hcl hsum
        go_wp2_with (first
          | (go_at_call 13; refine (HLn.out _ HS3.out).mono ?_; rintro e w9 ⟨rfl, hS9⟩; have HS3 := Lib.hid hS9; clear hS9)
          | (go_at_call 14; refine (HRm2.out _ HS3.out).mono ?_; rintro e w9 ⟨rfl, hS9, _⟩; have HS3 := Lib.hid hS9
             have hc9 := FC.out _ hS9.bw
             have HS4 := Lib.hid (hS9.on (below_alloc w9 (.cells #[.slice ta l tc] 53)))
             clear hS9)
          | (at_builtin; refine wpList_append_row _ rfl _ _ rfl w.heap.size _ vs (.slice ta l tc) rfl HS4.out.row w9.heap.size rfl (cell_of (World.alloc_heap_new' _ _) rfl) rfl hvl HS4.out.bw.size ?_
             intro v10 w10 hown10 hgrow10
             have HS5 := Lib.hid (HZ.out _ _ (HS4.out.grow hown10 hgrow10))
             clear hown10 hgrow10)
          | fail)
        go_roundw
        case rel => exact ⟨_, i + 1, rfl, by go_num, by omega, by omega, HS5⟩
        case measure => simp [intOf]; omega
    · have hwh : (¬ (i : Int) < (n1 : Int)) ∨ ((i : Int) < (n1 : Int) ∧ ¬ (i : Int) < 40) := by omega
      obtain ⟨J, vs, hS, e1, e2, e3, e4, e5, hOld⟩ := HI.out
      obtain ⟨yl, hyl⟩ : ∃ yl, J.pss.length = yl := ⟨_, rfl⟩
      obtain ⟨lla, llc, hlv⟩ := fu_shape hS hOld
      rw [hyl] at hlv
      subst hlv
      obtain ⟨f1, f2, f3, f4⟩ := fu_end hS.ok e1 e4 HC1.out.2 ⟨hn1, hn6⟩
      rw [e2] at f4
      obtain ⟨J2, hJ2⟩ : ∃ J2, J2 = ({ J with sf := J.pss.length } : Jr) := ⟨_, rfl⟩
      have HW1 := Lib.hid (fu_waits (m := yl) hS (by rw [e3]; exact hyl))
      have HF : Hid (∀ V, FuS w q n d1 J (.slice lla yl llc) vs V → Calls Tryz.prog 19 #[.pointer (some ⟨q, 0, none⟩)] V fun e w' => e = .returned .nilIface ∧ FuS w q (n + n) (flushD d1 J) J2 (.slice lla yl llc) vs w') := fun V g => by
        rw [hJ2]
        exact fu_flush g e1 (by omega) f1 f2
      have HW2 : Hid (∀ V, FuS w q (n + n) (flushD d1 J) J2 (.slice lla yl llc) vs V → Calls Tryz.prog 16 #[.pointer (some ⟨q, 0, none⟩)] V fun e w' => e = .returned (.int .i64 0) ∧ FuS w q (n + n) (flushD d1 J) J2 (.slice lla yl llc) vs w') := fun V g => fu_waits (m := 0) g (by rw [hJ2]; exact Nat.sub_self _)
      have HOp : Hid (∀ V, FuS w q (n + n) (flushD d1 J) J2 (.slice lla yl llc) vs V → Calls Tryz.prog 7 #[.pointer (some ⟨w.heap.size + 2, 0, none⟩), .agg #[.int .i64 0, .int .i64 0, .int .i64 n], .int .u64 3] V fun e w' => ∃ q2 la2 lc2, e = .returned (.tuple #[.pointer (some ⟨q2, 0, none⟩), .slice la2 yl lc2, .nilIface]) ∧ ListIn w' la2 J.pss ∧ ListIn w' lla J.pss ∧ Below w.heap.size w w') := fun V g => fu_open g (by decide) f3 f4 (by omega) (by omega) hOld hyl
      have HLs : Hid (∀ V la2 lc2, ListIn V la2 J.pss → ListIn V lla J.pss → Calls Tryz.prog 11 #[.slice la2 yl lc2, .slice lla yl llc] V fun e w' => e = .returned (.bool true) ∧ Below V.heap.size V w') := fun V la2 lc2 g1 g2 => lists_ la2 lla J.pss _ lc2 llc V hyl (by omega) g1 g2
      clear hS e1 e2 e3 e4 e5 hOld hyl f1 f2 f3 f4 hJ2 HI hlt hin HT1 HLim HE HC1 hn1 hn6
      generalize J.pss = yss at *
      generalize flushD d1 J = d2 at *
      rcases hwh with hk1 | ⟨hk1, hk2⟩
      all_goals
        go_wp2_with fail
        refine HW1.out.mono ?_
        rintro e w3 ⟨rfl, hS3⟩
        have HF3 := Lib.hid (HF.out _ hS3)
        clear hS3 HW1 HF
        go_wp2_with fail
        refine HF3.out.mono ?_
        rintro e w4 ⟨rfl, hS4⟩
        have HW4 := Lib.hid (HW2.out _ hS4)
        clear hS4 HF3 HW2
        go_wp2_with fail
        refine HW4.out.mono ?_
        rintro e w5 ⟨rfl, hS5⟩
        have HO5 := Lib.hid (HOp.out _ hS5)
        clear hS5 HW4 HOp
        go_wp2_with (first
          | (go_at_call 7; refine HO5.out.mono ?_; rintro e w6 ⟨q2, la2, lc2, rfl, g1, g2, g3⟩
             have HL2 := Lib.hid (HLs.out _ la2 lc2 g1 g2)
             have HB6 := Lib.hid g3
             clear g1 g2 g3)
          | (go_at_call 11; refine HL2.out.mono ?_; rintro e w7 ⟨rfl, hb7⟩; have HB7 := Lib.hid (HB6.out.trans (hb7.mono HB6.out.size)); clear hb7)
          | (go_at_call 10; refine (HSu.out _).mono ?_; rintro e w8 ⟨rfl, hb8⟩; have HB8 := Lib.hid (below_step HB7.out hb8); clear hb8)
          | fail)
        go_ret
        exact ⟨rfl, HB8.out⟩
end Go.Proofs.YtjnhcanohefjiaaGreatDoor
