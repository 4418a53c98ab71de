/- What the law JournalAgain does, call by call; a row of slices that is copied when one more is laid behind. -/
import Derived.Test.YtjnhcanohefjiaaSfWalk
namespace Go.Proofs.Ytjnhcanohefjiaa
open Go.RowKit Go.Sort Go.Maps

theorem ag_arm {w wr : World} {bx q : Nat} {d : Dev} {K : Nat} {J : Jr} {rv ev lv : Value} {yss : List (List Nat)} (hL : LI w bx q 64 d K J rv ev wr) (hls : LsF wr (MineL w q rv ev) w.heap.size lv yss) (k : Nat) (hk : (k : Int) ≤ 9223372036854775807) :
    Calls Try.prog 8 #[.pointer (some ⟨w.heap.size + 2, 0, none⟩), .int .i64 k] wr fun e w' => e = .returned .nilIface ∧ LI w bx q 64 { d with armed := true, left := k } K J rv ev w' ∧ LsF w' (MineL w q rv ev) w.heap.size lv yss := by
  refine (arm_ hL.jn.dev k (by omega) hk).mono fun e w' ⟨h1, h2, h3⟩ => ⟨h1, hL.ext (hL.jn.fd h2 h3) (Ext.of_fd q rv ev h3), hls.ext hL.jn (Ext.of_fd q rv ev h3)⟩
theorem ag_flush {w wr : World} {bx q : Nat} {d : Dev} {K : Nat} {J : Jr} {rv ev lv : Value} {yss : List (List Nat)} (hL : LI w bx q 64 d K J rv ev wr) (ha : J.a = arN 64) (hK : K ≤ 10000) (hls : LsF wr (MineL w q rv ev) w.heap.size lv yss) :
    Calls Try.prog 11 #[.pointer (some ⟨q, 0, none⟩)] wr fun e w' => ∃ ev0, e = .returned ev0 ∧ ∃ rv' ev', LI w bx q 64 (flushD d J) (K + 64) (flushJ d J) rv' ev' w' ∧ LsF w' (MineL w q rv' ev') w.heap.size lv yss := by
  have hs : J.a.s.toNat = 64 := by rw [ha]; rfl
  refine (jflush_ hL.jn (by rw [hs]; omega)).mono fun e w' ⟨q1, q2⟩ => ⟨_, q1, ?_⟩
  obtain ⟨rv', ev', k1, k2⟩ := hL.to q2
  rw [hs] at k1
  exact ⟨rv', ev', k1, hls.ext hL.jn k2⟩
/-- What stays when a device is started anew. -/
theorem fd_ext {w w' : World} {p aa bb : Nat} (h : Fd p aa bb w w') : Ext (fun k => k = p ∨ k = aa ∨ k = bb) (fun k => k = p ∨ k = aa ∨ k = bb) w w' :=
  ⟨h.os, h.tape, h.output, h.size, fun k hk hn => h.block k hk (fun e => hn (.inl e)) (fun e => hn (.inr (.inl e))) (fun e => hn (.inr (.inr e))), fun _ h => .inl h⟩
theorem dev_free {w : World} {p aa bb : Nat} {d : Dev} {K : Nat} {la : Option Addr} {yss : List (List Nat)} (h : ListIn w la yss) (hd : DevIn w p aa bb d K) : ListF w (fun k => k = p ∨ k = aa ∨ k = bb) la yss :=
  h.free hd (fun k hk => by rcases hk with h | h | h <;> simp [h])
theorem ag_restart {w wr : World} {bx q : Nat} {d : Dev} {K : Nat} {J : Jr} {rv ev : Value} {lla : Option Addr} {yss : List (List Nat)} (hL : LI w bx q 64 d K J rv ev wr) (hl : ListIn wr lla yss) (a6 : Option Addr) (cs : List Int) (cn c6 : Nat) (hn : cs.length = cn) (hi : IntsIn wr a6 cs) (hlow : ∀ b o, a6 = some ⟨b, o, none⟩ → w.heap.size + 2 < b) (hcl : cn ≤ 140737488355328) :
    Calls Try.prog 12 #[.pointer (some ⟨w.heap.size + 2, 0, none⟩), .slice a6 cn c6] wr fun e w' => e = .returned (.tuple #[]) ∧ DevIn w' (w.heap.size + 2) w.heap.size (w.heap.size + 1) (restartD d cs) K ∧ ArAt w' bx (arN 64) ∧ ListIn w' lla yss ∧ Below w.heap.size w w' := by
  refine (restart_ hL.jn.dev a6 cs cn c6 hn hi (fun b o e => by have := hlow b o e; omega) hcl).mono fun e w' ⟨h1, h2, h3⟩ => ⟨h1, h2, hL.jn.area hL.ar (Ext.of_fd q rv ev h3), ((dev_free hl hL.jn.dev).ext (fd_ext h3)).list, hL.bw.trans (h3.below hL.bw.size (by omega) (by omega) (by omega))⟩
/-- A device at rest, opened again. -/
theorem ag_open {w wr : World} {bx : Nat} {lla : Option Addr} {d : Dev} {K : Nat} {yss : List (List Nat)} (hd : DevIn wr (w.heap.size + 2) w.heap.size (w.heap.size + 1) d K) (hr : Rest d (arN 64)) (hK : K ≤ 100000) (hb : Below w.heap.size w wr) (har : ArAt wr bx (arN 64)) (hbx : w.heap.size + 3 ≤ bx) (hy : ListIn wr lla yss) :
    Calls Try.prog 7 #[.pointer (some ⟨w.heap.size + 2, 0, none⟩), .agg #[.int .i64 0, .int .i64 0, .int .i64 64], .int .u64 7] wr fun e w' => ∃ q la lc rv ev, e = .returned (.tuple #[.pointer (some ⟨q, 0, none⟩), .slice la (openJ d (arN 64) 7).pss.length lc, .nilIface]) ∧ LI w bx q 64 (cleanD (arN 64) (openJ d (arN 64) 7).row d) (K + 64) (openJ d (arN 64) 7) rv ev w' ∧ ListF w' (MineL w q rv ev) la (openJ d (arN 64) 7).pss ∧ (openJ d (arN 64) 7).pss.length ≤ lc ∧ ListIn w' lla yss := by
  refine (open_rest 64 (by decide) 7 (by decide) hd hr ⟨by omega, by omega, by omega⟩ hb.size (by omega)).mono fun e w' ⟨q, rv, ev, la, lc, g1, g2, g3, g4, g5⟩ => ⟨q, la, lc, rv, ev, g1, ⟨hb.trans (g5.below hb.size (fun k hk => by rcases hk with e | e | e <;> omega)), g2, har.ext g5 (by rintro (e | e | e) <;> omega)⟩, g3, g4, ((dev_free hy hd).ext g5).list⟩
/-- A record more, where there is room, behind those that are all safe. -/
structure AgI (j : Nat) (d : Dev) (K : Nat) (J : Jr) : Prop where
  a : J.a = arN 64
  ep : J.ep = 7
  row : J.row.length ≤ 1860 + 124 * j
  calm : Calm d J
  sf : J.sf = J.pss.length
  arm : d.armed = false
  K : K ≤ 1000 + 64 * j
  dim : d.r = 1 ∧ d.s = 64
theorem AgI.more {j : Nat} {d : Dev} {K : Nat} {J : Jr} (h : AgI j d K J) : AgI (j + 1) d K J := ⟨h.a, h.ep, by have := h.row; omega, h.calm, h.sf, h.arm, by have := h.K; omega, h.dim⟩
theorem ag_app {w wr V : World} {bx q j : Nat} {d : Dev} {K : Nat} {J : Jr} {rv ev : Value} {ta : Option Addr} (hL : LI w bx q 64 d K J rv ev wr) (hA : AgI j d K J) (hj : j < 15) (hV : Below wr.heap.size wr V) (hls : ListF V (MineL w q rv ev) ta J.pss) (u : Value) (xs : List Nat) (h100 : xs.length ≤ 100) (h0 : xs ≠ []) (hx : ∀ x ∈ xs, x < 256) (hp : PayF V (MineL w q rv ev) u xs) :
    Calls Try.prog 10 #[.pointer (some ⟨q, 0, none⟩), u] V fun e w' => e = .returned .nilIface ∧ ∃ rv ev, LI w bx q 64 d K (plusJ J xs) rv ev w' ∧ ListF w' (MineL w q rv ev) ta J.pss ∧ PayF w' (MineL w q rv ev) u xs := by
  have hs : J.a.s.toNat = 64 := by rw [hA.a]; rfl
  have hrow := hA.row
  obtain ⟨e1, e2⟩ := app_room (J := J) (xs := xs) hA.calm.alive h0 (by omega) hL.jn.jr.ok.ep (by rw [hs]; omega)
  have hLV := hL.on hV
  have hp' := hp
  obtain ⟨g, cc, hu, hby, _⟩ := hp'
  subst hu
  refine (jappend_ hLV.jn _ xs _ cc rfl hby hx (fun q => by cases q) (by omega)).mono fun e w' ⟨q1, q2⟩ => ⟨by rw [q1, e1]; rfl, ?_⟩
  obtain ⟨rv', ev', k1, k2⟩ := hLV.to q2
  rw [e2] at k1
  exact ⟨rv', ev', k1, hls.ext k2, hp.ext k2⟩
theorem ag_safe {w wr : World} {bx q j : Nat} {d : Dev} {K : Nat} {J : Jr} {rv ev u : Value} {ta : Option Addr} {xs : List Nat} (hL : LI w bx q 64 d K (plusJ J xs) rv ev wr) (hA : AgI j d K J) (hj : j < 15) (h100 : xs.length ≤ 100) (hls : ListF wr (MineL w q rv ev) ta J.pss) (hp : PayF wr (MineL w q rv ev) u xs) :
    Calls Try.prog 11 #[.pointer (some ⟨q, 0, none⟩)] wr fun e w' => e = .returned .nilIface ∧ ∃ d' K' J' rv ev, LI w bx q 64 d' K' J' rv ev w' ∧ AgI (j + 1) d' K' J' ∧ J'.pss = J.pss ++ [xs] ∧ ListF w' (MineL w q rv ev) ta J.pss ∧ PayF w' (MineL w q rv ev) u xs := by
  have hs : (plusJ J xs).a.s.toNat = 64 := by show J.a.s.toNat = 64; rw [hA.a]; rfl
  have hok := hL.jn.jr.ok
  have hK := hA.K
  have hc : Calm d (plusJ J xs) := plus_calm hA.calm (by rw [hA.sf]; exact Nat.le_refl _)
  obtain ⟨f1, f2⟩ := hc.flush_calm hok hA.arm
  obtain ⟨g1, g2⟩ := hc.flush hok f1
  obtain ⟨b1, b2, _⟩ := flush_bad hc hok
  have hrow := plus_row (J := J) (xs := xs) hok.ep h100
  have hrow2 := hA.row
  refine (jflush_ hL.jn (by rw [hs]; omega)).mono fun e w' ⟨q1, q2⟩ => ⟨by rw [q1, f1]; rfl, ?_⟩
  obtain ⟨rv', ev', k1, k2⟩ := hL.to q2
  rw [g2] at k1 g1
  refine ⟨_, _, _, rv', ev', k1, ⟨hA.a, hA.ep, ?_, g1, rfl, f2, by rw [hs]; omega, b1.trans hA.dim.1, b2.trans hA.dim.2⟩, rfl, hls.ext k2, hp.ext k2⟩
  show (plusJ J xs).row.length ≤ _
  omega
/-- The slices that stand in a row, as values. -/
theorem ListF.vals {w : World} {M : Nat → Prop} {ta : Option Addr} {zss : List (List Nat)} (h : ListF w M ta zss) : ∃ vs : List Value, vs.length = zss.length ∧ (∀ b, ta = some b → ∀ j u, vs[j]? = some u → w.cell? (b.add j) = some u) ∧ ∀ i, i < zss.length → ∃ a c, vs.getD i undef = .slice a (zss.getD i []).length c ∧ BytesIn w a (zss.getD i []) ∧ (zss.getD i [] ≠ [] → ∃ g o', a = some ⟨g, o', none⟩ ∧ g < w.heap.size ∧ ¬ M g) := by
  obtain ⟨f, hf⟩ := Deep.choose_lt (α := Value) (n := zss.length) (p := fun i v => (∀ b, ta = some b → w.cell? (b.add i) = some v) ∧ ∃ a c, v = .slice a (zss.getD i []).length c ∧ BytesIn w a (zss.getD i []) ∧ (zss.getD i [] ≠ [] → ∃ g o', a = some ⟨g, o', none⟩ ∧ g < w.heap.size ∧ ¬ M g)) (fun i hi => by
    obtain ⟨b, o, h1, _, _, a, c, h4, h5, h6⟩ := h i hi
    refine ⟨_, fun b' e => ?_, a, c, rfl, h5, h6⟩
    rw [h1] at e
    cases e
    rw [Addr.add_lit]
    exact h4)
  refine ⟨(List.range zss.length).map f, by simp, fun b hb j u hj => ?_, fun i hi => ?_⟩
  · rw [List.getElem?_map] at hj
    by_cases hjl : j < zss.length
    · rw [List.getElem?_range hjl] at hj
      simp at hj
      subst hj
      exact (hf j hjl).1 b hb
    · rw [List.getElem?_eq_none (by simpa using hjl)] at hj
      cases hj
  · have e : ((List.range zss.length).map f).getD i undef = f i := by simp [List.getD_eq_getElem?_getD, List.getElem?_range hi]
    rw [e]
    exact (hf i hi).2
theorem slices_one {w : World} {M : Nat → Prop} {vs : List Value} {zss : List (List Nat)} {u : Value} {xs : List Nat} (hl : vs.length = zss.length) (h : ∀ i, i < zss.length → ∃ a c, vs.getD i undef = .slice a (zss.getD i []).length c ∧ BytesIn w a (zss.getD i []) ∧ (zss.getD i [] ≠ [] → ∃ g o', a = some ⟨g, o', none⟩ ∧ g < w.heap.size ∧ ¬ M g)) (hp : PayF w M u xs) : (∀ i, i < (zss ++ [xs]).length → ∃ a c, (vs ++ [u]).getD i undef = .slice a ((zss ++ [xs]).getD i []).length c ∧ BytesIn w a ((zss ++ [xs]).getD i []) ∧ ((zss ++ [xs]).getD i [] ≠ [] → ∃ g o', a = some ⟨g, o', none⟩ ∧ g < w.heap.size ∧ ¬ M g)) := by
  intro i hi
  rw [List.length_append, List.length_singleton] at hi
  rcases Nat.lt_or_ge i zss.length with h1 | h1
  · have e1 : (vs ++ [u]).getD i undef = vs.getD i undef := by rw [List.getD_eq_getElem?_getD, List.getD_eq_getElem?_getD, List.getElem?_append_left (by omega)]
    have e2 : (zss ++ [xs]).getD i [] = zss.getD i [] := by rw [List.getD_eq_getElem?_getD, List.getD_eq_getElem?_getD, List.getElem?_append_left (by omega)]
    rw [e1, e2]
    exact h i h1
  · obtain rfl : i = zss.length := by omega
    have e1 : (vs ++ [u]).getD zss.length undef = u := by rw [← hl]; simp
    have e2 : (zss ++ [xs]).getD zss.length [] = xs := by simp
    rw [e1, e2]
    obtain ⟨g, c, hu, hb, hm, cur, hc⟩ := hp
    exact ⟨_, c, hu, hb, fun _ => ⟨g, 0, rfl, blk_lt hc, hm⟩⟩
/-- Copied into a row that is new. -/
theorem listF_new {w w' : World} {M : Nat → Prop} {v : Value} {vs : List Value} {zss : List (List Nat)} (hM : ∀ k, M k → k < w.heap.size) (hl : vs.length = zss.length) (h : ∀ i, i < zss.length → ∃ a c, vs.getD i undef = .slice a (zss.getD i []).length c ∧ BytesIn w a (zss.getD i []) ∧ (zss.getD i [] ≠ [] → ∃ g o', a = some ⟨g, o', none⟩ ∧ g < w.heap.size ∧ ¬ M g)) (ho : w'.ownsRow w.heap.size 40 1 v zss.length vs) (hb : Below w.heap.size w w') : ∃ la lc, v = .slice la zss.length lc ∧ zss.length ≤ lc ∧ ListF w' M la zss := by
  rcases ho.2 with ⟨e, e0⟩ | ⟨g, cap, cur, e, g1, g2, g3, g4, g5, g6⟩
  · refine ⟨none, 0, by rw [e, e0], by omega, fun i hi => by omega⟩
  · refine ⟨some ⟨g, 0, none⟩, cap, e, g3, fun i hi => ⟨g, 0, rfl, blk_lt g2, fun m => ?_, ?_⟩⟩
    · have := hM g m
      omega
    · obtain ⟨a, c, e1, e2, e3⟩ := h i hi
      refine ⟨a, c, ?_, e2.on hb, fun hne => ?_⟩
      · rw [Nat.zero_add]
        refine cell_of g2 ?_
        have hiv : i < vs.length := by omega
        have hget : vs[i]? = some (vs.getD i undef) := by rw [List.getD_eq_getElem?_getD, List.getElem?_eq_getElem hiv]; rfl
        rw [← e1, ← hget, ← g6, Nat.mul_one, List.getElem?_take_of_lt (by omega)]
        simp
      · obtain ⟨g', o', q1, q2, q3⟩ := e3 hne
        exact ⟨g', o', q1, Nat.lt_of_lt_of_le q2 hb.size, q3⟩
end Go.Proofs.Ytjnhcanohefjiaa
