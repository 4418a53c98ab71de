/- Lists of the law's own bytes beside a journal; what a Flush that fails leaves. -/
import Derived.Test.YtjnhcanohefjiaaJJD
import Derived.Test.YtjnhcanohefjiaaJJE
namespace Go.Proofs.Ytjnhcanohefjiaa
open Go.RowKit Go.Sort Go.Maps

/-- Bytes in a row of the law's own, none of the blocks M. -/
def PayF (w : World) (M : Nat → Prop) (u : Value) (ys : List Nat) : Prop := ∃ g c, u = .slice (some ⟨g, 0, none⟩) ys.length c ∧ BytesIn w (some ⟨g, 0, none⟩) ys ∧ ¬ M g ∧ ∃ cur, w.heap[g]? = some (.cells cur 5 (0, 0))
def LsF (w : World) (M : Nat → Prop) (base : Nat) (v : Value) (yss : List (List Nat)) : Prop := ∃ vs, OwnR w base v vs ∧ vs.length = yss.length ∧ ∀ i, i < yss.length → PayF w M (vs.getD i undef) (yss.getD i [])
theorem lsF_nil (w : World) (M : Nat → Prop) (base : Nat) : LsF w M base (.slice none 0 0) [] := ⟨[], ownR_nil w base, rfl, fun i hi => by simp at hi⟩
theorem PayF.ext {w w' : World} {M M' : Nat → Prop} {u : Value} {ys : List Nat} (h : PayF w M u ys) (hx : Ext M M' w w') : PayF w' M' u ys := by
  obtain ⟨g, c, h1, h2, h3, cur, h4⟩ := h
  have hb := hx.block g (blk_lt h4) h3
  refine ⟨g, c, h1, bytes_block h2 hb, fun q => ?_, cur, hb.trans h4⟩
  rcases hx.new g q with e | e
  · exact h3 e
  · exact absurd (blk_lt h4) (Nat.not_lt.2 e)
theorem LsF.ext {w w' : World} {base b2 p aa bb q : Nat} {d : Dev} {K : Nat} {J : Jr} {rv ev v : Value} {yss : List (List Nat)} {M' : Nat → Prop} (h : LsF w (Mine p aa bb q rv ev) b2 v yss) (hj : Jn w base p aa bb q d K J rv ev) (hx : Ext (Mine p aa bb q rv ev) M' w w') : LsF w' M' b2 v yss := by
  obtain ⟨vs, h1, h2, h3⟩ := h
  exact ⟨vs, h1.ext hj hx, h2, fun i hi => (h3 i hi).ext hx⟩
theorem LsF.on {w w' : World} {M : Nat → Prop} {base : Nat} {v : Value} {yss : List (List Nat)} (h : LsF w M base v yss) (hb : Below w.heap.size w w') : LsF w' M base v yss := by
  obtain ⟨vs, h1, h2, h3⟩ := h
  exact ⟨vs, h1.on hb, h2, fun i hi => (h3 i hi).ext (Ext.of_below M hb)⟩
theorem PayF.grown {w w' : World} {M : Nat → Prop} {base : Nat} {u v : Value} {ys : List Nat} {vs : List Value} (h : PayF w M u ys) (hr : OwnR w base v vs) (hg : w.grownBy w' v.ownBlock) : PayF w' M u ys := by
  obtain ⟨g, c, h1, h2, h3, cur, h4⟩ := h
  have hb := hg.block g (blk_lt h4) (row_apart hr h4 (by decide))
  exact ⟨g, c, h1, bytes_block h2 hb, h3, cur, hb.trans h4⟩
theorem LsF.snoc {w w' : World} {M : Nat → Prop} {base : Nat} {v v' u : Value} {vs : List Value} {yss : List (List Nat)} {ys : List Nat} (hr : OwnR w base v vs) (hl : vs.length = yss.length) (h3 : ∀ i, i < yss.length → PayF w M (vs.getD i undef) (yss.getD i [])) (hu : PayF w M u ys) (hr' : OwnR w' base v' (vs ++ [u])) (hg : w.grownBy w' v.ownBlock) : LsF w' M base v' (yss ++ [ys]) := by
  refine ⟨vs ++ [u], hr', by simp [hl], fun i hi => ?_⟩
  rw [List.length_append, List.length_singleton] at hi
  rcases Nat.lt_or_ge i yss.length with h | h
  · have e1 : (vs ++ [u]).getD i undef = vs.getD i undef := by rw [List.getD_eq_getElem?_getD, List.getD_eq_getElem?_getD, List.getElem?_append_left (by omega)]
    have e2 : (yss ++ [ys]).getD i [] = yss.getD i [] := by rw [List.getD_eq_getElem?_getD, List.getD_eq_getElem?_getD, List.getElem?_append_left (by omega)]
    rw [e1, e2]
    exact (h3 i h).grown hr hg
  · obtain rfl : i = yss.length := by omega
    have e1 : (vs ++ [u]).getD yss.length undef = u := by rw [← hl]; simp
    have e2 : (yss ++ [ys]).getD yss.length [] = ys := by simp
    rw [e1, e2]
    exact hu.grown hr hg
theorem LsF.slice {w : World} {M : Nat → Prop} {base : Nat} {v : Value} {yss : List (List Nat)} (h : LsF w M base v yss) : ∃ la lc, v = .slice la yss.length lc ∧ ListIn w la yss ∧ yss.length ≤ lc := by
  obtain ⟨vs, h1, h2, h3⟩ := h
  rcases h1.2 with ⟨e, e0⟩ | ⟨g, cap, cur, e, g1, g2, g3, g4, g5, g6⟩
  · refine ⟨none, 0, ?_, fun i hi => ?_, by omega⟩
    · rw [e, ← h2, e0]
    · omega
  · refine ⟨some ⟨g, 0, none⟩, cap, by rw [e, h2], fun i hi => ⟨g, 0, rfl, ?_⟩, by omega⟩
    obtain ⟨g', c, ev, kb, _⟩ := h3 i hi
    refine ⟨some ⟨g', 0, none⟩, c, ?_, kb⟩
    rw [Nat.zero_add]
    refine cell_of g2 ?_
    have hiv : i < vs.length := by omega
    have hget : vs[i]? = some (vs.getD i undef) := by rw [List.getD_eq_getElem?_getD, List.getElem?_eq_getElem hiv]; rfl
    rw [← ev, ← hget, ← g6, Nat.mul_one, List.getElem?_take_of_lt hiv]
    simp
/-- A row of bytes that was made just now is none of a journal's own. -/
theorem own_payF {wr V : World} {base q p aa bb : Nat} {d : Dev} {K : Nat} {J : Jr} {rv ev v : Value} {xs : List Nat} (hj : Jn wr base p aa bb q d K J rv ev) (h : Own V wr.heap.size v xs) (h0 : xs ≠ []) : PayF V (Mine p aa bb q rv ev) v xs := by
  have hp : 0 < xs.length := List.length_pos_iff.2 h0
  obtain ⟨g, c, e, _, hb, _⟩ := own_some' h hp
  subst e
  refine ⟨g, c, rfl, h.cells.2.1, fun m => ?_, row_block h rfl⟩
  have := (hj.mine g m).2
  omega
/-- A row of numbers of one's own, more of them laid behind. -/
theorem info3 : (Try.prog.info? 3).map (fun i => (i.zero, i.size, i.bytes)) = some (some (.int .i64 0), 1, 8) := by kernel_rfl
theorem wpList_append_ints (w : World) {ops : Array Oper} {rest : List Oper} {o : Oper} {act : Act} {Q : Exit → Act → World → Prop} (hgd : o.guard = none) (s x : Operand)
    (ho : o.op = .call { callee := .builtin .append, args := #[s, x], argTypes := #[23, 23] }) (hs : act.eval s = .slice none 0 0)
    (a : Option Addr) (zs : List Int) (m c' : Nat) (hx : act.eval x = .slice a m c') (hm : zs.length = m) (hnil : a = none → c' = 0) (hin : IntsIn w a zs) (hbytes : zs.length * 8 ≤ 140737488355328)
    (hK : ∀ a' c2 w', IntsIn w' a' zs → (∀ b o, a' = some ⟨b, o, none⟩ → w.heap.size ≤ b) → Below w.heap.size w w' → wpList Try.prog ops Q rest (act.put o.dst (.slice a' m c2)) w') : wpList Try.prog ops Q (o :: rest) act w := by
  obtain ⟨i0, hi, hz0, hz1, hz2⟩ := info_parts info3
  subst hm
  refine wpList_plain hgd fun K hKK => ?_
  have hown := World.ownsRow_nil w w.heap.size 3 1
  cases a with
  | none =>
    have hz : zs = [] := by
      cases zs with
      | nil => rfl
      | cons z r => obtain ⟨b, o, e, _⟩ := hin 0 (by simp); cases e
    subst hz
    obtain rfl := hnil rfl
    have hrun := run_append_owned_none (P := Try.prog) w w.heap.size 23 o.type 3 i0 1 Try.underlying23 hi _ _ _ hown
    unfold Oper.wp
    simp only [List.length_nil] at hx
    simp [execOp, ho, resolve, invoke, builtin, hs, hx, hrun, Result.andThen]
    exact hKK _ _ (hK none 0 w (intsIn_nil _ _) (fun b o e => by cases e) (Below.refl _ _))
  | some ad =>
    have hnews : ∀ j u, (zs.map (Value.int .i64))[j]? = some u → w.cell? (ad.add j) = some u := by
      intro j u hj
      have hl : j < zs.length := by
        rcases Nat.lt_or_ge j zs.length with h | h
        · exact h
        · rw [List.getElem?_eq_none (by simpa using h)] at hj; cases hj
      obtain ⟨b, o, e, h1⟩ := hin j hl
      cases e
      rw [Addr.add_lit, h1]
      simp [List.getElem?_map, List.getElem?_eq_getElem hl] at hj
      rw [hj]
    obtain ⟨v', w', hr, h2, h3, _⟩ := run_append_own_at (P := Try.prog) w w.heap.size 23 o.type 3 i0 (.int .i64 0) 1 8 Try.underlying23 hi hz0 hz1 hz2 rfl (by decide) _ 0 [] hown ad zs.length c' (zs.map (Value.int .i64)) (by simp) hnews (by intro u hu; obtain ⟨z, _, rfl⟩ := List.mem_map.1 hu; rfl) (by unfold maxLen; omega) (by omega) (Nat.le_refl _)
    unfold Oper.wp execOp
    simp only [ho, resolve, invoke, builtin, Sem.run_bind, Sem.run_pure, Result.andThen_ok, List.map_toArray, List.map_cons, List.map_nil, hs, hx, hr]
    refine hKK _ _ ?_
    have hB : Below w.heap.size w w' := (Below.refl _ w).grown h3 (Nat.le_refl _) (fun k hk => by simp [Value.ownBlock] at hk)
    rw [Nat.zero_add, List.nil_append] at h2
    rcases h2.2 with ⟨rfl, e⟩ | ⟨g, cap, cur, rfl, q1, q2, _, _, q5, q6⟩
    · have hz : zs = [] := List.eq_nil_of_length_eq_zero e
      subst hz
      exact hK none 0 w' (intsIn_nil _ _) (fun b o e => by cases e) hB
    · refine hK (some ⟨g, 0, none⟩) cap w' (fun i hi => ⟨g, 0, rfl, ?_⟩) (fun b o e => by cases e; exact q1) hB
      have := World.ownsRow.cellAt h2 i (by omega)
      rw [Nat.zero_add, this]
      simp [List.getElem?_map, List.getElem?_eq_getElem hi]
/-- A write that fails crashes the device. -/
theorem write_bad {d : Dev} {k : Pl} {xs : List Nat} (h : hasD d k) (hn : xs.length ≤ 64) (hc : d.crashed = false) (he : wErr d k xs.length ≠ 0) : (writeD d k xs).crashed = true := by
  have ha : d.armed = true ∧ d.left = 0 := by
    apply Decidable.byContradiction
    intro hno
    apply he
    unfold wErr
    rw [if_neg (fun e => e h), if_neg (by omega), if_neg (by simp [hc]), if_neg hno]
  unfold writeD
  rw [if_neg (by rintro (e | e | e); exact e h; omega; simp [hc] at e)]
  show (d.crashed || (d.armed && decide (d.left = 0))) = true
  rw [ha.1, ha.2]
  simp
theorem wrtS_bad {d : Dev} {a : Ar} {row : List Nat} {f : Nat} (hin : inJ d a) (hc : d.crashed = false) : ∀ k, f + k ≤ a.s.toNat → (wrtS a row f d k).1.r = d.r ∧ (wrtS a row f d k).1.s = d.s ∧ ((wrtS a row f d k).2 = 0 → (wrtS a row f d k).1.crashed = false) ∧ ((wrtS a row f d k).2 ≠ 0 → (wrtS a row f d k).1.crashed = true)
  | 0, _ => ⟨rfl, rfl, fun _ => hc, fun h => absurd rfl h⟩
  | k + 1, hk => by
    obtain ⟨i1, i2, i3, i4⟩ := wrtS_bad (row := row) (f := f) hin hc k (by omega)
    show (if (wrtS a row f d k).2 ≠ 0 then wrtS a row f d k else (writeD (wrtS a row f d k).1 (atJ a (f + k)) (partJ row (f + k)), wErr (wrtS a row f d k).1 (atJ a (f + k)) (partJ row (f + k)).length)).1.r = d.r ∧ _
    rw [show wrtS a row f d (k + 1) = if (wrtS a row f d k).2 ≠ 0 then wrtS a row f d k else (writeD (wrtS a row f d k).1 (atJ a (f + k)) (partJ row (f + k)), wErr (wrtS a row f d k).1 (atJ a (f + k)) (partJ row (f + k)).length) from rfl]
    generalize wrtS a row f d k = s at *
    obtain ⟨_, w2, w3, _, _⟩ := write_stays s.1 (atJ a (f + k)) (partJ row (f + k))
    by_cases h1 : s.2 ≠ 0
    · simp only [if_pos h1]
      exact ⟨i1, i2, i3, i4⟩
    · simp only [if_neg h1]
      have h0 : s.2 = 0 := by simpa using h1
      have hhas : hasD s.1 (atJ a (f + k)) := inJ_has (a := a) (by unfold inJ; rw [i1, i2]; exact hin) (by omega)
      exact ⟨w2.trans i1, w3.trans i2, fun h => (write_good h).1, fun h => write_bad hhas (partJ_le _ _) (i3 h0) h⟩
theorem flush_bad {d : Dev} {J : Jr} (h : Calm d J) (hj : okJ J) : (flushD d J).r = d.r ∧ (flushD d J).s = d.s ∧ (flushE d J ≠ 0 → (flushD d J).crashed = true) := by
  by_cases hs : J.sf = J.pss.length
  · obtain ⟨f1, _, f3⟩ := flush_none (d := d) hs
    rw [f1, f3]
    exact ⟨rfl, rfl, fun e => absurd h.alive e⟩
  · obtain ⟨f1, f2, _⟩ := flush_some (d := d) h.alive hs
    have hlt := upto_lt (J := J) (n := J.sf) (by have := hj.sf; omega)
    obtain ⟨c1, c2⟩ := cnt_le hlt hj.len
    obtain ⟨b1, b2, b3, b4⟩ := wrtS_bad (row := J.row) (f := J.upto J.sf / 64) h.inn h.cr (cntJ J.row (J.upto J.sf)) c2
    rw [f1, f2]
    unfold wrtD wrtE
    generalize wrtS J.a J.row (J.upto J.sf / 64) d (cntJ J.row (J.upto J.sf)) = s at *
    by_cases h1 : s.2 ≠ 0
    · simp only [if_pos h1]
      exact ⟨b1, b2, fun _ => b4 h1⟩
    · simp only [if_neg h1]
      have h0 : s.2 = 0 := by simpa using h1
      have hin' : inJ s.1 J.a := by unfold inJ; rw [b1, b2]; exact h.inn
      have hse := sErr_zero hin' (b3 h0)
      unfold syncD
      rw [if_pos hse]
      exact ⟨b1, b2, fun e => absurd hse e⟩
theorem Calm.arm {d : Dev} {J : Jr} (h : Calm d J) (b : Bool) (l : Int) : Calm { d with armed := b, left := l } J :=
  ⟨⟨h.ok.srt, h.ok.pend, h.ok.safe, h.ok.wid⟩, h.pend, h.cr, h.inn, h.lies, h.alive⟩
/-- What was told is what lies there then. -/
theorem open_seen {d : Dev} {a : Ar} {ep : Nat} (h : Rest d a) (he : ep < 18446744073709551616) : (scan ep (heldJ (cleanD a (openJ d a ep).row d) a)).1 = (openJ d a ep).pss := by
  obtain ⟨_, o2, _⟩ := h.opened he
  have q := o2.seen (open_okJ h.ok h.inn h.lim he)
  have e : (openJ d a ep).sf = (openJ d a ep).pss.length := rfl
  rw [e, List.take_length] at q
  exact q
end Go.Proofs.Ytjnhcanohefjiaa
