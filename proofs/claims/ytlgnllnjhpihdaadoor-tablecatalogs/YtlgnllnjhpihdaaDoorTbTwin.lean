/- The walk of the law's 'twin'. -/
import Derived.Test.YtlgnllnjhpihdaaDoorTbParse
namespace Go.Proofs.YtlgnllnjhpihdaaDoor
open Go.RowKit Go.Sort

theorem wpList_exec {P : Program} {ops : Array Oper} {rest : List Oper} {o : Oper} {a : Act} {w w' : World} {v : Value} {Q : Exit → Act → World → Prop} (hgd : o.guard = none) (hr : (execOp a.eval o).run P w = .ok (.value v) w') (h : wpList P ops Q rest (a.put o.dst v) w') : wpList P ops Q (o :: rest) a w :=
  wpList_plain hgd fun _ hK => by
    unfold Oper.wp
    rw [hr]
    exact hK _ _ h
/-- append(row, columns), as a run. -/
theorem app_cols {w : World} {base : Nat} {v : Value} {es ys : List Col} (hown : OwnC w base v es) (t : TypeId) {b o m c' : Nat} (hin : ColsIn w (some ⟨b, o, none⟩) ys) (hm : ys.length = m) (hlen : (es.length + ys.length) * 32 ≤ 140737488355328) (hbase : base ≤ w.heap.size) :
    ∃ a n c w', (Builtin.append_ #[22, 22] t #[v, .slice (some ⟨b, o, none⟩) m c']).run Tryd.prog w = .ok (.slice a n c) w' ∧ OwnC w' base (.slice a n c) (es ++ ys) ∧ w.grownBy w' v.ownBlock := by
  obtain ⟨i0, hi, hz0, hz1, hz2⟩ := info_parts infoC
  subst hm
  obtain ⟨v', w', hr, h2, h3, _, h5⟩ := run_append_own_at (P := Tryd.prog) w base 22 t 55 i0 (.agg #[.string ⟨#[]⟩, .int .i64 0, .bool false, .bool false]) 4 32 Tryd.underlying22 hi hz0 hz1 hz2 rfl (by decide) v es.length (colCells es) hown ⟨b, o, none⟩ ys.length c' (colCells ys) (colCells_len ys) (colNews hin) (colCells_one ys) (by unfold maxLen; omega) (by omega) hbase
  have ho : OwnC w' base v' (es ++ ys) := ownC_join rfl rfl h2
  obtain ⟨a, c, rfl, _, _⟩ := ho.cols
  exact ⟨a, _, c, w', hr, ho, h3⟩
/-- append(nil, columns). -/
theorem app_nil {w : World} {cs : List Col} {a : Option Addr} {c : Nat} (h : ColsIn w a cs) (hnil : a = none → c = 0) (hlen : cs.length * 32 ≤ 140737488355328) (t : TypeId) :
    ∃ a3 n3 c3 V3, (Builtin.append_ #[22, 22] t #[.slice none 0 0, .slice a cs.length c]).run Tryd.prog w = .ok (.slice a3 n3 c3) V3 ∧ OwnC V3 w.heap.size (.slice a3 n3 c3) cs ∧ Below w.heap.size w V3 := by
  cases a with
  | none =>
    have h0 : cs = [] := by
      refine Classical.byContradiction fun hne => ?_
      obtain ⟨_, _, e, _⟩ := h 0 (List.length_pos_iff.2 hne)
      cases e
    subst h0
    obtain rfl := hnil rfl
    exact ⟨none, 0, 0, w, by kernel_rfl, ownC_nil _ _, Below.refl _ _⟩
  | some ad =>
    obtain ⟨b, o, m⟩ := ad
    by_cases h0 : cs = []
    · subst h0
      obtain ⟨i0, hi, hz0, hz1, hz2⟩ := info_parts infoC
      obtain ⟨v', w', hr, h2, h3, _, h5⟩ := run_append_own_at (P := Tryd.prog) w w.heap.size 22 t 55 i0 (.agg #[.string ⟨#[]⟩, .int .i64 0, .bool false, .bool false]) 4 32 Tryd.underlying22 hi hz0 hz1 hz2 rfl (by decide) (.slice none 0 0) 0 [] (ownC_nil _ _) ⟨b, o, m⟩ 0 c [] rfl (fun j u hj => by simp at hj) (fun u hu => by simp at hu) (by unfold maxLen; omega) (by omega) (Nat.le_refl _)
      have ho : OwnC w' w.heap.size v' [] := h2
      obtain ⟨a, c3, rfl, _, _⟩ := ho.cols
      exact ⟨a, _, c3, w', hr, ho, (Below.refl _ _).grown h3 (Nat.le_refl _) (fun k hk => by simp [Value.ownBlock] at hk)⟩
    · obtain ⟨b', o', e, _⟩ := h 0 (List.length_pos_iff.2 h0)
      simp only [Option.some.injEq, Addr.mk.injEq] at e
      obtain ⟨rfl, rfl, rfl⟩ := e
      obtain ⟨a3, n3, c3, V3, hr, ho, hg⟩ := app_cols (ownC_nil w w.heap.size) t (c' := c) h rfl (by simpa using hlen) (Nat.le_refl _)
      exact ⟨a3, n3, c3, V3, hr, ho, (Below.refl _ _).grown hg (Nat.le_refl _) (fun k hk => by simp [Value.ownBlock] at hk)⟩
/-- A table's twin. -/
def TwinTo (w : World) (nm : ByteArray) (cs : List Col) (L : Nat) (e : Ending) (w' : World) : Prop :=
  ∃ a c, e = .returned (.agg #[.string nm, .slice a L c]) ∧ ColsIn w' a cs ∧ L ≤ c ∧ (a = none → c = 0) ∧ (∀ b o, a = some ⟨b, o, none⟩ → w.heap.size ≤ b) ∧ Below w.heap.size w w'
set_option maxRecDepth 100000 in
set_option maxHeartbeats 1000000 in
theorem twin_ (nm : ByteArray) (a : Option Addr) (c : Nat) (cs : List Col) (w : World) (h : ColsIn w a cs) (hnil : a = none → c = 0) (hlen : cs.length * 32 ≤ 140737488355328) :
    Calls Tryd.prog 7 #[.agg #[.string nm, .slice a cs.length c]] w (TwinTo w nm cs cs.length) := by
  obtain ⟨W1, hW1⟩ : ∃ W1, W1 = (w.alloc (.cells #[.string nm, .slice a cs.length c] 24)).alloc (.cells #[.string ⟨#[]⟩, .slice none 0 0] 24) := ⟨_, rfl⟩
  have hB1 : Below w.heap.size w W1 := by rw [hW1]; exact below_step (below_alloc1 _ _) (below_alloc1 _ _)
  have hsz : W1.heap.size = w.heap.size + 1 + 1 := by rw [hW1]; simp
  have HT1 : Hid (TbB W1 w.heap.size nm (.slice a cs.length c)) := by show TbB _ _ _ _; rw [hW1]; exact (tbB_new _ _ _ _ _ _).on (below_alloc1 _ _)
  have HT2 : Hid (TbB W1 (w.heap.size + 1) ⟨#[]⟩ (.slice none 0 0)) := by
    show TbB _ _ _ _
    have := tbB_new (w.alloc (.cells #[.string nm, .slice a cs.length c] 24)) ⟨#[]⟩ none 0 0 24
    rw [hW1]; simpa using this
  obtain ⟨a3, n3, c3, V3, hap, ho, hb3⟩ := app_nil (h.on hB1) hnil hlen 22
  have HW1 := Lib.hid hW1.symm
  have HB3 : Hid (Below w.heap.size w V3) := below_step hB1 hb3
  have HT3 := Lib.hid (HT1.out.on hb3)
  have HT4 := Lib.hid (HT2.out.on hb3)
  have HO : Hid (OwnC V3 (w.heap.size + 1 + 1) (.slice a3 n3 c3) cs) := by rw [hsz] at ho; exact ho
  have HR : Hid (TwinTo w nm cs cs.length (.returned (.agg #[.string nm, .slice a3 n3 c3])) (((V3.setCell ⟨w.heap.size, 1, none⟩ (.slice a3 n3 c3)).setCell ⟨w.heap.size + 1, 0, none⟩ (.string nm)).setCell ⟨w.heap.size + 1, 1, none⟩ (.slice a3 n3 c3))) := by
    have hO := ((HO.out.set (B := w.heap.size) (o := 1) (u := .slice a3 n3 c3) (by omega)).set (B := w.heap.size + 1) (o := 0) (u := .string nm) (by omega)).set (B := w.heap.size + 1) (o := 1) (u := .slice a3 n3 c3) (by omega)
    obtain ⟨q1, q2, q3, q4⟩ := hO.cap
    obtain ⟨a', c', e, hc, _⟩ := hO.cols
    simp only [Value.slice.injEq] at e
    obtain ⟨rfl, rfl, rfl⟩ := e
    exact ⟨_, _, rfl, hc, q2, q3, fun b o e => (by have := q4 b o e; omega), ((HB3.out.setCell (Nat.le_refl _) _).setCell (Nat.le_succ _) _).setCell (Nat.le_succ _) _⟩
  generalize TwinTo w nm cs cs.length = Q at *
  generalize cs.length = L at *
  rw [← HW1.out] at hap
  clear h hnil hlen hW1 hB1 hsz ho hb3 HO HT1 HT2 HW1
  go_enter Tryd.func7, Tryd.ntmps7
  go_wp2_with (first | (refine wpList_exec rfl (exec_append rfl rfl rfl hap) ?_
                        clear hap
                        obtain ⟨s0, s1, g0, g1⟩ := HT3.out
                        obtain ⟨t0, t1, k0, k1⟩ := HT4.out) | fail)
  refine bodyPost_ret (v := .agg #[.string nm, .slice a3 n3 c3]) ?_ rfl HR.out
  simp [results, Tryd.results7, go_sem, t0, t1]
end Go.Proofs.YtlgnllnjhpihdaaDoor
