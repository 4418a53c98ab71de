/- The law's give: changes with lists of their own; Now: how many commits there are at each label; copied: a catalog of the same tables. -/
import Derived.Test.YtalmanfjiblhcaaGreatJ29
import Derived.Test.YtalmanfjiblhcaaGreatRXRwTwin
namespace Go.Proofs.YtalmanfjiblhcaaGreat
open Go.RowKit Go.Sort Go.Maps
theorem infoWr : (Tryz.prog.info? 75).map (fun i => (i.zero, i.size, i.bytes)) = some (some (.agg #[.string ⟨#[]⟩, .bool false, .slice none 0 0]), 3, 48) := by kernel_rfl
theorem twinF_ (a : Option Addr) (c : Nat) (vs : List Rw.Val) (w : World) (h : Rw.ValsIn w a vs) (hn : vs.length * 40 ≤ 140737488355328) (hnil : a = none → c = 0) :
 Calls Tryz.prog 23 #[.slice a vs.length c] w fun e w' => ∃ a' c', e = .returned (.slice a' vs.length c') ∧ Rw.ValsIn w' a' vs ∧ (∀ b o, a' = some ⟨b, o, none⟩ → w.heap.size ≤ b) ∧ Below w.heap.size w w' := by
 have HV := Lib.hid h
 cases a with
 | none =>
   have h0 : vs = [] := by
    refine Classical.byContradiction fun hne => ?_
    obtain ⟨_, _, e, _⟩ := h 0 (List.length_pos_iff.2 hne)
    cases e
   subst h0
   obtain rfl := hnil rfl
   clear h HV hn hnil
   go_enter Tryz.func23, Tryz.ntmps23
   go_wp2
   go_ret
   exact ⟨none, 0, rfl, Rw.valsIn_nil _ _, (fun b o e => by cases e), Below.refl _ _⟩
 | some ad =>
   obtain ⟨b, o, m⟩ := ad
   clear hnil
   obtain ⟨i0, hi, hz0, hz1, hz2⟩ := info_parts Rw.infoV
   have hlen := Rw.valCells_len vs
   have HN : Hid (∀ j u, (Rw.valCells vs)[j]? = some u → w.cell? ((⟨b, o, m⟩ : Addr).add j) = some u) := by
    by_cases h0 : vs = []
    · subst h0; intro j u hj; simp [Rw.valCells] at hj
    · obtain ⟨b', o', e, _⟩ := h 0 (List.length_pos_iff.2 h0)
      simp only [Option.some.injEq, Addr.mk.injEq] at e
      obtain ⟨rfl, rfl, rfl⟩ := e
      exact Rw.valNews h
   clear h
   go_enter Tryz.func23, Tryz.ntmps23
   go_wp2_with (first
    | (at_builtin; refine wpList_append_own _ rfl _ _ 52 rfl w.heap.size 73 i0 (.agg #[.int .i64 0, .int .i64 0, .string ⟨#[]⟩, .bool false]) 4 40 Tryz.underlying52 hi hz0 hz1 hz2 rfl (by decide) _ _ _ rfl (World.ownsRow_nil _ _ _ _) ⟨b, o, m⟩ vs.length c (Rw.valCells vs) rfl hlen HN.out (Rw.valCells_one vs) (by unfold maxLen; omega) (by omega) (by simp) ?_)
    | go_in)
   intro v' w1 hown hgrow _
   have hown' : Rw.OwnV w1 w.heap.size v' vs := by
    exact hown
   have hfr : ∀ a c, v' = .slice a vs.length c → ∀ b o, a = some ⟨b, o, none⟩ → w.heap.size ≤ b := by
    rintro a c rfl b o rfl
    exact (World.ownsRow.lt hown' b rfl).1
   obtain ⟨a', c', rfl, hin, hn'⟩ := hown'.vals
   have hb : Below w.heap.size w w1 := (Below.refl _ _).grown hgrow (by simp) (fun g hg => by simp [Value.ownBlock] at hg)
   have HI := Lib.hid (And.intro hin (hfr a' c' rfl))
   clear hown hgrow hin hown' hn' hfr
   go_wp2
   go_ret
   exact ⟨a', c', rfl, HI.out.1, HI.out.2, hb⟩
def wrC (x : WV) : List Value := [.string x.nm, .bool x.gn, .slice x.a x.vs.length x.c]
def wrCs (l : List WV) : List Value := l.flatMap wrC
theorem wrCs_len (l : List WV) : (wrCs l).length = l.length * 3 := by
 induction l with
 | nil => rfl
 | cons x l ih => simp only [wrCs, List.flatMap_cons, List.length_append, List.length_cons] at *; simp only [wrC, List.length_cons, List.length_nil]; omega
theorem wrCs_at : ∀ (l : List WV) (i : Nat) (h : i < l.length), (wrCs l)[i * 3]? = some (.string l[i].nm) ∧ (wrCs l)[i * 3 + 1]? = some (.bool l[i].gn) ∧ (wrCs l)[i * 3 + 2]? = some (.slice l[i].a l[i].vs.length l[i].c)
 | x :: l, 0, _ => ⟨rfl, rfl, rfl⟩
 | x :: l, i + 1, h => by
   have ih := wrCs_at l i (by simpa using h)
   have e : wrCs (x :: l) = .string x.nm :: .bool x.gn :: .slice x.a x.vs.length x.c :: wrCs l := rfl
   rw [e, show (i + 1) * 3 = i * 3 + 1 + 1 + 1 by omega]
   simp only [List.getElem?_cons_succ, List.getElem_cons_succ]
   exact ih
theorem wrCs_one (l : List WV) : ∀ u ∈ wrCs l, u.oneCell' = true := fun u hu => by
 obtain ⟨x, _, hx⟩ := List.mem_flatMap.1 hu
 simp only [wrC, List.mem_cons, List.not_mem_nil, or_false] at hx
 rcases hx with rfl | rfl | rfl <;> rfl
theorem wrCs_append (a b : List WV) : wrCs a ++ wrCs b = wrCs (a ++ b) := by simp [wrCs]
structure Gv (N : Nat) (v : Value) (gs : List WV) (w : World) : Prop where
 row : w.ownsRow N 75 3 v gs.length (wrCs gs)
 vals : ∀ i (h : i < gs.length), gs[i].In w
 far : ∀ i (h : i < gs.length), ∀ b o, gs[i].a = some ⟨b, o, none⟩ → gs[i].vs ≠ [] → N ≤ b ∧ v.ownBlock ≠ some b
 sz : N ≤ w.heap.size
theorem gv_nil (w : World) : Gv w.heap.size (.slice none 0 0) [] w := ⟨World.ownsRow_nil _ _ _ _, fun i hi => by simp at hi, fun i hi => by simp at hi, Nat.le_refl _⟩
theorem ownsRow_on {w w' : World} {base s n : Nat} {e : TypeId} {v : Value} {xs : List Value} (h : w.ownsRow base e s v n xs) (hb : Below w.heap.size w w') : w'.ownsRow base e s v n xs := by
 refine ⟨h.1, ?_⟩
 rcases h.2 with h1 | ⟨g, cap, cur, e, h1, h2, h3, h4, h5, h6⟩
 · exact .inl h1
 · exact .inr ⟨g, cap, cur, e, h1, (hb.block g (Array.getElem?_eq_some_iff.1 h2).1).trans h2, h3, h4, h5, h6⟩
theorem Gv.on {N : Nat} {v : Value} {gs : List WV} {w w' : World} (h : Gv N v gs w) (hb : Below w.heap.size w w') : Gv N v gs w' :=
 ⟨ownsRow_on h.row hb, fun i hi => Rw.ValsIn.on (h.vals i hi) hb, h.far, Nat.le_trans h.sz hb.size⟩
theorem vals_other {w w' : World} {a : Option Addr} {vs : List Rw.Val} (h : Rw.ValsIn w a vs) (hb : ∀ b o, a = some ⟨b, o, none⟩ → vs ≠ [] → w'.heap[b]? = w.heap[b]?) : Rw.ValsIn w' a vs := by
 intro i hi
 obtain ⟨b, o, e, h0, h1, h2, h3⟩ := h i hi
 have hx := hb b o e (fun hh => by rw [hh] at hi; simp at hi)
 exact ⟨b, o, e, (World.cell?_of_block (w := w) (a := ⟨b, _, none⟩) hx).trans h0, (World.cell?_of_block (w := w) (a := ⟨b, _, none⟩) hx).trans h1, (World.cell?_of_block (w := w) (a := ⟨b, _, none⟩) hx).trans h2, (World.cell?_of_block (w := w) (a := ⟨b, _, none⟩) hx).trans h3⟩
theorem gvals_lt {w : World} {a : Option Addr} {vs : List Rw.Val} (h : Rw.ValsIn w a vs) (h0 : vs ≠ []) : ∀ b o, a = some ⟨b, o, none⟩ → b < w.heap.size := fun b o e => by
 obtain ⟨b', o', e', h1, _⟩ := h 0 (List.length_pos_iff.2 h0)
 rw [e] at e'
 simp only [Option.some.injEq, Addr.mk.injEq, and_true] at e'
 obtain ⟨rfl, rfl⟩ := e'
 exact block_lt_of_cell h1
theorem Gv.more {N Bs : Nat} {v : Value} {gs : List WV} {U : World} {x : WV} (h : Gv N v gs U) (h0 : U.cell? ⟨Bs, 0, none⟩ = some (.string x.nm)) (h1 : U.cell? ⟨Bs, 1, none⟩ = some (.bool x.gn)) (h2 : U.cell? ⟨Bs, 2, none⟩ = some (.slice x.a x.vs.length x.c))
 (hc : x.In U) (hf : ∀ b o, x.a = some ⟨b, o, none⟩ → N ≤ b) (hx : ∀ b o, x.a = some ⟨b, o, none⟩ → ∀ k, v.ownBlock = some k → k < b) (hml : (gs.length + 1) * 48 ≤ 140737488355328) :
 ∃ a3 n3 c3 V3, (Builtin.append_ #[33, 33] 33 #[v, .slice (some ⟨Bs, 0, none⟩) 1 1]).run Tryz.prog U = .ok (.slice a3 n3 c3) V3 ∧ Gv N (.slice a3 n3 c3) (gs ++ [x]) V3 ∧ U.grownBy V3 v.ownBlock := by
 obtain ⟨i0, hi, hz0, hz1, hz2⟩ := info_parts infoWr
 have hnews : ∀ j u, (wrCs [x])[j]? = some u → U.cell? ((⟨Bs, 0, none⟩ : Addr).add j) = some u := by
  intro j u hj
  rw [Addr.add_lit]
  rcases j with _ | _ | _ | j
  · simp [wrCs, wrC] at hj; subst hj; exact h0
  · simp [wrCs, wrC] at hj; subst hj; exact h1
  · simp [wrCs, wrC] at hj; subst hj; exact h2
  · simp [wrCs, wrC] at hj
 obtain ⟨v', w', hr, h2, h3, _, h5⟩ := run_append_own_at (P := Tryz.prog) U N 33 33 75 i0 (.agg #[.string ⟨#[]⟩, .bool false, .slice none 0 0]) 3 48 Tryz.underlying33 hi hz0 hz1 hz2 rfl (by decide) v gs.length (wrCs gs) h.row ⟨Bs, 0, none⟩ 1 1 (wrCs [x]) (wrCs_len [x]) hnews (wrCs_one [x]) (by unfold maxLen; omega) (by omega) h.sz
 have ho : w'.ownsRow N 75 3 v' (gs ++ [x]).length (wrCs (gs ++ [x])) := by
  rw [← wrCs_append, List.length_append]
  exact h2
 obtain ⟨a, c, rfl, _⟩ := row_shape ho
 refine ⟨a, _, c, w', hr, ⟨ho, fun i hi => ?_, fun i hi b o e hne => ?_, Nat.le_trans h.sz h3.size⟩, h3⟩
 · rcases Nat.lt_or_ge i gs.length with hl | hl
   · rw [List.getElem_append_left hl]
     exact vals_other (h.vals i hl) fun b o e hne => h3.block b (gvals_lt (h.vals i hl) hne b o e) (fun e2 => (h.far i hl b o e hne).2 e2.symm)
   · have hi2 : i = gs.length := by simp at hi; omega
     subst hi2
     simp only [List.getElem_append_right (Nat.le_refl _), Nat.sub_self, List.getElem_cons_zero]
     exact vals_other hc fun b o e hne => h3.block b (gvals_lt hc hne b o e) (fun e2 => by have := hx b o e b e2.symm; omega)
 · rcases Nat.lt_or_ge i gs.length with hl | hl
   · rw [List.getElem_append_left hl] at e hne
     refine ⟨(h.far i hl b o e hne).1, fun e2 => ?_⟩
     rcases h5 with h5 | h5
     · exact (h.far i hl b o e hne).2 (h5 ▸ e2)
     · rw [h5] at e2
       have := gvals_lt (h.vals i hl) hne b o e
       simp only [Option.some.injEq] at e2; omega
   · have hi2 : i = gs.length := by simp at hi; omega
     subst hi2
     simp only [List.getElem_append_right (Nat.le_refl _), Nat.sub_self, List.getElem_cons_zero] at e hne
     refine ⟨hf b o e, fun e2 => ?_⟩
     rcases h5 with h5 | h5
     · rw [h5] at e2; have := hx b o e b e2; omega
     · rw [h5] at e2
       have := gvals_lt hc hne b o e
       simp only [Option.some.injEq] at e2; omega
theorem Gv.wrs {N : Nat} {v : Value} {gs : List WV} {w : World} (h : Gv N v gs w) : ∃ a c, v = .slice a gs.length c ∧ WrsIn w a gs ∧ ∀ b o, a = some ⟨b, o, none⟩ → N ≤ b := by
 obtain ⟨a, c, rfl, h1, h2, _⟩ := row_shape h.row
 refine ⟨a, c, rfl, fun i hi => ⟨?_, h.vals i hi⟩, ?_⟩
 · cases a with
   | none => have := (h1 rfl).1; omega
   | some ad =>
     obtain ⟨g, rfl⟩ := h2 ad rfl
     obtain ⟨c0, c1, c2⟩ := wrCs_at gs i hi
     have k0 := World.ownsRow.cells h.row (g := g) rfl _ _ c0
     have k1 := World.ownsRow.cells h.row (g := g) rfl _ _ c1
     have k2 := World.ownsRow.cells h.row (g := g) rfl _ _ c2
     rw [Addr.add_lit] at k0 k1 k2
     exact ⟨g, 0, rfl, k0, by rw [Nat.add_assoc]; exact k1, by rw [Nat.add_assoc]; exact k2⟩
 · rintro b o rfl
   exact (World.ownsRow.lt h.row b rfl).1
def sameW (gs ws : List WV) : Prop := gs.map (fun x => (x.nm, x.gn, x.vs)) = ws.map fun x => (x.nm, x.gn, x.vs)
def GiveTo (w : World) (ws : List WV) (e : Ending) (w' : World) : Prop :=
 ∃ a c gs, e = .returned (.slice a ws.length c) ∧ gs.length = ws.length ∧ sameW gs ws ∧ WrsIn w' a gs ∧ Below w.heap.size w w'
def WrB (V : World) (B : Nat) (nm : ByteArray) (gn : Bool) (lv : Value) : Prop :=
 V.cell? ⟨B, 0, none⟩ = some (.string nm) ∧ V.cell? ⟨B, 1, none⟩ = some (.bool gn) ∧ V.cell? ⟨B, 2, none⟩ = some lv ∧ V.frozen? ⟨B, 0, none⟩ = false ∧ V.frozen? ⟨B, 1, none⟩ = false ∧ V.frozen? ⟨B, 2, none⟩ = false
theorem wrB_new (w : World) (nm : ByteArray) (gn : Bool) (a : Option Addr) (n c : Nat) (ty : TypeId) : WrB (w.alloc (.cells #[.string nm, .bool gn, .slice a n c] ty)) w.heap.size nm gn (.slice a n c) := by
 refine ⟨?_, ?_, ?_, ?_, ?_, ?_⟩ <;> simp [go_sem]
theorem WrB.on {V V' : World} {B : Nat} {nm : ByteArray} {gn : Bool} {lv : Value} (h : WrB V B nm gn lv) (hb : Below V.heap.size V V') : WrB V' B nm gn lv := by
 obtain ⟨h0, h1, h2, f0, f1, f2⟩ := h
 have hl : B < V.heap.size := block_lt_of_cell h0
 exact ⟨(hb.cell hl).trans h0, (hb.cell hl).trans h1, (hb.cell hl).trans h2, (hb.frozen (p := ⟨B, 0, none⟩) hl).trans f0, (hb.frozen (p := ⟨B, 1, none⟩) hl).trans f1, (hb.frozen (p := ⟨B, 2, none⟩) hl).trans f2⟩
set_option maxRecDepth 100000 in
set_option maxHeartbeats 4000000 in
theorem give_ {w : World} {a : Option Addr} {c : Nat} {ws : List WV} (h : WrsIn w a ws) (hn : ∀ y ∈ ws, (y.a = none → y.c = 0) ∧ y.vs.length * 40 ≤ 140737488355328) (hml : ws.length * 48 ≤ 140737488355328) :
 Calls Tryz.prog 8 #[.slice a ws.length c] w (GiveTo w ws) := by
 have HT := Lib.hid h
 have HC := Lib.hid hn
 generalize hQ : GiveTo w ws = Q
 have HQ := Lib.hid hQ
 obtain ⟨N, hN⟩ : ∃ N, ws.length = N := ⟨_, rfl⟩
 have HN := Lib.hid hN
 rw [hN] at hml ⊢
 clear h hn hQ hN
 go_enter Tryz.func8, Tryz.ntmps8
 go_wp2_with fail
 go_loopw [3, 4] (fun v iv wr => ∃ (k : Nat) (gs : List WV), k ≤ N ∧ iv = .int .i64 k ∧ Hid (Gv w.heap.size v gs wr ∧ gs.length = k ∧ sameW gs (ws.take k) ∧ Below w.heap.size w wr)) (fun _ iv _ => N - (intOf iv).toNat)
 case atStart => exact ⟨0, [], Nat.zero_le _, rfl, gv_nil _, rfl, rfl, Below.refl _ _⟩
 case round =>
  obtain ⟨k, gs, hk, rfl, HR⟩ := hrel
  by_cases hlt : k < N
  · have hkl : k < ws.length := by rw [HN.out]; exact hlt
    have hkI : (k : Int) < (N : Int) := by omega
    obtain ⟨⟨b, o, rfl, y0, y1, y2⟩, hvi⟩ := (HT.out.on HR.out.2.2.2) k hkl
    obtain ⟨hcn, hc40⟩ := HC.out _ (List.getElem_mem hkl)
    have HTk : Hid ((ws.take (k + 1)).map (fun x => (x.nm, x.gn, x.vs)) = (ws.take k).map (fun x => (x.nm, x.gn, x.vs)) ++ [(ws[k].nm, ws[k].gn, ws[k].vs)]) := by
     show _ = _
     rw [List.take_succ_eq_append_getElem hkl, List.map_append]; rfl
    unfold WV.In at hvi
    generalize ws[k].nm = nm at *
    generalize ws[k].gn = gn at *
    generalize ws[k].vs = vs at *
    generalize ws[k].a = ca at *
    generalize ws[k].c = cc at *
    obtain ⟨C, hC⟩ : ∃ C, vs.length = C := ⟨_, rfl⟩
    have HCn := Lib.hid hC
    obtain ⟨W1, hW1⟩ : ∃ W1, wr.alloc (.cells #[.string nm, .bool gn, .slice ca C cc] 75) = W1 := ⟨_, rfl⟩
    have hb1 : Below wr.heap.size wr W1 := by rw [← hW1]; exact below_alloc _ _
    have hT1 : WrB W1 wr.heap.size nm gn (.slice ca C cc) := by rw [← hW1]; exact wrB_new _ _ _ _ _ _ _
    have hs1 : W1.heap.size = wr.heap.size + 1 := by rw [← hW1]; simp [go_sem]
    have HTw := Lib.hid (twinF_ ca cc vs W1 (hvi.on hb1) hc40 hcn)
    have HB1 := Lib.hid (And.intro hb1 (And.intro hT1 hs1))
    obtain ⟨z0, z1, z2, _, _, _⟩ := hT1
    have y20 := (hb1.cell (block_lt_of_cell y2)).trans y2
    rw [hC] at y2 y20 HTw
    clear hvi hcn hc40 hb1 hs1 hC
    go_upto_region 6 with fail
    try rw [hW1]
    go_wp2_with fail
    refine HTw.out.mono ?_
    rintro e w3 ⟨a', c', rfl, hv3, hf3, hb3⟩
    have hT3 := HB1.out.2.1.on hb3
    have HT3 := Lib.hid hT3
    obtain ⟨_, _, s2, _, _, g2⟩ := HT3.out
    have hlt3 : wr.heap.size < w3.heap.size := by have := HB1.out.2.2; have := hb3.size; omega
    obtain ⟨U, hU⟩ : ∃ U, (w3.setCell ⟨wr.heap.size, 2, none⟩ (.slice a' C c')).alloc (.cells #[.string nm, .bool gn, .slice a' C c'] 75) = U := ⟨_, rfl⟩
    have hs3 : (w3.setCell ⟨wr.heap.size, 2, none⟩ (.slice a' C c')).heap.size = w3.heap.size := by simp [World.setCell]
    have hbU : Below wr.heap.size wr U := by
     rw [← hU]
     exact ((below_step HB1.out.1 hb3).setCell (Nat.le_refl _) _).trans ((below_alloc _ _).mono (by rw [hs3]; omega))
    have hkU : U.heap[w3.heap.size]? = some (.cells #[.string nm, .bool gn, .slice a' C c'] 75 (0, 0)) := by
     have := new_blk (w3.setCell ⟨wr.heap.size, 2, none⟩ (.slice a' C c')) (.cells #[.string nm, .bool gn, .slice a' C c'] 75)
     rw [hU, hs3] at this
     exact this
    have hfa : ∀ b o, a' = some ⟨b, o, none⟩ → wr.heap.size < b := fun b o e => by have := hf3 b o e; have := HB1.out.2.2; omega
    have hvU : Rw.ValsIn U a' vs := by
     have h1 : Rw.ValsIn (w3.setCell ⟨wr.heap.size, 2, none⟩ (.slice a' C c')) a' vs := vals_other hv3 fun b o e _ => Below.heap_setCell w3 ⟨wr.heap.size, 2, none⟩ _ b (by have := hfa b o e; show b ≠ wr.heap.size; omega)
     rw [← hU]
     exact h1.on (below_alloc _ _)
    have hvb : ∀ q, _ → q < wr.heap.size := fun q hq => (World.ownsRow.lt HR.out.1.row q hq).2
    obtain ⟨a5, n5, c5, w5, hap2, hrow5, hg5⟩ := (HR.out.1.on hbU).more (Bs := w3.heap.size) (x := ⟨nm, gn, a', c', vs⟩) (cell_of hkU rfl) (cell_of hkU rfl) (by rw [HCn.out]; exact cell_of hkU rfl) hvU (fun b o e => by have := hfa b o e; have := HR.out.2.2.2.size; omega) (fun b o e q hq => by have := hfa b o e; have := hvb q hq; omega) (by have := HR.out.2.1; omega)
    have HNx : Hid (Gv w.heap.size (.slice a5 n5 c5) (gs ++ [⟨nm, gn, a', c', vs⟩]) w5 ∧ (gs ++ [(⟨nm, gn, a', c', vs⟩ : WV)]).length = k + 1 ∧ sameW (gs ++ [⟨nm, gn, a', c', vs⟩]) (ws.take (k + 1)) ∧ Below w.heap.size w w5) :=
     ⟨hrow5, by rw [List.length_append, HR.out.2.1]; rfl, by have h3 := HR.out.2.2.1; unfold sameW at h3 ⊢; rw [HTk.out, List.map_append, h3]; rfl, (below_step HR.out.2.2.2 hbU).grown hg5 (below_step HR.out.2.2.2 hbU).size fun q hq => (World.ownsRow.lt HR.out.1.row q hq).1⟩
    clear hv3 hf3 hb3 hT3 hs3 hbU hfa hvU hvb hrow5 hg5 hlt3 hkU HTw
    go_wp2_with (first
     | (refine Tb.wpList_exec rfl (Tb.exec_append rfl rfl rfl hap2) ?_; clear hap2)
     | fail)
    go_roundw
    case rel => exact ⟨k + 1, _, by omega, by go_num, HNx.out⟩
    case measure => simp [intOf]; omega
  · obtain rfl : k = N := by omega
    obtain ⟨a, c, rfl, hw, hf⟩ := HR.out.1.wrs
    have hn := HR.out.2.1
    have HF : Hid (Q (.returned (.slice a k c)) wr) := by
     rw [← HQ.out]
     refine ⟨a, c, gs, by rw [HN.out], hn.trans HN.out.symm, ?_, hw, HR.out.2.2.2⟩
     have h3 := HR.out.2.2.1
     rw [← HN.out, List.take_length] at h3
     exact h3
    rw [hn]
    clear hn hw hf HR
    go_wp2_with fail
    exact HF.out
end Go.Proofs.YtalmanfjiblhcaaGreat
namespace Go.Proofs.YtalmanfjiblhcaaGreat
open Go.RowKit Go.Sort Go.Maps
def zsV (zs : List Int) : List Value := zs.map fun z => .int .i64 z
def RowZ (w : World) (B : Nat) (v : Value) (zs : List Int) : Prop := w.ownsRow B 3 1 v zs.length (zsV zs)
theorem infoI : (Tryz.prog.info? 3).map (fun i => (i.zero, i.size, i.bytes)) = some (some (.int .i64 0), 1, 8) := by kernel_rfl
theorem app_z {w : World} {B b : Nat} {v : Value} {l : List Int} {x : Int} (hown : RowZ w B v l) (hb : w.heap[b]? = some (.cells #[.int .i64 x] 3 (0, 0))) (hl : l.length ≤ 1000000) (hN : B ≤ w.heap.size) :
 ∃ a n c w', (Builtin.append_ #[37, 37] 37 #[v, .slice (some ⟨b, 0, none⟩) 1 1]).run Tryz.prog w = .ok (.slice a n c) w' ∧ RowZ w' B (.slice a n c) (l ++ [x]) ∧ w.grownBy w' v.ownBlock := by
 obtain ⟨i0, hi, hz0, hz1, hz2⟩ := info_parts infoI
 have hnews : ∀ j u, [Value.int .i64 x][j]? = some u → w.cell? ((⟨b, 0, none⟩ : Addr).add j) = some u := fun j u hj => by
  rw [Addr.add_lit, Nat.zero_add]
  exact cell_of hb (by simpa using hj)
 obtain ⟨v', w', hr, h2, h3, _, h5⟩ := run_append_own_at (P := Tryz.prog) w B 37 37 3 i0 (.int .i64 0) 1 8 Tryz.underlying37 hi hz0 hz1 hz2 rfl (by decide) v l.length (zsV l) hown ⟨b, 0, none⟩ 1 1 [.int .i64 x] rfl hnews (fun u hu => by rw [List.mem_singleton.1 hu]; rfl) (by unfold maxLen; omega) (by omega) hN
 have ho : RowZ w' B v' (l ++ [x]) := by
  unfold RowZ
  have e : zsV (l ++ [x]) = zsV l ++ [.int .i64 x] := by simp [zsV]
  rw [e, List.length_append]
  exact h2
 obtain ⟨a, c, rfl, _⟩ := row_shape ho
 exact ⟨a, _, c, w', hr, ho, h3⟩
theorem RowZ.zs {w : World} {B : Nat} {a : Option Addr} {n c : Nat} {zs : List Int} (h : RowZ w B (.slice a n c) zs) : ZsIn w a zs := fun i hi => by
 rcases h.2 with ⟨_, h0⟩ | ⟨g, cap, cur, e, h1, h2, h3, h4, h5, h6⟩
 · omega
 · simp only [Value.slice.injEq] at e
   obtain ⟨rfl, _, _⟩ := e
   refine ⟨g, 0, rfl, ?_⟩
   rw [Nat.zero_add, cell_of_row w g i cur 3 (0, 0) h2]
   have hx : (zsV zs)[i]? = some (.int .i64 zs[i]) := by simp [zsV, hi]
   rw [← h6, List.getElem?_take_of_lt (by omega)] at hx
   simpa using hx
def nowL (n : Nat) (x : FgM) : List Int := (List.range n).map fun i => (x.cm i : Int)
theorem nowL_len (n : Nat) (x : FgM) : (nowL n x).length = n := by simp [nowL]
theorem nowL_succ (n : Nat) (x : FgM) : nowL (n + 1) x = nowL n x ++ [(x.cm n : Int)] := by simp [nowL, List.range_succ]
def NowTo (w : World) (n : Nat) (x : FgM) (e : Ending) (w' : World) : Prop := ∃ a c, e = .returned (.slice a n c) ∧ (ZsIn w' a (nowL n x) ∧ ∀ b o, a = some ⟨b, o, none⟩ → w.heap.size ≤ b) ∧ Below w.heap.size w w'
set_option maxRecDepth 100000 in
set_option maxHeartbeats 2000000 in
theorem fnow_ {w : World} {S : Nat → Prop} {K n ps : Nat} {bl : Nat → List Nat} {us : List Tb.TV} {x : FgM} (h : Fg w S K n ps bl us x) :
 Calls Tryz.prog 9 #[.pointer (some ⟨ps, 0, none⟩)] w (NowTo w n x) := by
 obtain ⟨gl, cl, m, BC, ca, cc, L, D, pt, Ft, hd, rfl⟩ := h.at'
 have HS := Lib.hid (fsize_ hd.fs)
 have HD := Lib.hid hd
 have hle := hd.lev.le
 have h16 := hd.num.2
 unfold NowTo
 obtain ⟨N, hN⟩ : ∃ N, L.length = N := ⟨_, rfl⟩
 have HN := Lib.hid hN
 rw [hN] at HS h16 ⊢
 clear h hd hN
 go_enter Tryz.func9, Tryz.ntmps9
 go_wp2_with (first | (go_at_call 24; refine HS.out.mono ?_; rintro e w' ⟨rfl, rfl⟩) | fail)
 rename World => w0
 go_loopw [3, 7] (fun v iv wr => ∃ k : Nat, k ≤ N ∧ iv = .int .i64 k ∧ Hid (RowZ wr w0.heap.size v (nowL k x) ∧ Below w0.heap.size w0 wr)) (fun _ iv _ => N - (intOf iv).toNat)
 case atStart => exact ⟨0, Nat.zero_le _, rfl, World.ownsRow_nil _ _ _ _, Below.refl _ _⟩
 case round =>
  obtain ⟨k, hk, rfl, HR⟩ := hrel
  by_cases hlt : k < N
  · have hkl : k < L.length := by rw [HN.out]; exact hlt
    have hdr := HD.out.lev.keep (w' := wr) (HR.out.2.block gl HD.out.lev.lt)
    obtain ⟨p0, _, _⟩ := (HD.out.fs.on HR.out.2).cells
    obtain ⟨_, c1, _⟩ := hdr.cells hkl
    rw [(HD.out.lvl k hkl).1] at c1
    have hkI : (k : Int) < (L.length : Int) := by omega
    have hkI2 : (k : Int) < (N : Int) := by omega
    generalize hZ : x.cm k = Z at c1
    obtain ⟨W2, hW2⟩ : ∃ W2, wr.alloc (.cells #[.int .i64 (Z : Int)] 3) = W2 := ⟨_, rfl⟩
    have hb2 : Below wr.heap.size wr W2 := by rw [← hW2]; exact below_alloc _ _
    have hk2 : W2.heap[wr.heap.size]? = some (.cells #[.int .i64 (Z : Int)] 3 (0, 0)) := by rw [← hW2]; exact new_blk _ _
    have hbw := below_step HR.out.2 hb2
    have hro : RowZ W2 w0.heap.size _ (nowL k x) := row_on HR.out.1 hb2
    obtain ⟨a5, n5, c5, w5, hap, hrow5, hg5⟩ := app_z (x := (Z : Int)) hro hk2 (by rw [nowL_len]; omega) hbw.size
    have HNx : Hid (RowZ w5 w0.heap.size (.slice a5 n5 c5) (nowL (k + 1) x) ∧ Below w0.heap.size w0 w5) := by
     refine ⟨?_, hbw.grown hg5 hbw.size fun q hq => (World.ownsRow.lt hro q hq).1⟩
     rw [nowL_succ, hZ]
     exact hrow5
    clear hb2 hk2 hbw hro hrow5 hg5 hdr hZ
    go_wp2_with (first
     | (refine Tb.wpList_exec rfl (exec_append rfl rfl rfl hap) ?_; clear hap)
     | fail)
    go_roundw
    case rel => exact ⟨k + 1, by omega, by go_num, HNx.out⟩
    case measure => simp [intOf]; omega
  · obtain rfl : k = N := by omega
    obtain ⟨a, c, rfl, _⟩ := row_shape HR.out.1
    have HZ := Lib.hid (And.intro HR.out.1.zs (show ∀ b o, a = some ⟨b, o, none⟩ → w0.heap.size ≤ b from by rintro b o rfl; exact (World.ownsRow.lt HR.out.1 b rfl).1))
    rw [nowL_len]
    go_wp2_with fail
    go_ret
    exact ⟨a, c, rfl, HZ.out, HR.out.2⟩
end Go.Proofs.YtalmanfjiblhcaaGreat
namespace Go.Proofs.YtalmanfjiblhcaaGreat
open Go.RowKit Go.Sort Go.Maps
def CopTo (w : World) (us : List Tb.TV) (e : Ending) (w' : World) : Prop :=
 ∃ BC us', e = .returned (.tuple #[.pointer (some ⟨BC, 0, none⟩), .nilIface]) ∧ Tb.CatIn w' w.heap.size BC us' ∧ us'.map Tb.TV.tab = us.map Tb.TV.tab ∧ Below w.heap.size w w'
set_option maxRecDepth 100000 in
set_option maxHeartbeats 4000000 in
theorem fcopied_ {w : World} {N0 BC : Nat} {us : List Tb.TV} (hc : Tb.CatIn w N0 BC us) (hcl : ∀ u ∈ us, u.cs.length ≤ 16) (hE : Tb.newE us = 0) :
 Calls Tryz.prog 41 #[.pointer (some ⟨BC, 0, none⟩)] w (CopTo w us) := by
 have HL := Lib.hid (Tb.lenC_ N0 BC us w hc)
 have HC := Lib.hid hc
 have HCl := Lib.hid hcl
 have hl32 := hc.len
 have HE : Hid (∀ (us' : List Tb.TV) w1 e w', us'.map Tb.TV.tab = us.map Tb.TV.tab → Below w.heap.size w w1 → Tb.NewTo w1 us' e w' → CopTo w us e w') := fun us' w1 e w' h1 h2 h3 => by
  have e0 : Tb.newE us' = 0 := by rw [Tb.newE_same h1]; exact hE
  rcases h3 with ⟨_, BC', us2, he, hcat, ht, hb⟩ | ⟨hne, _⟩
  · exact ⟨BC', us2, he, ⟨hcat.len, Nat.le_trans h2.size hcat.at_, by obtain ⟨a, c, q1, q2, q3⟩ := hcat.row; exact ⟨a, c, q1, q2, fun b o e => Nat.le_trans h2.size (q3 b o e)⟩, hcat.cols, fun i hi b o e => Nat.le_trans h2.size (hcat.far i hi b o e)⟩, ht.trans h1, below_step h2 hb⟩
  · exact absurd e0 hne
 generalize CopTo w us = Q at *
 obtain ⟨N, hN⟩ : ∃ N, us.length = N := ⟨_, rfl⟩
 have HN := Lib.hid hN
 rw [hN] at HL hl32
 clear hc hcl hE hN
 go_enter Tryz.func41, Tryz.ntmps41
 go_wp2_with (first | (go_at_call 67; refine HL.out.mono ?_; rintro e w' ⟨rfl, rfl⟩) | fail)
 rename World => w0
 go_loopw [4, 10] (fun v iv wr => ∃ (k : Nat) (ts : List Tb.TV), k ≤ N ∧ iv = .int .i64 k ∧ Hid (Tb.Rw w0.heap.size v ts wr ∧ ts.map Tb.TV.tab = (us.take k).map Tb.TV.tab ∧ Below w0.heap.size w0 wr)) (fun _ iv _ => N - (intOf iv).toNat)
 case atStart => exact ⟨0, [], Nat.zero_le _, rfl, Tb.rw_nil _, rfl, Below.refl _ _⟩
 case round =>
  obtain ⟨k, ts, hk, rfl, HR⟩ := hrel
  have hlt' : ts.length = k := by
   have := congrArg List.length HR.out.2.1
   rw [List.length_map, List.length_map, List.length_take, HN.out] at this
   omega
  by_cases hlt : k < N
  · have hkl : k < us.length := by rw [HN.out]; exact hlt
    have hkI : (k : Int) < (N : Int) := by omega
    have HT := Lib.hid (Tb.tableC_ N0 BC us k wr (HC.out.on HR.out.2.2) hkl (HCl.out _ (List.getElem_mem hkl)))
    have HTk : Hid ((us.take (k + 1)).map Tb.TV.tab = (us.take k).map Tb.TV.tab ++ [⟨us[k].nm, us[k].cs⟩]) := by
     show _ = _
     rw [List.take_succ_eq_append_getElem hkl, List.map_append]; rfl
    unfold Tb.TabTo at HT
    generalize us[k].nm = nm at *
    generalize us[k].cs = cs at *
    obtain ⟨M, hM⟩ : ∃ M, cs.length = M := ⟨_, rfl⟩
    have HM := Lib.hid hM
    rw [hM] at HT
    clear hM
    go_wp2_with fail
    refine HT.out.mono ?_
    rintro e w2 ⟨ta, tc, rfl, ⟨hc2, hn2, hna2, hfr2, _⟩, hb2⟩
    obtain ⟨U, hU⟩ : ∃ U, (w2.alloc (.cells #[.string nm, .slice ta M tc] 44)).alloc (.cells #[.string nm, .slice ta M tc] 44) = U := ⟨_, rfl⟩
    have hbU : Below w2.heap.size w2 U := by rw [← hU]; exact below_step (below_alloc _ _) (below_alloc _ _)
    have hs2 : (w2.alloc (.cells #[.string nm, .slice ta M tc] 44)).heap.size = w2.heap.size + 1 := by simp [go_sem]
    have hk2 : U.heap[w2.heap.size + 1]? = some (.cells #[.string nm, .slice ta M tc] 44 (0, 0)) := by
     have := new_blk (w2.alloc (.cells #[.string nm, .slice ta M tc] 44)) (.cells #[.string nm, .slice ta M tc] 44)
     rw [hU, hs2] at this
     exact this
    have hbw := below_step HR.out.2.2 (below_step hb2 hbU)
    have hrw := HR.out.1.on (below_step hb2 hbU)
    have hvb : ∀ q, _ → q < wr.heap.size := fun q hq => (World.ownsRow.lt HR.out.1.row q hq).2
    obtain ⟨a5, n5, c5, w5, hap, hrow5, hg5⟩ := hrw.more (Bs := w2.heap.size + 1) (x := ⟨nm, ta, tc, cs⟩) (cell_of hk2 rfl) (by rw [HM.out]; exact cell_of hk2 rfl) (hc2.on hbU) (by rw [HM.out]; exact hn2) hna2 (fun b o e => Nat.le_trans HR.out.2.2.size (hfr2 b o e)) (fun b o e q hq => Nat.lt_of_lt_of_le (hvb q hq) (hfr2 b o e)) (by omega)
    have HNx : Hid (Tb.Rw w0.heap.size (.slice a5 n5 c5) (ts ++ [⟨nm, ta, tc, cs⟩]) w5 ∧ (ts ++ [(⟨nm, ta, tc, cs⟩ : Tb.TV)]).map Tb.TV.tab = (us.take (k + 1)).map Tb.TV.tab ∧ Below w0.heap.size w0 w5) :=
     ⟨hrow5, by rw [HTk.out, List.map_append, HR.out.2.1]; rfl, hbw.grown hg5 hbw.size fun q hq => (World.ownsRow.lt HR.out.1.row q hq).1⟩
    clear hbU hs2 hk2 hbw hrw hvb hrow5 hg5 hc2 hn2 hna2 hfr2 hb2 HT
    go_wp2_with (first
     | (refine Tb.wpList_exec rfl (exec_append rfl rfl rfl hap) ?_; clear hap)
     | fail)
    go_roundw
    case rel => exact ⟨k + 1, _, by omega, by go_num, HNx.out⟩
    case measure => simp [intOf]; omega
  · obtain rfl : k = N := by omega
    obtain ⟨a, c, rfl, hti, _⟩ := HR.out.1.row.tabs
    have htk : us.take k = us := by rw [← HN.out, List.take_length]
    have HNw := Lib.hid (Tb.tnew_ a c ts wr hti HR.out.1.cols (by omega) (fun t ht => by
     obtain ⟨i, hi, rfl⟩ := List.getElem_of_mem ht
     have h1 := HR.out.2.1
     rw [htk] at h1
     have h2 : (ts.map Tb.TV.tab)[i]? = (us.map Tb.TV.tab)[i]? := by rw [h1]
     have hiu : i < us.length := by rw [HN.out]; omega
     rw [List.getElem?_map, List.getElem?_map, List.getElem?_eq_getElem hi, List.getElem?_eq_getElem hiu] at h2
     simp only [Option.map_some, Option.some.injEq] at h2
     have h3 := congrArg Tb.Tab.cs h2
     have h4 := HCl.out _ (List.getElem_mem hiu)
     have h5 : ts[i].cs = us[i].cs := h3
     rw [h5]; omega))
    have HX : Hid (∀ e w', Tb.NewTo wr ts e w' → Q e w') := fun e w' h => HE.out ts wr e w' (by rw [HR.out.2.1, htk]) HR.out.2.2 h
    rw [hlt'] at HNw ⊢
    clear hti HR htk HE
    go_wp2_with fail
    refine HNw.out.mono ?_
    intro e w' hh
    rcases hh with ⟨h1, BC', us2, rfl, h2⟩ | ⟨h1, rfl, h2⟩
    · have HF := Lib.hid (HX.out _ _ (.inl ⟨h1, BC', us2, rfl, h2⟩))
      clear h1 h2 HX HNw
      go_wp2_with fail
      exact HF.out
    · have HF := Lib.hid (HX.out _ _ (.inr ⟨h1, rfl, h2⟩))
      generalize Tb.newE ts = E at *
      clear h1 h2 HX HNw
      go_wp2_with fail
      exact HF.out
end Go.Proofs.YtalmanfjiblhcaaGreat
