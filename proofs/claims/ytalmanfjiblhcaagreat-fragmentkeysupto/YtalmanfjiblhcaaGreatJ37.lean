/- While View gathers: the rows that a label sees so far; The law's rows: row by row; Two views beside each other: the same rows; What sure's two commits come to. -/
import Derived.Test.YtalmanfjiblhcaaGreatFgVals
import Derived.Test.YtalmanfjiblhcaaGreatJ29
import Derived.Test.YtalmanfjiblhcaaGreatJ36
import Derived.Test.YtalmanfjiblhcaaGreatJ32
import Derived.Test.YtalmanfjiblhcaaGreatJ30
import Derived.Test.YtalmanfjiblhcaaGreatJ31
namespace Go.Proofs.YtalmanfjiblhcaaGreat
open Go.RowKit Go.Sort Go.Maps
theorem FgD.on {w w' : World} {S : Nat → Prop} {K ps : Nat} {bl : Nat → List Nat} {us : List Tb.TV} {x : FgM} {gl cl m BC : Nat} {ca : Option Addr} {cc : Nat} {L : List LvV} {D : DataW Unit} {pt : Nat → Nat → Option Nat} {Ft : Nat → Nat → Nat → Prop}
 (h : FgD w S K ps bl us x gl cl m BC ca cc L D pt Ft) (hb : Below w.heap.size w w') : FgD w' S K ps bl us x gl cl m BC ca cc L D pt Ft :=
 h.keep (Frame.below (Ft := fun _ => False) hb) (fun _ _ _ q => q) (ByK.below hb)
abbrev Zr := SnV × List Rw.Val
def toS (z : Zr) : Sn := ⟨z.1.k, z.1.p, bs (Rw.rowB z.2)⟩
structure SeenAt (w : World) (cs : List Rw.Col) (P : List Sn) (v : Value) (Zs : List Zr) (wr : World) : Prop where
 row : RowN wr w.heap.size v (Zs.map (·.1))
 val : ∀ z ∈ Zs, Rw.ValsIn wr z.1.r.a z.2 ∧ z.1.r.n = z.2.length
 far : ∀ z ∈ Zs, ∀ b o, z.1.r.a = some ⟨b, o, none⟩ → z.2 ≠ [] → v.ownBlock ≠ some b
 good : ∀ z ∈ Zs, Rw.kErr cs z.2 = 0 ∧ z.1.k = ⟨(Rw.kTxt cs z.2).toArray⟩ ∧ (∀ y ∈ z.2, Rw.inI y.n) ∧ Rw.wtV z.2 ≤ 1048576
 eq : Zs.map toS = P
 bw : Below w.heap.size w wr
 nn : Zs = [] → v = .slice none 0 0
 new : ∀ z ∈ Zs, ∀ b o, z.1.r.a = some ⟨b, o, none⟩ → w.heap.size ≤ b
theorem vals_lt {w : World} {a : Option Addr} {vs : List Rw.Val} (h : Rw.ValsIn w a vs) (h0 : vs ≠ []) : ∀ b o, a = some ⟨b, o, none⟩ → b < w.heap.size := fun b o e => by
 obtain ⟨b', o', e', h1, _⟩ := h 0 (List.length_pos_iff.2 h0)
 rw [e] at e'
 simp only [Option.some.injEq, Addr.mk.injEq, and_true] at e'
 obtain ⟨rfl, rfl⟩ := e'
 exact block_lt_of_cell h1
theorem vals_keep {w w' : World} {a : Option Addr} {vs : List Rw.Val} (h : Rw.ValsIn w a vs) (hk : ∀ b o, a = some ⟨b, o, none⟩ → vs ≠ [] → w'.heap[b]? = w.heap[b]?) : Rw.ValsIn w' a vs := fun i hi => by
 obtain ⟨b, o, e, h0, h1, h2, h3⟩ := h i hi
 have hb := hk b o e fun e => by rw [e] at hi; simp at hi
 exact ⟨b, o, e, (cell_same hb).trans h0, (cell_same hb).trans h1, (cell_same hb).trans h2, (cell_same hb).trans h3⟩
theorem SeenAt.on {w : World} {cs : List Rw.Col} {P : List Sn} {v : Value} {Zs : List Zr} {wr wr' : World} (h : SeenAt w cs P v Zs wr) (hb : Below wr.heap.size wr wr') : SeenAt w cs P v Zs wr' :=
 ⟨row_on h.row hb, fun z hz => ⟨(h.val z hz).1.on hb, (h.val z hz).2⟩, h.far, h.good, h.eq, below_step h.bw hb, h.nn, h.new⟩
theorem infoSn : (Tryz.prog.info? 105).map (fun i => (i.zero, i.size, i.bytes)) = some (some (.agg #[.string ⟨#[]⟩, .int .i64 0, .slice none 0 0]), 3, 48) := by kernel_rfl
theorem app_sn {w : World} {B b : Nat} {v : Value} {l : List SnV} {x : SnV} (hown : RowN w B v l) (hb : w.heap[b]? = some (.cells #[.string x.k, .int .i64 x.p, .slice x.r.a x.r.n x.r.c] 105 (0, 0))) (hl : l.length ≤ 100000000) (hN : B ≤ w.heap.size) :
 ∃ a n c w', (Builtin.append_ #[95, 95] 95 #[v, .slice (some ⟨b, 0, none⟩) 1 1]).run Tryz.prog w = .ok (.slice a n c) w' ∧ RowN w' B (.slice a n c) (l ++ [x]) ∧ w.grownBy w' v.ownBlock ∧ ((Value.slice a n c).ownBlock = v.ownBlock ∨ (Value.slice a n c).ownBlock = some w.heap.size) := by
 obtain ⟨i0, hi, hz0, hz1, hz2⟩ := info_parts infoSn
 have hnews : ∀ j u, (snC x)[j]? = some u → w.cell? ((⟨b, 0, none⟩ : Addr).add j) = some u := fun j u hj => by
  rw [Addr.add_lit, Nat.zero_add]
  exact cell_of hb (by simpa [snC] using hj)
 obtain ⟨v', w', hr, h2, h3, _, h5⟩ := run_append_own_at (P := Tryz.prog) w B 95 95 105 i0 (.agg #[.string ⟨#[]⟩, .int .i64 0, .slice none 0 0]) 3 48 Tryz.underlying95 hi hz0 hz1 hz2 rfl (by decide) v l.length (snCs l) hown ⟨b, 0, none⟩ 1 1 (snC x) rfl hnews (fun u hu => snCs_one [x] u (by simpa [snCs] using hu)) (by unfold maxLen; omega) (by omega) hN
 have ho : RowN w' B v' (l ++ [x]) := by
  unfold RowN
  have e : snCs (l ++ [x]) = snCs l ++ snC x := by simp [snCs]
  rw [e, List.length_append]
  exact h2
 obtain ⟨a, c, rfl, _⟩ := row_shape ho
 exact ⟨a, _, c, w', hr, ho, h3, h5⟩
theorem SeenAt.add {w : World} {cs : List Rw.Col} {P : List Sn} {v : Value} {Zs : List Zr} {wr V1 U w5 : World} (h : SeenAt w cs P v Zs wr) (hb1 : Below wr.heap.size wr V1) (hU : Below V1.heap.size V1 U) {z : Zr} (hv : Rw.ValsIn V1 z.1.r.a z.2) (hn : z.1.r.n = z.2.length) (hf : ∀ b o, z.1.r.a = some ⟨b, o, none⟩ → wr.heap.size ≤ b)
 (hg : Rw.kErr cs z.2 = 0 ∧ z.1.k = ⟨(Rw.kTxt cs z.2).toArray⟩ ∧ (∀ y ∈ z.2, Rw.inI y.n) ∧ Rw.wtV z.2 ≤ 1048576)
 {v' : Value} (ho : RowN w5 w.heap.size v' (Zs.map (·.1) ++ [z.1])) (hgr : U.grownBy w5 v.ownBlock) (h5 : v'.ownBlock = v.ownBlock ∨ v'.ownBlock = some U.heap.size) : SeenAt w cs (P ++ [toS z]) v' (Zs ++ [z]) w5 := by
 have hvb : ∀ q, v.ownBlock = some q → w.heap.size ≤ q ∧ q < wr.heap.size := fun q hq => World.ownsRow.lt h.row q hq
 have hbU := below_step hb1 hU
 have hlU : ∀ z' ∈ Zs, ∀ b o, z'.1.r.a = some ⟨b, o, none⟩ → z'.2 ≠ [] → b < wr.heap.size := fun z' hz b o e hne => vals_lt (h.val z' hz).1 hne b o e
 refine ⟨by rw [List.map_append]; exact ho, fun y hy => ?_, fun y hy b o e hne => ?_, fun y hy => ?_, by rw [List.map_append, h.eq]; rfl, (below_step h.bw hbU).grown hgr (below_step h.bw hbU).size fun q hq => (hvb q hq).1, fun e => by simp at e, fun y hy b o e => (List.mem_append.1 hy).elim (fun hy => h.new y hy b o e) fun hy => by rw [List.mem_singleton.1 hy] at e; exact Nat.le_trans h.bw.size (hf b o e)⟩
 · rcases List.mem_append.1 hy with hy | hy
   · refine ⟨vals_keep ((h.val y hy).1.on hbU) fun b o e hne => hgr.block b (Nat.lt_of_lt_of_le (hlU y hy b o e hne) hbU.size) fun q => h.far y hy b o e hne q.symm, (h.val y hy).2⟩
   · rw [List.mem_singleton.1 hy]
     refine ⟨vals_keep (hv.on hU) fun b o e hne => hgr.block b (Nat.lt_of_lt_of_le (vals_lt hv hne b o e) hU.size) fun q => ?_, hn⟩
     have := hf b o e; have := hvb b q.symm; omega
 · rcases List.mem_append.1 hy with hy | hy
   · intro q
     rcases h5 with h5 | h5
     · exact h.far y hy b o e hne (h5 ▸ q)
     · rw [h5] at q; simp only [Option.some.injEq] at q
       have := hlU y hy b o e hne; have := hbU.size; omega
   · rw [List.mem_singleton.1 hy] at e hne
     intro q
     rcases h5 with h5 | h5
     · rw [h5] at q; have := hvb b q; have := hf b o e; omega
     · rw [h5] at q; simp only [Option.some.injEq] at q
       have := vals_lt hv hne b o e; have := hU.size; omega
 · rcases List.mem_append.1 hy with hy | hy
   · exact h.good y hy
   · rw [List.mem_singleton.1 hy]; exact hg
theorem rowO_at {w : World} {B : Nat} {a : Option Addr} {n c : Nat} {l : List It} (h : RowO w B (.slice a n c) l) {i : Nat} (hi : i < l.length) : ∃ g, a = some ⟨g, 0, none⟩ ∧ w.cell? ⟨g, i * 2, none⟩ = some (.string l[i].1) ∧ w.cell? ⟨g, i * 2 + 1, none⟩ = some (.slice l[i].2.a l[i].2.n l[i].2.c) := by
 have hat : ∀ (l : List It) (i : Nat) (h : i < l.length), (cI l)[i * 2]? = some (.string l[i].1) ∧ (cI l)[i * 2 + 1]? = some (.slice l[i].2.a l[i].2.n l[i].2.c) := by
  intro l
  induction l with
  | nil => intro i h; simp at h
  | cons x l ih =>
    intro i h
    match i with
    | 0 => exact ⟨rfl, rfl⟩
    | i + 1 =>
      have := ih i (by simpa using h)
      have e : cI (x :: l) = .string x.1 :: .slice x.2.a x.2.n x.2.c :: cI l := rfl
      rw [e, show (i + 1) * 2 = i * 2 + 1 + 1 by omega]
      simp only [List.getElem?_cons_succ, List.getElem_cons_succ]
      exact this
 have hlen : (cI l).length = l.length * 2 := by
  clear h hi
  induction l with
  | nil => rfl
  | cons x l ih =>
    have e : cI (x :: l) = .string x.1 :: .slice x.2.a x.2.n x.2.c :: cI l := rfl
    rw [e]; simp only [List.length_cons, ih]; omega
 rcases h.2 with ⟨_, h0⟩ | ⟨g, cap, cur, e, h1, h2, h3, h4, h5, h6⟩
 · omega
 · simp only [Value.slice.injEq] at e
   obtain ⟨rfl, _, _⟩ := e
   obtain ⟨z0, z1⟩ := hat l i hi
   have cell : ∀ o v, (cI l)[o]? = some v → cur[o]? = some v := fun o v hv => by
    have hlt : o < l.length * 2 := by rw [← hlen]; exact (List.getElem?_eq_some_iff.1 hv).1
    rw [← h6, List.getElem?_take_of_lt hlt] at hv
    simpa using hv
   exact ⟨g, rfl, cell_of h2 (cell _ _ z0), cell_of h2 (cell _ _ z1)⟩
theorem frange_ {w : World} {S : Nat → Prop} {K ps : Nat} {bl : Nat → List Nat} {us : List Tb.TV} {x : FgM} {gl cl m BC : Nat} {ca : Option Addr} {cc : Nat} {L : List LvV} {D : DataW Unit} {pt : Nat → Nat → Option Nat} {Ft : Nat → Nat → Nat → Prop}
 (h : FgD w S K ps bl us x gl cl m BC ca cc L D pt Ft) (a b : Nat) (hn : nVer (x.fr a b) ≤ 1000000) (r : Rg) (t : Int) :
 Calls Tryz.prog 26 #[ptO (pt a b), rgV r, .int .i64 t] w (RangeTo w (rowsM r t (x.fr a b))) := by
 cases e : pt a b with
 | none =>
   rw [((h.fam a b).1 e).1]
   exact vrange_nil r t
 | some q => exact vrange_ ((h.fam a b).2 q e) hn r t
structure KIn (w0 V1 : World) (v : Value) (wq : World) : Prop where
 sz : V1.heap.size ≤ wq.heap.size
 keep : ∀ k, w0.heap.size ≤ k → k < V1.heap.size → wq.heap[k]? = V1.heap[k]?
 by' : ByK V1 wq
 own : ∀ p, v.ownBlock = some p → p < w0.heap.size ∨ V1.heap.size ≤ p
theorem KIn.start {w0 V1 : World} {v : Value} {B : Nat} {l : List SnV} (h : RowN w0 B v l) : KIn w0 V1 v V1 :=
 ⟨Nat.le_refl _, fun _ _ _ => rfl, fun _ _ _ => rfl, fun p hp => .inl (World.ownsRow.lt h p hp).2⟩
theorem KIn.step {w0 V1 : World} {v v' : Value} {wq U w9 : World} {B : Nat} {l : List SnV} (h : KIn w0 V1 v wq) (hr : RowN U B v l) (hb : Below wq.heap.size wq U) (hg : U.grownBy w9 v.ownBlock) (h5 : v'.ownBlock = v.ownBlock ∨ v'.ownBlock = some U.heap.size) : KIn w0 V1 v' w9 := by
 refine ⟨Nat.le_trans h.sz (Nat.le_trans hb.size hg.size), fun k h1 h2 => ?_, fun g cur hc => ?_, fun p hp => ?_⟩
 · have h3 : k < wq.heap.size := Nat.lt_of_lt_of_le h2 h.sz
   refine (hg.block k (Nat.lt_of_lt_of_le h3 hb.size) fun e => ?_).trans ((hb.block k h3).trans (h.keep k h1 h2))
   rcases h.own k e.symm with q | q <;> omega
 · have h1 := (h.by' g cur hc).trans hc
   have h2 := (hb.block g (blk_lt h1)).trans h1
   refine ((hg.block g (blk_lt h2) fun e => ?_).trans h2).trans hc.symm
   obtain ⟨cur2, k2⟩ := row_block hr e.symm
   exact kind_ne h2 k2 (by decide) rfl
 · rcases h5 with q | q
   · exact h.own p (q ▸ hp)
   · rw [q] at hp
     simp only [Option.some.injEq] at hp
     have := h.sz; have := hb.size
     exact .inr (by omega)
theorem run_buildSn (w : World) (x : SnV) (ac : Act) (o : Oper) (y : Operand) (h : o.op = .buildSlice 95 1 #[(0, y)]) (hy : ac.eval y = .agg #[.string x.k, .int .i64 x.p, .slice x.r.a x.r.n x.r.c]) : (execOp ac.eval o).run Tryz.prog w = .ok (.value (.slice (some ⟨w.heap.size, 0, none⟩) 1 1)) (w.alloc (.cells #[.string x.k, .int .i64 x.p, .slice x.r.a x.r.n x.r.c] 105)) := by
 unfold execOp
 simp only [h, List.map_toArray, List.map_cons, List.map_nil, hy]
 simp [Instr.buildSlice, go_sem]
theorem perm_lift {α β : Type} {f : α → β} {l m : List β} (h : l.Perm m) : ∀ Z : List α, Z.map f = m → ∃ Y : List α, Y.Perm Z ∧ Y.map f = l := by
 induction h with
 | nil => exact fun Z e => ⟨Z, .refl _, e⟩
 | cons x _ ih =>
   intro Z e
   match Z with
   | [] => simp at e
   | z :: Z =>
     simp only [List.map_cons, List.cons.injEq] at e
     obtain ⟨Y, h1, h2⟩ := ih Z e.2
     exact ⟨z :: Y, h1.cons z, by rw [List.map_cons, h2, e.1]⟩
 | swap x y _ =>
   intro Z e
   match Z with
   | [] => simp at e
   | [z] => simp at e
   | z :: z' :: Z =>
     simp only [List.map_cons, List.cons.injEq] at e
     exact ⟨z' :: z :: Z, List.Perm.swap _ _ _, by simp only [List.map_cons]; rw [e.1, e.2.1, e.2.2]⟩
 | trans _ _ ih1 ih2 =>
   intro Z e
   obtain ⟨Y, h1, h2⟩ := ih2 Z e
   obtain ⟨X, h3, h4⟩ := ih1 Y h2
   exact ⟨X, h3.trans h1, h4⟩
theorem rowA_lower {w : World} {B B' : Nat} {v : Value} {l : List SnV} (h : RowA w B v l) (hB : B' ≤ B) : RowA w B' v l := by
 refine ⟨h.1, ?_⟩
 rcases h.2 with h1 | ⟨g, cap, cur, e, h1, h2⟩
 · exact .inl h1
 · exact .inr ⟨g, cap, cur, e, Nat.le_trans hB h1, h2⟩
theorem seenB_take {fr : Nat → List Ct} {t : Nat → Int} {r : Rg} {B : List Nat} {k : Nat} (hk : k < B.length) : seenB fr t r (B.take (k + 1)) = seenB fr t r (B.take k) ++ (rowsM r (t B[k]) (fr B[k])).map fun p => (⟨p.1, B[k], p.2⟩ : Sn) := by
 unfold seenB
 rw [List.take_succ_eq_append_getElem hk, List.flatMap_append]
 simp only [List.flatMap_cons, List.flatMap_nil, List.append_nil]
def snapF (zs : List Int) (a : Nat) : Int := zs.getD a 0
theorem snapF_at {zs : List Int} {a : Nat} (h : a < zs.length) : snapF zs a = zs[a] := by simp [snapF, h]
set_option maxRecDepth 100000 in
theorem seen_sort {W3 wr : World} {cs : List Rw.Col} {P : List Sn} {v : Value} {Zs : List Zr} (HS : SeenAt W3 cs P v Zs wr) {l : List Sn} (hl1 : l.Pairwise ltE) (hl2 : l.Perm P) (hlen : Zs.length ≤ 100000000) :
 ∃ Zk : List Zr, Zk.map toS = l ∧ (∀ z ∈ Zk, z ∈ Zs) ∧ Calls Tryz.prog 28 #[v, .func (.func 29) #[] #[]] wr fun e w1 => e = .returned (.tuple #[]) ∧ Calls Tryz.prog 30 #[v] w1 fun e w' => ∃ v', e = .returned v' ∧ RowA w' W3.heap.size v' (Zk.map (·.1)) ∧ (∀ z ∈ Zk, Rw.ValsIn w' z.1.r.a z.2) ∧ Below W3.heap.size W3 w' := by
 obtain ⟨Zk, hk1, hk2⟩ := perm_lift hl2 Zs HS.eq
 refine ⟨Zk, hk2, fun z hz => hk1.mem_iff.1 hz, ?_⟩
 have hks : (Zk.map (·.1)).Pairwise ltV := by
  rw [← hk2, List.pairwise_map] at hl1
  rw [List.pairwise_map]
  exact hl1
 have hkp : (Zs.map (·.1)).Perm (Zk.map (·.1)) := (hk1.map _).symm
 by_cases hnil : Zs = []
 · have hv := HS.nn hnil
   subst hv
   have hzk : Zk = [] := by rw [hnil] at hk1; exact hk1.eq_nil
   subst hzk
   refine (sortF_nil (.func (.func 29) #[] #[]) wr).mono ?_
   rintro e w1 ⟨rfl, rfl⟩
   refine ⟨rfl, (rowsOf_ (w := w1) (g := none) (c := 0) (l := []) (fun h => absurd rfl h) (by simp)).mono ?_⟩
   rintro e w' ⟨v', rfl, h1, h2⟩
   exact ⟨v', rfl, rowA_lower h1 HS.bw.size, fun z hz => (by cases hz), below_step HS.bw h2⟩
 · have hne : Zs.map (·.1) ≠ [] := fun e => hnil (List.map_eq_nil_iff.1 e)
   have hll : (Zk.map (·.1)).length ≤ 100000000 := by rw [← hkp.length_eq, List.length_map]; exact hlen
   refine (sortS_ HS.row hne (by rw [List.length_map]; exact hlen) hkp hks).mono ?_
   rintro e w1 ⟨rfl, g, cap, e1, hg, hs, ho, ht, hu, hsz, _, hfar⟩
   refine ⟨rfl, ?_⟩
   rw [e1]
   have key : ∀ ks : List SnV, ks.length ≤ 100000000 → SnsAt w1 g ks → Calls Tryz.prog 30 #[.slice (some ⟨g, 0, none⟩) ks.length cap] w1 (RowsOfTo w1 ks) := fun ks h1 h2 => rowsOf_ (fun _ => ⟨g, rfl, h2⟩) h1
   refine (key _ hll hs).mono ?_
   rintro e w' ⟨v', rfl, h1, h2⟩
   have hbw : Below W3.heap.size W3 w1 := ⟨ho.trans HS.bw.os, ht.trans HS.bw.tape, hu.trans HS.bw.output, Nat.le_trans HS.bw.size hsz, fun q hq => (hfar q (Nat.lt_of_lt_of_le hq HS.bw.size) (by omega)).trans (HS.bw.block q hq)⟩
   refine ⟨v', rfl, rowA_lower h1 (Nat.le_trans HS.bw.size hsz), fun z hz => ?_, below_step hbw h2⟩
   have hz2 := hk1.mem_iff.1 hz
   refine Rw.ValsIn.on (vals_keep (HS.val z hz2).1 fun b o e hne => hfar b (vals_lt (HS.val z hz2).1 hne b o e) fun q => ?_) h2
   refine HS.far z hz2 b o e hne ?_
   rw [e1, q]; rfl
def ViewTo (w : World) (us : List Tb.TV) (x : FgM) (r : Rg) (B : List Nat) (zs : List Int) (name : ByteArray) (ok : Bool) (e : Ending) (w' : World) : Prop :=
 (ok = false ∧ e = .returned (.tuple #[.slice none 0 0, .iface 77 (.int .i64 1)]) ∧ Below w.heap.size w w') ∨
 (ok = true ∧ tabN name us = none ∧ e = .returned (.tuple #[.slice none 0 0, .iface 77 (.int .i64 30)]) ∧ Below w.heap.size w w') ∨
 (ok = true ∧ ∃ (j : Nat) (v : Value) (Zs : List Zr), tabN name us = some j ∧ e = .returned (.tuple #[v, .nilIface]) ∧ RowA w' w.heap.size v (Zs.map (·.1)) ∧ (∀ z ∈ Zs, Rw.ValsIn w' z.1.r.a z.2 ∧ z.1.r.n = z.2.length ∧ ∀ b o, z.1.r.a = some ⟨b, o, none⟩ → w.heap.size ≤ b) ∧
   (∀ z ∈ Zs, Rw.kErr (colsAt us j) z.2 = 0 ∧ z.1.k = ⟨(Rw.kTxt (colsAt us j) z.2).toArray⟩ ∧ (∀ y ∈ z.2, Rw.inI y.n) ∧ Rw.wtV z.2 ≤ 1048576) ∧ SeenIs (fun a => x.fr a j) (snapF zs) r B (Zs.map toS) ∧ Below w.heap.size w w')
end Go.Proofs.YtalmanfjiblhcaaGreat
namespace Go.Proofs.YtalmanfjiblhcaaGreat
open Go.RowKit Go.Sort Go.Maps
def RwsIn (w : World) (a : Option Addr) (l : List (Nat × List Rw.Val)) : Prop :=
 ∀ i (h : i < l.length), ∃ b o xa xc, a = some ⟨b, o, none⟩ ∧ w.cell? ⟨b, o + i * 2, none⟩ = some (.int .i64 l[i].1) ∧ w.cell? ⟨b, o + i * 2 + 1, none⟩ = some (.slice xa l[i].2.length xc) ∧ Rw.ValsIn w xa l[i].2
theorem RwsIn.on {w w' : World} {a : Option Addr} {l : List (Nat × List Rw.Val)} (h : RwsIn w a l) (hb : Below w.heap.size w w') : RwsIn w' a l := fun i hi => by
 obtain ⟨b, o, xa, xc, e, h0, h1, h2⟩ := h i hi
 exact ⟨b, o, xa, xc, e, (hb.cell (block_lt_of_cell h0)).trans h0, (hb.cell (block_lt_of_cell h1)).trans h1, h2.on hb⟩
end Go.Proofs.YtalmanfjiblhcaaGreat
namespace Go.Proofs.YtalmanfjiblhcaaGreat
open Go.RowKit Go.Sort Go.Maps
def rvOf (z : Zr) : Nat × List Rw.Val := (z.1.p, z.2)
structure RwsAt (w : World) (N : Nat) (a : Option Addr) (Zs : List Zr) : Prop where
 val : ∀ z ∈ Zs, Rw.ValsIn w z.1.r.a z.2 ∧ z.1.r.n = z.2.length ∧ ∀ b o, z.1.r.a = some ⟨b, o, none⟩ → N ≤ b
 row : ∀ i (h : i < Zs.length), ∃ g, a = some ⟨g, 0, none⟩ ∧ N ≤ g ∧ w.cell? ⟨g, i * 2, none⟩ = some (.int .i64 Zs[i].1.p) ∧ w.cell? ⟨g, i * 2 + 1, none⟩ = some (.slice Zs[i].1.r.a Zs[i].1.r.n Zs[i].1.r.c)
theorem RwsAt.rws {w : World} {N : Nat} {a : Option Addr} {Zs : List Zr} (h : RwsAt w N a Zs) : RwsIn w a (Zs.map rvOf) := fun i hi => by
 have hi2 : i < Zs.length := by simpa using hi
 obtain ⟨g, rfl, _, k0, k1⟩ := h.row i hi2
 obtain ⟨q1, q2, _⟩ := h.val Zs[i] (List.getElem_mem hi2)
 simp only [List.getElem_map]
 rw [q2] at k1
 exact ⟨g, 0, _, _, rfl, by rw [Nat.zero_add]; exact k0, by rw [Nat.zero_add]; exact k1, q1⟩
theorem RwsAt.keep {w w' : World} {N : Nat} {a : Option Addr} {Zs : List Zr} (h : RwsAt w N a Zs) {Z : Nat → Prop} (hf : Frame Z w w') (hZ : ∀ q, Z q → q < N) : RwsAt w' N a Zs := by
 refine ⟨fun z hz => ?_, fun i hi => ?_⟩
 · obtain ⟨h1, h2, h3⟩ := h.val z hz
   refine ⟨vals_keep h1 fun b o e hne => hf.block b (vals_lt h1 hne b o e) fun q => ?_, h2, h3⟩
   have := hZ b q; have := h3 b o e; omega
 · obtain ⟨g, e, h1, k0, k1⟩ := h.row i hi
   have hb := hf.block g (block_lt_of_cell k0) fun q => by have := hZ g q; omega
   exact ⟨g, e, h1, (cell_same hb).trans k0, (cell_same hb).trans k1⟩
theorem rws_of {w : World} {N : Nat} {v : Value} {Zs : List Zr} (h : RowA w N v (Zs.map (·.1))) (hv : ∀ z ∈ Zs, Rw.ValsIn w z.1.r.a z.2 ∧ z.1.r.n = z.2.length ∧ ∀ b o, z.1.r.a = some ⟨b, o, none⟩ → N ≤ b) : ∃ a c, v = .slice a (Zs.map rvOf).length c ∧ RwsAt w N a Zs := by
 obtain ⟨a, c, rfl, h1, h2, _⟩ := row_shape h
 refine ⟨a, c, by simp, hv, fun i hi => ?_⟩
 have hi3 : i < (Zs.map (·.1)).length := by simpa using hi
 cases a with
 | none => have := (h1 rfl).1; omega
 | some ad =>
   obtain ⟨g, rfl⟩ := h2 ad rfl
   obtain ⟨c0, c1⟩ := arCs_at (Zs.map (·.1)) i hi3
   have k0 := World.ownsRow.cells h (g := g) rfl _ _ c0
   have k1 := World.ownsRow.cells h (g := g) rfl _ _ c1
   rw [Addr.add_lit, Nat.zero_add] at k0 k1
   simp only [List.getElem_map] at k0 k1
   exact ⟨g, rfl, (World.ownsRow.lt h g rfl).1, k0, k1⟩
theorem view_ok {w w' : World} {us : List Tb.TV} {x : FgM} {r : Rg} {B : List Nat} {zs : List Int} {name : ByteArray} {e : Ending} (h : ViewTo w us x r B zs name true e w') {j : Nat} (hj : tabN name us = some j) :
 ∃ (a : Option Addr) (c : Nat) (Zs : List Zr), e = .returned (.tuple #[.slice a (Zs.map rvOf).length c, .nilIface]) ∧ RwsAt w' w.heap.size a Zs ∧ (∀ z ∈ Zs, (Rw.kErr (colsAt us j) z.2 = 0 ∧ ∀ y ∈ z.2, Rw.inI y.n) ∧ Rw.wtV z.2 ≤ 1048576) ∧ SeenIs (fun a => x.fr a j) (snapF zs) r B (Zs.map toS) ∧ Below w.heap.size w w' := by
 rcases h with ⟨h, _⟩ | ⟨_, h, _⟩ | ⟨_, j', v, Zs, h1, rfl, h3, h4, h5, h6, h7⟩
 · cases h
 · rw [hj] at h; cases h
 · rw [hj] at h1
   obtain rfl := Option.some.inj h1
   obtain ⟨a, c, rfl, hr⟩ := rws_of h3 h4
   exact ⟨a, c, Zs, rfl, hr, fun z hz => ⟨⟨(h5 z hz).1, (h5 z hz).2.2.1⟩, (h5 z hz).2.2.2⟩, h6, h7⟩
theorem wtV_len : ∀ (vs : List Rw.Val), vs.length ≤ Rw.wtV vs
 | [] => Nat.le_refl _
 | v :: vs => by have := wtV_len vs; simp only [Rw.wtV, List.length_cons]; omega
end Go.Proofs.YtalmanfjiblhcaaGreat
namespace Go.Proofs.YtalmanfjiblhcaaGreat
open Go.RowKit Go.Sort Go.Maps
def lsS : List Lt.Lab := [(0, 0), (1, 0)]
def csT : List Rw.Col := [colK, colS]
def vsA : List Rw.Val := [⟨1, 1, ⟨#[]⟩, false⟩, ⟨2, 0, ⟨#[97]⟩, false⟩]
def vsB : List Rw.Val := [⟨1, 1, ⟨#[]⟩, false⟩, ⟨2, 0, ⟨#[98]⟩, false⟩]
def rg0 : Rg := ⟨⟨#[]⟩, ⟨#[]⟩, false, false, false, false⟩
theorem okS : OkLs lsS := ⟨by decide, by decide, by decide, by decide⟩
theorem newE_T {t : Tb.TV} (h1 : t.nm = nmT) (h2 : t.cs = csT) : Tb.newE [t] = 0 := by
 obtain ⟨nm, a, c, cs⟩ := t
 subst h1 h2
 kernel_rfl
theorem tab_one {us : List Tb.TV} {t : Tb.TV} (h : us.map Tb.TV.tab = [t].map Tb.TV.tab) (h1 : t.nm = nmT) (h2 : t.cs = csT) : ∃ a c, us = [⟨nmT, a, c, csT⟩] := by
 have hl := congrArg List.length h
 simp only [List.length_map, List.length_cons, List.length_nil] at hl
 obtain ⟨u, rfl⟩ := List.length_eq_one_iff.1 hl
 · simp only [List.map_cons, List.map_nil, List.cons.injEq, and_true] at h
   obtain ⟨nm, a, c, cs⟩ := u
   have e1 : nm = t.nm := congrArg Tb.Tab.nm h
   have e2 : cs = t.cs := congrArg Tb.Tab.cs h
   exact ⟨a, c, by rw [e1, e2, h1, h2]⟩
theorem tab_T (a : Option Addr) (c : Nat) : tabN nmT [⟨nmT, a, c, csT⟩] = some 0 := by kernel_rfl
theorem wE_A (a x : Option Addr) (c y : Nat) : wE [⟨nmT, a, c, csT⟩] ⟨nmT, false, x, y, vsA⟩ = 0 := by kernel_rfl
theorem wE_B (a x : Option Addr) (c y : Nat) : wE [⟨nmT, a, c, csT⟩] ⟨nmT, false, x, y, vsB⟩ = 0 := by kernel_rfl
def chA : Chg := wC [⟨nmT, none, 0, csT⟩] ⟨nmT, false, none, 0, vsA⟩
def chB : Chg := wC [⟨nmT, none, 0, csT⟩] ⟨nmT, false, none, 0, vsB⟩
theorem wC_A (a x : Option Addr) (c y : Nat) : wC [⟨nmT, a, c, csT⟩] ⟨nmT, false, x, y, vsA⟩ = chA := by kernel_rfl
theorem wC_B (a x : Option Addr) (c y : Nat) : wC [⟨nmT, a, c, csT⟩] ⟨nmT, false, x, y, vsB⟩ = chB := by kernel_rfl
theorem okI_A : ∀ v ∈ vsA, Rw.inI v.n := by intro v hv; simp only [vsA, List.mem_cons, List.not_mem_nil, or_false] at hv; rcases hv with rfl | rfl <;> exact ⟨by decide, by decide⟩
theorem okI_B : ∀ v ∈ vsB, Rw.inI v.n := by intro v hv; simp only [vsB, List.mem_cons, List.not_mem_nil, or_false] at hv; rcases hv with rfl | rfl <;> exact ⟨by decide, by decide⟩
theorem ok_A (x : Option Addr) (y : Nat) : WV.Ok ⟨nmT, false, x, y, vsA⟩ := ⟨okI_A, by show Rw.wtV vsA ≤ 1048576; decide⟩
theorem ok_B (x : Option Addr) (y : Nat) : WV.Ok ⟨nmT, false, x, y, vsB⟩ := ⟨okI_B, by show Rw.wtV vsB ≤ 1048576; decide⟩
def fgS : FgM := applyF 1 [chB] (applyF 0 [chA] fg0)
theorem see1 : seenB (fun a => fgS.fr a 0) (snapF [1, 1]) rg0 (Lt.belowL lsS 1) = [⟨chA.k, 0, chA.tx⟩, ⟨chA.k, 1, chB.tx⟩] := by kernel_rfl
theorem see0 : seenB (fun a => fgS.fr a 0) (snapF [1, 1]) rg0 (Lt.belowL lsS 0) = [⟨chA.k, 0, chA.tx⟩] := by kernel_rfl
theorem sees1 {l : List Sn} (h : SeenIs (fun a => fgS.fr a 0) (snapF [1, 1]) rg0 (Lt.belowL lsS 1) l) : ∃ x y, l = [x, y] ∧ x.p = 0 ∧ y.p = 1 := by
 obtain ⟨h1, h2⟩ := h
 rw [see1] at h2
 have hl := h2.length_eq
 match l, hl with
 | [x, y], _ =>
   have hx := h2.mem_iff.1 (show x ∈ [x, y] by simp)
   have hy := h2.mem_iff.1 (show y ∈ [x, y] by simp)
   have h3 : ltE x y := by simpa using h1
   simp only [List.mem_cons, List.not_mem_nil, or_false] at hx hy
   refine ⟨x, y, rfl, ?_⟩
   rcases hx with rfl | rfl <;> rcases hy with rfl | rfl
   · exact absurd h3 (ltE_irrefl _)
   · exact ⟨rfl, rfl⟩
   · rcases h3 with h3 | ⟨_, h3⟩
     · rw [show ltb chA.k chA.k = false from ltb_irrefl _] at h3; cases h3
     · exact absurd h3 (by decide)
   · exact absurd h3 (ltE_irrefl _)
theorem sees0 {l : List Sn} (h : SeenIs (fun a => fgS.fr a 0) (snapF [1, 1]) rg0 (Lt.belowL lsS 0) l) : l.length = 1 := by
 have := h.2.length_eq
 rw [see0] at this
 exact this
end Go.Proofs.YtalmanfjiblhcaaGreat
