/- New: a store without rows; The law's made: a store for labels and tables that may be; The law's plain: the tables of sure. -/
import Derived.Test.YtalmanfjiblhcaaGreatJ30
namespace Go.Proofs.YtalmanfjiblhcaaGreat
open Go.RowKit Go.Sort Go.Maps
def RowL (w : World) (B : Nat) (v : Value) (l : List LvV) : Prop := w.ownsRow B 85 3 v l.length (lvCs l)
theorem infoLv : (Tryz.prog.info? 85).map (fun i => (i.zero, i.size, i.bytes)) = some (some (.agg #[.slice none 0 0, .int .i64 0, .int .i64 0]), 3, 40) := by kernel_rfl
theorem lvCs_one (l : List LvV) : ∀ u ∈ lvCs l, u.oneCell' = true := fun u hu => by
 obtain ⟨c, _, hc⟩ := List.mem_flatMap.1 hu
 simp only [lvC, List.mem_cons, List.not_mem_nil, or_false] at hc
 rcases hc with rfl | rfl | rfl <;> rfl
theorem app_lv {w : World} {B b : Nat} {v : Value} {l : List LvV} {x : LvV} (hown : RowL w B v l) (hb : w.heap[b]? = some (.cells #[.slice x.a x.n x.c, .int .i64 x.cm, .int .i64 x.rw] 85 (0, 0))) (hl : l.length ≤ 100) (hN : B ≤ w.heap.size) :
 ∃ a n c w', (Builtin.append_ #[86, 86] 86 #[v, .slice (some ⟨b, 0, none⟩) 1 1]).run Tryz.prog w = .ok (.slice a n c) w' ∧ RowL w' B (.slice a n c) (l ++ [x]) ∧ w.grownBy w' v.ownBlock ∧ ((Value.slice a n c).ownBlock = v.ownBlock ∨ (Value.slice a n c).ownBlock = some w.heap.size) := by
 obtain ⟨i0, hi, hz0, hz1, hz2⟩ := info_parts infoLv
 have hnews : ∀ j u, (lvC x)[j]? = some u → w.cell? ((⟨b, 0, none⟩ : Addr).add j) = some u := fun j u hj => by
  rw [Addr.add_lit, Nat.zero_add]
  exact cell_of hb (by simpa [lvC] using hj)
 obtain ⟨v', w', hr, h2, h3, _, h5⟩ := run_append_own_at (P := Tryz.prog) w B 86 86 85 i0 (.agg #[.slice none 0 0, .int .i64 0, .int .i64 0]) 3 40 Tryz.underlying86 hi hz0 hz1 hz2 rfl (by decide) v l.length (lvCs l) hown ⟨b, 0, none⟩ 1 1 (lvC x) rfl hnews (fun u hu => lvCs_one [x] u (by simpa [lvCs] using hu)) (by unfold maxLen; omega) (by omega) hN
 have ho : RowL w' B v' (l ++ [x]) := by
  unfold RowL
  rw [lvCs_append, List.length_append]
  have : lvCs [x] = lvC x := by simp [lvCs]
  rw [this]
  exact h2
 obtain ⟨a, c, rfl, _⟩ := row_shape ho
 exact ⟨a, _, c, w', hr, ho, h3, h5⟩
theorem run_buildLv (w : World) (a : Option Addr) (n c : Nat) (ac : Act) (o : Oper) (y : Operand) (h : o.op = .buildSlice 86 1 #[(0, y)]) (hy : ac.eval y = .agg #[.slice a n c, .int .i64 0, .int .i64 0]) : (execOp ac.eval o).run Tryz.prog w = .ok (.value (.slice (some ⟨w.heap.size, 0, none⟩) 1 1)) (w.alloc (.cells #[.slice a n c, .int .i64 0, .int .i64 0] 85)) := by
 unfold execOp
 simp only [h, List.map_toArray, List.map_cons, List.map_nil, hy]
 simp [Instr.buildSlice, go_sem]
structure NewAt (w0 : World) (ls : List Lt.Lab) (m ps BC : Nat) (ca : Option Addr) (cc : Nat) (us : List Tb.TV) (k : Nat) (lv : Value) (Lk : List LvV) (w : World) : Prop where
 blk : w.heap[ps]? = some (.cells #[lv, .pointer (some ⟨BC, 0, none⟩), .map (some m)] 89 (0, 0))
 row : RowL w (ps + 1) lv Lk
 len : Lk.length = k
 lvl : ∀ i (h : i < Lk.length), Lk[i].cm = 0 ∧ Lk[i].rw = 0 ∧ Lk[i].n = (Lt.belowL ls i).length ∧ Lt.IntsIn w Lk[i].a (Lt.belowL ls i)
 far : ∀ i (h : i < Lk.length), ∀ b o, Lk[i].a = some ⟨b, o, none⟩ → ps < b ∧ b < w.heap.size ∧ lv.ownBlock ≠ some b
 map : w.ownsMap Tryz.prog 99 ptE m 0 (.map [])
 ord : w0.heap.size ≤ m ∧ m < ps
 cat : CatB w BC ca cc us
 clo : ∀ k, CatK BC ca us k → w0.heap.size ≤ k ∧ k < m
 bw : Below w0.heap.size w0 w
theorem NewAt.on {w0 : World} {ls : List Lt.Lab} {m ps BC : Nat} {ca : Option Addr} {cc : Nat} {us : List Tb.TV} {k : Nat} {lv : Value} {Lk : List LvV} {w w' : World} (h : NewAt w0 ls m ps BC ca cc us k lv Lk w) (hb : Below w.heap.size w w') : NewAt w0 ls m ps BC ca cc us k lv Lk w' :=
 ⟨(hb.block _ (blk_lt h.blk)).trans h.blk, row_on h.row hb, h.len, fun i hi => ⟨(h.lvl i hi).1, (h.lvl i hi).2.1, (h.lvl i hi).2.2.1, (h.lvl i hi).2.2.2.on hb⟩, fun i hi b o e => ⟨(h.far i hi b o e).1, Nat.lt_of_lt_of_le (h.far i hi b o e).2.1 hb.size, (h.far i hi b o e).2.2⟩, owns_keepF h.map (hb.block _ h.map.lt), h.ord, h.cat.keep fun k hk => hb.block k (h.cat.lt k hk), h.clo, below_step h.bw hb⟩
theorem NewAt.add {w0 : World} {ls : List Lt.Lab} {m ps BC : Nat} {ca : Option Addr} {cc : Nat} {us : List Tb.TV} {k : Nat} {lv : Value} {Lk : List LvV} {wr V U w5 : World} (h : NewAt w0 ls m ps BC ca cc us k lv Lk wr) (hb1 : Below wr.heap.size wr V) (hU : Below V.heap.size V U) {a : Option Addr} {c : Nat} (hi : Lt.IntsIn V a (Lt.belowL ls k)) (hf : ∀ b o, a = some ⟨b, o, none⟩ → wr.heap.size ≤ b) (hlt : 0 < (Lt.belowL ls k).length)
 {lv' : Value} (ho : RowL w5 (ps + 1) lv' (Lk ++ [⟨a, (Lt.belowL ls k).length, c, 0, 0⟩])) (hg : U.grownBy w5 lv.ownBlock) (h5 : lv'.ownBlock = lv.ownBlock ∨ lv'.ownBlock = some U.heap.size) :
 NewAt w0 ls m ps BC ca cc us (k + 1) lv' (Lk ++ [⟨a, (Lt.belowL ls k).length, c, 0, 0⟩]) (w5.setCell ⟨ps, 0, none⟩ lv') := by
 have hbU := below_step hb1 hU
 have hu := h.on hbU
 have hvb : ∀ q, lv.ownBlock = some q → ps + 1 ≤ q ∧ q < wr.heap.size := fun q hq => World.ownsRow.lt h.row q hq
 have hpl := blk_lt hu.blk
 have hkeep : ∀ q, q < U.heap.size → lv.ownBlock ≠ some q → q ≠ ps → (w5.setCell ⟨ps, 0, none⟩ lv').heap[q]? = U.heap[q]? := fun q hq h1 h2 => (heap_far _ h2).trans (hg.block q hq fun e => h1 e.symm)
 have hnp : lv.ownBlock ≠ some ps := fun e => by have := hvb ps e; omega
 have hnb : lv'.ownBlock ≠ some ps := fun e => by
  rcases h5 with q | q
  · exact hnp (q ▸ e)
  · rw [q] at e; simp only [Option.some.injEq] at e; omega
 have hib : ∀ b o, a = some ⟨b, o, none⟩ → b < V.heap.size := fun b o e => by
  obtain ⟨b', o', e', h1⟩ := hi 0 hlt
  rw [e] at e'
  simp only [Option.some.injEq, Addr.mk.injEq, and_true] at e'
  obtain ⟨rfl, rfl⟩ := e'
  exact block_lt_of_cell h1
 have hsz : (w5.setCell ⟨ps, 0, none⟩ lv').heap.size = w5.heap.size := by simp [World.setCell]
 have hpw := blk_lt h.blk
 have hml := hu.map.lt
 refine ⟨?_, row_keep ho fun g hg' => heap_far _ fun e => hnb (e ▸ hg'), by rw [List.length_append, h.len]; rfl, fun i hi' => ?_, fun i hi' b o e => ?_, owns_keepF hu.map (hkeep m hml (fun e => by have := hvb m e; have := h.ord; omega) (by have := h.ord; omega)), h.ord, hu.cat.keep fun q hq => ?_, h.clo, ?_⟩
 · have h1 : w5.heap[ps]? = some (.cells #[lv, .pointer (some ⟨BC, 0, none⟩), .map (some m)] 89 (0, 0)) := (hg.block ps hpl fun e => hnp e.symm).trans hu.blk
   rw [heap_set lv' h1]
   rfl
 · rcases Nat.lt_or_ge i Lk.length with hl | hl
   · rw [List.getElem_append_left hl]
     obtain ⟨q1, q2, q3, q4⟩ := hu.lvl i hl
     refine ⟨q1, q2, q3, ints_keep q4 fun b o e => ?_⟩
     obtain ⟨z1, z2, z3⟩ := hu.far i hl b o e
     exact hkeep b z2 z3 (by omega)
   · have hik : i = Lk.length := by rw [List.length_append] at hi'; simp at hi'; omega
     subst hik
     rw [List.getElem_append_right (Nat.le_refl _)]
     simp only [Nat.sub_self, List.getElem_cons_zero]
     rw [h.len]
     refine ⟨by first | rfl | trivial, by first | rfl | trivial, by first | rfl | trivial, ints_keep (hi.on hU) fun b o e => ?_⟩
     have z1 := hf b o e
     exact hkeep b (Nat.lt_of_lt_of_le (hib b o e) hU.size) (fun q => by have := hvb b q; omega) (by omega)
 · rw [hsz]
   rcases Nat.lt_or_ge i Lk.length with hl | hl
   · rw [List.getElem_append_left hl] at e
     obtain ⟨z1, z2, z3⟩ := hu.far i hl b o e
     refine ⟨z1, Nat.lt_of_lt_of_le z2 hg.size, fun q => ?_⟩
     rcases h5 with q5 | q5
     · exact z3 (q5 ▸ q)
     · rw [q5] at q; simp only [Option.some.injEq] at q; omega
   · have hik : i = Lk.length := by rw [List.length_append] at hi'; simp at hi'; omega
     subst hik
     rw [List.getElem_append_right (Nat.le_refl _)] at e
     simp only [Nat.sub_self, List.getElem_cons_zero] at e
     have z1 := hf b o e
     have z2 := Nat.lt_of_lt_of_le (hib b o e) hU.size
     refine ⟨by omega, Nat.lt_of_lt_of_le z2 hg.size, fun q => ?_⟩
     rcases h5 with q5 | q5
     · rw [q5] at q; have := hvb b q; omega
     · rw [q5] at q; simp only [Option.some.injEq] at q; omega
 · have z1 := h.clo q hq
   exact hkeep q (hu.cat.lt q hq) (fun e => by have := hvb q e; have := h.ord; omega) (by have := h.ord; omega)
 · exact (hu.bw.grown hg hu.bw.size fun q hq => by have := hvb q hq; have := h.ord; omega).setCell (by show w0.heap.size ≤ ps; have := h.ord; omega) _
theorem NewAt.fin {w0 : World} {ls : List Lt.Lab} {m ps BC : Nat} {ca : Option Addr} {cc : Nat} {us : List Tb.TV} {lv : Value} {Lk : List LvV} {w : World} (h : NewAt w0 ls m ps BC ca cc us ls.length lv Lk w) (h0 : 0 < ls.length) (h16 : ls.length ≤ 16) (hcl : ∀ u ∈ us, u.cs.length ≤ 16) :
 Fg w (fun k => w0.heap.size ≤ k ∧ k < w.heap.size) 0 ls.length ps (fun i => Lt.belowL ls i) us fg0 := by
 have hpl := blk_lt h.blk
 have hml := h.map.lt
 have hord := h.ord
 rcases h.row.2 with ⟨_, q⟩ | ⟨g, cap, cur, e, q1, q2, q3, q4, q5, q6⟩
 · have := h.len; omega
 subst e
 have hgl := blk_lt q2
 refine ⟨⟨g, cap, m, BC, ca, cc, Lk, .map [], fun _ _ => none, fun _ _ _ => False, ⟨h.blk, ⟨⟨cur, q2, fun j hj => ?_⟩, q3⟩, fun i hi => ?_, by rw [h.len]; exact ⟨h0, h16⟩, fun i hi b hb => ?_, h.cat, h.map, PtIs.nil, fun a b => ⟨fun _ => ⟨rfl, fun _ q => q⟩, fun q hq => by cases hq⟩, ⟨by omega, by omega, by omega, by omega⟩, fun _ _ _ q => q.elim, fun _ _ _ _ _ q => q.elim, fun k hk => ?_, fun i hi b o e => ?_⟩, h.len⟩, fun k hk => hk.2, okF_zero _ _, hcl⟩
 · rw [← q6, List.getElem?_take_of_lt hj]
   simp
 · obtain ⟨z1, z2, z3, z4⟩ := h.lvl i hi
   exact ⟨z1, z2, z3, z4⟩
 · have := Lt.mem_below.1 hb
   have hb2 : b < ls.length := by
    simp only [Lt.belowL] at hb
    exact ((Lt.mem_upTo).1 hb).1
   rw [h.len]; exact hb2
 · have z := h.clo k hk
   have z2 := h.cat.lt k hk
   exact ⟨⟨z.1, z2⟩, by omega, by omega, by omega, fun _ _ q => q⟩
 · obtain ⟨z1, z2, z3⟩ := h.far i hi b o e
   exact ⟨⟨by omega, z2⟩, z2, fun q => z3 (by rw [q]; rfl), by omega, by omega, fun _ _ q => q⟩
set_option maxRecDepth 100000 in
set_option maxHeartbeats 4000000 in
theorem fnew_ {w : World} {q : Nat} {ls : List Lt.Lab} (hL : Lt.LatIn w (.pointer (some ⟨q, 0, none⟩)) ls) (hw : Lt.allW ls) (h0 : 0 < ls.length) (h16 : ls.length ≤ 16) {N0 BC : Nat} {us : List Tb.TV} (hc : Tb.CatIn w N0 BC us) (hcl : ∀ u ∈ us, u.cs.length ≤ 16) (hE : Tb.newE us = 0) :
 Calls Tryz.prog 18 #[.pointer (some ⟨q, 0, none⟩), .pointer (some ⟨BC, 0, none⟩)] w fun e w' => ∃ ps us', e = .returned (.tuple #[.pointer (some ⟨ps, 0, none⟩), .nilIface]) ∧ Fg w' (fun k => w.heap.size ≤ k ∧ k < w'.heap.size) 0 ls.length ps (fun i => Lt.belowL ls i) us' fg0 ∧ us'.map Tb.TV.tab = us.map Tb.TV.tab ∧ Below w.heap.size w w' := by
 have HLn : Hid (∀ V, Below w.heap.size w V → Calls Tryz.prog 40 #[.pointer (some ⟨q, 0, none⟩)] V fun e w' => e = .returned (.int .i64 ls.length) ∧ w' = V) := fun V hV => Lt.len_ _ ls V (hL.on hV)
 have HBl : Hid (∀ V (i : Nat), Below w.heap.size w V → Calls Tryz.prog 42 #[.pointer (some ⟨q, 0, none⟩), .int .i64 i] V fun e w' => ∃ a c, e = .returned (.slice a (Lt.belowL ls i).length c) ∧ Lt.IntsIn w' a (Lt.belowL ls i) ∧ Below V.heap.size V w' ∧ ∀ b o, a = some ⟨b, o, none⟩ → V.heap.size ≤ b) := fun V i hV => Lt.below_ _ i ls V (hL.on hV) hw h16
 have HCo := Lib.hid (fcopied_ hc hcl hE)
 have HPos : Hid (∀ k, k < ls.length → 0 < (Lt.belowL ls k).length) := fun k hk => List.length_pos_of_mem (Lt.mem_below.2 (Lt.domAt_nat.2 ⟨⟨hk, hk⟩, Lt.dm_refl hw k⟩))
 have HFin : Hid (∀ us' : List Tb.TV, us'.map Tb.TV.tab = us.map Tb.TV.tab → ∀ u ∈ us', u.cs.length ≤ 16) := fun us' h u hu => by
  have h1 : u.tab ∈ us'.map Tb.TV.tab := List.mem_map_of_mem hu
  rw [h] at h1
  obtain ⟨v, hv, e⟩ := List.mem_map.1 h1
  have h2 := congrArg Tb.Tab.cs e
  have h3 : v.cs = u.cs := h2
  rw [← h3]; exact hcl v hv
 have HEnd : Hid (∀ m ps BC' ca cc us' lv Lk w', us'.map Tb.TV.tab = us.map Tb.TV.tab → NewAt w ls m ps BC' ca cc us' ls.length lv Lk w' → Fg w' (fun k => w.heap.size ≤ k ∧ k < w'.heap.size) 0 ls.length ps (fun i => Lt.belowL ls i) us' fg0 ∧ us'.map Tb.TV.tab = us.map Tb.TV.tab ∧ Below w.heap.size w w') := fun m ps BC' ca cc us' lv Lk w' h2 h3 => ⟨h3.fin h0 h16 (HFin.out us' h2), h2, h3.bw⟩
 unfold CopTo at HCo
 obtain ⟨N, hN⟩ : ∃ N, ls.length = N := ⟨_, rfl⟩
 have HN := Lib.hid hN
 rw [hN] at HLn HPos h0 h16
 have hN0 : ¬ (N : Int) = 0 := by omega
 clear hL hw hc hcl hE hN HFin
 go_enter Tryz.func18, Tryz.ntmps18
 go_wp2_with (first
  | (go_at_call 40; refine (HLn.out _ (Below.refl _ _)).mono ?_; rintro e w' ⟨rfl, rfl⟩)
  | fail)
 rename World => w0
 refine HCo.out.mono ?_
 rintro e w1 ⟨BC', us', rfl, hcat, hus, hb1⟩
 obtain ⟨ca, cc, hcb⟩ := catB_of hcat
 obtain ⟨W2, hW2⟩ : ∃ W2, (w1.alloc (.map #[] 0)).alloc (.cells #[.slice none 0 0, .pointer (some ⟨BC', 0, none⟩), .map (some w1.heap.size)] 89) = W2 := ⟨_, rfl⟩
 have hs1 : (w1.alloc (.map #[] 0)).heap.size = w1.heap.size + 1 := by simp [go_sem]
 have hb2 : Below w1.heap.size w1 W2 := by rw [← hW2]; exact below_step (below_alloc _ _) (below_alloc _ _)
 have hk2 : W2.heap[w1.heap.size + 1]? = some (.cells #[.slice none 0 0, .pointer (some ⟨BC', 0, none⟩), .map (some w1.heap.size)] 89 (0, 0)) := by
  have := new_blk (w1.alloc (.map #[] 0)) (.cells #[.slice none 0 0, .pointer (some ⟨BC', 0, none⟩), .map (some w1.heap.size)] 89)
  rw [hW2, hs1] at this
  exact this
 have hmp : W2.ownsMap Tryz.prog 99 ptE w1.heap.size 0 (.map []) := by
  rw [← hW2]
  exact (World.ownsMap_made w1 Tryz.prog 99 ptE).alloc _
 have hclo : ∀ k, CatK BC' ca us' k → w0.heap.size ≤ k ∧ k < w1.heap.size := fun k hk => by
  refine ⟨?_, hcb.lt k hk⟩
  rcases hk with rfl | ⟨o, e, hne⟩ | ⟨u, hu, o, e, hne⟩
  · exact hcat.at_
  · obtain ⟨a, c, r1, r2, r3⟩ := hcat.row
    have r4 := hcb.row
    rw [r1] at r4
    simp only [Option.some.injEq, Value.slice.injEq] at r4
    exact r3 k o (by rw [r4.1]; exact e)
  · obtain ⟨i, hi, rfl⟩ := List.getElem_of_mem hu
    exact hcat.far i hi k o e
 have HNw : Hid (NewAt w0 ls w1.heap.size (w1.heap.size + 1) BC' ca cc us' 0 (.slice none 0 0) [] W2) :=
  ⟨hk2, World.ownsRow_nil _ _ _ _, rfl, fun i h => by simp at h, fun i h => by simp at h, hmp, ⟨hb1.size, by omega⟩, hcb.keep fun k hk => hb2.block k (hcb.lt k hk), hclo, below_step hb1 hb2⟩
 have HUs := Lib.hid (And.intro hus hb1)
 clear hcat hus hb1 hcb hs1 hb2 hk2 hmp hclo HCo
 have mk := run_makeMap (P := Tryz.prog) 87
 go_upto_region 7 with fail
 clear mk hW2
 generalize w1.heap.size + 1 = ps at *
 generalize w1.heap.size = m at *
 go_wp2_with (first
  | (go_at_call 40; refine (HLn.out _ HNw.out.bw).mono ?_; rintro e w' ⟨rfl, rfl⟩)
  | fail)
 go_loopw [28] (fun iv wr => ∃ (k : Nat) (lv : Value) (Lk : List LvV), k ≤ N ∧ iv = .int .i64 k ∧ Hid (NewAt w0 ls m ps BC' ca cc us' k lv Lk wr)) (fun iv _ => N - (intOf iv).toNat)
 case atStart => exact ⟨0, _, _, Nat.zero_le _, rfl, HNw.out⟩
 case round =>
  obtain ⟨k, lv, Lk, hk, rfl, HA⟩ := hrel
  by_cases hlt : k < N
  · have hkI : (k : Int) < (N : Int) := by omega
    have c0 := cell_of (o := 0) HA.out.blk rfl
    have HB := Lib.hid (HBl.out wr.drew k (below_step HA.out.bw (below_drew wr)))
    have hpos := HPos.out k hlt
    have HP := Lib.hid hpos
    obtain ⟨nb, hnb⟩ : ∃ nb, (Lt.belowL ls k).length = nb := ⟨_, rfl⟩
    have HNb := Lib.hid hnb
    rw [hnb] at HB
    clear hnb hpos
    go_upto_region 10 with fail
    refine wp_region_noPanic ?_
    refine region_ph (A := fun _ => True) (e1 := 13) (B := (fun V => V.cell? ⟨ps, 0, none⟩ = some lv)) (e2 := 13) (C := (fun _ => True)) (by kernel_rfl) (⟨trivial, fun _ => c0, fun _ => trivial⟩) (fun hSt => ?_)
    refine take_ph 0 (.pointer (some ⟨ps, 0, none⟩)) [] rfl (by kernel_rfl) (fun _ _ _ h => h) (Or.inl ⟨by rfl, ?_⟩) hSt (fun hSn => ?_)
    · intro V _; go_simp
    clear hSt; rename Ph _ _ _ _ _ _ _ => hSt; simp only [Act.put, prw]
    refine take_ph 1 (.pointer (some ⟨ps, 0, none⟩)) [] rfl (by kernel_rfl) (fun _ _ _ h => h) (Or.inl ⟨by rfl, ?_⟩) hSt (fun hSn => ?_)
    · intro V _; go_simp
    clear hSt; rename Ph _ _ _ _ _ _ _ => hSt; simp only [Act.put, prw]
    refine take_ph 2 (.pointer (some ⟨ps, 0, none⟩)) [] rfl (by kernel_rfl) (fun _ _ _ h => h) (Or.inl ⟨by rfl, ?_⟩) hSt (fun hSn => ?_)
    · intro V _; go_simp
    clear hSt; rename Ph _ _ _ _ _ _ _ => hSt; simp only [Act.put, prw]
    refine take_ph 3 (.pointer (some ⟨ps, 0, none⟩)) [] rfl (by kernel_rfl) (fun _ _ _ h => h) (Or.inl ⟨by rfl, ?_⟩) hSt (fun hSn => ?_)
    · intro V _; go_simp
    clear hSt; rename Ph _ _ _ _ _ _ _ => hSt; simp only [Act.put, prw]
    refine take_ph 4 (lv) [10, 13] rfl (by kernel_rfl) (fun _ _ _ h => h) (Or.inl ⟨by rfl, ?_⟩) hSt (fun hSn => ?_)
    · rintro V ⟨_, hB, hC⟩; have hh := hB (by decide); have e0 := hh; clear hB hC; go_simp
    clear hSt; rename Ph _ _ _ _ _ _ _ => hSt; simp only [Act.put, prw]
    refine take_ph 5 (.pointer (some ⟨q, 0, none⟩)) [] rfl (by kernel_rfl) (fun _ _ _ h => h) (Or.inl ⟨by rfl, ?_⟩) hSt (fun hSn => ?_)
    · intro V _; go_simp
    clear hSt; rename Ph _ _ _ _ _ _ _ => hSt; simp only [Act.put, prw]
    refine take_ph 6 (.int .i64 (k : Int)) [] rfl (by kernel_rfl) (fun _ _ _ h => h) (Or.inl ⟨by rfl, ?_⟩) hSt (fun hSn => ?_)
    · intro V _; go_simp
    clear hSt; rename Ph _ _ _ _ _ _ _ => hSt; simp only [Act.put, prw]
    refine ready_call_ph 7 rfl (by kernel_rfl) (fun KK hK => ?_)
    go_simp
    go_wp2_with (first | (go_at_call 42; refine HB.out.mono ?_; rintro e V ⟨a, c, rfl, hi, hb, hf⟩))
    refine hK.out _ _ ?_ (fun hSn => ?_)
    · exact ⟨trivial, fun _ => (hb.cell (block_lt_of_cell (show wr.drew.cell? ⟨ps, 0, none⟩ = some lv from c0))).trans c0, fun _ => trivial⟩
    clear hK KK hSt; rename Ph _ _ _ _ _ _ _ => hSt
    have hbV := below_step (below_drew wr) hb
    have hU := below_alloc V (.cells #[.slice a nb c, .int .i64 0, .int .i64 0] 85)
    have hrb : Hid (∀ (ac : Act) (o : Oper) (z : Operand), o.op = .buildSlice 86 1 #[(0, z)] → ac.eval z = .agg #[.slice a nb c, .int .i64 0, .int .i64 0] → (execOp ac.eval o).run Tryz.prog V = .ok (.value (.slice (some ⟨V.heap.size, 0, none⟩) 1 1)) (V.alloc (.cells #[.slice a nb c, .int .i64 0, .int .i64 0] 85))) := fun ac o z h1 h2 => run_buildLv V a nb c ac o z h1 h2
    have hbU := below_step hbV hU
    have hrow : RowL (V.alloc (.cells #[.slice a nb c, .int .i64 0, .int .i64 0] 85)) (ps + 1) lv Lk := row_on HA.out.row hbU
    have hpsU : ps < (V.alloc (.cells #[.slice a nb c, .int .i64 0, .int .i64 0] 85)).heap.size := Nat.lt_of_lt_of_le (blk_lt HA.out.blk) hbU.size
    obtain ⟨a5, n5, c5, w5, hap, ho5, hg5, h55⟩ := app_lv (x := ⟨a, nb, c, 0, 0⟩) hrow (new_blk V _) (by rw [HA.out.len]; omega) hpsU
    have hnp : lv.ownBlock ≠ some ps := fun e => by have := (World.ownsRow.lt HA.out.row ps e).1; omega
    have kU : (V.alloc (.cells #[.slice a nb c, .int .i64 0, .int .i64 0] 85)).heap[ps]? = wr.heap[ps]? := hbU.block ps (blk_lt HA.out.blk)
    have k5 : w5.heap[ps]? = wr.heap[ps]? := (hg5.block ps hpsU fun e => hnp e.symm).trans kU
    have cU : Hid ((V.alloc (.cells #[.slice a nb c, .int .i64 0, .int .i64 0] 85)).cell? ⟨ps, 0, none⟩ = some lv) := (cell_same kU).trans c0
    have c9 : w5.cell? ⟨ps, 0, none⟩ = some lv := (cell_same k5).trans c0
    have f9 : w5.frozen? ⟨ps, 0, none⟩ = false := frozen_of (k5.trans HA.out.blk)
    have HNx : Hid (NewAt w0 ls m ps BC' ca cc us' (k + 1) (.slice a5 n5 c5) (Lk ++ [⟨a, nb, c, 0, 0⟩]) (w5.setCell ⟨ps, 0, none⟩ (.slice a5 n5 c5))) := by
     have := HA.out.add hbV hU hi hf HP.out (lv' := .slice a5 n5 c5) (c := c) (w5 := w5) (by rw [HNb.out]; exact ho5) hg5 h55
     rw [HNb.out] at this
     exact this
    clear hbV hU hbU hrow hpsU ho5 hg5 h55 hnp kU k5 hi hb hf
    refine take_ph 8 (.agg #[.slice a nb c, .int .i64 0, .int .i64 0]) [] rfl (by kernel_rfl) (fun _ _ _ h => h) (Or.inl ⟨by rfl, ?_⟩) hSt (fun hSn => ?_)
    · intro V _; go_simp
    clear hSt; rename Ph _ _ _ _ _ _ _ => hSt; simp only [Act.put, prw]
    refine ready_ph 9 rfl (by kernel_rfl) rfl (.inl (hrb.out _ _ _ rfl rfl)) (⟨trivial, fun _ => cU.out, fun _ => trivial⟩) (fun hSn => ?_)
    clear hSt; rename Ph _ _ _ _ _ _ _ => hSt; simp only [Act.put, prw]
    refine ready_ph 10 rfl (by kernel_rfl) rfl (.inl (exec_append rfl rfl rfl hap)) (⟨trivial, fun _ => c9, fun _ => trivial⟩) (fun hSn => ?_)
    clear hSt; rename Ph _ _ _ _ _ _ _ => hSt; simp only [Act.put, prw]
    refine take_ph 11 (.pointer (some ⟨ps, 0, none⟩)) [] rfl (by kernel_rfl) (fun _ _ _ h => h) (Or.inl ⟨by rfl, ?_⟩) hSt (fun hSn => ?_)
    · intro V _; go_simp
    clear hSt; rename Ph _ _ _ _ _ _ _ => hSt; simp only [Act.put, prw]
    refine take_ph 12 (.pointer (some ⟨ps, 0, none⟩)) [] rfl (by kernel_rfl) (fun _ _ _ h => h) (Or.inl ⟨by rfl, ?_⟩) hSt (fun hSn => ?_)
    · intro V _; go_simp
    clear hSt; rename Ph _ _ _ _ _ _ _ => hSt; simp only [Act.put, prw]
    refine ready_store_ph 13 rfl (by kernel_rfl) rfl 86 _ _ rfl _ _ rfl rfl (store_sl c9 f9 (by kernel_rfl)) (⟨trivial, fun h => absurd (show true = false from h) (by decide), fun _ => trivial⟩) (fun hSn => ?_)
    clear hSt; rename Ph _ _ _ _ _ _ _ => hSt
    simp only [Act.put]
    refine done_ph (by kernel_rfl) ?_ _
    clear hSt
    refine NoPanic.normal ?_
    clear hrb hap c9 f9 c0 HB
    go_wp2_with fail
    go_roundw
    case rel => exact ⟨k + 1, _, _, by omega, by go_num, HNx.out⟩
    case measure => simp [intOf]; omega
  · obtain rfl : k = N := by omega
    have HF := Lib.hid (HEnd.out m ps BC' ca cc us' lv Lk wr HUs.out.1 (by rw [HN.out]; exact HA.out))
    clear HEnd HA HNw HUs
    go_wp2_with fail
    go_ret2
    exact ⟨ps, us', rfl, HF.out⟩
end Go.Proofs.YtalmanfjiblhcaaGreat
namespace Go.Proofs.YtalmanfjiblhcaaGreat
open Go.RowKit Go.Sort Go.Maps
theorem app_labs {w : World} {ls : List Lt.Lab} {a : Option Addr} {c : Nat} (h : Lt.LabsIn w a ls) (hnil : a = none → c = 0) (hlen : ls.length * 16 ≤ 140737488355328) (t : TypeId) :
 ∃ a3 c3 V3, (Builtin.append_ #[22, 22] t #[.slice none 0 0, .slice a ls.length c]).run Tryz.prog w = .ok (.slice a3 ls.length c3) V3 ∧ Lt.LabsIn V3 a3 ls ∧ Below w.heap.size w V3 := by
 have hown0 : w.ownsRow w.heap.size 70 2 (.slice none 0 0) ([] : List Lt.Lab).length (Lt.labCells []) := World.ownsRow_nil _ _ _ _
 obtain ⟨i0, hi, hz0, hz1, hz2⟩ := info_parts Lt.infoL
 cases a with
 | none =>
   have h0 : ls = [] := by
    refine Classical.byContradiction fun hne => ?_
    obtain ⟨_, _, e, _⟩ := h 0 (List.length_pos_iff.2 hne)
    cases e
   subst h0
   obtain rfl := hnil rfl
   exact ⟨none, 0, w, by kernel_rfl, fun i hi => by simp at hi, Below.refl _ _⟩
 | some ad =>
   obtain ⟨b, o, m⟩ := ad
   by_cases h0 : ls = []
   · subst h0
     obtain ⟨v', w', hr, h2, h3, _, h5⟩ := run_append_own_at (P := Tryz.prog) w w.heap.size 22 t 70 i0 (.agg #[.int .i64 0, .int .u32 0]) 2 16 Tryz.underlying22 hi hz0 hz1 hz2 rfl (by decide) (.slice none 0 0) 0 [] (World.ownsRow_nil _ _ _ _) ⟨b, o, m⟩ 0 c [] rfl (fun j u hj => by simp at hj) (fun u hu => by simp at hu) (by unfold maxLen; omega) (by omega) (Nat.le_refl _)
     obtain ⟨a, c3, rfl, _⟩ := row_shape h2
     exact ⟨a, c3, w', hr, fun i hi => by simp at hi, (Below.refl _ _).grown h3 (Nat.le_refl _) (fun k hk => by simp [Value.ownBlock] at hk)⟩
   · obtain ⟨b', o', e, _⟩ := h 0 (List.length_pos_iff.2 h0)
     simp only [Option.some.injEq, Addr.mk.injEq] at e
     obtain ⟨rfl, rfl, rfl⟩ := e
     obtain ⟨v', w', hr, h2, h3, _, h5⟩ := run_append_own_at (P := Tryz.prog) w w.heap.size 22 t 70 i0 (.agg #[.int .i64 0, .int .u32 0]) 2 16 Tryz.underlying22 hi hz0 hz1 hz2 rfl (by decide) (.slice none 0 0) 0 [] (World.ownsRow_nil _ _ _ _) ⟨b, o, none⟩ ls.length c (Lt.labCells ls) (Lt.labCells_len ls) (Lt.labNews h) (Lt.labCells_one ls) (by unfold maxLen; omega) (by omega) (Nat.le_refl _)
     simp only [Nat.zero_add, List.nil_append] at h2
     obtain ⟨a3, c3, rfl, hin⟩ := Lt.labsIn_of h2
     exact ⟨a3, c3, w', hr, hin, (Below.refl _ _).grown h3 (Nat.le_refl _) (fun k hk => by simp [Value.ownBlock] at hk)⟩
structure OkLs (ls : List Lt.Lab) : Prop where
 pos : 0 < ls.length
 le : ls.length ≤ 16
 all : ls.all Lt.okLab = true
 nd : ls.Nodup
theorem OkLs.w {ls : List Lt.Lab} (h : OkLs ls) : Lt.allW ls := fun a ha => Lt.okLab_ok (List.all_eq_true.1 h.all a ha)
def LnTo (w : World) (ls : List Lt.Lab) (e : Ending) (w' : World) : Prop :=
 ∃ v6 v7, e = .returned (.tuple #[v6, v7]) ∧ ((∃ q, v6 = .pointer (some ⟨q, 0, none⟩) ∧ v7 = .nilIface ∧ OkLs ls ∧ Lt.LatIn w' (.pointer (some ⟨q, 0, none⟩)) ls) ∨ (v6 = .pointer none ∧ (∃ E, v7 = .iface 77 (.int .i64 E)) ∧ ¬ OkLs ls)) ∧ Below w.heap.size w w'
theorem lnew_ {w : World} {a : Option Addr} {c : Nat} {ls : List Lt.Lab} (h : Lt.LabsIn w a ls) (hw : Lt.allW ls) : Calls Tryz.prog 16 #[.slice a ls.length c] w (LnTo w ls) := by
 by_cases h0 : ls.length = 0
 · rw [h0]
   refine (Lt.new_arg a c w).mono ?_
   rintro e w' ⟨rfl, hb⟩
   exact ⟨_, _, rfl, .inr ⟨rfl, ⟨_, rfl⟩, fun k => by have := k.pos; omega⟩, hb⟩
 · by_cases h16 : 16 < ls.length
   · refine (Lt.new_long a ls.length c w h16).mono ?_
     rintro e w' ⟨rfl, hb⟩
     exact ⟨_, _, rfl, .inr ⟨rfl, ⟨_, rfl⟩, fun k => by have := k.le; omega⟩, hb⟩
   · cases hal : ls.all Lt.okLab with
     | false =>
       refine (Lt.new_label a c ls w h (by omega) (by omega) hw hal).mono ?_
       rintro e w' ⟨rfl, hb⟩
       exact ⟨_, _, rfl, .inr ⟨rfl, ⟨_, rfl⟩, fun k => by rw [k.all] at hal; cases hal⟩, hb⟩
     | true =>
       refine (Lt.new_rest a c ls w h (by omega) (by omega) hal).mono ?_
       rintro e w' ⟨hb, ⟨hn, rfl⟩ | ⟨hn, q, rfl, hl⟩⟩
       · exact ⟨_, _, rfl, .inr ⟨rfl, ⟨_, rfl⟩, fun k => hn k.nd⟩, hb⟩
       · exact ⟨_, _, rfl, .inl ⟨q, rfl, rfl, ⟨by omega, by omega, hal, hn⟩, hl⟩, hb⟩
def MadeTo (w : World) (ls : List Lt.Lab) (ts : List Tb.TV) (e : Ending) (w' : World) : Prop :=
 Below w.heap.size w w' ∧ ((∃ ps us', e = .returned (.pointer (some ⟨ps, 0, none⟩)) ∧ Fg w' (fun k => w.heap.size ≤ k ∧ k < w'.heap.size) 0 ls.length ps (fun i => Lt.belowL ls i) us' fg0 ∧ us'.map Tb.TV.tab = ts.map Tb.TV.tab ∧ OkLs ls ∧ Tb.newE ts = 0) ∨ (e = .returned (.pointer none) ∧ ¬ (OkLs ls ∧ Tb.newE ts = 0)))
set_option maxRecDepth 100000 in
set_option maxHeartbeats 8000000 in
theorem made_ {w : World} {la ta : Option Addr} {lc tc : Nat} {ls : List Lt.Lab} {ts : List Tb.TV} (hl : Lt.LabsIn w la ls) (hln : la = none → lc = 0) (hlw : Lt.allW ls) (hll : ls.length * 16 ≤ 140737488355328) (ht : Tb.TabsIn w ta ts) (hc : Tb.ColsAll w ts) (htl : ts.length * 40 ≤ 140737488351232) (hcl : ∀ t ∈ ts, t.cs.length * 32 ≤ 140737488355328) :
 Calls Tryz.prog 5 #[.slice la ls.length lc, .slice ta ts.length tc] w (MadeTo w ls ts) := by
 obtain ⟨a3, c3, V3, hap, hin3, hb3⟩ := app_labs hl hln hll 22
 have HLn := Lib.hid (lnew_ (c := c3) hin3 hlw)
 have HT := Lib.hid ht
 have HC := Lib.hid hc
 have HCl := Lib.hid hcl
 have HB3 := Lib.hid hb3
 unfold LnTo at HLn
 generalize hQ : MadeTo w ls ts = Q
 have HQ := Lib.hid hQ
 obtain ⟨N, hN⟩ : ∃ N, ts.length = N := ⟨_, rfl⟩
 obtain ⟨M, hM⟩ : ∃ M, ls.length = M := ⟨_, rfl⟩
 have HN := Lib.hid (And.intro hN hM)
 rw [hN] at htl ⊢
 rw [hM] at hap HLn ⊢
 clear hl hln hlw hll ht hc hcl hin3 hb3 hQ hN hM
 go_enter Tryz.func5, Tryz.ntmps5
 go_wp2_with (first
  | (refine Tb.wpList_exec rfl (exec_append rfl rfl rfl hap) ?_; clear hap)
  | fail)
 refine HLn.out.mono ?_
 rintro e w2 ⟨v6, v7, rfl, hlt, hb2⟩
 have HLt := Lib.hid hlt
 have HB2 := Lib.hid (below_step HB3.out hb2)
 clear hlt hb2 HLn HB3
 go_wp2_with fail
 go_loopw [8, 9] (fun v iv wr => ∃ (k : Nat) (us : List Tb.TV), k ≤ N ∧ iv = .int .i64 k ∧ Hid (Tb.Rw w2.heap.size v us wr ∧ us.map Tb.TV.tab = (ts.take k).map Tb.TV.tab ∧ Below w2.heap.size w2 wr)) (fun _ iv _ => N - (intOf iv).toNat)
 case atStart => exact ⟨0, [], Nat.zero_le _, rfl, Tb.rw_nil _, rfl, Below.refl _ _⟩
 case round =>
  obtain ⟨k, us, hk, rfl, HR⟩ := hrel
  have hlt' : us.length = k := by
   have := congrArg List.length HR.out.2.1
   rw [List.length_map, List.length_map, List.length_take, HN.out.1] at this
   omega
  by_cases hlt : k < N
  · have hkl : k < ts.length := by rw [HN.out.1]; exact hlt
    have hkI : (k : Int) < (N : Int) := by omega
    have hbw := below_step HB2.out HR.out.2.2
    obtain ⟨b, o, rfl, y0, y1⟩ := (HT.out.on hbw) k hkl
    obtain ⟨hci, hcc, hcn⟩ := (HC.out.on hbw) k hkl
    have hc32 := HCl.out _ (List.getElem_mem hkl)
    have HTk : Hid ((ts.take (k + 1)).map Tb.TV.tab = (ts.take k).map Tb.TV.tab ++ [⟨ts[k].nm, ts[k].cs⟩]) := by
     show _ = _
     rw [List.take_succ_eq_append_getElem hkl, List.map_append]; rfl
    generalize ts[k].nm = nm at *
    generalize ts[k].cs = cs at *
    generalize ts[k].a = ca at *
    generalize ts[k].c = cc at *
    obtain ⟨C, hC⟩ : ∃ C, cs.length = C := ⟨_, rfl⟩
    have HCn := Lib.hid hC
    obtain ⟨W1, hW1⟩ : ∃ W1, wr.alloc (.cells #[.string nm, .slice ca C cc] 44) = W1 := ⟨_, rfl⟩
    have hb1 : Below wr.heap.size wr W1 := by rw [← hW1]; exact below_alloc _ _
    have hT1 : Tb.TbB W1 wr.heap.size nm (.slice ca C cc) := by rw [← hW1]; exact Tb.tbB_new _ _ _ _ _ _
    have hs1 : W1.heap.size = wr.heap.size + 1 := by rw [← hW1]; simp [go_sem]
    obtain ⟨x3, n3, d3, V4, hap1, ho4, hb4⟩ := Tb.app_nil (hci.on hb1) hcn hc32 42
    obtain ⟨q1, q2, q3, q4⟩ := ho4.cap
    obtain ⟨x3', d3', e3, hc4, _⟩ := ho4.cols
    simp only [Value.slice.injEq] at e3
    obtain ⟨rfl, e3n, rfl⟩ := e3
    have hT4 := hT1.on hb4
    obtain ⟨U, hU⟩ : ∃ U, (V4.setCell ⟨wr.heap.size, 1, none⟩ (.slice x3 n3 d3)).alloc (.cells #[.string nm, .slice x3 n3 d3] 44) = U := ⟨_, rfl⟩
    have hs4 : (V4.setCell ⟨wr.heap.size, 1, none⟩ (.slice x3 n3 d3)).heap.size = V4.heap.size := by simp [World.setCell]
    have hbU : Below wr.heap.size wr U := by
     rw [← hU]
     exact ((below_step hb1 hb4).setCell (Nat.le_refl _) _).trans ((below_alloc _ _).mono (by rw [hs4]; exact Nat.le_trans hb1.size hb4.size))
    have hkU : U.heap[V4.heap.size]? = some (.cells #[.string nm, .slice x3 n3 d3] 44 (0, 0)) := by
     have := new_blk (V4.setCell ⟨wr.heap.size, 1, none⟩ (.slice x3 n3 d3)) (.cells #[.string nm, .slice x3 n3 d3] 44)
     rw [hU, hs4] at this
     exact this
    have hcU : Tb.ColsIn U x3 cs := by
     have h1 : Tb.ColsIn (V4.setCell ⟨wr.heap.size, 1, none⟩ (.slice x3 n3 d3)) x3 cs := hc4.set fun b o e => by have := q4 b o e; omega
     rw [← hU]
     exact h1.on (below_alloc _ _)
    have hrw := HR.out.1.on hbU
    have hvb : ∀ q, _ → q < wr.heap.size := fun q hq => (World.ownsRow.lt HR.out.1.row q hq).2
    have hn3 : n3 = cs.length := q1
    obtain ⟨a5, n5, c5, w5, hap2, hrow5, hg5⟩ := hrw.more (Bs := V4.heap.size) (x := ⟨nm, x3, d3, cs⟩) (cell_of hkU rfl) (by rw [← hn3]; exact cell_of hkU rfl) hcU (by rw [← hn3]; exact q2) q3 (fun b o e => by have := q4 b o e; have := HR.out.2.2.size; omega) (fun b o e q hq => by have := q4 b o e; have := hvb q hq; omega) (by omega)
    have HNx : Hid (Tb.Rw w2.heap.size (.slice a5 n5 c5) (us ++ [⟨nm, x3, d3, cs⟩]) w5 ∧ (us ++ [(⟨nm, x3, d3, cs⟩ : Tb.TV)]).map Tb.TV.tab = (ts.take (k + 1)).map Tb.TV.tab ∧ Below w2.heap.size w2 w5) :=
     ⟨hrow5, by rw [HTk.out, List.map_append, HR.out.2.1]; rfl, (below_step HR.out.2.2 hbU).grown hg5 (below_step HR.out.2.2 hbU).size fun q hq => (World.ownsRow.lt HR.out.1.row q hq).1⟩
    obtain ⟨z0, z1, _, _⟩ := hT1
    have HT4 := Lib.hid hT4
    rw [hC] at y1 hap1
    clear hbw hci hcc hcn hc32 hb1 hs1 ho4 hb4 q1 q2 q3 q4 hc4 e3n hT4 hs4 hbU hkU hcU hrw hvb hn3 hrow5 hg5 hC
    go_upto_region 9 with fail
    try rw [hW1]
    go_wp2_with (first
     | (refine Tb.wpList_exec rfl (exec_append rfl rfl rfl hap1) ?_; clear hap1; obtain ⟨s0, s1, g0, g1⟩ := HT4.out)
     | (refine Tb.wpList_exec rfl (exec_append rfl rfl rfl hap2) ?_; clear hap2)
     | fail)
    go_roundw
    case rel => exact ⟨k + 1, _, by omega, by go_num, HNx.out⟩
    case measure => simp [intOf]; omega
  · obtain rfl : k = N := by omega
    obtain ⟨a, c, rfl, hti, _⟩ := HR.out.1.row.tabs
    have htk : ts.take k = ts := by rw [← HN.out.1, List.take_length]
    have hmap : us.map Tb.TV.tab = ts.map Tb.TV.tab := by rw [HR.out.2.1, htk]
    have hcl2 : ∀ t ∈ us, t.cs.length ≤ 140737488355328 := fun t ht => by
     have h1 : t.tab ∈ us.map Tb.TV.tab := List.mem_map_of_mem ht
     rw [hmap] at h1
     obtain ⟨v, hv, e⟩ := List.mem_map.1 h1
     have h2 := congrArg Tb.Tab.cs e
     have h3 : v.cs = t.cs := h2
     have := HCl.out v hv
     rw [← h3]; omega
    have HNw : Hid (Calls Tryz.prog 17 #[.slice a k c] wr fun e w' => ∃ v12 v13, e = .returned (.tuple #[v12, v13]) ∧ ((∃ BC us2, v12 = .pointer (some ⟨BC, 0, none⟩) ∧ v13 = .nilIface ∧ Tb.newE ts = 0 ∧ Tb.CatIn w' wr.heap.size BC us2 ∧ us2.map Tb.TV.tab = ts.map Tb.TV.tab) ∨ (v12 = .pointer none ∧ (∃ E, v13 = .iface 77 (.int .i64 E)) ∧ Tb.newE ts ≠ 0)) ∧ Below wr.heap.size wr w') := by
     have := Tb.tnew_ a c us wr hti HR.out.1.cols (by omega) hcl2
     rw [hlt'] at this
     refine this.mono ?_
     rintro e w' (⟨h1, BC, us2, rfl, h2, h3, h4⟩ | ⟨h1, rfl, h2⟩)
     · exact ⟨_, _, rfl, .inl ⟨BC, us2, rfl, rfl, by rw [← Tb.newE_same hmap]; exact h1, h2, h3.trans hmap⟩, h4⟩
     · exact ⟨_, _, rfl, .inr ⟨rfl, ⟨_, rfl⟩, by rw [← Tb.newE_same hmap]; exact h1⟩, h2⟩
    have HBr := Lib.hid (below_step HB2.out HR.out.2.2)
    have HB2r := Lib.hid HR.out.2.2
    rw [hlt']
    clear hti HR htk hmap hcl2
    go_wp2_with fail
    refine HNw.out.mono ?_
    rintro e w4 ⟨v12, v13, rfl, hnw, hb4⟩
    have HB4 := Lib.hid (below_step HBr.out hb4)
    have HB24 := Lib.hid (below_step HB2r.out hb4)
    clear hb4 HNw HBr HB2r
    rcases HLt.out with ⟨q, rfl, rfl, hls, hlat⟩ | ⟨rfl, ⟨E, rfl⟩, hls⟩
    · rcases hnw with ⟨BC, us2, rfl, rfl, he, hcat, hmp⟩ | ⟨rfl, ⟨E, rfl⟩, he⟩
      · have hcl3 : ∀ u ∈ us2, u.cs.length ≤ 16 := fun u hu => by
         have h1 : u.tab ∈ us2.map Tb.TV.tab := List.mem_map_of_mem hu
         rw [hmp] at h1
         obtain ⟨v, hv, e⟩ := List.mem_map.1 h1
         have h2 := congrArg Tb.Tab.cs e
         have h3 : v.cs = u.cs := h2
         obtain ⟨i, hi, rfl⟩ := List.getElem_of_mem hv
         have h4 := (Tb.newE_zero he).2 i hi
         rw [← h3]
         unfold Tb.chkT at h4
         have h5 : (ts[i].tab).cs = ts[i].cs := rfl
         rw [h5] at h4
         split at h4
         · omega
         · split at h4
           · omega
           · split at h4
             · omega
             · omega
        have HFn := Lib.hid (fnew_ (hlat.on HB24.out) hls.w hls.pos hls.le hcat hcl3 (by rw [Tb.newE_same hmp]; exact he))
        have HFi : Hid (∀ ps us' w', Fg w' (fun k => w4.heap.size ≤ k ∧ k < w'.heap.size) 0 ls.length ps (fun i => Lt.belowL ls i) us' fg0 → us'.map Tb.TV.tab = us2.map Tb.TV.tab → Below w4.heap.size w4 w' → Q (.returned (.pointer (some ⟨ps, 0, none⟩))) w') := fun ps us' w' h1 h2 h3 => by
         rw [← HQ.out]
         exact ⟨below_step HB4.out h3, .inl ⟨ps, us', rfl, h1.widen (fun k hk => ⟨Nat.le_trans HB4.out.size hk.1, hk.2⟩) (fun k hk => hk.2), h2.trans hmp, hls, he⟩⟩
        clear hls hlat he hcat hmp hcl3 HLt
        go_wp2_with fail
        refine HFn.out.mono ?_
        rintro e w5 ⟨ps, us', rfl, h1, h2, h3⟩
        have HF := Lib.hid (HFi.out ps us' w5 h1 h2 h3)
        clear h1 h2 h3 HFi HFn
        go_wp2_with fail
        exact HF.out
      · have HF : Hid (Q (.returned (.pointer none)) w4) := by
         rw [← HQ.out]
         exact ⟨HB4.out, .inr ⟨rfl, fun h => he h.2⟩⟩
        clear hls hlat he HLt
        go_wp2_with fail
        exact HF.out
    · have HF : Hid (Q (.returned (.pointer none)) w4) := by
       rw [← HQ.out]
       exact ⟨HB4.out, .inr ⟨rfl, fun h => hls h.1⟩⟩
      clear hls hnw HLt
      go_wp2_with fail
      exact HF.out
end Go.Proofs.YtalmanfjiblhcaaGreat
namespace Go.Proofs.YtalmanfjiblhcaaGreat
open Go.RowKit Go.Sort Go.Maps
def nmT : ByteArray := ⟨#[116]⟩
def colK : Rw.Col := ⟨⟨#[107]⟩, 1, true, false⟩
def colS : Rw.Col := ⟨⟨#[115]⟩, 2, false, false⟩
def PlainTo (w : World) (e : Ending) (w' : World) : Prop :=
 ∃ (a : Option Addr) (c : Nat) (t : Tb.TV), e = .returned (.slice a 1 c) ∧ t.nm = nmT ∧ t.cs = [colK, colS] ∧ Tb.TabsIn w' a [t] ∧ Tb.ColsAll w' [t] ∧ Below w.heap.size w w'
set_option maxRecDepth 100000 in
set_option maxHeartbeats 1000000 in
theorem plain_ (w : World) : Calls Tryz.prog 19 #[] w (PlainTo w) := by
 obtain ⟨W1, hW1⟩ : ∃ W1, w.alloc (.cells #[.string ⟨#[107]⟩, .int .i64 1, .bool true, .bool false, .string ⟨#[115]⟩, .int .i64 2, .bool false, .bool false] 112) = W1 := ⟨_, rfl⟩
 obtain ⟨W2, hW2⟩ : ∃ W2, W1.alloc (.cells #[.string ⟨#[116]⟩, .slice (some ⟨w.heap.size, 0, none⟩) 2 2] 44) = W2 := ⟨_, rfl⟩
 have hk1 : W1.heap[w.heap.size]? = some (.cells #[.string ⟨#[107]⟩, .int .i64 1, .bool true, .bool false, .string ⟨#[115]⟩, .int .i64 2, .bool false, .bool false] 112 (0, 0)) := by rw [← hW1]; exact new_blk _ _
 have hk2 : W2.heap[W1.heap.size]? = some (.cells #[.string ⟨#[116]⟩, .slice (some ⟨w.heap.size, 0, none⟩) 2 2] 44 (0, 0)) := by rw [← hW2]; exact new_blk _ _
 have hb1 : Below w.heap.size w W1 := by rw [← hW1]; exact below_alloc _ _
 have hb2 : Below W1.heap.size W1 W2 := by rw [← hW2]; exact below_alloc _ _
 have HF : Hid (PlainTo w (.returned (.slice (some ⟨W1.heap.size, 0, none⟩) 1 1)) W2) := by
  refine ⟨_, _, ⟨nmT, some ⟨w.heap.size, 0, none⟩, 2, [colK, colS]⟩, rfl, rfl, rfl, fun i hi => ?_, fun i hi => ?_, below_step hb1 hb2⟩
  · obtain rfl : i = 0 := by simp at hi; omega
    exact ⟨_, _, rfl, cell_of hk2 rfl, cell_of hk2 rfl⟩
  · obtain rfl : i = 0 := by simp at hi; omega
    refine ⟨fun j hj => ?_, Nat.le_refl _, fun e => by cases e⟩
    have hk : W2.heap[w.heap.size]? = _ := (hb2.block _ (blk_lt hk1)).trans hk1
    rcases j with _ | _ | j
    · exact ⟨_, _, rfl, cell_of hk rfl, cell_of hk rfl, cell_of hk rfl, cell_of hk rfl⟩
    · exact ⟨_, _, rfl, cell_of hk rfl, cell_of hk rfl, cell_of hk rfl, cell_of hk rfl⟩
    · have : j + 1 + 1 < 2 := hj
      omega
 clear hk1 hk2 hb1 hb2
 generalize hQ : PlainTo w = Q at *
 go_enter Tryz.func19, Tryz.ntmps19
 go_wp2
 exact HF.out
end Go.Proofs.YtalmanfjiblhcaaGreat
