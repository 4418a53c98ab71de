/- The walks of slices.Clone at columns, of table's own and Catalog.Table. -/
import Derived.Test.YtlgnllnjhpihdaaDoorTbTabs
namespace Go.Proofs.YtlgnllnjhpihdaaDoor
open Go.RowKit Go.Sort

theorem run_build0 (w : World) (a : Act) (o : Oper) (h : o.op = .buildSlice 22 0 #[]) : (execOp a.eval o).run Tryd.prog w = .ok (.value (.slice (some ⟨w.heap.size, 0, none⟩) 0 0)) (w.alloc (.cells #[] 55)) := by
  unfold execOp
  simp only [h]
  simp [Instr.buildSlice, go_sem]
/-- What a copy of columns is. -/
def CloneTo (w : World) (cs : List Col) (L : Nat) (e : Ending) (w' : World) : Prop :=
  ∃ a c, e = .returned (.slice a L c) ∧ ColsIn w' a cs ∧ L ≤ c ∧ (a = none → c = 0) ∧ (∀ b o, a = some ⟨b, o, none⟩ → w.heap.size ≤ b) ∧ Free w' a ∧ Below w.heap.size w w'
set_option maxRecDepth 100000 in
set_option maxHeartbeats 1000000 in
theorem cloneC_ (a : Option Addr) (c : Nat) (cs : List Col) (w : World) (h : ColsIn w a cs) (hnil : a = none → c = 0) (hlen : cs.length * 32 ≤ 140737488355328) :
    Calls Tryd.prog 59 #[.slice a cs.length c] w (CloneTo w cs cs.length) := by
  have q22 : ∀ (w : World) (a : Option Addr) (n c n' c' : Nat), (binOp .eql 22 (.slice a n c) (.slice none n' c')).run Tryd.prog w = .ok (.bool a.isNone) w := fun w a n c n' c' => Lib.run_eql_slice_nil w _ _ a n c n' c' Tryd.underlying22
  cases a with
  | none =>
    have h0 : cs = [] := by
      refine Classical.byContradiction fun hne => ?_
      obtain ⟨_, _, e, _⟩ := h 0 (List.length_pos_iff.2 hne)
      cases e
    subst h0
    obtain rfl := hnil rfl
    go_enter Tryd.func59, Tryd.ntmps59
    go_wp2_with fail
    go_ret
    exact ⟨none, 0, rfl, colsIn_nil _ _, Nat.le_refl _, fun _ => rfl, (fun b o e => (by cases e)), (fun b o e => (by cases e)), Below.refl _ _⟩
  | some ad =>
    obtain ⟨b, o, m⟩ := ad
    obtain ⟨i0, hi, hz0, hz1, hz2⟩ := info_parts infoC
    have hb1 := below_alloc1 w (.cells #[] 55)
    have hnews : ∀ j u, (colCells cs)[j]? = some u → (w.alloc (.cells #[] 55)).cell? ((⟨b, o, m⟩ : Addr).add j) = some u := by
      by_cases h0 : cs = []
      · subst h0; intro j u hj; simp [colCells] at hj
      · obtain ⟨b', o', e, _⟩ := h 0 (List.length_pos_iff.2 h0)
        simp only [Option.some.injEq, Addr.mk.injEq] at e
        obtain ⟨rfl, rfl, rfl⟩ := e
        exact colNews (h.on hb1)
    obtain ⟨v', w', hr, h2, h3, _, h5⟩ := run_append_own_at (P := Tryd.prog) (w.alloc (.cells #[] 55)) w.heap.size 22 22 55 i0 (.agg #[.string ⟨#[]⟩, .int .i64 0, .bool false, .bool false]) 4 32 Tryd.underlying22 hi hz0 hz1 hz2 rfl (by decide) (.slice (some ⟨w.heap.size, 0, none⟩) 0 0) 0 [] (World.ownsRow_made w #[] 0 (Nat.le_refl _) (Nat.zero_le _) rfl) ⟨b, o, m⟩ cs.length c (colCells cs) (colCells_len cs) hnews (colCells_one cs) (by unfold maxLen; omega) (by omega) (by simp)
    have ho : OwnC w' w.heap.size v' cs := by
      unfold OwnC
      have := h2
      rwa [Nat.zero_add, List.nil_append] at this
    have HR : Hid (∃ a3 c3, v' = .slice a3 cs.length c3 ∧ ColsIn w' a3 cs ∧ cs.length ≤ c3 ∧ (a3 = none → c3 = 0) ∧ (∀ b o, a3 = some ⟨b, o, none⟩ → w.heap.size ≤ b) ∧ Free w' a3) := by
      obtain ⟨a3, c3, rfl, hc, _⟩ := ho.cols
      obtain ⟨_, q2, q3, q4⟩ := ho.cap
      exact ⟨a3, c3, rfl, hc, q2, q3, q4, ho.free⟩
    have HB : Hid (Below w.heap.size w w') := hb1.grown h3 (by simp) (fun k hk => by simp [Value.ownBlock] at hk; omega)
    have HAp : Hid ((Builtin.append_ #[22, 22] 22 #[.slice (some ⟨w.heap.size, 0, none⟩) 0 0, .slice (some ⟨b, o, m⟩) cs.length c]).run Tryd.prog (w.alloc (.cells #[] 55)) = .ok v' w') := hr
    unfold CloneTo
    generalize cs.length = L at *
    clear h hnil hlen hb1 hnews hr h2 h3 h5 ho
    go_enter Tryd.func59, Tryd.ntmps59
    go_wp2_with (first | (refine wpList_exec rfl (exec_append rfl rfl rfl HAp.out) ?_; clear HAp) | fail)
    obtain ⟨a3, c3, hv, hR⟩ := HR.out
    go_ret
    exact ⟨a3, c3, by rw [hv]; rfl, hR.1, hR.2.1, hR.2.2.1, hR.2.2.2.1, hR.2.2.2.2, HB.out⟩
set_option maxRecDepth 100000 in
set_option maxHeartbeats 1000000 in
theorem ownF_ (nm : ByteArray) (a : Option Addr) (c : Nat) (cs : List Col) (w : World) (h : ColsIn w a cs) (hnil : a = none → c = 0) (hlen : cs.length * 32 ≤ 140737488355328) :
    Calls Tryd.prog 42 #[.agg #[.string nm, .slice a cs.length c]] w (TwinF w nm cs cs.length) := by
  obtain ⟨W1, hW1⟩ : ∃ W1, W1 = (w.alloc (.cells #[.string nm, .slice a cs.length c] 24)).alloc (.cells #[.string ⟨#[]⟩, .slice none 0 0] 24) := ⟨_, rfl⟩
  have hB1 : Below w.heap.size w W1 := by rw [hW1]; exact below_step (below_alloc1 _ _) (below_alloc1 _ _)
  have hsz : W1.heap.size = w.heap.size + 1 + 1 := by rw [hW1]; simp
  have hT1 : TbB W1 w.heap.size nm (.slice a cs.length c) := by rw [hW1]; exact (tbB_new _ _ _ _ _ _).on (below_alloc1 _ _)
  have hT2 : TbB W1 (w.heap.size + 1) ⟨#[]⟩ (.slice none 0 0) := by
    have := tbB_new (w.alloc (.cells #[.string nm, .slice a cs.length c] 24)) ⟨#[]⟩ none 0 0 24
    rw [hW1]; simpa using this
  have HCl := Lib.hid (cloneC_ a c cs W1.drew ((h.on hB1).on (below_drew W1)) hnil hlen)
  have HT1 := Lib.hid (hT1.on (below_drew W1))
  have HT2 := Lib.hid (hT2.on (below_drew W1))
  have HB1 := Lib.hid (below_step hB1 (below_drew W1))
  have HSz : Hid (W1.drew.heap.size = w.heap.size + 1 + 1) := hsz
  have HW1 := Lib.hid hW1.symm
  have HA : Hid (W1.drew.cell? ⟨w.heap.size, 0, none⟩ = some (.string nm) ∧ W1.drew.cell? ⟨w.heap.size, 1, none⟩ = some (.slice a cs.length c)) := ⟨HT1.out.1, HT1.out.2.1⟩
  have HA0 : Hid (∀ V : World, V.cell? ⟨w.heap.size, 0, none⟩ = some (.string nm) ∧ V.cell? ⟨w.heap.size, 1, none⟩ = some (.slice a cs.length c) → V.cell? ⟨w.heap.size, 0, none⟩ = some (.string nm)) := fun _ h => h.1
  have HA1 : Hid (∀ V : World, V.cell? ⟨w.heap.size, 0, none⟩ = some (.string nm) ∧ V.cell? ⟨w.heap.size, 1, none⟩ = some (.slice a cs.length c) → V.cell? ⟨w.heap.size, 1, none⟩ = some (.slice a cs.length c)) := fun _ h => h.2
  unfold TwinF
  unfold CloneTo at HCl
  generalize cs.length = L at *
  clear h hnil hlen hB1 hsz hT1 hT2 hW1
  go_enter Tryd.func42, Tryd.ntmps42
  go_wp2_with fail
  rw [HW1.out]
  refine wp_region_noPanic ?_
  refine region_ph (A := fun _ => True) (e1 := 6) (B := (fun V => V.cell? ⟨w.heap.size, 0, none⟩ = some (.string nm) ∧ V.cell? ⟨w.heap.size, 1, none⟩ = some (.slice a L c))) (e2 := 9999) (C := (fun _ => True)) (by kernel_rfl) (⟨trivial, fun _ => HA.out, fun _ => trivial⟩) (fun hSt => ?_)
  refine take_ph 0 (.pointer (some ⟨w.heap.size, 0, none⟩)) [] rfl (by kernel_rfl) (fun _ _ _ h => h) (Or.inl ⟨by rfl, ?_⟩) hSt (fun hSn => ?_)
  · intro V _; go_simp
  clear hSt; rename Ph _ _ _ _ _ _ _ => hSt
  simp only [Act.put, List.setIfInBounds_toArray, List.set_cons_zero, List.set_cons_succ]
  refine take_ph 1 (.string nm) [6] rfl (by kernel_rfl) (fun _ _ _ h => h) (Or.inl ⟨by rfl, ?_⟩) hSt (fun hSn => ?_)
  · rintro V ⟨_, hB, hC⟩; have hh := hB (by decide); have e0 := HA0.out V hh; clear hB hC; go_simp
  clear hSt; rename Ph _ _ _ _ _ _ _ => hSt
  simp only [Act.put, List.setIfInBounds_toArray, List.set_cons_zero, List.set_cons_succ]
  refine take_ph 2 (.pointer (some ⟨w.heap.size, 1, none⟩)) [] rfl (by kernel_rfl) (fun _ _ _ h => h) (Or.inl ⟨by rfl, ?_⟩) hSt (fun hSn => ?_)
  · intro V _; go_simp
  clear hSt; rename Ph _ _ _ _ _ _ _ => hSt
  simp only [Act.put, List.setIfInBounds_toArray, List.set_cons_zero, List.set_cons_succ]
  refine take_ph 3 (.slice a L c) [6] rfl (by kernel_rfl) (fun _ _ _ h => h) (Or.inl ⟨by rfl, ?_⟩) hSt (fun hSn => ?_)
  · rintro V ⟨_, hB, hC⟩; have hh := hB (by decide); have e0 := HA1.out V hh; clear hB hC; go_simp
  clear hSt; rename Ph _ _ _ _ _ _ _ => hSt
  simp only [Act.put, List.setIfInBounds_toArray, List.set_cons_zero, List.set_cons_succ]
  refine ready_call_ph 4 rfl (by kernel_rfl) (fun KK hK => ?_)
  go_simp
  go_wp2_with (first | (go_at_call 59; refine HCl.out.mono ?_; rintro e V1 ⟨a3, c3, rfl, hc3, hn3, hna3, hfr3, hfe3, hb1⟩))
  refine hK.out _ _ ?_ (fun hSn => ?_)
  · exact ⟨trivial, fun _ => ⟨(HT1.out.on hb1).1, (HT1.out.on hb1).2.1⟩, fun _ => trivial⟩
  clear hK KK hSt; rename Ph _ _ _ _ _ _ _ => hSt
  have HT4 := Lib.hid (HT2.out.on hb1)
  have HFr : Hid (∀ b o, a3 = some ⟨b, o, none⟩ → w.heap.size + 1 + 1 ≤ b) := fun b o e => by have := hfr3 b o e; rw [HSz.out] at this; exact this
  have HBr : Hid (∀ u v, Below w.heap.size w ((V1.setCell ⟨w.heap.size + 1, 0, none⟩ u).setCell ⟨w.heap.size + 1, 1, none⟩ v)) := fun u v => ((below_step HB1.out hb1).setCell (Nat.le_succ _) _).setCell (Nat.le_succ _) _
  have HCr : Hid (∀ u v, ColsIn ((V1.setCell ⟨w.heap.size + 1, 0, none⟩ u).setCell ⟨w.heap.size + 1, 1, none⟩ v) a3 cs) := fun u v => (hc3.set (fun b o e => by have := HFr.out b o e; omega)).set (fun b o e => by have := HFr.out b o e; omega)
  have HN3 : Hid (L ≤ c3 ∧ (a3 = none → c3 = 0)) := ⟨hn3, hna3⟩
  have HFe : Hid (∀ u v, Free ((V1.setCell ⟨w.heap.size + 1, 0, none⟩ u).setCell ⟨w.heap.size + 1, 1, none⟩ v) a3) := fun u v => (hfe3.set _ _).set _ _
  clear hc3 hn3 hna3 hfr3 hfe3 hb1 HCl HT1 HT2 HB1
  refine take_ph 5 (.agg #[.string nm, .slice a3 L c3]) [] rfl (by kernel_rfl) (fun _ _ _ h => h) (Or.inl ⟨by rfl, ?_⟩) hSt (fun hSn => ?_)
  · intro V _; go_simp
  clear hSt; rename Ph _ _ _ _ _ _ _ => hSt
  simp only [Act.put, List.setIfInBounds_toArray, List.set_cons_zero, List.set_cons_succ]
  refine ready_store_ph 6 rfl (by kernel_rfl) rfl 24 _ _ rfl _ _ rfl rfl (store_tab HT4.out rfl rfl) (⟨trivial, fun h => absurd (show true = false from h) (by decide), fun _ => trivial⟩) (fun hSn => ?_)
  clear hSt; rename Ph _ _ _ _ _ _ _ => hSt
  simp only [Act.put]
  refine done_ph (by kernel_rfl) ?_ _
  clear hSt
  refine NoPanic.normal ?_
  obtain ⟨t0, t1, _, _⟩ := HT4.out
  go_wp2_with fail
  refine bodyPost_ret (v := .agg #[.string nm, .slice a3 L c3]) ?_ rfl ⟨a3, c3, rfl, ⟨HCr.out _ _, HN3.out.1, HN3.out.2, (fun b o e => (by have := HFr.out b o e; omega)), HFe.out _ _⟩, HBr.out _ _⟩
  simp [results, Tryd.results42, go_sem, t0, t1]
theorem own_ (nm : ByteArray) (a : Option Addr) (c : Nat) (cs : List Col) (w : World) (h : ColsIn w a cs) (hnil : a = none → c = 0) (hlen : cs.length * 32 ≤ 140737488355328) :
    Calls Tryd.prog 42 #[.agg #[.string nm, .slice a cs.length c]] w (TwinTo w nm cs cs.length) :=
  (ownF_ nm a c cs w h hnil hlen).mono fun _ _ ⟨a3, c3, he, ⟨h1, h2, h3, h4, _⟩, hb⟩ => ⟨a3, c3, he, h1, h2, h3, h4, hb⟩
/-- A place that there is not. -/
theorem tableC_bad (L : Nat) (p : Option Addr) (i : Int) (w : World) (hL : Calls Tryd.prog 26 #[.pointer p] (w.alloc (.cells #[.string ⟨#[]⟩, .slice none 0 0] 24)) fun e w' => e = .returned (.int .i64 L) ∧ w' = w.alloc (.cells #[.string ⟨#[]⟩, .slice none 0 0] 24)) (hi : i < 0 ∨ (L : Int) ≤ i) :
    Calls Tryd.prog 28 #[.pointer p, .int .i64 i] w fun e w' => e = .returned (.tuple #[.agg #[.string ⟨#[]⟩, .slice none 0 0], .iface 63 (.int .i64 1)]) ∧ Below w.heap.size w w' := by
  have HL := Lib.hid hL
  have hb0 := below_alloc1 w (.cells #[.string ⟨#[]⟩, .slice none 0 0] 24)
  have HBr : Hid (∀ u v, Below w.heap.size w (((w.alloc (.cells #[.string ⟨#[]⟩, .slice none 0 0] 24)).setCell ⟨w.heap.size, 0, none⟩ u).setCell ⟨w.heap.size, 1, none⟩ v)) := fun u v => (hb0.setCell (Nat.le_refl _) _).setCell (Nat.le_refl _) _
  have HB0 := Lib.hid hb0
  clear hL hb0
  rcases Classical.em (i < 0) with h0 | h0
  · clear hi
    go_enter Tryd.func28, Tryd.ntmps28
    go_wp2_with fail
    refine bodyPost_ret (v := .tuple #[.agg #[.string ⟨#[]⟩, .slice none 0 0], .iface 63 (.int .i64 1)]) ?_ rfl ⟨rfl, by first | exact HBr.out _ _ | exact HB0.out⟩
    simp [results, Tryd.results28, go_sem]
  · have h1 : (L : Int) ≤ i := hi.resolve_left h0
    clear hi
    go_enter Tryd.func28, Tryd.ntmps28
    go_wp2_with (first | (go_at_call 26; refine HL.out.mono ?_; rintro e w1 ⟨rfl, rfl⟩) | fail)
    refine bodyPost_ret (v := .tuple #[.agg #[.string ⟨#[]⟩, .slice none 0 0], .iface 63 (.int .i64 1)]) ?_ rfl ⟨rfl, by first | exact HBr.out _ _ | exact HB0.out⟩
    simp [results, Tryd.results28, go_sem]
/-- What Table hands back. -/
def TabTo (w : World) (nm : ByteArray) (cs : List Col) (L : Nat) (e : Ending) (w' : World) : Prop :=
  ∃ a c, e = .returned (.tuple #[.agg #[.string nm, .slice a L c], .nilIface]) ∧ (ColsIn w' a cs ∧ L ≤ c ∧ (a = none → c = 0) ∧ (∀ b o, a = some ⟨b, o, none⟩ → w.heap.size ≤ b) ∧ Free w' a) ∧ Below w.heap.size w w'
set_option maxRecDepth 100000 in
set_option maxHeartbeats 1000000 in
theorem tableC_ (N BC : Nat) (ts : List TV) (i : Nat) (w : World) (h : CatIn w N BC ts) (hi : i < ts.length) (hlen : ts[i].cs.length ≤ 16) :
    Calls Tryd.prog 28 #[.pointer (some ⟨BC, 0, none⟩), .int .i64 i] w (TabTo w ts[i].nm ts[i].cs ts[i].cs.length) := by
  obtain ⟨W1, hW1⟩ : ∃ W1, W1 = w.alloc (.cells #[.string ⟨#[]⟩, .slice none 0 0] 24) := ⟨_, rfl⟩
  have hB1 : Below w.heap.size w W1 := by rw [hW1]; exact below_alloc1 _ _
  have hT1 : TbB W1 w.heap.size ⟨#[]⟩ (.slice none 0 0) := by rw [hW1]; exact tbB_new _ _ _ _ _ _
  have hC1 := h.on hB1
  have HL := Lib.hid (lenC_ N BC ts W1 hC1)
  have HOw := Lib.hid (ownF_ ts[i].nm ts[i].a ts[i].c ts[i].cs W1 (hC1.cols i hi).1 (hC1.cols i hi).2.2 (by omega))
  obtain ⟨a, c, c0, htb, _⟩ := hC1.row
  obtain ⟨b, o, rfl, q0, q1⟩ := htb i hi
  have HT1 := Lib.hid hT1
  have HB1 := Lib.hid hB1
  have HW1 := Lib.hid hW1.symm
  have hi2 : (i : Int) < (ts.length : Int) := by omega
  have hi3 : ¬ ((ts.length : Int) ≤ (i : Int)) := by omega
  have hi4 : ¬ ((i : Int) < 0) := by omega
  have hlen32 := h.len
  unfold TwinF at HOw
  unfold TabTo
  generalize ts[i].nm = nm at *
  generalize ts[i].a = ta at *
  generalize ts[i].c = tc at *
  generalize ts[i].cs = cs at *
  generalize ts.length = L at *
  generalize cs.length = M at *
  clear h hB1 hT1 hC1 htb hW1 hi
  go_enter Tryd.func28, Tryd.ntmps28
  go_wp2_with fail
  rw [HW1.out]
  refine HL.out.mono ?_
  rintro e w1 ⟨rfl, rfl⟩
  go_wp2_with fail
  refine HOw.out.mono ?_
  rintro e w2 ⟨a2, c2, rfl, ⟨hc2, hn2, hna2, hfr2, hfe2⟩, hb2⟩
  have HT2 := Lib.hid (HT1.out.on hb2)
  have HFr : Hid (∀ b o, a2 = some ⟨b, o, none⟩ → w.heap.size < b) := fun b o e => Nat.lt_of_lt_of_le HT1.out.lt (hfr2 b o e)
  have HBr : Hid (∀ u v, Below w.heap.size w ((w2.setCell ⟨w.heap.size, 0, none⟩ u).setCell ⟨w.heap.size, 1, none⟩ v)) := fun u v => ((below_step HB1.out hb2).setCell (Nat.le_refl _) _).setCell (Nat.le_refl _) _
  have HCr : Hid (∀ u v, ColsIn ((w2.setCell ⟨w.heap.size, 0, none⟩ u).setCell ⟨w.heap.size, 1, none⟩ v) a2 cs) := fun u v => (hc2.set (fun b o e => Nat.ne_of_gt (HFr.out b o e))).set (fun b o e => Nat.ne_of_gt (HFr.out b o e))
  have HN2 : Hid (M ≤ c2 ∧ (a2 = none → c2 = 0)) := ⟨hn2, hna2⟩
  have HFe : Hid (∀ u v, Free ((w2.setCell ⟨w.heap.size, 0, none⟩ u).setCell ⟨w.heap.size, 1, none⟩ v) a2) := fun u v => (hfe2.set _ _).set _ _
  obtain ⟨t0, t1, f0, f1⟩ := HT2.out
  clear hc2 hn2 hna2 hfr2 hfe2 hb2 HL HOw HT1 HB1 c0 q0 q1
  go_wp2_with fail
  refine bodyPost_ret (v := .tuple #[.agg #[.string nm, .slice a2 M c2], .nilIface]) ?_ rfl ⟨a2, c2, rfl, ⟨HCr.out _ _, HN2.out.1, HN2.out.2, (fun b o e => Nat.le_of_lt (HFr.out b o e)), HFe.out _ _⟩, HBr.out _ _⟩
  simp [results, Tryd.results28, go_sem, t0, t1]
end Go.Proofs.YtlgnllnjhpihdaaDoor
