/- node.put. -/
import Derived.Test.YtagamkahfiackaaGreatDoorVPut0
namespace Go.Proofs.YtagamkahfiackaaGreatDoor
open Go.RowKit Go.Sort

/-- What put leaves. -/
def PutTo (w : World) (M : Nat → Option Nd) (h m q : Nat) (l : List It) (F : Nat → Prop) (x : It) (e : Ending) (w' : World) : Prop :=
  e = .returned (.tuple #[.slice ((get x.1 l).getD vz).a ((get x.1 l).getD vz).n ((get x.1 l).getD vz).c, .bool (get x.1 l).isSome]) ∧ ∃ M' F', Kept M M' F F' w w' ∧ Nod M' h m 8 q (ins x.1 x.2 l) F'
theorem boxed {w w2 : World} {M : Nat → Option Nd} {x : It} (hs : Store w M) (hb : Below (w.alloc (.cells #[.string x.1, .slice x.2.a x.2.n x.2.c] 99)).heap.size (w.alloc (.cells #[.string x.1, .slice x.2.a x.2.n x.2.c] 99)) w2) : Store w2 M ∧ Below w.heap.size w w2 ∧ w2.heap[w.heap.size]? = some (.cells #[.string x.1, .slice x.2.a x.2.n x.2.c] 99 (0, 0)) ∧ ¬ Own M w.heap.size :=
  ⟨(hs.alloc _).on hb, below_step (below_alloc w _) hb, (hb.block _ (by simp)).trans (new_blk w _), hs.not_own (Nat.le_refl _)⟩
theorem Kept.base {M M' : Nat → Option Nd} {F F' : Nat → Prop} {w w1 w' : World} (h : Kept M M' F F' w1 w') (hb : Below w.heap.size w w1) : Kept M M' F F' w w' :=
  ⟨h.st, (Ext.of_below _ hb).trans h.ext, fun k hk hn => h.rest k (Nat.lt_of_lt_of_le hk hb.size) hn, fun k hk => (h.new k hk).imp id fun q => Nat.le_trans hb.size q⟩
/-- One node alone turned, and no node is new. -/
theorem Kept.one {M : Nat → Option Nd} {q : Nat} {n' : Nd} {F : Nat → Prop} {w w' : World} (hs : Store w' (upd M q n')) (hx : Ext (Own M) (Own (upd M q n')) w w') (hq : F q) : Kept M (upd M q n') F F w w' :=
  ⟨hs, hx, fun _ _ hn => upd_other _ _ fun e => hn (e ▸ hq), fun _ h => .inl h⟩
set_option maxRecDepth 100000 in
set_option maxHeartbeats 1000000 in
theorem put_yes {w : World} {M : Nat → Option Nd} {h m q : Nat} {l : List It} {F : Nat → Prop} (x : It) {u : Vl} {n : Nd} {I1 I3 : List It} (hs : Store w M) (hq : M q = some n) (hn : n.its.length ≤ 1000) (hS : Srt n.its) (hy : Yes n.its x.1 I1 u I3)
    (hN : ∀ w' n', n'.its = I1 ++ (x.1, x.2) :: I3 → n'.ks = n.ks → Store w' (upd M q n') → Ext (Own M) (Own (upd M q n')) w w' → PutTo w M h m q l F x (.returned (.tuple #[.slice u.a u.n u.c, .bool true])) w') :
    Calls Tryz.prog 50 #[.pointer (some ⟨q, 0, none⟩), .agg #[.string x.1, .slice x.2.a x.2.n x.2.c]] w (PutTo w M h m q l F x) := by
  obtain ⟨g, c, hiv, hgl, p1, p2, pf1, pf2, hc63⟩ := hs.item hq hy.eq
  have HF : Hid (Calls Tryz.prog 40 #[.pointer (some ⟨q, 0, none⟩), .string x.1] (w.alloc (.cells #[.string x.1, .slice x.2.a x.2.n x.2.c] 99)) fun e w2 => e = .returned (.tuple #[.int .i64 I1.length, .bool true]) ∧ w2.cell? ⟨q, 0, none⟩ = some (.slice (some ⟨g, 0, none⟩) (I1.length + I3.length + 1) c) ∧ w2.cell? ⟨g, I1.length * 2 + 1, none⟩ = some (.slice u.a u.n u.c) ∧ w2.frozen? ⟨g, I1.length * 2 + 1, none⟩ = false ∧ w2.cell? ⟨w.heap.size, 1, none⟩ = some (.slice x.2.a x.2.n x.2.c) ∧ Hid (Store w2 M ∧ Below w.heap.size w w2)) := by
    refine (find_yes (hs.alloc _) hq hS hn hy).mono ?_
    rintro e w2 ⟨rfl, hb⟩
    obtain ⟨s1, s2, s3, _⟩ := boxed hs hb
    obtain ⟨g', c', e1, _, t1, t2, _, t4, _⟩ := s1.item hq hy.eq
    rw [hiv] at e1
    simp only [Value.slice.injEq, Option.some.injEq, Addr.mk.injEq] at e1
    obtain ⟨⟨rfl, _⟩, _⟩ := e1
    exact ⟨rfl, by rw [(s1.cells hq).1, hiv], t2, t4, cell_of s3 rfl, s1, s2⟩
  have HZ : Hid (∀ w2, Store w2 M ∧ Below w.heap.size w w2 → PutTo w M h m q l F x (.returned (.tuple #[.slice u.a u.n u.c, .bool true])) (w2.drew.setCell ⟨g, I1.length * 2 + 1, none⟩ (.slice x.2.a x.2.n x.2.c))) := fun w2 hw2 => by
    obtain ⟨s1, s2⟩ := hw2.1.drew.setV x.2 hq hy.eq hiv
    exact hN _ { n with its := I1 ++ (x.1, x.2) :: I3 } rfl rfl s1 ((Ext.of_below _ (below_step hw2.2 (below_drew w2))).trans s2)
  clear hs hq hN hS hn p1 p2 pf1 pf2 hiv hy
  generalize I1.length = i1 at *
  generalize I3.length = i3 at *
  obtain ⟨x1, x2⟩ := x
  simp only at HF HZ
  go_enter Tryz.func50, Tryz.ntmps50
  go_wp2_with (first
    | (go_at_call 40; refine HF.out.mono ?_; rintro e w2 ⟨rfl, d1, d2, d3, d4, HS⟩)
    | fail)
  have F1 : Hid (∀ V, Below w2.heap.size w2 V → V.cell? ⟨q, 0, none⟩ = some (.slice (some ⟨g, 0, none⟩) (i1 + i3 + 1) c)) := fun V hV => (hV.cell (block_lt_of_cell d1)).trans d1
  have F2 : Hid (∀ V, Below w2.heap.size w2 V → V.cell? ⟨w.heap.size, 1, none⟩ = some (.slice x2.a x2.n x2.c)) := fun V hV => (hV.cell (block_lt_of_cell d4)).trans d4
  have hst : (Instr.storeAt 52 (.pointer (some ⟨g, i1 * 2 + 1, none⟩)) (.slice x2.a x2.n x2.c)).run Tryz.prog w2.drew = .ok () (w2.drew.setCell ⟨g, i1 * 2 + 1, none⟩ (.slice x2.a x2.n x2.c)) := by
    have hc : w2.drew.cell? ⟨g, i1 * 2 + 1, none⟩ = some (.slice u.a u.n u.c) := d2
    have hf : w2.drew.frozen? ⟨g, i1 * 2 + 1, none⟩ = false := d3
    simp only [Instr.storeAt, Instr.sureAddr, Sem.run_bind, Sem.run_pure, Result.andThen]
    simp [storeVar, Value.cells, Result.andThen, storeCells, hc, hf, go_sem]
  have HE := Lib.hid (HZ.out w2 HS.out)
  have hlt : ¬ ((i1 : Int) + (i3 : Int) + 1 ≤ (i1 : Int)) := by omega
  generalize w2.drew.setCell ⟨g, i1 * 2 + 1, none⟩ (.slice x2.a x2.n x2.c) = W3 at *
  clear HZ HS HF d1 d2 d3 d4
  refine wp_region_noPanic ?_
  refine region_ph (A := fun _ => True) (e1 := 9) (B := (fun V => Below w2.heap.size w2 V)) (e2 := 9) (C := (fun _ => True)) (by kernel_rfl) (⟨trivial, fun _ => below_drew w2, fun _ => trivial⟩) (fun hSt => ?_)
  refine take_ph 0 (.pointer (some ⟨q, 0, none⟩)) [] rfl (by kernel_rfl) (fun _ _ _ h => h) (Or.inl ⟨by rfl, ?_⟩) hSt (fun hSn => ?_)
  · intro V _; go_simp
  clear hSt; rename Ph _ _ _ _ _ _ _ => hSt
  simp only [Act.put, List.setIfInBounds_toArray, List.set_cons_zero, List.set_cons_succ]
  refine take_ph 1 (.pointer (some ⟨q, 0, none⟩)) [] rfl (by kernel_rfl) (fun _ _ _ h => h) (Or.inl ⟨by rfl, ?_⟩) hSt (fun hSn => ?_)
  · intro V _; go_simp
  clear hSt; rename Ph _ _ _ _ _ _ _ => hSt
  simp only [Act.put, List.setIfInBounds_toArray, List.set_cons_zero, List.set_cons_succ]
  refine take_ph 2 (.pointer (some ⟨q, 0, none⟩)) [] rfl (by kernel_rfl) (fun _ _ _ h => h) (Or.inl ⟨by rfl, ?_⟩) hSt (fun hSn => ?_)
  · intro V _; go_simp
  clear hSt; rename Ph _ _ _ _ _ _ _ => hSt
  simp only [Act.put, List.setIfInBounds_toArray, List.set_cons_zero, List.set_cons_succ]
  refine take_ph 3 (.slice (some ⟨g, 0, none⟩) (i1 + i3 + 1) c) [7, 8, 9] rfl (by kernel_rfl) (fun _ _ _ h => h) (Or.inl ⟨by rfl, ?_⟩) hSt (fun hSn => ?_)
  · rintro V ⟨_, hB, hC⟩; have hh := hB (by decide); have e0 := F1.out V hh; clear hB hC; go_simp
  clear hSt; rename Ph _ _ _ _ _ _ _ => hSt
  simp only [Act.put, List.setIfInBounds_toArray, List.set_cons_zero, List.set_cons_succ]
  refine take_ph 4 (.int .i64 i1) [] rfl (by kernel_rfl) (fun _ _ _ h => h) (Or.inl ⟨by rfl, ?_⟩) hSt (fun hSn => ?_)
  · intro V _; go_simp
  clear hSt; rename Ph _ _ _ _ _ _ _ => hSt
  simp only [Act.put, List.setIfInBounds_toArray, List.set_cons_zero, List.set_cons_succ]
  refine take_ph 5 (.pointer (some ⟨w.heap.size, 1, none⟩)) [] rfl (by kernel_rfl) (fun _ _ _ h => h) (Or.inl ⟨by rfl, ?_⟩) hSt (fun hSn => ?_)
  · intro V _; go_simp
  clear hSt; rename Ph _ _ _ _ _ _ _ => hSt
  simp only [Act.put, List.setIfInBounds_toArray, List.set_cons_zero, List.set_cons_succ]
  refine take_ph 6 (.slice x2.a x2.n x2.c) [9] rfl (by kernel_rfl) (fun _ _ _ h => h) (Or.inl ⟨by rfl, ?_⟩) hSt (fun hSn => ?_)
  · rintro V ⟨_, hB, hC⟩; have hh := hB (by decide); have e0 := F2.out V hh; clear hB hC; go_simp
  clear hSt; rename Ph _ _ _ _ _ _ _ => hSt
  simp only [Act.put, List.setIfInBounds_toArray, List.set_cons_zero, List.set_cons_succ]
  refine take_ph 7 (.pointer (some ⟨g, i1 * 2, none⟩)) [] rfl (by kernel_rfl) (fun _ _ _ h => h) (Or.inl ⟨by rfl, ?_⟩) hSt (fun hSn => ?_)
  · intro V _; go_simp
  clear hSt; rename Ph _ _ _ _ _ _ _ => hSt
  simp only [Act.put, List.setIfInBounds_toArray, List.set_cons_zero, List.set_cons_succ]
  refine take_ph 8 (.pointer (some ⟨g, i1 * 2 + 1, none⟩)) [] rfl (by kernel_rfl) (fun _ _ _ h => h) (Or.inl ⟨by rfl, ?_⟩) hSt (fun hSn => ?_)
  · intro V _; go_simp
  clear hSt; rename Ph _ _ _ _ _ _ _ => hSt
  simp only [Act.put, List.setIfInBounds_toArray, List.set_cons_zero, List.set_cons_succ]
  refine ready_store_ph 9 rfl (by kernel_rfl) rfl 52 _ _ rfl _ _ rfl rfl (hst) (⟨trivial, fun h => absurd (show true = false from h) (by decide), fun _ => trivial⟩) (fun hSn => ?_)
  clear hSt; rename Ph _ _ _ _ _ _ _ => hSt
  simp only [Act.put]
  refine done_ph (by kernel_rfl) ?_ _
  clear hSt
  refine NoPanic.normal ?_
  clear F1 F2 hst
  go_wp2_with fail
  go_ret2
  exact HE.out
set_option maxRecDepth 100000 in
set_option maxHeartbeats 1000000 in
theorem put_leaf {w : World} {M : Nat → Option Nd} {h m q : Nat} {l : List It} {F : Nat → Prop} (x : It) {n : Nd} {I1 I2 : List It} (hs : Store w M) (hq : M q = some n) (hn : n.its.length ≤ 1000) (hS : Srt n.its) (hy : Not n.its x.1 I1 I2) (hk : n.ks = [])
    (hN : ∀ w' n', n'.its = I1 ++ (x.1, x.2) :: I2 → n'.ks = n.ks → Store w' (upd M q n') → Ext (Own M) (Own (upd M q n')) w w' → PutTo w M h m q l F x (.returned (.tuple #[.slice none 0 0, .bool false])) w') :
    Calls Tryz.prog 50 #[.pointer (some ⟨q, 0, none⟩), .agg #[.string x.1, .slice x.2.a x.2.n x.2.c]] w (PutTo w M h m q l F x) := by
  obtain ⟨aq, cqi, hqiv, _⟩ := row_shape (hs.its q n hq)
  have HF : Hid (Calls Tryz.prog 40 #[.pointer (some ⟨q, 0, none⟩), .string x.1] (w.alloc (.cells #[.string x.1, .slice x.2.a x.2.n x.2.c] 99)) fun e w2 => e = .returned (.tuple #[.int .i64 I1.length, .bool false]) ∧ Hid (Store w2 M ∧ Below w.heap.size w w2 ∧ w2.heap[w.heap.size]? = some (.cells #[.string x.1, .slice x.2.a x.2.n x.2.c] 99 (0, 0)))) := by
    refine (find_not (hs.alloc _) hq hS hn hy).mono ?_
    rintro e w2 ⟨rfl, hb⟩
    obtain ⟨s1, s2, s3, _⟩ := boxed hs hb
    exact ⟨rfl, s1, s2, s3⟩
  have HCh : Hid (∀ w2, Store w2 M → Calls Tryz.prog 41 #[.pointer (some ⟨q, 0, none⟩), .int .i64 I1.length] w2 fun e w' => e = .returned (.pointer none) ∧ w' = w2) := fun w2 h2 => child_none h2 hq hk _
  have HIns : Hid (∀ w2 U, Store w2 M → Below w.heap.size w w2 → Below w2.heap.size w2 U → U.heap[w2.heap.size]? = some (.cells (cI [x]).toArray 99 (0, 0)) → Calls Tryz.prog 66 #[.slice aq n.its.length cqi, .int .i64 I1.length, .slice (some ⟨w2.heap.size, 0, none⟩) 1 1] U fun e V1 => ∃ a m' c V2, e = .returned (.slice a m' c) ∧ (Instr.storeAt 100 (.pointer (some ⟨q, 0, none⟩)) (.slice a m' c)).run Tryz.prog V1 = .ok () V2 ∧ Hid (PutTo w M h m q l F x (.returned (.tuple #[.slice none 0 0, .bool false])) V2)) := fun w2 U h1 h2 h3 h4 => by
    have hh := insI_node (h1.on h3) hq hy.eq hn (x := x) h4 (h1.not_own (Nat.le_refl _))
    rw [hqiv] at hh
    refine hh.mono ?_
    rintro e V1 ⟨v', rfl, a, m', c, V2, rfl, hst, s1, s2⟩
    exact ⟨a, m', c, V2, rfl, hst, hN _ { n with iv := .slice a m' c, its := I1 ++ x :: I2 } rfl rfl s1 ((Ext.of_below _ (below_step h2 h3)).trans s2)⟩
  have HQ : Hid (∀ V, Store V M → V.cell? ⟨q, 0, none⟩ = some (.slice aq n.its.length cqi)) := fun V hV => by rw [(hV.cells hq).1, hqiv]
  clear hs hq hN hS hn hqiv hy hk
  generalize I1.length = i1 at *
  generalize n.its.length = nl at *
  obtain ⟨x1, x2⟩ := x
  simp only at HF HIns
  go_enter Tryz.func50, Tryz.ntmps50
  go_wp2_with (first
    | (go_at_call 40; refine HF.out.mono ?_; rintro e w2 ⟨rfl, HS⟩)
    | (go_at_call 41; refine (HCh.out _ HS.out.1).mono ?_; rintro e w3 ⟨rfl, rfl⟩)
    | fail)
  rename World => w2
  obtain ⟨U, hU⟩ : ∃ U, U = w2.drew.alloc (.cells (cI [(x1, x2)]).toArray 99) := ⟨_, rfl⟩
  have HB : Hid (Below w2.heap.size w2 U) := by show Below _ _ _; rw [hU]; exact below_step (below_drew w2) (below_alloc w2.drew _)
  have hrb : Hid (∀ (a : Act) (o : Oper) (z : Operand), o.op = .buildSlice 100 1 #[(0, z)] → a.eval z = .agg #[.string x1, .slice x2.a x2.n x2.c] → (execOp a.eval o).run Tryz.prog w2.drew = .ok (.value (.slice (some ⟨w2.heap.size, 0, none⟩) 1 1)) U) := fun a o z h1 h2 => by rw [hU]; exact run_buildI w2.drew (x1, x2) a o z h1 h2
  have HI := Lib.hid (HIns.out w2 U HS.out.1 HS.out.2.1 HB.out (by rw [hU]; exact new_blk w2.drew _))
  have F1 : Hid (∀ V, Below w2.heap.size w2 V → V.cell? ⟨q, 0, none⟩ = some (.slice aq nl cqi)) := fun V hV => HQ.out V (HS.out.1.on hV)
  have F2 : Hid (∀ V, Below w2.heap.size w2 V → V.cell? ⟨w.heap.size, 0, none⟩ = some (.string x1) ∧ V.cell? ⟨w.heap.size, 1, none⟩ = some (.slice x2.a x2.n x2.c)) := fun V hV => by
    have hb := (hV.block _ (blk_lt HS.out.2.2)).trans HS.out.2.2
    exact ⟨cell_of hb rfl, cell_of hb rfl⟩
  clear HF HCh HIns HQ hU HS
  refine wp_region_noPanic ?_
  refine region_ph (A := fun _ => True) (e1 := 8) (B := (fun V => Below w2.heap.size w2 V)) (e2 := 8) (C := (fun _ => True)) (by kernel_rfl) (⟨trivial, fun _ => below_drew w2, fun _ => trivial⟩) (fun hSt => ?_)
  refine take_ph 0 (.pointer (some ⟨q, 0, none⟩)) [] rfl (by kernel_rfl) (fun _ _ _ h => h) (Or.inl ⟨by rfl, ?_⟩) hSt (fun hSn => ?_)
  · intro V _; go_simp
  clear hSt; rename Ph _ _ _ _ _ _ _ => hSt
  simp only [Act.put, List.setIfInBounds_toArray, List.set_cons_zero, List.set_cons_succ]
  refine take_ph 1 (.pointer (some ⟨q, 0, none⟩)) [] rfl (by kernel_rfl) (fun _ _ _ h => h) (Or.inl ⟨by rfl, ?_⟩) hSt (fun hSn => ?_)
  · intro V _; go_simp
  clear hSt; rename Ph _ _ _ _ _ _ _ => hSt
  simp only [Act.put, List.setIfInBounds_toArray, List.set_cons_zero, List.set_cons_succ]
  refine take_ph 2 (.pointer (some ⟨q, 0, none⟩)) [] rfl (by kernel_rfl) (fun _ _ _ h => h) (Or.inl ⟨by rfl, ?_⟩) hSt (fun hSn => ?_)
  · intro V _; go_simp
  clear hSt; rename Ph _ _ _ _ _ _ _ => hSt
  simp only [Act.put, List.setIfInBounds_toArray, List.set_cons_zero, List.set_cons_succ]
  refine take_ph 3 (.pointer (some ⟨q, 0, none⟩)) [] rfl (by kernel_rfl) (fun _ _ _ h => h) (Or.inl ⟨by rfl, ?_⟩) hSt (fun hSn => ?_)
  · intro V _; go_simp
  clear hSt; rename Ph _ _ _ _ _ _ _ => hSt
  simp only [Act.put, List.setIfInBounds_toArray, List.set_cons_zero, List.set_cons_succ]
  refine take_ph 4 (.slice aq nl cqi) [8] rfl (by kernel_rfl) (fun _ _ _ h => h) (Or.inl ⟨by rfl, ?_⟩) hSt (fun hSn => ?_)
  · rintro V ⟨_, hB, hC⟩; have hh := hB (by decide); have e0 := F1.out V hh; clear hB hC; go_simp
  clear hSt; rename Ph _ _ _ _ _ _ _ => hSt
  simp only [Act.put, List.setIfInBounds_toArray, List.set_cons_zero, List.set_cons_succ]
  refine take_ph 5 (.int .i64 i1) [] rfl (by kernel_rfl) (fun _ _ _ h => h) (Or.inl ⟨by rfl, ?_⟩) hSt (fun hSn => ?_)
  · intro V _; go_simp
  clear hSt; rename Ph _ _ _ _ _ _ _ => hSt
  simp only [Act.put, List.setIfInBounds_toArray, List.set_cons_zero, List.set_cons_succ]
  refine take_ph 6 (.agg #[.string x1, .slice x2.a x2.n x2.c]) [7, 8] rfl (by kernel_rfl) (fun _ _ _ h => h) (Or.inl ⟨by rfl, ?_⟩) hSt (fun hSn => ?_)
  · rintro V ⟨_, hB, hC⟩; have hh := hB (by decide); have e0 := F2.out V hh; clear hB hC; go_simp
  clear hSt; rename Ph _ _ _ _ _ _ _ => hSt
  simp only [Act.put, List.setIfInBounds_toArray, List.set_cons_zero, List.set_cons_succ]
  refine ready_ph 7 rfl (by kernel_rfl) rfl (.inl (hrb.out _ _ _ rfl rfl)) (⟨trivial, fun _ => HB.out, fun _ => trivial⟩) (fun hSn => ?_)
  clear hSt; rename Ph _ _ _ _ _ _ _ => hSt
  simp only [Act.put, List.setIfInBounds_toArray, List.set_cons_zero, List.set_cons_succ]
  refine ready_call_ph 8 rfl (by kernel_rfl) (fun KK hK => ?_)
  go_simp
  go_wp2_with (first | (go_at_call 66; refine HI.out.mono ?_; rintro e V3 ⟨a5, m5, c5, V4, rfl, hst4, HZ⟩))
  refine hK.out _ _ ?_ (fun hSn => ?_)
  · exact ⟨trivial, fun h => absurd (show true = false from h) (by decide), fun _ => trivial⟩
  clear hK KK hSt; rename Ph _ _ _ _ _ _ _ => hSt
  refine take_ph 9 (.pointer (some ⟨q, 0, none⟩)) [] rfl (by kernel_rfl) (fun _ _ _ h => h) (Or.inl ⟨by rfl, ?_⟩) hSt (fun hSn => ?_)
  · intro V _; go_simp
  clear hSt; rename Ph _ _ _ _ _ _ _ => hSt
  simp only [Act.put, List.setIfInBounds_toArray, List.set_cons_zero, List.set_cons_succ]
  refine take_ph 10 (.pointer (some ⟨q, 0, none⟩)) [] rfl (by kernel_rfl) (fun _ _ _ h => h) (Or.inl ⟨by rfl, ?_⟩) hSt (fun hSn => ?_)
  · intro V _; go_simp
  clear hSt; rename Ph _ _ _ _ _ _ _ => hSt
  simp only [Act.put, List.setIfInBounds_toArray, List.set_cons_zero, List.set_cons_succ]
  refine ready_store_ph 11 rfl (by kernel_rfl) rfl 100 _ _ rfl _ _ rfl rfl (hst4) (⟨trivial, fun h => absurd (show true = false from h) (by decide), fun _ => trivial⟩) (fun hSn => ?_)
  clear hSt; rename Ph _ _ _ _ _ _ _ => hSt
  simp only [Act.put]
  refine done_ph (by kernel_rfl) ?_ _
  clear hSt
  refine NoPanic.normal ?_
  clear F1 F2 HI hrb hst4 HB
  go_wp2_with fail
  go_ret2
  exact HZ.out
set_option maxRecDepth 100000 in
set_option maxHeartbeats 1000000 in
theorem put_inner {w : World} {M : Nat → Option Nd} {h m q p : Nat} {l : List It} {F : Nat → Prop} (x : It) {n : Nd} {I1 I2 : List It} {K1 K2 : List Nat} {hv : Vl} {hb : Bool} (hs : Store w M) (hq : M q = some n) (hn : n.its.length ≤ 1000) (hS : Srt n.its) (hy : Not n.its x.1 I1 I2) (hk : n.ks = K1 ++ p :: K2) (hIK : I1.length = K1.length)
    (hP : ∀ w2, Store w2 M → Below w.heap.size w w2 → Calls Tryz.prog 50 #[.pointer (some ⟨p, 0, none⟩), .agg #[.string x.1, .slice x.2.a x.2.n x.2.c]] w2 fun e w' => e = .returned (.tuple #[.slice hv.a hv.n hv.c, .bool hb]) ∧ ∃ M1 np, Store w' M1 ∧ M1 p = some np ∧ (np.its.length ≤ 7 → PutTo w M h m q l F x (.returned (.tuple #[.slice hv.a hv.n hv.c, .bool hb])) w') ∧ (7 < np.its.length → Calls Tryz.prog 52 #[.pointer (some ⟨q, 0, none⟩), .int .i64 I1.length] w' fun e w'' => e = .returned (.tuple #[]) ∧ PutTo w M h m q l F x (.returned (.tuple #[.slice hv.a hv.n hv.c, .bool hb])) w'')) :
    Calls Tryz.prog 50 #[.pointer (some ⟨q, 0, none⟩), .agg #[.string x.1, .slice x.2.a x.2.n x.2.c]] w (PutTo w M h m q l F x) := by
  have HF : Hid (Calls Tryz.prog 40 #[.pointer (some ⟨q, 0, none⟩), .string x.1] (w.alloc (.cells #[.string x.1, .slice x.2.a x.2.n x.2.c] 99)) fun e w2 => e = .returned (.tuple #[.int .i64 I1.length, .bool false]) ∧ w2.cell? ⟨w.heap.size, 0, none⟩ = some (.string x.1) ∧ w2.cell? ⟨w.heap.size, 1, none⟩ = some (.slice x.2.a x.2.n x.2.c) ∧ Hid (Store w2 M ∧ Below w.heap.size w w2)) := by
    refine (find_not (hs.alloc _) hq hS hn hy).mono ?_
    rintro e w2 ⟨rfl, hb⟩
    obtain ⟨s1, s2, s3, _⟩ := boxed hs hb
    exact ⟨rfl, cell_of s3 rfl, cell_of s3 rfl, s1, s2⟩
  have HCh : Hid (∀ w2, Store w2 M → Calls Tryz.prog 41 #[.pointer (some ⟨q, 0, none⟩), .int .i64 I1.length] w2 fun e w' => e = .returned (.pointer (some ⟨p, 0, none⟩)) ∧ w' = w2) := fun w2 h2 => by
    have := child_at h2 hq hk
    rw [hIK]
    exact this
  have HP := Lib.hid hP
  clear hs hq hP hS hn hy hk hIK
  generalize I1.length = i1 at *
  obtain ⟨x1, x2⟩ := x
  simp only at HF HP
  go_enter Tryz.func50, Tryz.ntmps50
  go_wp2_with (first
    | (go_at_call 40; refine HF.out.mono ?_; rintro e w2 ⟨rfl, d1, d2, HS⟩)
    | (go_at_call 41; refine (HCh.out _ HS.out.1).mono ?_; rintro e w3 ⟨rfl, rfl⟩)
    | (go_at_call 50; refine (HP.out _ HS.out.1 HS.out.2).mono ?_; rintro e w4 ⟨rfl, M1, np, hs4, hp4, h7, h8⟩; have HS4 := Lib.hid (And.intro hs4 (And.intro hp4 (And.intro h7 h8))); clear hs4 hp4 h7 h8)
    | fail)
  have HM := Lib.hid (hasTooMany_ HS4.out.1 HS4.out.2.1)
  by_cases h8 : 7 < np.its.length
  · have hd : decide (7 < np.its.length) = true := by simpa using h8
    rw [hd] at HM
    have HX := Lib.hid (HS4.out.2.2.2 h8)
    clear HS4 hd h8 HP HF HCh d1 d2 HS
    go_wp2_with (first
      | (go_at_call 51; refine HM.out.mono ?_; rintro e w5 ⟨rfl, rfl⟩)
      | (go_at_call 52; refine HX.out.mono ?_; rintro e w6 ⟨rfl, hz⟩; have HZ := Lib.hid hz; clear hz)
      | fail)
    go_ret2
    exact HZ.out
  · have hd : decide (7 < np.its.length) = false := by simpa using h8
    rw [hd] at HM
    have HZ := Lib.hid (HS4.out.2.2.1 (by omega))
    clear HS4 hd h8 HP HF HCh d1 d2 HS
    go_wp2_with (first
      | (go_at_call 51; refine HM.out.mono ?_; rintro e w5 ⟨rfl, rfl⟩)
      | fail)
    go_ret2
    exact HZ.out
end Go.Proofs.YtagamkahfiackaaGreatDoor
