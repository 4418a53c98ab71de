/- node.put; node.put, as a tree; A tree in memory; New, top, Len, Put. -/
import Derived.Test.YtalmanfjiblhcaaGreatJ14
namespace Go.Proofs.YtalmanfjiblhcaaGreat
open Go.RowKit Go.Sort
def PutTo (w : World) (M : Nat → Option Nd) (h m q : Nat) (l : List It) (F : Nat → Prop) (x : It) (e : Ending) (w' : World) : Prop :=
 e = .returned (.tuple #[.slice ((get x.1 l).getD vz).a ((get x.1 l).getD vz).n ((get x.1 l).getD vz).c, .bool (get x.1 l).isSome]) ∧ ∃ M' F', Kept M M' F F' w w' ∧ Nod M' h m 8 q (ins x.1 x.2 l) F'
theorem boxed {w w2 : World} {M : Nat → Option Nd} {x : It} (hs : Store w M) (hb : Below (w.alloc (.cells #[.string x.1, .slice x.2.a x.2.n x.2.c] 200)).heap.size (w.alloc (.cells #[.string x.1, .slice x.2.a x.2.n x.2.c] 200)) w2) : Store w2 M ∧ Below w.heap.size w w2 ∧ w2.heap[w.heap.size]? = some (.cells #[.string x.1, .slice x.2.a x.2.n x.2.c] 200 (0, 0)) ∧ ¬ Own M w.heap.size :=
 ⟨(hs.alloc _).on hb, below_step (below_alloc w _) hb, (hb.block _ (by simp)).trans (new_blk w _), hs.not_own (Nat.le_refl _)⟩
theorem Kept.base {M M' : Nat → Option Nd} {F F' : Nat → Prop} {w w1 w' : World} (h : Kept M M' F F' w1 w') (hb : Below w.heap.size w w1) : Kept M M' F F' w w' :=
 ⟨h.st, (Ext.of_below _ hb).trans h.ext, fun k hk hn => h.rest k (Nat.lt_of_lt_of_le hk hb.size) hn, fun k hk => (h.new k hk).imp id fun q => Nat.le_trans hb.size q⟩
theorem Kept.one {M : Nat → Option Nd} {q : Nat} {n' : Nd} {F : Nat → Prop} {w w' : World} (hs : Store w' (upd M q n')) (hx : Ext (Own M) (Own (upd M q n')) w w') (hq : F q) : Kept M (upd M q n') F F w w' :=
 ⟨hs, hx, fun _ _ hn => upd_other _ _ fun e => hn (e ▸ hq), fun _ h => .inl h⟩
set_option maxRecDepth 100000 in
set_option maxHeartbeats 1000000 in
theorem put_yes {w : World} {M : Nat → Option Nd} {h m q : Nat} {l : List It} {F : Nat → Prop} (x : It) {u : Vl} {n : Nd} {I1 I3 : List It} (hs : Store w M) (hq : M q = some n) (hn : n.its.length ≤ 1000) (hS : Srt n.its) (hy : Yes n.its x.1 I1 u I3)
 (hN : ∀ w' n', n'.its = I1 ++ (x.1, x.2) :: I3 → n'.ks = n.ks → Store w' (upd M q n') → Ext (Own M) (Own (upd M q n')) w w' → PutTo w M h m q l F x (.returned (.tuple #[.slice u.a u.n u.c, .bool true])) w') :
 Calls Tryz.prog 114 #[.pointer (some ⟨q, 0, none⟩), .agg #[.string x.1, .slice x.2.a x.2.n x.2.c]] w (PutTo w M h m q l F x) := by
 obtain ⟨g, c, hiv, hgl, p1, p2, pf1, pf2, hc63⟩ := hs.item hq hy.eq
 have HF : Hid (Calls Tryz.prog 97 #[.pointer (some ⟨q, 0, none⟩), .string x.1] (w.alloc (.cells #[.string x.1, .slice x.2.a x.2.n x.2.c] 200)) fun e w2 => e = .returned (.tuple #[.int .i64 I1.length, .bool true]) ∧ w2.cell? ⟨q, 0, none⟩ = some (.slice (some ⟨g, 0, none⟩) (I1.length + I3.length + 1) c) ∧ w2.cell? ⟨g, I1.length * 2 + 1, none⟩ = some (.slice u.a u.n u.c) ∧ w2.frozen? ⟨g, I1.length * 2 + 1, none⟩ = false ∧ w2.cell? ⟨w.heap.size, 1, none⟩ = some (.slice x.2.a x.2.n x.2.c) ∧ Hid (Store w2 M ∧ Below w.heap.size w w2)) := by
  refine (find_yes (hs.alloc _) hq hS hn hy).mono ?_
  rintro e w2 ⟨rfl, hb⟩
  obtain ⟨s1, s2, s3, _⟩ := boxed hs hb
  obtain ⟨g', c', e1, _, t1, t2, _, t4, _⟩ := s1.item hq hy.eq
  rw [hiv] at e1
  simp only [Value.slice.injEq, Option.some.injEq, Addr.mk.injEq] at e1
  obtain ⟨⟨rfl, _⟩, _⟩ := e1
  exact ⟨rfl, by rw [(s1.cells hq).1, hiv], t2, t4, cell_of s3 rfl, s1, s2⟩
 have HZ : Hid (∀ w2, Store w2 M ∧ Below w.heap.size w w2 → PutTo w M h m q l F x (.returned (.tuple #[.slice u.a u.n u.c, .bool true])) (w2.drew.setCell ⟨g, I1.length * 2 + 1, none⟩ (.slice x.2.a x.2.n x.2.c))) := fun w2 hw2 => by
  obtain ⟨s1, s2⟩ := hw2.1.drew.setV x.2 hq hy.eq hiv
  exact hN _ { n with its := I1 ++ (x.1, x.2) :: I3 } rfl rfl s1 ((Ext.of_below _ (below_step hw2.2 (below_drew w2))).trans s2)
 clear hs hq hN hS hn p1 p2 pf1 pf2 hiv hy
 generalize I1.length = i1 at *
 generalize I3.length = i3 at *
 obtain ⟨x1, x2⟩ := x
 simp only at HF HZ
 go_enter Tryz.func114, Tryz.ntmps114
 go_wp2_with (first
  | (go_at_call 97; refine HF.out.mono ?_; rintro e w2 ⟨rfl, d1, d2, d3, d4, HS⟩)
  | fail)
 have F1 : Hid (∀ V, Below w2.heap.size w2 V → V.cell? ⟨q, 0, none⟩ = some (.slice (some ⟨g, 0, none⟩) (i1 + i3 + 1) c)) := fun V hV => (hV.cell (block_lt_of_cell d1)).trans d1
 have F2 : Hid (∀ V, Below w2.heap.size w2 V → V.cell? ⟨w.heap.size, 1, none⟩ = some (.slice x2.a x2.n x2.c)) := fun V hV => (hV.cell (block_lt_of_cell d4)).trans d4
 have hst : (Instr.storeAt 154 (.pointer (some ⟨g, i1 * 2 + 1, none⟩)) (.slice x2.a x2.n x2.c)).run Tryz.prog w2.drew = .ok () (w2.drew.setCell ⟨g, i1 * 2 + 1, none⟩ (.slice x2.a x2.n x2.c)) := by
  have hc : w2.drew.cell? ⟨g, i1 * 2 + 1, none⟩ = some (.slice u.a u.n u.c) := d2
  have hf : w2.drew.frozen? ⟨g, i1 * 2 + 1, none⟩ = false := d3
  simp only [Instr.storeAt, Instr.sureAddr, Sem.run_bind, Sem.run_pure, Result.andThen]
  simp [storeVar, Value.cells, Result.andThen, storeCells, hc, hf, go_sem]
 have HE := Lib.hid (HZ.out w2 HS.out)
 have hlt : ¬ ((i1 : Int) + (i3 : Int) + 1 ≤ (i1 : Int)) := by omega
 generalize w2.drew.setCell ⟨g, i1 * 2 + 1, none⟩ (.slice x2.a x2.n x2.c) = W3 at *
 clear HZ HS HF d1 d2 d3 d4
 refine wp_region_noPanic ?_
 refine region_ph (A := fun _ => True) (e1 := 9) (B := (fun V => Below w2.heap.size w2 V)) (e2 := 9) (C := (fun _ => True)) (by kernel_rfl) (⟨trivial, fun _ => below_drew w2, fun _ => trivial⟩) (fun hSt => ?_)
 refine take_ph 0 (.pointer (some ⟨q, 0, none⟩)) [] rfl (by kernel_rfl) (fun _ _ _ h => h) (Or.inl ⟨by rfl, ?_⟩) hSt (fun hSn => ?_)
 · intro V _; go_simp
 clear hSt; rename Ph _ _ _ _ _ _ _ => hSt; simp only [Act.put, prw]
 refine take_ph 1 (.pointer (some ⟨q, 0, none⟩)) [] rfl (by kernel_rfl) (fun _ _ _ h => h) (Or.inl ⟨by rfl, ?_⟩) hSt (fun hSn => ?_)
 · intro V _; go_simp
 clear hSt; rename Ph _ _ _ _ _ _ _ => hSt; simp only [Act.put, prw]
 refine take_ph 2 (.pointer (some ⟨q, 0, none⟩)) [] rfl (by kernel_rfl) (fun _ _ _ h => h) (Or.inl ⟨by rfl, ?_⟩) hSt (fun hSn => ?_)
 · intro V _; go_simp
 clear hSt; rename Ph _ _ _ _ _ _ _ => hSt; simp only [Act.put, prw]
 refine take_ph 3 (.slice (some ⟨g, 0, none⟩) (i1 + i3 + 1) c) [7, 8, 9] rfl (by kernel_rfl) (fun _ _ _ h => h) (Or.inl ⟨by rfl, ?_⟩) hSt (fun hSn => ?_)
 · rintro V ⟨_, hB, hC⟩; have hh := hB (by decide); have e0 := F1.out V hh; clear hB hC; go_simp
 clear hSt; rename Ph _ _ _ _ _ _ _ => hSt; simp only [Act.put, prw]
 refine take_ph 4 (.int .i64 i1) [] rfl (by kernel_rfl) (fun _ _ _ h => h) (Or.inl ⟨by rfl, ?_⟩) hSt (fun hSn => ?_)
 · intro V _; go_simp
 clear hSt; rename Ph _ _ _ _ _ _ _ => hSt; simp only [Act.put, prw]
 refine take_ph 5 (.pointer (some ⟨w.heap.size, 1, none⟩)) [] rfl (by kernel_rfl) (fun _ _ _ h => h) (Or.inl ⟨by rfl, ?_⟩) hSt (fun hSn => ?_)
 · intro V _; go_simp
 clear hSt; rename Ph _ _ _ _ _ _ _ => hSt; simp only [Act.put, prw]
 refine take_ph 6 (.slice x2.a x2.n x2.c) [9] rfl (by kernel_rfl) (fun _ _ _ h => h) (Or.inl ⟨by rfl, ?_⟩) hSt (fun hSn => ?_)
 · rintro V ⟨_, hB, hC⟩; have hh := hB (by decide); have e0 := F2.out V hh; clear hB hC; go_simp
 clear hSt; rename Ph _ _ _ _ _ _ _ => hSt; simp only [Act.put, prw]
 refine take_ph 7 (.pointer (some ⟨g, i1 * 2, none⟩)) [] rfl (by kernel_rfl) (fun _ _ _ h => h) (Or.inl ⟨by rfl, ?_⟩) hSt (fun hSn => ?_)
 · intro V _; go_simp
 clear hSt; rename Ph _ _ _ _ _ _ _ => hSt; simp only [Act.put, prw]
 refine take_ph 8 (.pointer (some ⟨g, i1 * 2 + 1, none⟩)) [] rfl (by kernel_rfl) (fun _ _ _ h => h) (Or.inl ⟨by rfl, ?_⟩) hSt (fun hSn => ?_)
 · intro V _; go_simp
 clear hSt; rename Ph _ _ _ _ _ _ _ => hSt; simp only [Act.put, prw]
 refine ready_store_ph 9 rfl (by kernel_rfl) rfl 154 _ _ rfl _ _ rfl rfl (hst) (⟨trivial, fun h => absurd (show true = false from h) (by decide), fun _ => trivial⟩) (fun hSn => ?_)
 clear hSt; rename Ph _ _ _ _ _ _ _ => hSt
 simp only [Act.put]
 refine done_ph (by kernel_rfl) ?_ _
 clear hSt
 refine NoPanic.normal ?_
 clear F1 F2 hst
 go_wp2_with fail
 go_ret2
 exact HE.out
set_option maxRecDepth 100000 in
set_option maxHeartbeats 1000000 in
theorem put_leaf {w : World} {M : Nat → Option Nd} {h m q : Nat} {l : List It} {F : Nat → Prop} (x : It) {n : Nd} {I1 I2 : List It} (hs : Store w M) (hq : M q = some n) (hn : n.its.length ≤ 1000) (hS : Srt n.its) (hy : Not n.its x.1 I1 I2) (hk : n.ks = [])
 (hN : ∀ w' n', n'.its = I1 ++ (x.1, x.2) :: I2 → n'.ks = n.ks → Store w' (upd M q n') → Ext (Own M) (Own (upd M q n')) w w' → PutTo w M h m q l F x (.returned (.tuple #[.slice none 0 0, .bool false])) w') :
 Calls Tryz.prog 114 #[.pointer (some ⟨q, 0, none⟩), .agg #[.string x.1, .slice x.2.a x.2.n x.2.c]] w (PutTo w M h m q l F x) := by
 obtain ⟨aq, cqi, hqiv, _⟩ := row_shape (hs.its q n hq)
 have HF : Hid (Calls Tryz.prog 97 #[.pointer (some ⟨q, 0, none⟩), .string x.1] (w.alloc (.cells #[.string x.1, .slice x.2.a x.2.n x.2.c] 200)) fun e w2 => e = .returned (.tuple #[.int .i64 I1.length, .bool false]) ∧ Hid (Store w2 M ∧ Below w.heap.size w w2 ∧ w2.heap[w.heap.size]? = some (.cells #[.string x.1, .slice x.2.a x.2.n x.2.c] 200 (0, 0)))) := by
  refine (find_not (hs.alloc _) hq hS hn hy).mono ?_
  rintro e w2 ⟨rfl, hb⟩
  obtain ⟨s1, s2, s3, _⟩ := boxed hs hb
  exact ⟨rfl, s1, s2, s3⟩
 have HCh : Hid (∀ w2, Store w2 M → Calls Tryz.prog 98 #[.pointer (some ⟨q, 0, none⟩), .int .i64 I1.length] w2 fun e w' => e = .returned (.pointer none) ∧ w' = w2) := fun w2 h2 => child_none h2 hq hk _
 have HIns : Hid (∀ w2 U, Store w2 M → Below w.heap.size w w2 → Below w2.heap.size w2 U → U.heap[w2.heap.size]? = some (.cells (cI [x]).toArray 200 (0, 0)) → Calls Tryz.prog 140 #[.slice aq n.its.length cqi, .int .i64 I1.length, .slice (some ⟨w2.heap.size, 0, none⟩) 1 1] U fun e V1 => ∃ a m' c V2, e = .returned (.slice a m' c) ∧ (Instr.storeAt 201 (.pointer (some ⟨q, 0, none⟩)) (.slice a m' c)).run Tryz.prog V1 = .ok () V2 ∧ Hid (PutTo w M h m q l F x (.returned (.tuple #[.slice none 0 0, .bool false])) V2)) := fun w2 U h1 h2 h3 h4 => by
  have hh := insI_node (h1.on h3) hq hy.eq hn (x := x) h4 (h1.not_own (Nat.le_refl _))
  rw [hqiv] at hh
  refine hh.mono ?_
  rintro e V1 ⟨v', rfl, a, m', c, V2, rfl, hst, s1, s2⟩
  exact ⟨a, m', c, V2, rfl, hst, hN _ { n with iv := .slice a m' c, its := I1 ++ x :: I2 } rfl rfl s1 ((Ext.of_below _ (below_step h2 h3)).trans s2)⟩
 have HQ : Hid (∀ V, Store V M → V.cell? ⟨q, 0, none⟩ = some (.slice aq n.its.length cqi)) := fun V hV => by rw [(hV.cells hq).1, hqiv]
 clear hs hq hN hS hn hqiv hy hk
 generalize I1.length = i1 at *
 generalize n.its.length = nl at *
 obtain ⟨x1, x2⟩ := x
 simp only at HF HIns
 go_enter Tryz.func114, Tryz.ntmps114
 go_wp2_with (first
  | (go_at_call 97; refine HF.out.mono ?_; rintro e w2 ⟨rfl, HS⟩)
  | (go_at_call 98; refine (HCh.out _ HS.out.1).mono ?_; rintro e w3 ⟨rfl, rfl⟩)
  | fail)
 rename World => w2
 obtain ⟨U, hU⟩ : ∃ U, U = w2.drew.alloc (.cells (cI [(x1, x2)]).toArray 200) := ⟨_, rfl⟩
 have HB : Hid (Below w2.heap.size w2 U) := by show Below _ _ _; rw [hU]; exact below_step (below_drew w2) (below_alloc w2.drew _)
 have hrb : Hid (∀ (a : Act) (o : Oper) (z : Operand), o.op = .buildSlice 201 1 #[(0, z)] → a.eval z = .agg #[.string x1, .slice x2.a x2.n x2.c] → (execOp a.eval o).run Tryz.prog w2.drew = .ok (.value (.slice (some ⟨w2.heap.size, 0, none⟩) 1 1)) U) := fun a o z h1 h2 => by rw [hU]; exact run_buildI w2.drew (x1, x2) a o z h1 h2
 have HI := Lib.hid (HIns.out w2 U HS.out.1 HS.out.2.1 HB.out (by rw [hU]; exact new_blk w2.drew _))
 have F1 : Hid (∀ V, Below w2.heap.size w2 V → V.cell? ⟨q, 0, none⟩ = some (.slice aq nl cqi)) := fun V hV => HQ.out V (HS.out.1.on hV)
 have F2 : Hid (∀ V, Below w2.heap.size w2 V → V.cell? ⟨w.heap.size, 0, none⟩ = some (.string x1) ∧ V.cell? ⟨w.heap.size, 1, none⟩ = some (.slice x2.a x2.n x2.c)) := fun V hV => by
  have hb := (hV.block _ (blk_lt HS.out.2.2)).trans HS.out.2.2
  exact ⟨cell_of hb rfl, cell_of hb rfl⟩
 clear HF HCh HIns HQ hU HS
 refine wp_region_noPanic ?_
 refine region_ph (A := fun _ => True) (e1 := 8) (B := (fun V => Below w2.heap.size w2 V)) (e2 := 8) (C := (fun _ => True)) (by kernel_rfl) (⟨trivial, fun _ => below_drew w2, fun _ => trivial⟩) (fun hSt => ?_)
 refine take_ph 0 (.pointer (some ⟨q, 0, none⟩)) [] rfl (by kernel_rfl) (fun _ _ _ h => h) (Or.inl ⟨by rfl, ?_⟩) hSt (fun hSn => ?_)
 · intro V _; go_simp
 clear hSt; rename Ph _ _ _ _ _ _ _ => hSt; simp only [Act.put, prw]
 refine take_ph 1 (.pointer (some ⟨q, 0, none⟩)) [] rfl (by kernel_rfl) (fun _ _ _ h => h) (Or.inl ⟨by rfl, ?_⟩) hSt (fun hSn => ?_)
 · intro V _; go_simp
 clear hSt; rename Ph _ _ _ _ _ _ _ => hSt; simp only [Act.put, prw]
 refine take_ph 2 (.pointer (some ⟨q, 0, none⟩)) [] rfl (by kernel_rfl) (fun _ _ _ h => h) (Or.inl ⟨by rfl, ?_⟩) hSt (fun hSn => ?_)
 · intro V _; go_simp
 clear hSt; rename Ph _ _ _ _ _ _ _ => hSt; simp only [Act.put, prw]
 refine take_ph 3 (.pointer (some ⟨q, 0, none⟩)) [] rfl (by kernel_rfl) (fun _ _ _ h => h) (Or.inl ⟨by rfl, ?_⟩) hSt (fun hSn => ?_)
 · intro V _; go_simp
 clear hSt; rename Ph _ _ _ _ _ _ _ => hSt; simp only [Act.put, prw]
 refine take_ph 4 (.slice aq nl cqi) [8] rfl (by kernel_rfl) (fun _ _ _ h => h) (Or.inl ⟨by rfl, ?_⟩) hSt (fun hSn => ?_)
 · rintro V ⟨_, hB, hC⟩; have hh := hB (by decide); have e0 := F1.out V hh; clear hB hC; go_simp
 clear hSt; rename Ph _ _ _ _ _ _ _ => hSt; simp only [Act.put, prw]
 refine take_ph 5 (.int .i64 i1) [] rfl (by kernel_rfl) (fun _ _ _ h => h) (Or.inl ⟨by rfl, ?_⟩) hSt (fun hSn => ?_)
 · intro V _; go_simp
 clear hSt; rename Ph _ _ _ _ _ _ _ => hSt; simp only [Act.put, prw]
 refine take_ph 6 (.agg #[.string x1, .slice x2.a x2.n x2.c]) [7, 8] rfl (by kernel_rfl) (fun _ _ _ h => h) (Or.inl ⟨by rfl, ?_⟩) hSt (fun hSn => ?_)
 · rintro V ⟨_, hB, hC⟩; have hh := hB (by decide); have e0 := F2.out V hh; clear hB hC; go_simp
 clear hSt; rename Ph _ _ _ _ _ _ _ => hSt; simp only [Act.put, prw]
 refine ready_ph 7 rfl (by kernel_rfl) rfl (.inl (hrb.out _ _ _ rfl rfl)) (⟨trivial, fun _ => HB.out, fun _ => trivial⟩) (fun hSn => ?_)
 clear hSt; rename Ph _ _ _ _ _ _ _ => hSt; simp only [Act.put, prw]
 refine ready_call_ph 8 rfl (by kernel_rfl) (fun KK hK => ?_)
 go_simp
 go_wp2_with (first | (go_at_call 140; refine HI.out.mono ?_; rintro e V3 ⟨a5, m5, c5, V4, rfl, hst4, HZ⟩))
 refine hK.out _ _ ?_ (fun hSn => ?_)
 · exact ⟨trivial, fun h => absurd (show true = false from h) (by decide), fun _ => trivial⟩
 clear hK KK hSt; rename Ph _ _ _ _ _ _ _ => hSt
 refine take_ph 9 (.pointer (some ⟨q, 0, none⟩)) [] rfl (by kernel_rfl) (fun _ _ _ h => h) (Or.inl ⟨by rfl, ?_⟩) hSt (fun hSn => ?_)
 · intro V _; go_simp
 clear hSt; rename Ph _ _ _ _ _ _ _ => hSt; simp only [Act.put, prw]
 refine take_ph 10 (.pointer (some ⟨q, 0, none⟩)) [] rfl (by kernel_rfl) (fun _ _ _ h => h) (Or.inl ⟨by rfl, ?_⟩) hSt (fun hSn => ?_)
 · intro V _; go_simp
 clear hSt; rename Ph _ _ _ _ _ _ _ => hSt; simp only [Act.put, prw]
 refine ready_store_ph 11 rfl (by kernel_rfl) rfl 201 _ _ rfl _ _ rfl rfl (hst4) (⟨trivial, fun h => absurd (show true = false from h) (by decide), fun _ => trivial⟩) (fun hSn => ?_)
 clear hSt; rename Ph _ _ _ _ _ _ _ => hSt
 simp only [Act.put]
 refine done_ph (by kernel_rfl) ?_ _
 clear hSt
 refine NoPanic.normal ?_
 clear F1 F2 HI hrb hst4 HB
 go_wp2_with fail
 go_ret2
 exact HZ.out
set_option maxRecDepth 100000 in
set_option maxHeartbeats 1000000 in
theorem put_inner {w : World} {M : Nat → Option Nd} {h m q p : Nat} {l : List It} {F : Nat → Prop} (x : It) {n : Nd} {I1 I2 : List It} {K1 K2 : List Nat} {hv : Vl} {hb : Bool} (hs : Store w M) (hq : M q = some n) (hn : n.its.length ≤ 1000) (hS : Srt n.its) (hy : Not n.its x.1 I1 I2) (hk : n.ks = K1 ++ p :: K2) (hIK : I1.length = K1.length)
 (hP : ∀ w2, Store w2 M → Below w.heap.size w w2 → Calls Tryz.prog 114 #[.pointer (some ⟨p, 0, none⟩), .agg #[.string x.1, .slice x.2.a x.2.n x.2.c]] w2 fun e w' => e = .returned (.tuple #[.slice hv.a hv.n hv.c, .bool hb]) ∧ ∃ M1 np, Store w' M1 ∧ M1 p = some np ∧ (np.its.length ≤ 7 → PutTo w M h m q l F x (.returned (.tuple #[.slice hv.a hv.n hv.c, .bool hb])) w') ∧ (7 < np.its.length → Calls Tryz.prog 116 #[.pointer (some ⟨q, 0, none⟩), .int .i64 I1.length] w' fun e w'' => e = .returned (.tuple #[]) ∧ PutTo w M h m q l F x (.returned (.tuple #[.slice hv.a hv.n hv.c, .bool hb])) w'')) :
 Calls Tryz.prog 114 #[.pointer (some ⟨q, 0, none⟩), .agg #[.string x.1, .slice x.2.a x.2.n x.2.c]] w (PutTo w M h m q l F x) := by
 have HF : Hid (Calls Tryz.prog 97 #[.pointer (some ⟨q, 0, none⟩), .string x.1] (w.alloc (.cells #[.string x.1, .slice x.2.a x.2.n x.2.c] 200)) fun e w2 => e = .returned (.tuple #[.int .i64 I1.length, .bool false]) ∧ w2.cell? ⟨w.heap.size, 0, none⟩ = some (.string x.1) ∧ w2.cell? ⟨w.heap.size, 1, none⟩ = some (.slice x.2.a x.2.n x.2.c) ∧ Hid (Store w2 M ∧ Below w.heap.size w w2)) := by
  refine (find_not (hs.alloc _) hq hS hn hy).mono ?_
  rintro e w2 ⟨rfl, hb⟩
  obtain ⟨s1, s2, s3, _⟩ := boxed hs hb
  exact ⟨rfl, cell_of s3 rfl, cell_of s3 rfl, s1, s2⟩
 have HCh : Hid (∀ w2, Store w2 M → Calls Tryz.prog 98 #[.pointer (some ⟨q, 0, none⟩), .int .i64 I1.length] w2 fun e w' => e = .returned (.pointer (some ⟨p, 0, none⟩)) ∧ w' = w2) := fun w2 h2 => by
  have := child_at h2 hq hk
  rw [hIK]
  exact this
 have HP := Lib.hid hP
 clear hs hq hP hS hn hy hk hIK
 generalize I1.length = i1 at *
 obtain ⟨x1, x2⟩ := x
 simp only at HF HP
 go_enter Tryz.func114, Tryz.ntmps114
 go_wp2_with (first
  | (go_at_call 97; refine HF.out.mono ?_; rintro e w2 ⟨rfl, d1, d2, HS⟩)
  | (go_at_call 98; refine (HCh.out _ HS.out.1).mono ?_; rintro e w3 ⟨rfl, rfl⟩)
  | (go_at_call 114; refine (HP.out _ HS.out.1 HS.out.2).mono ?_; rintro e w4 ⟨rfl, M1, np, hs4, hp4, h7, h8⟩; have HS4 := Lib.hid (And.intro hs4 (And.intro hp4 (And.intro h7 h8))); clear hs4 hp4 h7 h8)
  | fail)
 have HM := Lib.hid (hasTooMany_ HS4.out.1 HS4.out.2.1)
 by_cases h8 : 7 < np.its.length
 · have hd : decide (7 < np.its.length) = true := by simpa using h8
   rw [hd] at HM
   have HX := Lib.hid (HS4.out.2.2.2 h8)
   clear HS4 hd h8 HP HF HCh d1 d2 HS
   go_wp2_with (first
    | (go_at_call 115; refine HM.out.mono ?_; rintro e w5 ⟨rfl, rfl⟩)
    | (go_at_call 116; refine HX.out.mono ?_; rintro e w6 ⟨rfl, hz⟩; have HZ := Lib.hid hz; clear hz)
    | fail)
   go_ret2
   exact HZ.out
 · have hd : decide (7 < np.its.length) = false := by simpa using h8
   rw [hd] at HM
   have HZ := Lib.hid (HS4.out.2.2.1 (by omega))
   clear HS4 hd h8 HP HF HCh d1 d2 HS
   go_wp2_with (first
    | (go_at_call 115; refine HM.out.mono ?_; rintro e w5 ⟨rfl, rfl⟩)
    | fail)
   go_ret2
   exact HZ.out
end Go.Proofs.YtalmanfjiblhcaaGreat
namespace Go.Proofs.YtalmanfjiblhcaaGreat
open Go.RowKit Go.Sort
theorem Kept.trans {M M' M'' : Nat → Option Nd} {F F' G G' : Nat → Prop} {w w' w'' : World} (h1 : Kept M M' F F' w w') (h2 : Kept M' M'' G G' w' w'') (hG : ∀ k, G k → F k ∨ w.heap.size ≤ k) : Kept M M'' F G' w w'' := by
 have hs := h1.ext.size
 refine ⟨h2.st, h1.ext.trans h2.ext, fun k hk hn => (h2.rest k (Nat.lt_of_lt_of_le hk hs) fun g => ?_).trans (h1.rest k hk hn), fun k hk => ?_⟩
 · rcases hG k g with q | q
   · exact hn q
   · omega
 · rcases h2.new k hk with q | q
   · exact hG k q
   · exact .inr (Nat.le_trans hs q)
theorem Kept.widen {M M' : Nat → Option Nd} {F F' G G' : Nat → Prop} {w w' : World} (h : Kept M M' F F' w w') (hF : ∀ k, F k → G k) (hG : ∀ k, G' k → G k ∨ w.heap.size ≤ k) : Kept M M' G G' w w' :=
 ⟨h.st, h.ext, fun k hk hn => h.rest k hk fun q => hn (hF k q), hG⟩
theorem Srt.about_mid {P S : List It} {k : ByteArray} {u : Vl} (h : Srt (P ++ (k, u) :: S)) : (∀ x ∈ P, ltb x.1 k = true) ∧ (∀ x ∈ S, ltb k x.1 = true) := by
 have hp := List.pairwise_append.1 h
 exact ⟨fun x hx => hp.2.2 x hx (k, u) (by simp), (List.pairwise_cons.1 hp.2.1).1⟩
theorem split_len {ls : List (List It)} {a b : Nat} (h : ls.length = a + b + 1) : ∃ L1 l L2, ls = L1 ++ l :: L2 ∧ L1.length = a ∧ L2.length = b := by
 refine ⟨ls.take a, ls[a], ls.drop (a + 1), ?_, by rw [List.length_take]; omega, by rw [List.length_drop]; omega⟩
 rw [← List.drop_eq_getElem_cons, List.take_append_drop]
theorem weave_yes {I1 I3 : List It} {ls : List (List It)} (k : ByteArray) (h : ls = [] ∨ ls.length = I1.length + I3.length + 1 + 1) : ∃ P S, ∀ v, weave (I1 ++ (k, v) :: I3) ls = P ++ (k, v) :: S := by
 rcases h with rfl | h
 · exact ⟨I1, I3, fun v => weave_nil _⟩
 · obtain ⟨L1, l, L2, rfl, h1, h2⟩ := split_len (a := I1.length) (b := I3.length + 1) (by omega)
   cases L2 with
   | nil => simp at h2
   | cons l' L2 =>
     refine ⟨pre I1 L1 ++ l, l' ++ suf I3 L2, fun v => ?_⟩
     rw [weave_at I1 ((k, v) :: I3) L1 l (l' :: L2) (by omega) (by simp at h2 ⊢; omega), suf_cons]
     simp
theorem put_ : ∀ (h : Nat) {w : World} {M : Nat → Option Nd} {m q : Nat} {l : List It} {F : Nat → Prop} (x : It), Store w M → Nod M (h + 1) m 7 q l F → Srt l →
 Calls Tryz.prog 114 #[.pointer (some ⟨q, 0, none⟩), .agg #[.string x.1, .slice x.2.a x.2.n x.2.c]] w (PutTo w M (h + 1) m q l F x) := by
 intro h
 induction h with
 | zero =>
   intro w M m q l F x hs hN hS
   obtain ⟨n, ls, Fk, hq, b1, b2, b3, b4, kk, rfl, hqn, hF⟩ := hN
   have hks := b3 rfl
   rw [hks] at kk
   obtain ⟨rfl, hno⟩ := kk.nil
   have hSi := hS.items
   rw [weave_nil] at hS ⊢
   have fin : ∀ w' n', n'.ks = n.ks → m ≤ n'.its.length → n'.its.length ≤ 8 → Store w' (upd M q n') → Ext (Own M) (Own (upd M q n')) w w' → n'.its = ins x.1 x.2 n.its → ∀ (u : Vl) (b : Bool), u = (get x.1 n.its).getD vz → b = (get x.1 n.its).isSome → PutTo w M (0 + 1) m q n.its F x (.returned (.tuple #[.slice u.a u.n u.c, .bool b])) w' := by
    intro w' n' e1 e2 e3 s1 s2 e4 u b hu hb
    refine ⟨by rw [hu, hb], _, F, Kept.one s1 s2 ((hF q).2 (.inl rfl)), n', [], fun _ => False, upd_self _ _ _, e2, e3, fun _ => e1.trans hks, fun z => (z rfl).elim, by rw [e1, hks]; exact kids_nil, by rw [weave_nil, e4], id, fun y => ?_⟩
    rw [hF y]
    exact ⟨fun q => q.imp id (fun q => hno y q), fun q => q.imp id False.elim⟩
   rcases about hSi x.1 with ⟨I1, u, I3, hy⟩ | ⟨I1, I2, hy⟩
   · have hl : n.its.length = I1.length + I3.length + 1 := by rw [hy.eq]; simp; omega
     refine put_yes x hs hq (by omega) hSi hy fun w' n' e1 e2 s1 s2 => fin w' n' e2 ?_ ?_ s1 s2 ?_ u true ?_ ?_
     · rw [e1]; simp; omega
     · rw [e1]; simp; omega
     · rw [e1, hy.eq, ins_at hy.lo hy.hi]
     · rw [hy.eq, get_at hy.lo]; rfl
     · rw [hy.eq, get_at hy.lo]; rfl
   · have hl : n.its.length = I1.length + I2.length := by rw [hy.eq]; simp
     refine put_leaf x hs hq (by omega) hSi hy hks fun w' n' e1 e2 s1 s2 => fin w' n' e2 ?_ ?_ s1 s2 ?_ vz false ?_ ?_
     · rw [e1]; simp; omega
     · rw [e1]; simp; omega
     · rw [e1, hy.eq, ins_new hy.lo hy.hi]
     · rw [hy.eq, get_new hy.lo hy.hi]; rfl
     · rw [hy.eq, get_new hy.lo hy.hi]; rfl
 | succ h ih =>
   intro w M m q l F x hs hN hS
   obtain ⟨n, ls, Fk, hq, b1, b2, b3, b4, kk, rfl, hqn, hF⟩ := hN
   have hks := b4 (by omega)
   have hll := kk.len
   have hSi := hS.items
   rcases about hSi x.1 with ⟨I1, u, I3, hy⟩ | ⟨I1, I2, hy⟩
   · have hl : n.its.length = I1.length + I3.length + 1 := by rw [hy.eq]; simp; omega
     obtain ⟨P, S, hw⟩ := weave_yes (I1 := I1) (I3 := I3) (ls := ls) x.1 (.inr (by omega))
     have hw0 : weave n.its ls = P ++ (x.1, u) :: S := by rw [hy.eq]; exact hw u
     rw [hw0] at hS ⊢
     obtain ⟨hP, hSS⟩ := hS.about_mid
     refine put_yes x hs hq (by omega) hSi hy fun w' n' e1 e2 s1 s2 => ?_
     refine ⟨by rw [get_at hP]; rfl, _, F, Kept.one s1 s2 ((hF q).2 (.inl rfl)), n', ls, Fk, upd_self _ _ _, by rw [e1]; simp; omega, by rw [e1]; simp; omega, fun z => by omega, fun _ => by rw [e1, e2]; simp; omega, ?_, by rw [e1, ins_at hP hSS, hw], hqn, hF⟩
     rw [e2]
     exact kk.frame fun k hk => upd_other _ _ fun e => hqn (e ▸ hk)
   · have hl : n.its.length = I1.length + I2.length := by rw [hy.eq]; simp
     have hkl : n.ks.length = I1.length + I2.length + 1 := by omega
     obtain ⟨K1, p, K2, hK, hK1, hK2⟩ : ∃ K1 p K2, n.ks = K1 ++ p :: K2 ∧ K1.length = I1.length ∧ K2.length = I2.length := by
      refine ⟨n.ks.take I1.length, n.ks[I1.length], n.ks.drop (I1.length + 1), ?_, by rw [List.length_take]; omega, by rw [List.length_drop]; omega⟩
      rw [← List.drop_eq_getElem_cons, List.take_append_drop]
     rw [hK] at kk
     obtain ⟨L1, lp, L2, F1, Fp, F2, rfl, k1, kp, k2, d1, d2, d3, hFk⟩ := kk.at
     have l1 := k1.len
     have l2 := k2.len
     have q1 : ¬ F1 q := fun g => hqn ((hFk q).2 (.inl g))
     have qp : ¬ Fp q := fun g => hqn ((hFk q).2 (.inr (.inl g)))
     have q2 : ¬ F2 q := fun g => hqn ((hFk q).2 (.inr (.inr g)))
     have hw0 : weave n.its (L1 ++ lp :: L2) = pre I1 L1 ++ (lp ++ suf I2 L2) := by rw [hy.eq]; exact weave_at I1 I2 L1 lp L2 (by omega) (by omega)
     rw [hw0] at hS ⊢
     have hS3 := List.pairwise_append.1 hS
     have hS4 := List.pairwise_append.1 hS3.2.1
     have hPlt := pre_lt I1 L1 hS3.1 hy.lo
     have hSgt := suf_gt I2 L2 hS4.2.1 hy.hi
     have lt1 := k1.lt hs
     have lt2 := k2.lt hs
     have ltq := hs.node_lt hq
     refine put_inner x hs hq (by omega) hSi hy hK (by omega) (hv := (get x.1 (pre I1 L1 ++ (lp ++ suf I2 L2))).getD vz) (hb := (get x.1 (pre I1 L1 ++ (lp ++ suf I2 L2))).isSome) fun w2 hs2 hb2 => ?_
     refine (ih x hs2 kp hS4.1).mono fun e w' he => ?_
     obtain ⟨he1, M', F', hk, hN'⟩ := he
     have hsz := hk.ext.size
     have hsz2 := hb2.size
     obtain ⟨np, lsp, Fkp, hp, c1, c2, c3, c4, c5, c6, c7, c8⟩ := id hN'
     have keep : ∀ G : Nat → Prop, (∀ x, G x → x < w.heap.size) → (∀ x, G x → ¬ Fp x) → ∀ x, G x → M' x = M x := fun G g1 g2 x hx => hk.rest x (by have := g1 x hx; omega) (g2 x hx)
     have kk1 := k1.frame (keep F1 lt1 d1)
     have kk2 := k2.frame (keep F2 lt2 (fun x hx g => d3 x g hx))
     have hq' : M' q = some n := (hk.rest q (by omega) qp).trans hq
     have n1 : ∀ x, F1 x → ¬ F' x := fun x hx g => by
      rcases hk.new x g with r | r
      · exact d1 x hx r
      · have := lt1 x hx; omega
     have n3 : ∀ x, F' x → ¬ F2 x := fun x g hx => by
      rcases hk.new x g with r | r
      · exact d3 x r hx
      · have := lt2 x hx; omega
     have nq : ¬ F' q := fun g => by
      rcases hk.new q g with r | r
      · exact qp r
      · omega
     have hkw : Kept M M' F (fun x => x = q ∨ F1 x ∨ F' x ∨ F2 x) w w' := (hk.base hb2).widen (fun k g => (hF k).2 (.inr ((hFk k).2 (.inr (.inl g))))) (fun k g => by
      rcases g with rfl | g | g | g
      · exact .inl ((hF _).2 (.inl rfl))
      · exact .inl ((hF k).2 (.inr ((hFk k).2 (.inl g))))
      · rcases hk.new k g with r | r
        · exact .inl ((hF k).2 (.inr ((hFk k).2 (.inr (.inl r)))))
        · exact .inr (by omega)
      · exact .inl ((hF k).2 (.inr ((hFk k).2 (.inr (.inr g))))))
     refine ⟨by rw [get_mid hPlt hSgt]; exact he1, M', np, hk.st, hp, fun h7 => ?_, fun h8 => ?_⟩
     · refine ⟨rfl, M', _, hkw, n, L1 ++ ins x.1 x.2 lp :: L2, fun x => F1 x ∨ F' x ∨ F2 x, hq', b1, by omega, fun z => by omega, fun _ => hks, ?_, ?_, ?_, fun x => Iff.rfl⟩
       · rw [hK]
         exact kids_at kk1 ⟨np, lsp, Fkp, hp, c1, h7, c3, c4, c5, c6, c7, c8⟩ kk2 n1 d2 n3
       · rw [ins_mid hPlt hSgt, hy.eq, weave_at I1 I2 L1 _ L2 (by omega) (by omega)]
       · rintro (g | g | g)
         · exact q1 g
         · exact nq g
         · exact q2 g
     · have hsp := split_ hk.st hq' hy.eq hK (by omega) (by omega) (by omega) kk1 ⟨np, lsp, Fkp, hp, h8, c2, c3, c4, c5, c6, c7, c8⟩ kk2 n1 d2 n3 q1 nq q2
       refine hsp.mono fun e2 w'' hh => ?_
       obtain ⟨e3, M'', F'', hk2, hN2⟩ := hh
       refine ⟨e3, rfl, M'', F'', hkw.trans hk2 hkw.new, ?_⟩
       rw [ins_mid hPlt hSgt]
       exact hN2.wide (by omega) (by omega)
end Go.Proofs.YtalmanfjiblhcaaGreat
namespace Go.Proofs.YtalmanfjiblhcaaGreat
open Go.RowKit Go.Sort
structure TreeAt (w : World) (M : Nat → Option Nd) (p : Nat) (l : List It) (F : Nat → Prop) : Prop where
 srt : Srt l
 own : ¬ Own M p
 root : (l = [] ∧ (∀ x, ¬ F x) ∧ w.heap[p]? = some (.cells #[.pointer none, .int .i64 0] 215 (0, 0))) ∨ (∃ h q, l ≠ [] ∧ Nod M (h + 1) 1 7 q l F ∧ w.heap[p]? = some (.cells #[.pointer (some ⟨q, 0, none⟩), .int .i64 l.length] 215 (0, 0)))
structure KeptT (M M' : Nat → Option Nd) (F F' : Nat → Prop) (p : Nat) (w w' : World) : Prop where
 st : Store w' M'
 ext : Ext (fun k => Own M k ∨ k = p) (fun k => Own M' k ∨ k = p) w w'
 rest : ∀ k, k < w.heap.size → ¬ F k → M' k = M k
 new : ∀ k, F' k → F k ∨ w.heap.size ≤ k
theorem Ext.widen {O O' : Nat → Prop} {w w' : World} (h : Ext O O' w w') (p : Nat) : Ext (fun k => O k ∨ k = p) (fun k => O' k ∨ k = p) w w' :=
 ⟨h.os, h.tape, h.output, h.size, fun k hk hn => h.block k hk fun q => hn (.inl q), fun k hk => hk.elim (fun q => (h.new k q).imp .inl id) (fun q => .inl (.inr q))⟩
theorem Ext.setp {O O' : Nat → Prop} {w0 w : World} {p o : Nat} {v : Value} (h : Ext (fun k => O k ∨ k = p) (fun k => O' k ∨ k = p) w0 w) : Ext (fun k => O k ∨ k = p) (fun k => O' k ∨ k = p) w0 (w.setCell ⟨p, o, none⟩ v) :=
 ⟨h.os, h.tape, h.output, by rw [size_set]; exact h.size, fun k hk hn => (heap_far _ fun e => hn (.inr e)).trans (h.block k hk hn), h.new⟩
theorem TreeAt.lt {w : World} {M : Nat → Option Nd} {p : Nat} {l : List It} {F : Nat → Prop} (h : TreeAt w M p l F) : p < w.heap.size := by
 rcases h.root with ⟨_, _, e⟩ | ⟨_, _, _, _, e⟩ <;> exact blk_lt e
theorem TreeAt.on {w w' : World} {M : Nat → Option Nd} {p : Nat} {l : List It} {F : Nat → Prop} (h : TreeAt w M p l F) (hb : Below w.heap.size w w') : TreeAt w' M p l F :=
 ⟨h.srt, h.own, h.root.imp (fun ⟨a, b, c⟩ => ⟨a, b, (hb.block p h.lt).trans c⟩) (fun ⟨a, b, c, d, e⟩ => ⟨a, b, c, d, (hb.block p h.lt).trans e⟩)⟩
theorem TreeAt.other {w w' : World} {M M' : Nat → Option Nd} {p p' : Nat} {l : List It} {F F1 F1' : Nat → Prop} (h : TreeAt w M p l F) (hs : Store w M) (hk : KeptT M M' F1 F1' p' w w') (hp : p ≠ p') (hd : ∀ x, F x → ¬ F1 x) : TreeAt w' M' p l F ∧ (∀ x, F x → ¬ F1' x) := by
 have hpb : w'.heap[p]? = w.heap[p]? := hk.ext.block p h.lt fun q => q.elim h.own hp
 have hpo : ¬ Own M' p := fun q => by
  rcases hk.ext.new p (.inl q) with (r | r) | r
  · exact h.own r
  · exact hp r
  · have := h.lt; omega
 rcases h.root with ⟨a, b, c⟩ | ⟨a, b, c, d, e⟩
 · exact ⟨⟨h.srt, hpo, .inl ⟨a, b, hpb.trans c⟩⟩, fun x hx => (b x hx).elim⟩
 · have hlt := d.lt hs
   refine ⟨⟨h.srt, hpo, .inr ⟨a, b, c, d.frame fun k hk' => hk.rest k (hlt k hk') (hd k hk'), hpb.trans e⟩⟩, fun x hx g => ?_⟩
   rcases hk.new x g with r | r
   · exact hd x hx r
   · have := hlt x hx; omega
theorem ins_ne (k : ByteArray) (v : Vl) (l : List It) : ins k v l ≠ [] := by simp [ins]
theorem ins_len {l : List It} (h : Srt l) (k : ByteArray) (v : Vl) : (ins k v l).length = if (get k l).isSome then l.length else l.length + 1 := by
 rcases h.about k with ⟨e, g⟩ | ⟨u, e, g⟩
 · rw [g]
   simp only [Option.isSome_none, Bool.false_eq_true, if_false]
   conv => rhs; rw [e]
   simp [ins]; omega
 · rw [g]
   simp only [Option.isSome_some, if_true]
   conv => rhs; rw [e]
   simp [ins]
theorem new_ (w : World) : Calls Tryz.prog 77 #[] w fun e w' => e = .returned (.pointer (some ⟨w.heap.size, 0, none⟩)) ∧ w' = w.alloc (.cells #[.pointer none, .int .i64 0] 215) := by
 go_enter Tryz.func77, Tryz.ntmps77
 go_wp2_with fail
 go_ret
 exact ⟨rfl, rfl⟩
theorem new_tree {w : World} {M : Nat → Option Nd} (h : Store w M) : Store (w.alloc (.cells #[.pointer none, .int .i64 0] 215)) M ∧ TreeAt (w.alloc (.cells #[.pointer none, .int .i64 0] 215)) M w.heap.size [] (fun _ => False) :=
 ⟨h.alloc _, List.Pairwise.nil, h.not_own (Nat.le_refl _), .inl ⟨rfl, fun _ q => q, new_blk w _⟩⟩
theorem top_ {w : World} {p : Nat} {r v : Value} {q : Option Addr} (hr : r = .pointer q) (h : w.heap[p]? = some (.cells #[r, v] 215 (0, 0))) : Calls Tryz.prog 96 #[.pointer (some ⟨p, 0, none⟩)] w fun e w' => e = .returned r ∧ w' = w := by
 subst hr
 have c0 := cell_of (o := 0) h rfl
 clear h
 go_enter Tryz.func96, Tryz.ntmps96
 go_wp2_with fail
 go_ret
 exact ⟨rfl, rfl⟩
def TPut (w : World) (M : Nat → Option Nd) (p : Nat) (l : List It) (F : Nat → Prop) (k : ByteArray) (v : Vl) (e : Ending) (w' : World) : Prop :=
 e = .returned (.tuple #[.slice ((get k l).getD vz).a ((get k l).getD vz).n ((get k l).getD vz).c, .bool (get k l).isSome]) ∧ ∃ M' F', KeptT M M' F F' p w w' ∧ TreeAt w' M' p (ins k v l) F'
end Go.Proofs.YtalmanfjiblhcaaGreat
