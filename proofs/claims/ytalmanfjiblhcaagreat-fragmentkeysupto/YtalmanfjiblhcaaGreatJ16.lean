/- Tree.Put; Tree.Put, whole; What lies below stays while one works on a tree of one's own; blocks of other kinds stay; How bytes lie in memory; bytes appended to a row of one's own; string(b). -/
import Derived.Test.YtalmanfjiblhcaaGreatJ15
import Derived.Test.YtalmanfjiblhcaaGreatJ6
import Derived.Laws.BytesArg
import Derived.Lib.AppendStr
import Derived.Lib.ConvBytes
namespace Go.Proofs.YtalmanfjiblhcaaGreat
open Go.RowKit Go.Sort
structure Mid (w : World) (M : Nat → Option Nd) (F : Nat → Prop) (p : Nat) (W : World) (M1 : Nat → Option Nd) (F1 : Nat → Prop) (h q : Nat) (l : List It) : Prop where
 k : KeptT M M1 F F1 p w W
 nod : Nod M1 (h + 1) 1 8 q l F1
 blk : W.heap[p]? = some (.cells #[.pointer (some ⟨q, 0, none⟩), .int .i64 l.length] 215 (0, 0))
 own : ¬ Own M1 p
 lt : p < w.heap.size
 srt : Srt l
 ne : l ≠ []
theorem Mid.small {w : World} {M : Nat → Option Nd} {F : Nat → Prop} {p : Nat} {W : World} {M1 : Nat → Option Nd} {F1 : Nat → Prop} {h q : Nat} {l : List It} (m : Mid w M F p W M1 F1 h q l) {np : Nd} (hn : M1 q = some np) (h7 : np.its.length ≤ 7) : ∃ M' F', KeptT M M' F F' p w W ∧ TreeAt W M' p l F' := by
 refine ⟨M1, F1, m.k, m.srt, m.own, .inr ⟨h, q, m.ne, ?_, m.blk⟩⟩
 obtain ⟨n, ls, Fk, h1, h2, h3, h4⟩ := m.nod
 rw [hn] at h1; cases h1
 exact ⟨np, ls, Fk, hn, h2, h7, h4⟩
theorem store_one {w : World} {q o : Nat} {v u : Value} {t : TypeId} (hc : w.cell? ⟨q, o, none⟩ = some v) (hf : w.frozen? ⟨q, o, none⟩ = false) (hs : (sizeOf t).run Tryz.prog w = .ok 1 w) (h1 : u.cells = #[u]) (h2 : u.oneCell' = true) : (Instr.storeAt t (.pointer (some ⟨q, o, none⟩)) u).run Tryz.prog w = .ok () (w.setCell ⟨q, o, none⟩ u) := by
 simp only [Instr.storeAt, Instr.sureAddr, Sem.run_bind, Sem.run_pure, Result.andThen]
 simp [storeVar, hs, h1, Result.andThen, storeCells, run_store _ _ _ _ _ h2, Addr.add_lit, hc, hf]
theorem Mid.big {w : World} {M : Nat → Option Nd} {F : Nat → Prop} {p : Nat} {W : World} {M1 : Nat → Option Nd} {F1 : Nat → Prop} {h q : Nat} {l : List It} (m : Mid w M F p W M1 F1 h q l) {np : Nd} (hn : M1 q = some np) (h8 : 7 < np.its.length) :
 ∃ U1 U2 U3 r, (∀ (a : Act) (o : Oper) (z : Operand), o.op = .buildSlice 202 1 #[(0, z)] → a.eval z = .pointer (some ⟨q, 0, none⟩) → (execOp a.eval o).run Tryz.prog W = .ok (.value (.slice (some ⟨W.heap.size, 0, none⟩) 1 1)) U1) ∧
  (∀ (a : Act) (o : Oper) (y : Operand), o.op = .box 204 y → a.eval y = .agg #[.slice none 0 0, .slice (some ⟨W.heap.size, 0, none⟩) 1 1] → (execOp a.eval o).run Tryz.prog U1 = .ok (.value (.pointer (some ⟨r, 0, none⟩))) U2) ∧
  (Instr.storeAt 196 (.pointer (some ⟨p, 0, none⟩)) (.pointer (some ⟨r, 0, none⟩))).run Tryz.prog U2 = .ok () U3 ∧ U3.cell? ⟨p, 0, none⟩ = some (.pointer (some ⟨r, 0, none⟩)) ∧
  Calls Tryz.prog 116 #[.pointer (some ⟨r, 0, none⟩), .int .i64 0] U3 fun e w' => e = .returned (.tuple #[]) ∧ ∃ M' F', KeptT M M' F F' p w w' ∧ TreeAt w' M' p l F' := by
 obtain ⟨U1, hU1⟩ : ∃ U, U = W.alloc (.cells (cP [q]).toArray 196) := ⟨_, rfl⟩
 obtain ⟨U2, hU2⟩ : ∃ U, U = U1.alloc (.cells #[.slice none 0 0, .slice (some ⟨W.heap.size, 0, none⟩) 1 1] 204) := ⟨_, rfl⟩
 have b1 : Below W.heap.size W U1 := by rw [hU1]; exact below_alloc _ _
 have b2 : Below W.heap.size W U2 := by rw [hU2]; exact below_step b1 (below_alloc _ _)
 have r1 : U1.heap[W.heap.size]? = some (.cells (cP [q]).toArray 196 (0, 0)) := by rw [hU1]; exact new_blk _ _
 have r2 : U2.heap[W.heap.size]? = some (.cells (cP [q]).toArray 196 (0, 0)) := by rw [hU2, Below.heap_alloc _ _ _ (blk_lt r1)]; exact r1
 have rr : U2.heap[U1.heap.size]? = some (.cells #[.slice none 0 0, .slice (some ⟨W.heap.size, 0, none⟩) 1 1] 204 (0, 0)) := by rw [hU2]; exact new_blk _ _
 have hpW : p < W.heap.size := blk_lt m.blk
 have hsz1 : W.heap.size < U1.heap.size := blk_lt r1
 have p2 : U2.heap[p]? = some (.cells #[.pointer (some ⟨q, 0, none⟩), .int .i64 l.length] 215 (0, 0)) := (b2.block p hpW).trans m.blk
 obtain ⟨s1, s2⟩ := m.k.st.add (r := U1.heap.size) (n := ⟨[], [q], .slice none 0 0, .slice (some ⟨W.heap.size, 0, none⟩) 1 1⟩) b2 (Nat.le_of_lt hsz1) rr (World.ownsRow_nil _ _ _ _) (row_mk r2 (Nat.le_refl 1) (by unfold maxLen; omega) (by simp [cP]) (by simp [cP])) (fun k e => by cases e) (fun k e => by
  simp only [Value.ownBlock, Option.some.injEq] at e
  omega)
 have hpo : ¬ Own (upd M1 U1.heap.size ⟨[], [q], .slice none 0 0, .slice (some ⟨W.heap.size, 0, none⟩) 1 1⟩) p := fun g => by
  rcases s2.new p g with g | g
  · exact m.own g
  · omega
 refine ⟨U1, U2, U2.setCell ⟨p, 0, none⟩ (.pointer (some ⟨U1.heap.size, 0, none⟩)), U1.heap.size, fun a o z h1 h2 => by rw [hU1]; exact run_buildP W q a o z h1 h2, fun a o y h1 h2 => by rw [hU2]; exact run_boxN U1 a o y _ _ h1 h2, store_one (cell_of p2 rfl) (frozen_of p2) (by kernel_rfl) rfl rfl, cell_of (heap_set (o := 0) _ p2) rfl, ?_⟩
 have s3 := s1.far (o := 0) (v := .pointer (some ⟨U1.heap.size, 0, none⟩)) hpo
 have hlt1 := m.nod.lt m.k.st
 have nod3 := m.nod.frame (M' := upd M1 U1.heap.size ⟨[], [q], .slice none 0 0, .slice (some ⟨W.heap.size, 0, none⟩) 1 1⟩) (fun k hk => upd_other _ _ (by have := hlt1 k hk; omega))
 have nod8 : Nod (upd M1 U1.heap.size ⟨[], [q], .slice none 0 0, .slice (some ⟨W.heap.size, 0, none⟩) 1 1⟩) (h + 1) 8 8 q l F1 := by
  obtain ⟨n, ls, Fk, h1, h2, h3, h4⟩ := nod3
  have : n = np := by
   rw [upd_other _ _ (by have := hlt1 q m.nod.self; omega), hn] at h1
   cases h1; rfl
  subst this
  exact ⟨n, ls, Fk, h1, h8, h3, h4⟩
 have hsp := split_ s3 (upd_self M1 U1.heap.size _) (I1 := []) (I2 := []) (K1 := []) (K2 := []) rfl rfl rfl rfl (by simp) kids_nil nod8 kids_nil (fun _ q => q.elim) (fun _ q => q.elim) (fun _ _ q => q) (fun q => q) (fun g => by have := hlt1 _ g; omega) (fun q => q)
 refine hsp.mono fun e w' hh => ?_
 obtain ⟨e3, M', F', hk2, hN2⟩ := hh
 have eW : Ext (fun k => Own M k ∨ k = p) (fun k => Own M' k ∨ k = p) w w' := (m.k.ext.trans (s2.widen p)).setp.trans (hk2.ext.widen p)
 have hsW := m.k.ext.size
 have hs2 := s2.size
 have hp3 : (U2.setCell ⟨p, 0, none⟩ (.pointer (some ⟨U1.heap.size, 0, none⟩))).heap[p]? = some (.cells #[.pointer (some ⟨U1.heap.size, 0, none⟩), .int .i64 l.length] 215 (0, 0)) := by
  have := heap_set (o := 0) (.pointer (some ⟨U1.heap.size, 0, none⟩)) p2
  simpa using this
 obtain ⟨p4, p5⟩ := hk2.ext.stays hp3 hpo
 refine ⟨e3, M', F', ⟨hk2.st, eW, fun k hk hno => ?_, fun k hk => ?_⟩, m.srt, p5, .inr ⟨h + 1, U1.heap.size, m.ne, ?_, p4⟩⟩
 · rw [hk2.rest k (by rw [size_set]; omega) ?_, upd_other _ _ (by omega)]
   · exact m.k.rest k hk hno
   · rintro (g | g | g | g)
     · omega
     · exact g
     · rcases m.k.new k g with r | r
       · exact hno r
       · omega
     · exact g
 · rcases hk2.new k hk with (g | g | g | g) | g
   · exact .inr (by omega)
   · exact g.elim
   · exact m.k.new k g
   · exact g.elim
   · rw [size_set] at g
     exact .inr (by omega)
 · exact (hN2.wide (by simp) (by simp)).same (by simp [pre, suf]) (fun x => Iff.rfl)
set_option maxRecDepth 100000 in
set_option maxHeartbeats 1000000 in
theorem tput_walk {w : World} {M : Nat → Option Nd} {F : Nat → Prop} {p h q : Nat} {l : List It} {u : Vl} {k : ByteArray} {v : Vl} {n0 : Nat} (b : Bool) (hn0 : n0 ≤ 1000000) (hp0 : w.cell? ⟨p, 0, none⟩ = some (.pointer (some ⟨q, 0, none⟩)))
 (HPut : Calls Tryz.prog 114 #[.pointer (some ⟨q, 0, none⟩), .agg #[.string k, .slice v.a v.n v.c]] w fun e w1 => e = .returned (.tuple #[.slice u.a u.n u.c, .bool b]) ∧ w1.cell? ⟨p, 1, none⟩ = some (.int .i64 n0) ∧ ∃ W M1 F1, (if b then W = w1 else (Instr.storeAt 3 (.pointer (some ⟨p, 1, none⟩)) (.int .i64 ((n0 : Int) + 1))).run Tryz.prog w1 = .ok () W) ∧ Mid w M F p W M1 F1 h q l) :
 Calls Tryz.prog 79 #[.pointer (some ⟨p, 0, none⟩), .string k, .slice v.a v.n v.c] w fun e w' => e = .returned (.tuple #[.slice u.a u.n u.c, .bool b]) ∧ ∃ M' F', KeptT M M' F F' p w w' ∧ TreeAt w' M' p l F' := by
 have HP := Lib.hid HPut
 clear HPut
 have w1 := wraps_i64 ((n0 : Int) + 1) (by omega) (by omega)
 cases b with
 | true =>
   go_enter Tryz.func79, Tryz.ntmps79
   go_wp2_with (first
    | (go_at_call 114; refine HP.out.mono ?_; rintro e w2 ⟨rfl, _, W, M1, F1, hW, hm⟩; obtain rfl : W = w2 := hW; have r0 := cell_of (o := 0) hm.blk rfl; have HM := Lib.hid hm; clear hm)
    | fail)
   obtain ⟨np, lsp, Fkp, hnp, _⟩ := id HM.out.nod
   have HN := Lib.hid hnp
   have HT := Lib.hid (hasTooMany_ HM.out.k.st hnp)
   by_cases h8 : 7 < np.its.length
   · have hd : decide (7 < np.its.length) = true := by simpa using h8
     rw [hd] at HT
     obtain ⟨U1, U2, U3, r, g1, g2, g3, g4, g5⟩ := HM.out.big HN.out h8
     have G1 := Lib.hid g1
     have G2 := Lib.hid g2
     have G5 := Lib.hid g5
     clear HM HN hd h8 g1 g2 g5 HP hp0 hnp
     go_wp2_with (first
      | (go_at_call 115; refine HT.out.mono ?_; rintro e w5 ⟨rfl, rfl⟩)
      | (refine wpList_exec rfl (G1.out _ _ _ rfl rfl) ?_)
      | (refine wpList_exec rfl (G2.out _ _ _ rfl rfl) ?_)
      | (refine wpList_store_at rfl _ _ _ rfl _ _ rfl rfl g3 ?_)
      | (go_at_call 116; refine G5.out.mono ?_; rintro e w6 ⟨rfl, hz⟩; have HZ := Lib.hid hz; clear hz)
      | fail)
     go_ret2
     exact ⟨rfl, HZ.out⟩
   · have hd : decide (7 < np.its.length) = false := by simpa using h8
     rw [hd] at HT
     have HZ := Lib.hid (HM.out.small HN.out (by omega))
     clear HM HN hd h8 HP hp0 hnp
     go_wp2_with (first
      | (go_at_call 115; refine HT.out.mono ?_; rintro e w5 ⟨rfl, rfl⟩)
      | fail)
     go_ret2
     exact ⟨rfl, HZ.out⟩
 | false =>
   go_enter Tryz.func79, Tryz.ntmps79
   go_wp2_with (first
    | (go_at_call 114; refine HP.out.mono ?_; rintro e w2 ⟨rfl, c1, W, M1, F1, hW, hm⟩; have hst : (Instr.storeAt 3 (.pointer (some ⟨p, 1, none⟩)) (.int .i64 ((n0 : Int) + 1))).run Tryz.prog w2 = .ok () W := hW; clear hW; have r0 := cell_of (o := 0) hm.blk rfl; have HM := Lib.hid hm; clear hm)
    | (refine wpList_store_at rfl _ _ _ rfl _ _ rfl rfl hst ?_)
    | fail)
   obtain ⟨np, lsp, Fkp, hnp, _⟩ := id HM.out.nod
   have HN := Lib.hid hnp
   have HT := Lib.hid (hasTooMany_ HM.out.k.st hnp)
   by_cases h8 : 7 < np.its.length
   · have hd : decide (7 < np.its.length) = true := by simpa using h8
     rw [hd] at HT
     obtain ⟨U1, U2, U3, r, g1, g2, g3, g4, g5⟩ := HM.out.big HN.out h8
     have G1 := Lib.hid g1
     have G2 := Lib.hid g2
     have G5 := Lib.hid g5
     clear HM HN hd h8 g1 g2 g5 HP hp0 hnp hst c1
     go_wp2_with (first
      | (go_at_call 115; refine HT.out.mono ?_; rintro e w5 ⟨rfl, rfl⟩)
      | (refine wpList_exec rfl (G1.out _ _ _ rfl rfl) ?_)
      | (refine wpList_exec rfl (G2.out _ _ _ rfl rfl) ?_)
      | (refine wpList_store_at rfl _ _ _ rfl _ _ rfl rfl g3 ?_)
      | (go_at_call 116; refine G5.out.mono ?_; rintro e w6 ⟨rfl, hz⟩; have HZ := Lib.hid hz; clear hz)
      | fail)
     go_ret2
     exact ⟨rfl, HZ.out⟩
   · have hd : decide (7 < np.its.length) = false := by simpa using h8
     rw [hd] at HT
     have HZ := Lib.hid (HM.out.small HN.out (by omega))
     clear HM HN hd h8 HP hp0 hnp hst c1
     go_wp2_with (first
      | (go_at_call 115; refine HT.out.mono ?_; rintro e w5 ⟨rfl, rfl⟩)
      | fail)
     go_ret2
     exact ⟨rfl, HZ.out⟩
end Go.Proofs.YtalmanfjiblhcaaGreat
namespace Go.Proofs.YtalmanfjiblhcaaGreat
open Go.RowKit Go.Sort
theorem mid_of {w w1 : World} {M M1 : Nat → Option Nd} {F F1 : Nat → Prop} {p h q : Nat} {l : List It} {n0 : Nat} (hpo : ¬ Own M p) (hp : w.heap[p]? = some (.cells #[.pointer (some ⟨q, 0, none⟩), .int .i64 n0] 215 (0, 0))) (hk : Kept M M1 F F1 w w1) (hN : Nod M1 (h + 1) 1 8 q l F1) (hs : Srt l) (hne : l ≠ []) (b : Bool) (hb : l.length = if b then n0 else n0 + 1) :
 w1.cell? ⟨p, 1, none⟩ = some (.int .i64 n0) ∧ ∃ W M1 F1, (if b then W = w1 else (Instr.storeAt 3 (.pointer (some ⟨p, 1, none⟩)) (.int .i64 ((n0 : Int) + 1))).run Tryz.prog w1 = .ok () W) ∧ Mid w M F p W M1 F1 h q l := by
 obtain ⟨p1, p2⟩ := hk.ext.stays hp hpo
 have hkt : KeptT M M1 F F1 p w w1 := ⟨hk.st, hk.ext.widen p, hk.rest, hk.new⟩
 refine ⟨cell_of p1 rfl, ?_⟩
 cases b with
 | true =>
   simp only [if_true] at hb
   exact ⟨w1, M1, F1, rfl, hkt, hN, by rw [hb]; exact p1, p2, blk_lt hp, hs, hne⟩
 | false =>
   simp only [Bool.false_eq_true, if_false] at hb
   refine ⟨w1.setCell ⟨p, 1, none⟩ (.int .i64 ((n0 : Int) + 1)), M1, F1, store_one (cell_of p1 rfl) (frozen_of p1) (by kernel_rfl) rfl rfl, ⟨hk.st.far p2, hkt.ext.setp, hk.rest, hk.new⟩, hN, ?_, p2, blk_lt hp, hs, hne⟩
   have := heap_set (o := 1) (.int .i64 ((n0 : Int) + 1)) p1
   rw [hb]
   simpa using this
theorem tput_old {w : World} {M : Nat → Option Nd} {p h q : Nat} {l : List It} {F : Nat → Prop} (hs : Store w M) (hS : Srt l) (hpo : ¬ Own M p) (hN : Nod M (h + 1) 1 7 q l F) (hp : w.heap[p]? = some (.cells #[.pointer (some ⟨q, 0, none⟩), .int .i64 l.length] 215 (0, 0))) (hl : l.length ≤ 1000000) (k : ByteArray) (v : Vl) :
 Calls Tryz.prog 79 #[.pointer (some ⟨p, 0, none⟩), .string k, .slice v.a v.n v.c] w (TPut w M p l F k v) := by
 refine tput_walk (h := h) (get k l).isSome hl (cell_of hp rfl) ((put_ h (k, v) hs hN hS).mono fun e w1 he => ?_)
 obtain ⟨e1, M1, F1, hk, hN1⟩ := he
 exact ⟨e1, mid_of hpo hp hk hN1 (hS.ins k v) (ins_ne k v l) _ (ins_len hS k v)⟩
theorem alloc_vn (w : World) (a : Act) (o : Oper) (h : o.op = .alloc 204) : (execOp a.eval o).run Tryz.prog w = .ok (.value (.pointer (some ⟨w.heap.size, 0, none⟩))) (w.alloc (.cells #[.slice none 0 0, .slice none 0 0] 204)) := by
 obtain ⟨i0, hi0, hz0, hz1, hz2⟩ := info_parts infoVN
 have hz : (zeroValue 204).run Tryz.prog w = .ok (.agg #[.slice none 0 0, .slice none 0 0]) w := by simp [zeroValue, typeInfo, hi0, hz0]
 unfold execOp
 simp only [h]
 simp [Instr.alloc, hz, newVar, newObj, go_sem, Value.cells, Result.andThen]
 rfl
set_option maxRecDepth 100000 in
set_option maxHeartbeats 1000000 in
theorem tput_new {w : World} {M : Nat → Option Nd} {p : Nat} {F : Nat → Prop} (hs : Store w M) (hpo : ¬ Own M p) (hp : w.heap[p]? = some (.cells #[.pointer none, .int .i64 0] 215 (0, 0))) (k : ByteArray) (v : Vl) :
 Calls Tryz.prog 79 #[.pointer (some ⟨p, 0, none⟩), .string k, .slice v.a v.n v.c] w (TPut w M p [] F k v) := by
 have hpl := blk_lt hp
 obtain ⟨U1, hU1⟩ : ∃ U, U = w.alloc (.cells #[.slice none 0 0, .slice none 0 0] 204) := ⟨_, rfl⟩
 have b1 : Below w.heap.size w U1 := by rw [hU1]; exact below_alloc _ _
 have r1 : U1.heap[w.heap.size]? = some (.cells #[.slice none 0 0, .slice none 0 0] 204 (0, 0)) := by rw [hU1]; exact new_blk _ _
 have p1 := (b1.block p hpl).trans hp
 obtain ⟨s1, s2⟩ := hs.add (r := w.heap.size) (n := ⟨[], [], .slice none 0 0, .slice none 0 0⟩) b1 (Nat.le_refl _) r1 (World.ownsRow_nil _ _ _ _) (World.ownsRow_nil _ _ _ _) (fun k e => by cases e) (fun k e => by cases e)
 have hpo1 : ¬ Own (upd M w.heap.size ⟨[], [], .slice none 0 0, .slice none 0 0⟩) p := fun g => by
  rcases s2.new p g with g | g
  · exact hpo g
  · omega
 obtain ⟨U2, hU2⟩ : ∃ U, U = U1.setCell ⟨p, 0, none⟩ (.pointer (some ⟨w.heap.size, 0, none⟩)) := ⟨_, rfl⟩
 have hst : (Instr.storeAt 196 (.pointer (some ⟨p, 0, none⟩)) (.pointer (some ⟨w.heap.size, 0, none⟩))).run Tryz.prog U1 = .ok () U2 := by rw [hU2]; exact store_one (cell_of p1 rfl) (frozen_of p1) (by kernel_rfl) rfl rfl
 have p2 : U2.heap[p]? = some (.cells #[.pointer (some ⟨w.heap.size, 0, none⟩), .int .i64 ((0 : Nat) : Int)] 215 (0, 0)) := by
  rw [hU2]
  have := heap_set (o := 0) (.pointer (some ⟨w.heap.size, 0, none⟩)) p1
  simpa using this
 have st2 : Store U2 (upd M w.heap.size ⟨[], [], .slice none 0 0, .slice none 0 0⟩) := by rw [hU2]; exact s1.far hpo1
 have ex2 : Ext (fun k => Own M k ∨ k = p) (fun k => Own (upd M w.heap.size ⟨[], [], .slice none 0 0, .slice none 0 0⟩) k ∨ k = p) w U2 := by rw [hU2]; exact (s2.widen p).setp
 have hN : Nod (upd M w.heap.size ⟨[], [], .slice none 0 0, .slice none 0 0⟩) (0 + 1) 0 7 w.heap.size [] (fun x => x = w.heap.size) :=
  ⟨_, [], fun _ => False, upd_self _ _ _, Nat.zero_le _, Nat.zero_le _, fun _ => rfl, fun z => (z rfl).elim, kids_nil, rfl, id, fun x => ⟨.inl, fun q => q.elim id False.elim⟩⟩
 have HPut : Hid (Calls Tryz.prog 114 #[.pointer (some ⟨w.heap.size, 0, none⟩), .agg #[.string k, .slice v.a v.n v.c]] U2 fun e w1 => e = .returned (.tuple #[.slice none 0 0, .bool false]) ∧ w1.cell? ⟨p, 1, none⟩ = some (.int .i64 0) ∧ ∃ W, (Instr.storeAt 3 (.pointer (some ⟨p, 1, none⟩)) (.int .i64 1)).run Tryz.prog w1 = .ok () W ∧ W.cell? ⟨p, 0, none⟩ = some (.pointer (some ⟨w.heap.size, 0, none⟩)) ∧ Hid (Calls Tryz.prog 115 #[.pointer (some ⟨w.heap.size, 0, none⟩)] W fun e w' => e = .returned (.bool false) ∧ w' = W) ∧ Hid (TPut w M p [] F k v (.returned (.tuple #[.slice none 0 0, .bool false])) W)) := by
  refine (put_ 0 (k, v) st2 hN List.Pairwise.nil).mono fun e w1 he => ?_
  obtain ⟨e1, M1, F1, hk, hN1⟩ := he
  have hN1' : Nod M1 (0 + 1) 1 7 w.heap.size (ins k v []) F1 ∧ ∃ np, M1 w.heap.size = some np ∧ np.its.length = 1 := by
   obtain ⟨n, ls, Fk, h1, h2, h3, h4, h5, h6, h7, h8⟩ := hN1
   have hks := h4 rfl
   rw [hks] at h6
   obtain ⟨rfl, hno⟩ := h6.nil
   rw [weave_nil] at h7
   have hlen : n.its.length = 1 := by rw [← h7]; rfl
   refine ⟨⟨n, [], Fk, h1, by omega, by omega, h4, h5, by rw [hks]; exact hno, by rw [weave_nil]; exact h7, h8⟩, n, h1, hlen⟩
  obtain ⟨hN2, np, hnp, hnl⟩ := hN1'
  obtain ⟨c1, W, M2, F2, hW, hm⟩ := mid_of hpo1 p2 hk (hN2.wide (Nat.le_refl _) (by omega)) (Srt.ins List.Pairwise.nil k v) (ins_ne k v []) false rfl
  have hW' : (Instr.storeAt 3 (.pointer (some ⟨p, 1, none⟩)) (.int .i64 ((0 : Nat) + 1))).run Tryz.prog w1 = .ok () W := hW
  have hW2 : (Instr.storeAt 3 (.pointer (some ⟨p, 1, none⟩)) (.int .i64 1)).run Tryz.prog w1 = .ok () W := hW'
  refine ⟨e1, c1, W, hW2, cell_of hm.blk rfl, ?_, ?_⟩
  · obtain ⟨n2, ls, Fk, g1, g2, g3, g4, g5, g6, g7, _⟩ := hm.nod
    have hks := g4 rfl
    rw [hks] at g6
    obtain ⟨rfl, _⟩ := g6.nil
    rw [weave_nil] at g7
    have hlen : n2.its.length = 1 := by rw [← g7]; rfl
    have := hasTooMany_ hm.k.st g1
    rw [hlen] at this
    exact this
  · obtain ⟨n2, ls, Fk, g1, g2, g3, g4, g5, g6, g7, _⟩ := id hm.nod
    have hks := g4 rfl
    rw [hks] at g6
    obtain ⟨rfl, _⟩ := g6.nil
    rw [weave_nil] at g7
    have hlen : n2.its.length = 1 := by rw [← g7]; rfl
    obtain ⟨M', F', hk', ht'⟩ := hm.small g1 (by omega)
    have hsU := ex2.size
    refine ⟨rfl, M', F', ⟨hk'.st, ex2.trans hk'.ext, fun x hx hno => ?_, fun x hx => ?_⟩, ht'⟩
    · rw [hk'.rest x (by omega) (by omega), upd_other _ _ (by omega)]
    · rcases hk'.new x hx with g | g
      · exact .inr (by omega)
      · exact .inr (by omega)
 have hal : Hid (∀ (a : Act) (o : Oper), o.op = .alloc 204 → (execOp a.eval o).run Tryz.prog w = .ok (.value (.pointer (some ⟨w.heap.size, 0, none⟩))) U1) := fun a o h => by rw [hU1]; exact alloc_vn w a o h
 have c0 := cell_of (o := 0) hp rfl
 have c2 := cell_of (o := 0) p2 rfl
 have w1 := wraps_i64 1 (by omega) (by omega)
 clear hs hpo hp hpl hU1 b1 r1 p1 s1 s2 hpo1 hU2 p2 st2 ex2 hN
 go_enter Tryz.func79, Tryz.ntmps79
 go_wp2_with (first
  | (refine wpList_exec rfl (hal.out _ _ rfl) ?_)
  | (refine wpList_store_at rfl _ _ _ rfl _ _ rfl rfl hst ?_)
  | (go_at_call 114; refine HPut.out.mono ?_; rintro e w2 ⟨rfl, d1, W, hst2, d2, HT, HZ⟩)
  | (refine wpList_store_at rfl _ _ _ rfl _ _ rfl rfl hst2 ?_)
  | (go_at_call 115; refine HT.out.mono ?_; rintro e w5 ⟨rfl, rfl⟩)
  | fail)
 go_ret2
 exact HZ.out
theorem tput_ {w : World} {M : Nat → Option Nd} {p : Nat} {l : List It} {F : Nat → Prop} (hs : Store w M) (ht : TreeAt w M p l F) (hl : l.length ≤ 1000000) (k : ByteArray) (v : Vl) :
 Calls Tryz.prog 79 #[.pointer (some ⟨p, 0, none⟩), .string k, .slice v.a v.n v.c] w (TPut w M p l F k v) := by
 rcases ht.root with ⟨rfl, _, hp⟩ | ⟨h, q, _, hN, hp⟩
 · exact tput_new hs ht.own hp k v
 · exact tput_old hs ht.srt ht.own hN hp hl k v
end Go.Proofs.YtalmanfjiblhcaaGreat
namespace Go.Proofs.YtalmanfjiblhcaaGreat
open Go.RowKit Go.Sort
theorem empty_store (w : World) : Store w (fun _ => none) :=
 ⟨fun _ _ e => (by cases e), fun _ _ e => (by cases e), fun _ _ e => (by cases e), fun _ _ _ _ _ e => (by cases e), fun _ _ _ _ _ e => (by cases e)⟩
structure Zn where
 w : World
 S : Nat → Prop
 lt : ∀ k, S k → k < w.heap.size
def Zn.all (w : World) : Zn := ⟨w, fun k => k < w.heap.size, fun _ h => h⟩
structure Since (Z : Zn) (w : World) : Prop where
 os : w.os = Z.w.os
 tape : w.tape = Z.w.tape
 output : w.output = Z.w.output
 size : Z.w.heap.size ≤ w.heap.size
 block : ∀ k, Z.S k → w.heap[k]? = Z.w.heap[k]?
theorem Since.on {Z : Zn} {w w' : World} (h : Since Z w) (hb : Below w.heap.size w w') : Since Z w' :=
 ⟨hb.os.trans h.os, hb.tape.trans h.tape, hb.output.trans h.output, Nat.le_trans h.size hb.size, fun k hk => (hb.block k (by have := Z.lt k hk; have := h.size; omega)).trans (h.block k hk)⟩
theorem Since.new {Z : Zn} {w : World} (h : Since Z w) {k : Nat} (hk : w.heap.size ≤ k) : ¬ Z.S k := fun q => by
 have := Z.lt k q; have := h.size; omega
theorem Since.refl (Z : Zn) : Since Z Z.w := ⟨rfl, rfl, rfl, Nat.le_refl _, fun _ _ => rfl⟩
structure Works (W : Zn) (w : World) (M : Nat → Option Nd) : Prop where
 st : Store w M
 below : Since W w
 mine : ∀ k, Own M k → ¬ W.S k
theorem Works.start (W : World) : Works (Zn.all W) W (fun _ => none) := ⟨empty_store W, Since.refl _, fun _ ⟨_, _, e, _⟩ => by cases e⟩
theorem Works.on {W : Zn} {w w' : World} {M : Nat → Option Nd} (h : Works W w M) (hb : Below w.heap.size w w') : Works W w' M := ⟨h.st.on hb, h.below.on hb, h.mine⟩
theorem Works.kept {W : Zn} {w w' : World} {M M' : Nat → Option Nd} {F F' : Nat → Prop} {p : Nat} (h : Works W w M) (hp : ¬ W.S p) (hk : KeptT M M' F F' p w w') : Works W w' M' := by
 have hs := h.below.size
 refine ⟨hk.st, ⟨hk.ext.os.trans h.below.os, hk.ext.tape.trans h.below.tape, hk.ext.output.trans h.below.output, Nat.le_trans hs hk.ext.size, fun k hk' => ?_⟩, fun k hk' => ?_⟩
 · refine (hk.ext.block k (by have := W.lt k hk'; omega) fun q => ?_).trans (h.below.block k hk')
   rcases q with q | rfl
   · exact h.mine k q hk'
   · exact hp hk'
 · rcases hk.ext.new k (.inl hk') with (q | rfl) | q
   · exact h.mine k q
   · exact hp
   · exact h.below.new q
theorem KeptT.stays {M M' : Nat → Option Nd} {F F' : Nat → Prop} {p : Nat} {w w' : World} (hk : KeptT M M' F F' p w w') {b : Nat} {o : Obj} (hb : w.heap[b]? = some o) (hn : ¬ Own M b) (hp : b ≠ p) : w'.heap[b]? = some o ∧ ¬ Own M' b := by
 have hlt := blk_lt hb
 refine ⟨(hk.ext.block b hlt fun q => q.elim hn hp).trans hb, fun q => ?_⟩
 rcases hk.ext.new b (.inl q) with (q | q) | q
 · exact hn q
 · exact hp q
 · omega
def Alien (w w' : World) : Prop := ∀ (b : Nat) (c : Array Value) (t : TypeId), w.heap[b]? = some (.cells c t (0, 0)) → t ≠ 204 → t ≠ 200 → t ≠ 196 → t ≠ 215 → w'.heap[b]? = some (.cells c t (0, 0))
theorem Store.alien {w : World} {M : Nat → Option Nd} (h : Store w M) {b : Nat} {c : Array Value} {t : TypeId} (hb : w.heap[b]? = some (.cells c t (0, 0))) (h1 : t ≠ 204) (h2 : t ≠ 200) (h3 : t ≠ 196) : ¬ Own M b := by
 rintro ⟨q, n, hq, rfl | e | e⟩
 · exact kind_ne hb (h.blk _ _ hq) h1 rfl
 · obtain ⟨c2, k2⟩ := row_block (h.its q n hq) e
   exact kind_ne hb k2 h2 rfl
 · obtain ⟨c2, k2⟩ := row_block (h.ks q n hq) e
   exact kind_ne hb k2 h3 rfl
theorem KeptT.alien {M M' : Nat → Option Nd} {F F' : Nat → Prop} {p : Nat} {w w' : World} {l : List It} {G : Nat → Prop} (hk : KeptT M M' F F' p w w') (hs : Store w M) (ht : TreeAt w M p l G) : Alien w w' := fun b c t hb h1 h2 h3 h4 => by
 refine (hk.stays hb (hs.alien hb h1 h2 h3) fun e => ?_).1
 subst e
 rcases ht.root with ⟨_, _, e⟩ | ⟨_, _, _, _, e⟩
 · exact kind_ne hb e h4 rfl
 · exact kind_ne hb e h4 rfl
end Go.Proofs.YtalmanfjiblhcaaGreat
namespace Go.Proofs.YtalmanfjiblhcaaGreat
open Go.RowKit Go.Sort
theorem size_list (s : ByteArray) : s.size = s.data.toList.length := Lib.size_eq s
theorem ba_ext {s t : ByteArray} (h : s.data.toList = t.data.toList) : s = t := toList_inj (by rw [Lib.toList_data, Lib.toList_data]; exact h)
def bs (xs : List Nat) : ByteArray := ⟨(xs.map fun n => UInt8.ofNat n).toArray⟩
def ns (l : List UInt8) : List Nat := l.map UInt8.toNat
theorem bs_ns (l : List UInt8) : bs (ns l) = ⟨l.toArray⟩ := by
 unfold bs ns; rw [List.map_map]
 have : (fun n => UInt8.ofNat n) ∘ UInt8.toNat = id := by funext x; simp
 rw [this, List.map_id]
theorem ns_length (l : List UInt8) : (ns l).length = l.length := by simp [ns]
theorem ns_append (a b : List UInt8) : ns a ++ ns b = ns (a ++ b) := by simp [ns]
def vals (xs : List Nat) : List Value := xs.map fun (x : Nat) => .int .u8 (x : Int)
theorem vals_len (xs : List Nat) : (vals xs).length = xs.length := by simp [vals]
theorem vals_append (xs ys : List Nat) : vals xs ++ vals ys = vals (xs ++ ys) := by simp [vals]
theorem vals_one (xs : List Nat) : ∀ u ∈ vals xs, u.oneCell' = true := by
 intro u hu
 obtain ⟨x, _, rfl⟩ := List.mem_map.1 hu
 rfl
theorem vals_get (xs : List Nat) (i : Nat) (h : i < xs.length) : (vals xs)[i]? = some (.int .u8 (xs.getD i 0 : Nat)) := by
 simp [vals, List.getElem?_map, List.getElem?_eq_getElem h, List.getD_eq_getElem?_getD]
def BytesIn (w : World) (a : Option Addr) (xs : List Nat) : Prop :=
 ∀ i, i < xs.length → ∃ b o, a = some ⟨b, o, none⟩ ∧ w.cell? ⟨b, o + i, none⟩ = some (.int .u8 (xs.getD i 0 : Nat))
theorem BytesIn.on {w w' : World} {a : Option Addr} {xs : List Nat} (h : BytesIn w a xs) (hb : Below w.heap.size w w') : BytesIn w' a xs := by
 intro i hi
 obtain ⟨b, o, e, h1⟩ := h i hi
 exact ⟨b, o, e, (hb.cell (block_lt_of_cell h1)).trans h1⟩
theorem bytesIn_nil (w : World) (a : Option Addr) : BytesIn w a [] := fun i hi => by simp at hi
theorem BytesIn.news {w : World} {ad : Addr} {xs : List Nat} (h : BytesIn w (some ad) xs) : ∀ j u, (vals xs)[j]? = some u → w.cell? (ad.add j) = some u := by
 intro j u hj
 have hl : j < xs.length := by
  rcases Nat.lt_or_ge j xs.length with h | h
  · exact h
  · rw [List.getElem?_eq_none (by rw [vals_len]; exact h)] at hj; cases hj
 obtain ⟨b, o, e, h1⟩ := h j hl
 cases e
 rw [vals_get xs j hl] at hj
 cases hj
 rw [Addr.add_lit]
 exact h1
def OwnB (w : World) (base : Nat) (v : Value) (xs : List Nat) : Prop := w.ownsRow base 5 1 v xs.length (vals xs)
theorem OwnB.bytes {w : World} {base : Nat} {v : Value} {xs : List Nat} (h : OwnB w base v xs) : ∃ a c, v = .slice a xs.length c ∧ BytesIn w a xs ∧ (a = none → c = 0) := by
 rcases h.2 with ⟨rfl, e⟩ | ⟨g, cap, cur, rfl, _, _, _, _, _, _⟩
 · have : xs = [] := List.eq_nil_of_length_eq_zero e
   subst this
   exact ⟨none, 0, rfl, bytesIn_nil _ _, fun _ => rfl⟩
 · refine ⟨_, _, rfl, fun i hi => ⟨g, 0, rfl, ?_⟩, fun hh => by cases hh⟩
   have := World.ownsRow.cellAt h i (by omega)
   rw [Nat.zero_add, this, vals_get xs i hi]
theorem OwnB.cells {w : World} {base g n c : Nat} {xs : List Nat} (h : OwnB w base (.slice (some ⟨g, 0, none⟩) n c) xs) : n = xs.length ∧ BytesIn w (some ⟨g, 0, none⟩) xs ∧ base ≤ g ∧ g < w.heap.size := by
 obtain ⟨a, c', e, hb, _⟩ := h.bytes
 simp only [Value.slice.injEq] at e
 obtain ⟨rfl, rfl, rfl⟩ := e
 obtain ⟨h1, h2⟩ := World.ownsRow.lt h g rfl
 exact ⟨rfl, hb, h1, h2⟩
theorem OwnB.on {w w' : World} {base : Nat} {v : Value} {xs : List Nat} (h : OwnB w base v xs) (hb : Below w.heap.size w w') : OwnB w' base v xs := by
 refine ⟨h.1, ?_⟩
 rcases h.2 with h1 | ⟨g, cap, cur, e, h1, h2, h3, h4, h5, h6⟩
 · exact .inl h1
 · have hlt : g < w.heap.size := by
    rcases Nat.lt_or_ge g w.heap.size with hl | hl
    · exact hl
    · rw [Array.getElem?_eq_none hl] at h2; cases h2
   exact .inr ⟨g, cap, cur, e, h1, (hb.block g hlt).trans h2, h3, h4, h5, h6⟩
theorem OwnB.lower {w : World} {base base' : Nat} {v : Value} {xs : List Nat} (h : OwnB w base v xs) (hb : base' ≤ base) : OwnB w base' v xs := by
 refine ⟨h.1, ?_⟩
 rcases h.2 with h1 | ⟨g, cap, cur, e, h1, h2, h3, h4, h5, h6⟩
 · exact .inl h1
 · exact .inr ⟨g, cap, cur, e, Nat.le_trans hb h1, h2, h3, h4, h5, h6⟩
theorem infoB : (Tryz.prog.info? 5).map (fun i => (i.zero, i.size, i.bytes)) = some (some (.int .u8 0), 1, 1) := by kernel_rfl
theorem conv_ (w : World) (a : Option Addr) (n c : Nat) (xs : List Nat) (hn : n = xs.length) (h : BytesIn w a xs) : (convert 79 9 (.slice a n c)).run Tryz.prog w = .ok (.string (bs xs)) w := by
 have e : strOfNums (xs.map fun (x : Nat) => (x : Int)) = bs xs := by simp [strOfNums, bs, Function.comp_def]
 subst hn
 cases a with
 | none =>
   have hx : xs = [] := by
    cases xs with
    | nil => rfl
    | cons y ys => obtain ⟨_, _, hh, _⟩ := h 0 (by simp); cases hh
   subst hx
   rw [run_convert_bytes_nil w 79 5 Tryz.underlying79 Tryz.underlying5 _ _ 9 Tryz.underlying9]
   rfl
 | some ad =>
   by_cases hx : xs = []
   · subst hx
     rw [run_convert_bytes_string w 79 9 5 _ _ _ Tryz.underlying79 Tryz.underlying5 Tryz.underlying9]
     rw [run_bytesToString w ad _ c [] (by rfl)]
     rfl
   · obtain ⟨b, o, hh, _⟩ := h 0 (by cases xs with | nil => exact absurd rfl hx | cons y ys => simp)
     cases hh
     rw [run_convert_bytes_arg w 79 5 Tryz.underlying79 Tryz.underlying5 b o _ c (xs.map fun (x : Nat) => (x : Int)) (by simp) (fun i hi => by
      obtain ⟨b', o', hh, h1⟩ := h i hi
      cases hh
      rw [h1]
      simp [List.getD_eq_getElem?_getD, List.getElem?_map, List.getElem?_eq_getElem hi]) 9 Tryz.underlying9, e]
theorem bytes_none {w : World} {xs : List Nat} (h : BytesIn w none xs) : xs = [] := by
 cases xs with
 | nil => rfl
 | cons y ys => obtain ⟨_, _, hh, _⟩ := h 0 (by simp); cases hh
theorem ownB_join {w : World} {base n m : Nat} {v : Value} {xs ys : List Nat} (hn : xs.length = n) (hm : ys.length = m) (h : w.ownsRow base 5 1 v (n + m) (vals xs ++ vals ys)) : OwnB w base v (xs ++ ys) := by
 subst hn hm
 unfold OwnB
 rw [← vals_append, List.length_append]
 exact h
theorem ownB_nil (w : World) (base : Nat) : OwnB w base (.slice none 0 0) [] := World.ownsRow_nil w base 5 1
theorem below_grow {N : Nat} {w0 w w' : World} {v : Value} {es : List Nat} (hN : N ≤ w0.heap.size) (hb : Below N w0 w) (hown : OwnB w N v es) (hg : w.grownBy w' v.ownBlock) : Below N w0 w' :=
 hb.grown hg (Nat.le_trans hN hb.size) (fun k hk => (World.ownsRow.lt hown k hk).1)
theorem below_stepN {N : Nat} {W w w' : World} (hN : N ≤ W.heap.size) (h : Below N W w) (hb : Below w.heap.size w w') : Below N W w' := h.trans (hb.mono (Nat.le_trans hN h.size))
theorem wp_append_bytes (w : World) {o : Oper} {act : Act} {K : Act → World → Prop} {Q : Exit → Act → World → Prop} (s x : Operand)
 (ho : o.op = .call { callee := .builtin .append, args := #[s, x], argTypes := #[79, 79] }) (base : Nat) (v : Value) (es ys : List Nat) (hs : act.eval s = v) (hown : OwnB w base v es)
 (a : Option Addr) (m c' : Nat) (hx : act.eval x = .slice a m c') (hm : ys.length = m) (hnil : a = none → c' = 0) (hin : BytesIn w a ys) (hbytes : es.length + ys.length ≤ 140737488355328) (hbase : base ≤ w.heap.size)
 (hK : ∀ v' w', OwnB w' base v' (es ++ ys) → w.grownBy w' v.ownBlock → K (act.put o.dst v') w') : o.wp Tryz.prog act w K Q := by
 obtain ⟨i0, hi, hz0, hz1, hz2⟩ := info_parts infoB
 subst hm
 cases a with
 | none =>
   obtain rfl := bytes_none hin
   obtain rfl := hnil rfl
   have hrun := run_append_owned_none (P := Tryz.prog) w base 79 o.type 5 i0 1 Tryz.underlying79 hi _ _ _ hown
   unfold Oper.wp
   simp only [List.length_nil] at hx
   simp [execOp, ho, resolve, invoke, builtin, hs, hx, hrun, Result.andThen]
   have := hK v w (by rw [List.append_nil]; exact hown) ⟨rfl, rfl, rfl, Nat.le_refl _, fun _ _ _ => rfl⟩
   exact this
 | some ad =>
   obtain ⟨v', w', hr, h2, h3, _⟩ := run_append_own_at (P := Tryz.prog) w base 79 o.type 5 i0 (.int .u8 0) 1 1 Tryz.underlying79 hi hz0 hz1 hz2 rfl (by decide) v es.length (vals es) hown ad ys.length c' (vals ys) (by rw [vals_len]; omega) hin.news (vals_one ys) (by unfold maxLen; omega) (by omega) hbase
   unfold Oper.wp execOp
   simp only [ho, resolve, invoke, builtin, Sem.run_bind, Sem.run_pure, Result.andThen_ok, List.map_toArray, List.map_cons, List.map_nil, hs, hx, hr]
   exact hK v' w' (ownB_join rfl rfl h2) h3
theorem wpList_append_bytes (w : World) {ops : Array Oper} {rest : List Oper} {o : Oper} {act : Act} {Q : Exit → Act → World → Prop} (hgd : o.guard = none) (s x : Operand)
 (ho : o.op = .call { callee := .builtin .append, args := #[s, x], argTypes := #[79, 79] }) (base : Nat) (v : Value) (es ys : List Nat) (hs : act.eval s = v) (hown : OwnB w base v es)
 (a : Option Addr) (m c' : Nat) (hx : act.eval x = .slice a m c') (hm : ys.length = m) (hnil : a = none → c' = 0) (hin : BytesIn w a ys) (hbytes : es.length + ys.length ≤ 140737488355328) (hbase : base ≤ w.heap.size)
 (hK : ∀ v' w', OwnB w' base v' (es ++ ys) → w.grownBy w' v.ownBlock → wpList Tryz.prog ops Q rest (act.put o.dst v') w') : wpList Tryz.prog ops Q (o :: rest) act w :=
 wpList_plain hgd fun _ hK' => wp_append_bytes w s x ho base v es ys hs hown a m c' hx hm hnil hin hbytes hbase fun v' w' h1 h2 => hK' _ _ (hK v' w' h1 h2)
def ApB (w : World) (base : Nat) (v : Value) (xs : List Nat) : Prop :=
 OwnB w base v xs ∨ ∃ g, v = .slice (some ⟨g, 0, none⟩) xs.length xs.length ∧ base ≤ g ∧ BytesIn w (some ⟨g, 0, none⟩) xs ∧ 0 < xs.length
theorem ApB.bytes {w : World} {base : Nat} {v : Value} {xs : List Nat} (h : ApB w base v xs) : ∃ a c, v = .slice a xs.length c ∧ BytesIn w a xs := by
 rcases h with h | ⟨g, rfl, _, h2, _⟩
 · obtain ⟨a, c, e, h1, _⟩ := h.bytes
   exact ⟨a, c, e, h1⟩
 · exact ⟨_, _, rfl, h2⟩
theorem one_in {w : World} {B c : Nat} (h : w.cell? ⟨B, 0, none⟩ = some (.int .u8 (c : Int))) : BytesIn w (some ⟨B, 0, none⟩) [c] := by
 intro i hi
 simp at hi
 subst hi
 exact ⟨B, 0, rfl, h⟩
theorem ApB.on {w w' : World} {base : Nat} {v : Value} {xs : List Nat} (h : ApB w base v xs) (hb : Below w.heap.size w w') : ApB w' base v xs := by
 rcases h with h | ⟨g, e, h1, h2, h3⟩
 · exact .inl (h.on hb)
 · exact .inr ⟨g, e, h1, h2.on hb, h3⟩
theorem wpList_append_one (N : Nat) (w w0 : World) {ops : Array Oper} {rest : List Oper} {o : Oper} {act : Act} {Q : Exit → Act → World → Prop} (hgd : o.guard = none) (s x : Operand)
 (ho : o.op = .call { callee := .builtin .append, args := #[s, x], argTypes := #[79, 79] }) (v : Value) (es : List Nat) (hs : act.eval s = v) (hap : ApB w N v es)
 (B c : Nat) (hx : act.eval x = .slice (some ⟨B, 0, none⟩) 1 1) (hc : w.cell? ⟨B, 0, none⟩ = some (.int .u8 (c : Int))) (hlen : es.length + 1 ≤ 140737488355328) (hN : N ≤ w0.heap.size) (hb : Below N w0 w)
 (hK : ∀ v' w', OwnB w' N v' (es ++ [c]) → Below N w0 w' → wpList Tryz.prog ops Q rest (act.put o.dst v') w') : wpList Tryz.prog ops Q (o :: rest) act w := by
 rcases hap with hown | ⟨g, rfl, hg, hin, hpos⟩
 · exact wpList_append_bytes w hgd s x ho N v es [c] hs hown (some ⟨B, 0, none⟩) 1 1 hx rfl (fun h => by cases h) (one_in hc) hlen (Nat.le_trans hN hb.size) fun v' w' h1 h2 => hK v' w' h1 (below_grow hN hb hown h2)
 · obtain ⟨i0, hi, hz0, hz1, hz2⟩ := info_parts infoB
   refine wpList_plain hgd fun _ hK' => ?_
   have hge := grownCap_ge w (es.length + 1) es.length 5
   have hcm : grownCap w (es.length + 1) es.length 5 ≤ maxLen := grownCap_le_maxLen w _ _ _ (by unfold maxLen; omega)
   have hr := run_append_grow (P := Tryz.prog) w 79 o.type 5 i0 (.int .u8 0) Tryz.underlying79 hi hz0 ⟨g, 0, none⟩ es.length es.length (vals es) (by rw [vals_len, hz1]; omega) hin.news ⟨B, 0, none⟩ 1 1 (vals [c]) (by rw [hz1]; rfl) (one_in hc).news (by omega) (by omega) (by rw [hz2]; exact growslice_fits (by omega) (by omega))
   unfold Oper.wp execOp
   simp only [ho, resolve, invoke, builtin, Sem.run_bind, Sem.run_pure, Result.andThen_ok, List.map_toArray, List.map_cons, List.map_nil, hs, hx, hr]
   refine hK' _ _ (hK _ _ ?_ ?_)
   · refine ownB_join rfl rfl ⟨by rw [List.length_append, vals_len, vals_len]; simp, .inr ⟨w.heap.size, _, _, rfl, Nat.le_trans hN hb.size, heap_alloc_new w.drew _, hge, hcm, ?_, ?_⟩⟩
     · simp only [Array.size_append, List.size_toArray, size_zeroCells, vals_len]
       simp [Value.cells]; omega
     · have e : (es.length + [c].length) * 1 = (vals es ++ vals [c]).length := by rw [List.length_append, vals_len, vals_len]; simp
       rw [Array.toList_append, Array.toList_append, e]
       exact List.take_left
   · exact (hb.drew).alloc (Nat.le_trans hN hb.size) _
end Go.Proofs.YtalmanfjiblhcaaGreat
