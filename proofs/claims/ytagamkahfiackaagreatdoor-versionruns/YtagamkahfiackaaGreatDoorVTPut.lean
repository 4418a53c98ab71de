/- Tree.Put. -/
import Derived.Test.YtagamkahfiackaaGreatDoorVTree
namespace Go.Proofs.YtagamkahfiackaaGreatDoor
open Go.RowKit Go.Sort

/-- A tree in the midst of Put: its root may have one item too many. -/
structure Mid (w : World) (M : Nat → Option Nd) (F : Nat → Prop) (p : Nat) (W : World) (M1 : Nat → Option Nd) (F1 : Nat → Prop) (h q : Nat) (l : List It) : Prop where
  k : KeptT M M1 F F1 p w W
  nod : Nod M1 (h + 1) 1 8 q l F1
  blk : W.heap[p]? = some (.cells #[.pointer (some ⟨q, 0, none⟩), .int .i64 l.length] 84 (0, 0))
  own : ¬ Own M1 p
  lt : p < w.heap.size
  srt : Srt l
  ne : l ≠ []
theorem Mid.small {w : World} {M : Nat → Option Nd} {F : Nat → Prop} {p : Nat} {W : World} {M1 : Nat → Option Nd} {F1 : Nat → Prop} {h q : Nat} {l : List It} (m : Mid w M F p W M1 F1 h q l) {np : Nd} (hn : M1 q = some np) (h7 : np.its.length ≤ 7) : ∃ M' F', KeptT M M' F F' p w W ∧ TreeAt W M' p l F' := by
  refine ⟨M1, F1, m.k, m.srt, m.own, .inr ⟨h, q, m.ne, ?_, m.blk⟩⟩
  obtain ⟨n, ls, Fk, h1, h2, h3, h4⟩ := m.nod
  rw [hn] at h1; cases h1
  exact ⟨np, ls, Fk, hn, h2, h7, h4⟩
theorem cell_bound {w : World} {k o : Nat} {v : Value} (h : w.cell? ⟨k, o, none⟩ = some v) : k < w.heap.size := block_lt_of_cell h
theorem store_one {w : World} {q o : Nat} {v u : Value} {t : TypeId} (hc : w.cell? ⟨q, o, none⟩ = some v) (hf : w.frozen? ⟨q, o, none⟩ = false) (hs : (sizeOf t).run Tryz.prog w = .ok 1 w) (h1 : u.cells = #[u]) (h2 : u.oneCell' = true) : (Instr.storeAt t (.pointer (some ⟨q, o, none⟩)) u).run Tryz.prog w = .ok () (w.setCell ⟨q, o, none⟩ u) := by
  simp only [Instr.storeAt, Instr.sureAddr, Sem.run_bind, Sem.run_pure, Result.andThen]
  simp [storeVar, hs, h1, Result.andThen, storeCells, run_store _ _ _ _ _ h2, Addr.add_lit, hc, hf]
/-- A new root above the old one, which is split. -/
theorem Mid.big {w : World} {M : Nat → Option Nd} {F : Nat → Prop} {p : Nat} {W : World} {M1 : Nat → Option Nd} {F1 : Nat → Prop} {h q : Nat} {l : List It} (m : Mid w M F p W M1 F1 h q l) {np : Nd} (hn : M1 q = some np) (h8 : 7 < np.its.length) :
    ∃ U1 U2 U3 r, (∀ (a : Act) (o : Oper) (z : Operand), o.op = .buildSlice 101 1 #[(0, z)] → a.eval z = .pointer (some ⟨q, 0, none⟩) → (execOp a.eval o).run Tryz.prog W = .ok (.value (.slice (some ⟨W.heap.size, 0, none⟩) 1 1)) U1) ∧
      (∀ (a : Act) (o : Oper) (y : Operand), o.op = .box 103 y → a.eval y = .agg #[.slice none 0 0, .slice (some ⟨W.heap.size, 0, none⟩) 1 1] → (execOp a.eval o).run Tryz.prog U1 = .ok (.value (.pointer (some ⟨r, 0, none⟩))) U2) ∧
      (Instr.storeAt 82 (.pointer (some ⟨p, 0, none⟩)) (.pointer (some ⟨r, 0, none⟩))).run Tryz.prog U2 = .ok () U3 ∧ U3.cell? ⟨p, 0, none⟩ = some (.pointer (some ⟨r, 0, none⟩)) ∧
      Calls Tryz.prog 52 #[.pointer (some ⟨r, 0, none⟩), .int .i64 0] U3 fun e w' => e = .returned (.tuple #[]) ∧ ∃ M' F', KeptT M M' F F' p w w' ∧ TreeAt w' M' p l F' := by
  obtain ⟨U1, hU1⟩ : ∃ U, U = W.alloc (.cells (cP [q]).toArray 82) := ⟨_, rfl⟩
  obtain ⟨U2, hU2⟩ : ∃ U, U = U1.alloc (.cells #[.slice none 0 0, .slice (some ⟨W.heap.size, 0, none⟩) 1 1] 103) := ⟨_, rfl⟩
  have b1 : Below W.heap.size W U1 := by rw [hU1]; exact below_alloc _ _
  have b2 : Below W.heap.size W U2 := by rw [hU2]; exact below_step b1 (below_alloc _ _)
  have r1 : U1.heap[W.heap.size]? = some (.cells (cP [q]).toArray 82 (0, 0)) := by rw [hU1]; exact new_blk _ _
  have r2 : U2.heap[W.heap.size]? = some (.cells (cP [q]).toArray 82 (0, 0)) := by rw [hU2, Below.heap_alloc _ _ _ (blk_lt r1)]; exact r1
  have rr : U2.heap[U1.heap.size]? = some (.cells #[.slice none 0 0, .slice (some ⟨W.heap.size, 0, none⟩) 1 1] 103 (0, 0)) := by rw [hU2]; exact new_blk _ _
  have hpW : p < W.heap.size := blk_lt m.blk
  have hsz1 : W.heap.size < U1.heap.size := blk_lt r1
  have p2 : U2.heap[p]? = some (.cells #[.pointer (some ⟨q, 0, none⟩), .int .i64 l.length] 84 (0, 0)) := (b2.block p hpW).trans m.blk
  obtain ⟨s1, s2⟩ := m.k.st.add (r := U1.heap.size) (n := ⟨[], [q], .slice none 0 0, .slice (some ⟨W.heap.size, 0, none⟩) 1 1⟩) b2 (Nat.le_of_lt hsz1) rr (World.ownsRow_nil _ _ _ _) (row_mk r2 (Nat.le_refl 1) (by unfold maxLen; omega) (by simp [cP]) (by simp [cP])) (fun k e => by cases e) (fun k e => by
    simp only [Value.ownBlock, Option.some.injEq] at e
    omega)
  have hpo : ¬ Own (upd M1 U1.heap.size ⟨[], [q], .slice none 0 0, .slice (some ⟨W.heap.size, 0, none⟩) 1 1⟩) p := fun g => by
    rcases s2.new p g with g | g
    · exact m.own g
    · omega
  refine ⟨U1, U2, U2.setCell ⟨p, 0, none⟩ (.pointer (some ⟨U1.heap.size, 0, none⟩)), U1.heap.size, fun a o z h1 h2 => by rw [hU1]; exact run_buildP W q a o z h1 h2, fun a o y h1 h2 => by rw [hU2]; exact run_boxN U1 a o y _ _ h1 h2, store_one (cell_of p2 rfl) (frozen_of p2) (by kernel_rfl) rfl rfl, cell_of (heap_set (o := 0) _ p2) rfl, ?_⟩
  have s3 := s1.far (o := 0) (v := .pointer (some ⟨U1.heap.size, 0, none⟩)) hpo
  have hlt1 := m.nod.lt m.k.st
  have nod3 := m.nod.frame (M' := upd M1 U1.heap.size ⟨[], [q], .slice none 0 0, .slice (some ⟨W.heap.size, 0, none⟩) 1 1⟩) (fun k hk => upd_other _ _ (by have := hlt1 k hk; omega))
  have nod8 : Nod (upd M1 U1.heap.size ⟨[], [q], .slice none 0 0, .slice (some ⟨W.heap.size, 0, none⟩) 1 1⟩) (h + 1) 8 8 q l F1 := by
    obtain ⟨n, ls, Fk, h1, h2, h3, h4⟩ := nod3
    have : n = np := by
      rw [upd_other _ _ (by have := hlt1 q m.nod.self; omega), hn] at h1
      cases h1; rfl
    subst this
    exact ⟨n, ls, Fk, h1, h8, h3, h4⟩
  have hsp := split_ s3 (upd_self M1 U1.heap.size _) (I1 := []) (I2 := []) (K1 := []) (K2 := []) rfl rfl rfl rfl (by simp) kids_nil nod8 kids_nil (fun _ q => q.elim) (fun _ q => q.elim) (fun _ _ q => q) (fun q => q) (fun g => by have := hlt1 _ g; omega) (fun q => q)
  refine hsp.mono fun e w' hh => ?_
  obtain ⟨e3, M', F', hk2, hN2⟩ := hh
  have eW : Ext (fun k => Own M k ∨ k = p) (fun k => Own M' k ∨ k = p) w w' := (m.k.ext.trans (s2.widen p)).setp.trans (hk2.ext.widen p)
  have hsW := m.k.ext.size
  have hs2 := s2.size
  have hp3 : (U2.setCell ⟨p, 0, none⟩ (.pointer (some ⟨U1.heap.size, 0, none⟩))).heap[p]? = some (.cells #[.pointer (some ⟨U1.heap.size, 0, none⟩), .int .i64 l.length] 84 (0, 0)) := by
    have := heap_set (o := 0) (.pointer (some ⟨U1.heap.size, 0, none⟩)) p2
    simpa using this
  obtain ⟨p4, p5⟩ := hk2.ext.stays hp3 hpo
  refine ⟨e3, M', F', ⟨hk2.st, eW, fun k hk hno => ?_, fun k hk => ?_⟩, m.srt, p5, .inr ⟨h + 1, U1.heap.size, m.ne, ?_, p4⟩⟩
  · rw [hk2.rest k (by rw [size_set]; omega) ?_, upd_other _ _ (by omega)]
    · exact m.k.rest k hk hno
    · rintro (g | g | g | g)
      · omega
      · exact g
      · rcases m.k.new k g with r | r
        · exact hno r
        · omega
      · exact g
  · rcases hk2.new k hk with (g | g | g | g) | g
    · exact .inr (by omega)
    · exact g.elim
    · exact m.k.new k g
    · exact g.elim
    · rw [size_set] at g
      exact .inr (by omega)
  · exact (hN2.wide (by simp) (by simp)).same (by simp [pre, suf]) (fun x => Iff.rfl)
set_option maxRecDepth 100000 in
set_option maxHeartbeats 1000000 in
theorem tput_walk {w : World} {M : Nat → Option Nd} {F : Nat → Prop} {p h q : Nat} {l : List It} {u : Vl} {k : ByteArray} {v : Vl} {n0 : Nat} (b : Bool) (hn0 : n0 ≤ 1000000) (hp0 : w.cell? ⟨p, 0, none⟩ = some (.pointer (some ⟨q, 0, none⟩)))
    (HPut : Calls Tryz.prog 50 #[.pointer (some ⟨q, 0, none⟩), .agg #[.string k, .slice v.a v.n v.c]] w fun e w1 => e = .returned (.tuple #[.slice u.a u.n u.c, .bool b]) ∧ w1.cell? ⟨p, 1, none⟩ = some (.int .i64 n0) ∧ ∃ W M1 F1, (if b then W = w1 else (Instr.storeAt 3 (.pointer (some ⟨p, 1, none⟩)) (.int .i64 ((n0 : Int) + 1))).run Tryz.prog w1 = .ok () W) ∧ Mid w M F p W M1 F1 h q l) :
    Calls Tryz.prog 35 #[.pointer (some ⟨p, 0, none⟩), .string k, .slice v.a v.n v.c] w fun e w' => e = .returned (.tuple #[.slice u.a u.n u.c, .bool b]) ∧ ∃ M' F', KeptT M M' F F' p w w' ∧ TreeAt w' M' p l F' := by
  have HP := Lib.hid HPut
  clear HPut
  have w1 := wraps_i64 ((n0 : Int) + 1) (by omega) (by omega)
  cases b with
  | true =>
    go_enter Tryz.func35, Tryz.ntmps35
    go_wp2_with (first
      | (go_at_call 50; refine HP.out.mono ?_; rintro e w2 ⟨rfl, _, W, M1, F1, hW, hm⟩; obtain rfl : W = w2 := hW; have r0 := cell_of (o := 0) hm.blk rfl; have HM := Lib.hid hm; clear hm)
      | fail)
    obtain ⟨np, lsp, Fkp, hnp, _⟩ := id HM.out.nod
    have HN := Lib.hid hnp
    have HT := Lib.hid (hasTooMany_ HM.out.k.st hnp)
    by_cases h8 : 7 < np.its.length
    · have hd : decide (7 < np.its.length) = true := by simpa using h8
      rw [hd] at HT
      obtain ⟨U1, U2, U3, r, g1, g2, g3, g4, g5⟩ := HM.out.big HN.out h8
      have G1 := Lib.hid g1
      have G2 := Lib.hid g2
      have G5 := Lib.hid g5
      clear HM HN hd h8 g1 g2 g5 HP hp0 hnp
      go_wp2_with (first
        | (go_at_call 51; refine HT.out.mono ?_; rintro e w5 ⟨rfl, rfl⟩)
        | (refine wpList_exec rfl (G1.out _ _ _ rfl rfl) ?_)
        | (refine wpList_exec rfl (G2.out _ _ _ rfl rfl) ?_)
        | (refine wpList_store_at rfl _ _ _ rfl _ _ rfl rfl g3 ?_)
        | (go_at_call 52; refine G5.out.mono ?_; rintro e w6 ⟨rfl, hz⟩; have HZ := Lib.hid hz; clear hz)
        | fail)
      go_ret2
      exact ⟨rfl, HZ.out⟩
    · have hd : decide (7 < np.its.length) = false := by simpa using h8
      rw [hd] at HT
      have HZ := Lib.hid (HM.out.small HN.out (by omega))
      clear HM HN hd h8 HP hp0 hnp
      go_wp2_with (first
        | (go_at_call 51; refine HT.out.mono ?_; rintro e w5 ⟨rfl, rfl⟩)
        | fail)
      go_ret2
      exact ⟨rfl, HZ.out⟩
  | false =>
    go_enter Tryz.func35, Tryz.ntmps35
    go_wp2_with (first
      | (go_at_call 50; refine HP.out.mono ?_; rintro e w2 ⟨rfl, c1, W, M1, F1, hW, hm⟩; have hst : (Instr.storeAt 3 (.pointer (some ⟨p, 1, none⟩)) (.int .i64 ((n0 : Int) + 1))).run Tryz.prog w2 = .ok () W := hW; clear hW; have r0 := cell_of (o := 0) hm.blk rfl; have HM := Lib.hid hm; clear hm)
      | (refine wpList_store_at rfl _ _ _ rfl _ _ rfl rfl hst ?_)
      | fail)
    obtain ⟨np, lsp, Fkp, hnp, _⟩ := id HM.out.nod
    have HN := Lib.hid hnp
    have HT := Lib.hid (hasTooMany_ HM.out.k.st hnp)
    by_cases h8 : 7 < np.its.length
    · have hd : decide (7 < np.its.length) = true := by simpa using h8
      rw [hd] at HT
      obtain ⟨U1, U2, U3, r, g1, g2, g3, g4, g5⟩ := HM.out.big HN.out h8
      have G1 := Lib.hid g1
      have G2 := Lib.hid g2
      have G5 := Lib.hid g5
      clear HM HN hd h8 g1 g2 g5 HP hp0 hnp hst c1
      go_wp2_with (first
        | (go_at_call 51; refine HT.out.mono ?_; rintro e w5 ⟨rfl, rfl⟩)
        | (refine wpList_exec rfl (G1.out _ _ _ rfl rfl) ?_)
        | (refine wpList_exec rfl (G2.out _ _ _ rfl rfl) ?_)
        | (refine wpList_store_at rfl _ _ _ rfl _ _ rfl rfl g3 ?_)
        | (go_at_call 52; refine G5.out.mono ?_; rintro e w6 ⟨rfl, hz⟩; have HZ := Lib.hid hz; clear hz)
        | fail)
      go_ret2
      exact ⟨rfl, HZ.out⟩
    · have hd : decide (7 < np.its.length) = false := by simpa using h8
      rw [hd] at HT
      have HZ := Lib.hid (HM.out.small HN.out (by omega))
      clear HM HN hd h8 HP hp0 hnp hst c1
      go_wp2_with (first
        | (go_at_call 51; refine HT.out.mono ?_; rintro e w5 ⟨rfl, rfl⟩)
        | fail)
      go_ret2
      exact ⟨rfl, HZ.out⟩
end Go.Proofs.YtagamkahfiackaaGreatDoor
