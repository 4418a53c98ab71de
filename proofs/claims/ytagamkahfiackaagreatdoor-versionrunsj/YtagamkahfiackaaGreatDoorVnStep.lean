/- The law's step. -/
import Derived.Test.YtagamkahfiackaaGreatDoorVnStep0
namespace Go.Proofs.YtagamkahfiackaaGreatDoor
open Go.RowKit Go.Sort

attribute [local go_sem] Oper.semAt_some
theorem exec_conv {P : Program} {w w' : World} {a : Act} {o : Oper} {x : Operand} {t1 t2 : TypeId} {v v' : Value} (ho : o.op = .convert t1 t2 x) (hx : a.eval x = v) (hr : (convert t1 t2 v).run P w = .ok v' w') : (execOp a.eval o).run P w = .ok (.value v') w' := by
  unfold execOp
  simp only [ho, hx, hr, Sem.run_bind, Sem.run_pure, Result.andThen_ok]
/-- A row put, or that it is gone; with the errors. -/
def actV (x : ActV) : Value := .agg #[.int .i64 x.kd, .int .i64 x.tm, .string x.key, .string x.row, .bool x.gn]
def actO (x : ActV) : Obj := .cells #[.int .i64 x.kd, .int .i64 x.tm, .string x.key, .string x.row, .bool x.gn] 32 (0, 0)
/-- Cells of kinds other than a store's stay. -/
def Al (w w' : World) : Prop := ∀ (b : Nat) (c : Array Value) (t : TypeId), w.heap[b]? = some (.cells c t (0, 0)) → t ≠ 103 → t ≠ 99 → t ≠ 82 → t ≠ 84 → t ≠ 90 → w'.heap[b]? = some (.cells c t (0, 0))
theorem Al.trans {a b c : World} (h : Al a b) (k : Al b c) : Al a c := fun q d t hq h1 h2 h3 h4 h5 => k q d t (h q d t hq h1 h2 h3 h4 h5) h1 h2 h3 h4 h5
theorem Al.below {w w' : World} (h : Below w.heap.size w w') : Al w w' := (AlienV.below h).1
def StepTo (W w : World) (ps : Nat) (m : List Ct) (e : Ending) (w' : World) : Prop := ∃ lv' R' m', e = .returned (.tuple #[lv', .bool true]) ∧ Hid (BothAt W w' ps lv' R' m' ∧ nVer m' ≤ nVer m + 1 ∧ Al w w')
set_option maxRecDepth 100000 in
set_option maxHeartbeats 8000000 in
theorem step_ {W w : World} {ps : Nat} {lv : Value} {R : List RV} {m : List Ct} (h : BothAt W w ps lv R m) (hm : nVer m ≤ 500) (hg : ErrType W) (x : ActV) (hs : x.row.size ≤ 140737488355328) :
    Calls Tryz.prog 5 #[.pointer (some ⟨ps, 0, none⟩), lv, actV x] w (StepTo W w ps m) := by
  have hok := h.vn.ok
  have hlen : R.length = nVer m := RelR.len hok h.re
  have hWw := h.vn.below.size
  obtain ⟨P, hP⟩ : ∃ P : Ending → World → Prop, P = StepTo W w ps m := ⟨_, rfl⟩
  have HP : Hid (∀ w' lv' R' m', BothAt W w' ps lv' R' m' → nVer m' ≤ nVer m + 1 → Al w w' → P (.returned (.tuple #[lv', .bool true])) w') := fun w' lv' R' m' h1 h2 h3 => by rw [hP]; exact ⟨lv', R', m', rfl, h1, h2, h3⟩
  rw [← hP]
  clear hP
  obtain ⟨W1, hW1⟩ : ∃ W1, W1 = w.alloc (.cells #[.int .i64 x.kd, .int .i64 x.tm, .string x.key, .string x.row, .bool x.gn] 32) := ⟨_, rfl⟩
  have hB1 : Below w.heap.size w W1 := by rw [hW1]; exact below_alloc _ _
  have ho1 : W1.heap[w.heap.size]? = some (actO x) := by rw [hW1]; exact new_blk _ _
  have hlt1 : w.heap.size < W1.heap.size := by rw [hW1]; simp [go_sem]
  have h1 := h.on hB1
  have HCell : Hid (∀ V : World, V.heap[w.heap.size]? = some (actO x) → V.cell? ⟨w.heap.size, 0, none⟩ = some (.int .i64 x.kd) ∧ V.cell? ⟨w.heap.size, 1, none⟩ = some (.int .i64 x.tm) ∧ V.cell? ⟨w.heap.size, 2, none⟩ = some (.string x.key) ∧ V.cell? ⟨w.heap.size, 3, none⟩ = some (.string x.row) ∧ V.cell? ⟨w.heap.size, 4, none⟩ = some (.bool x.gn)) := fun V hV => ⟨cell_of hV rfl, cell_of hV rfl, cell_of hV rfl, cell_of hV rfl, cell_of hV rfl⟩
  obtain ⟨q, hq⟩ : ∃ q : Nat, (x.kd % 18446744073709551616) % 4 = (q : Int) := ⟨((x.kd % 18446744073709551616) % 4).toNat, by omega⟩
  have hq4 : q < 4 := by omega
  have hwa : IntKind.u64.wrap x.kd = x.kd % 18446744073709551616 := by rw [IntKind.wrap_u64]
  have ht1 : (x.kd % 18446744073709551616).tmod 4 = (q : Int) := by rw [Int.tmod_eq_emod_of_nonneg (by omega)]; exact hq
  have hwq := wraps_i64 (q : Int) (by omega) (by omega)
  have hwu : IntKind.u64.wrap (q : Int) = (q : Int) := by rw [IntKind.wrap_u64]; omega
  by_cases hk3 : q = 3
  · subst hk3
    obtain ⟨N, hN⟩ : ∃ N, N = (prS x.tm (m.map (·.1)) m).2 := ⟨_, rfl⟩
    have hps := prS_ok hok x.tm (m.map (·.1))
    have hre1 := h.re.prune hok x.tm
    have hlen1 : (pruneR R x.tm).length = nVer (prM x.tm m) := RelR.len hps.1 hre1
    have hNe : (R.length : Int) - (pruneR R x.tm).length = (N : Int) := by
      have := hps.2
      rw [← hN] at this
      rw [hlen, hlen1]
      show (nVer m : Int) - (nVer (prS x.tm (m.map (·.1)) m).1 : Int) = N
      omega
    have hle : nVer (prM x.tm m) ≤ nVer m + 1 := by have := hps.2; show nVer (prS x.tm (m.map (·.1)) m).1 ≤ _; omega
    have HPr : Hid (Calls Tryz.prog 17 #[.pointer (some ⟨ps, 0, none⟩), .int .i64 x.tm] W1 fun e w' => e = .returned (.int .i64 N) ∧ Hid (BothAt W w' ps lv R (prM x.tm m) ∨ True) ∧ Hid (VnAt W w' ps (prM x.tm m) ∧ RowRV w' W.heap.size lv R ∧ w'.heap[w.heap.size]? = some (actO x) ∧ Al w w')) := (vprune_ h1.vn (by omega) x.tm).mono fun e w' ⟨e1, e2⟩ => ⟨by rw [e1, hN], .inr trivial, e2.out.1, h1.ro.alien e2.out.2, e2.out.2.1 _ _ _ ho1 (by decide) (by decide) (by decide) (by decide) (by decide), (Al.below hB1).trans e2.out.2.1⟩
    have HRp : Hid (∀ V, RowRV V W.heap.size lv R → W.heap.size ≤ V.heap.size → Calls Tryz.prog 18 #[lv, .int .i64 x.tm] V fun e w' => ∃ v', e = .returned (.tuple #[v', .int .i64 N]) ∧ Hid (RowRV w' W.heap.size v' (pruneR R x.tm) ∧ Below V.heap.size V w')) := fun V hV hsz => (rprune_ hV (by omega) (h.re.asc hok) x.tm).mono fun e w' ⟨v', e1, e2, e3⟩ => ⟨v', by rw [e1, hNe], row_baseV e2 hsz, e3⟩
    have HFin : Hid (∀ w2 w3 v', Al w w2 → VnAt W w2 ps (prM x.tm m) → RowRV w3 W.heap.size v' (pruneR R x.tm) → Below w2.heap.size w2 w3 → P (.returned (.tuple #[v', .bool true])) w3) := fun w2 w3 v' a0 a1 a2 a3 => HP.out w3 v' _ _ ⟨a1.on a3, a2, hre1⟩ hle (a0.trans (Al.below a3))
    obtain ⟨c0, c1, c2, c3, c4⟩ := HCell.out W1 ho1
    have hNN : ((N : Int) == (N : Int)) = true := by simp
    clear h hok hlen hWw HP hm hg hs hB1 ho1 hlt1 h1 hN hps hre1 hlen1 hNe hle hq c2 c3 c4
    unfold actV
    go_enter Tryz.func5, Tryz.ntmps5
    go_upto_region 1 with fail
    rw [← hW1]
    clear hW1
    go_wp2_with (first
      | (go_at_call 17; refine HPr.out.mono ?_; rintro e w2 ⟨rfl, _, H2⟩; obtain ⟨d0, d1, d2, d3, d4⟩ := HCell.out w2 H2.out.2.2.1; clear HPr c0 c1)
      | (go_at_call 18; refine (HRp.out _ H2.out.2.1 H2.out.1.below.size).mono ?_; rintro e w3 ⟨v', rfl, H3⟩; have HF : Hid (P (.returned (.tuple #[v', .bool true])) w3) := HFin.out w2 w3 v' H2.out.2.2.2 H2.out.1 H3.out.1 H3.out.2)
      | fail)
    exact HF.out
  · have hk3' : ((q : Int) == 3) = false := beq_false_of_ne (by omega)
    have hk3'' : ¬ (q : Int) = 3 := by omega
    obtain ⟨X, G, cs, z, hcv, hbi, hblk, hsz, rfl, hbX⟩ := conv_blk W1 x.row
    have h2 := h1.on hbX
    have hoX : X.heap[w.heap.size]? = some (actO x) := (hbX.block _ hlt1).trans ho1
    obtain ⟨hputE, hputO⟩ := vput_all h2.vn (by omega) x.key x.tm (c := G) (s := x.row) (bsN_len _).symm hbi (fun e => by cases e) hs x.gn
    have hodd : ∀ V m', VnAt W V ps m' ∧ AlienV X V → BothAt W V ps lv R m ∧ m' = m ∨ True := fun _ _ _ => .inr trivial
    have hOA : ∀ V, AlienV X V → OddAt V W1.heap.size x.row.size w.heap.size (actO x) := fun V hV => ⟨⟨cs, hV.2 _ _ _ _ hblk (by simp), hsz⟩, hV.1 _ _ _ hoX (by decide) (by decide) (by decide) (by decide) (by decide)⟩
    have hroX : ∀ V, AlienV X V → RowRV V W.heap.size lv R := fun V hV => h2.ro.alien hV
    have hg0 : W.heap.size ≤ W1.heap.size := by omega
    have hbne : w.heap.size ≠ W1.heap.size := by omega
    have HErr : Hid (∀ V m', VnAt W V ps m' → ErrType V) := fun V m' hV => hg.on hV.below
    have HCv := Lib.hid hcv
    obtain ⟨c0, c1, c2, c3, c4⟩ := HCell.out W1 ho1
    obtain ⟨p0, p1, p2, p3, p4⟩ := HCell.out X hoX
    have hre := h.re
    by_cases hc : x.tm < 1 ∨ x.tm < lastC (chM x.key m)
    · have hp := hputE hc
      have HPut : Hid (Calls Tryz.prog 19 #[.pointer (some ⟨ps, 0, none⟩), .string x.key, .int .i64 x.tm, .slice (some ⟨W1.heap.size, 0, none⟩) x.row.size G, .bool x.gn] X fun e w' => e = .returned erA ∧ Hid (VnAt W w' ps m ∧ RowRV w' W.heap.size lv R ∧ OddAt w' W1.heap.size x.row.size w.heap.size (actO x) ∧ Al w w')) := hp.mono fun e w' ⟨e1, e2⟩ => ⟨e1, e2.out.1, hroX w' e2.out.2, hOA w' e2.out.2, (Al.below (below_step hB1 hbX)).trans e2.out.2.1⟩
      have HRef : Hid (∀ V, RowRV V W.heap.size lv R → Calls Tryz.prog 20 #[lv, .agg #[.string x.key, .int .i64 x.tm, .string x.row, .bool x.gn]] V fun e w' => e = .returned (.tuple #[lv, .int .i64 1]) ∧ Below V.heap.size V w') := fun V hV => (rput_all hV (by omega) hre hok ⟨x.key, ⟨x.tm, x.row, x.gn⟩⟩).1 hc
      have HRe := Lib.hid hre
      have HSet : Hid (∀ V j u, VnAt W V ps m ∧ RowRV V W.heap.size lv R ∧ OddAt V W1.heap.size x.row.size w.heap.size (actO x) ∧ Al w V → VnAt W (V.setCell ⟨W1.heap.size, j, none⟩ u) ps m ∧ RowRV (V.setCell ⟨W1.heap.size, j, none⟩ u) W.heap.size lv R ∧ OddAt (V.setCell ⟨W1.heap.size, j, none⟩ u) W1.heap.size x.row.size w.heap.size (actO x) ∧ Al w (V.setCell ⟨W1.heap.size, j, none⟩ u)) := fun V j u ⟨a1, a2, a3, a4⟩ => by
        have hbl := a1.below
        obtain ⟨cs9, h91, h92⟩ := a3.blk
        have hk : ∀ (b : Nat) (c : Array Value) (t : TypeId), V.heap[b]? = some (.cells c t (0, 0)) → (V.setCell ⟨W1.heap.size, j, none⟩ u).heap[b]? = V.heap[b]? := fun b c t hb => heap_far _ fun e => by
          subst e
          rw [h91] at hb
          simp at hb
        refine ⟨a1.keep0 hk ⟨hbl.os, hbl.tape, hbl.output, by rw [size_set]; exact hbl.size, fun k hk' => (heap_far _ (by omega)).trans (hbl.block k hk')⟩, row_keep a2 fun q hq => ?_, a3.set hbne u, fun b c t hb h1 h2 h3 h4 h5 => (heap_far _ (by have := blk_lt hb; omega)).trans (a4 b c t hb h1 h2 h3 h4 h5)⟩
        obtain ⟨cur, hc9⟩ := row_block a2 hq
        exact hk q cur _ hc9
      have HOd : Hid (∀ V j, OddAt V W1.heap.size x.row.size w.heap.size (actO x) → j < x.row.size → (∃ u, V.cell? ⟨W1.heap.size, j, none⟩ = some u) ∧ V.frozen? ⟨W1.heap.size, j, none⟩ = false) := fun V j hV hj => hV.cell hj
      have HNil : Hid (∀ V, Calls Tryz.prog 21 #[.nilIface] V fun e w' => e = .returned (.int .i64 0) ∧ Below V.heap.size V w') := fun V => num11_nil V
      have HNa : Hid (∀ V, ErrType V → Calls Tryz.prog 21 #[erA] V fun e w' => e = .returned (.int .i64 1) ∧ Below V.heap.size V w') := fun V hV => num_erA V hV
      have hsm : x.row.size ≤ 140737488355328 := hs
      clear h hok hlen hWw hm hg hs hB1 ho1 hlt1 h1 hq hcv hbi hblk hsz hbX h2 hoX hputE hputO hodd hOA hroX hg0 hbne hre hp hc
      obtain ⟨tag, htag⟩ : ∃ tag, tag = actO x := ⟨_, rfl⟩
      rw [← htag] at HPut HSet HOd HCell
      clear htag
      generalize x.row.size = n at *
      unfold actV
      go_enter Tryz.func5, Tryz.ntmps5
      go_upto_region 1 with fail
      rw [← hW1]
      clear hW1
      go_wp2_with (first
        | (refine wpList_exec rfl (exec_conv rfl rfl HCv.out) ?_; clear HCv c0 c1 c2 c3 c4)
        | (go_at_call 19; refine HPut.out.mono ?_; rintro e w2 ⟨rfl, H2⟩; clear HPut p0 p1 p2 p3 p4)
        | fail)
      go_loopg [13] n (fun kx v13 wr => ∃ j : Nat, v13 = .int .i64 j ∧ j ≤ n ∧ n - j ≤ kx ∧ Hid (VnAt W wr ps m ∧ RowRV wr W.heap.size lv R ∧ OddAt wr W1.heap.size n w.heap.size tag ∧ Al w wr))
      case atStart => exact ⟨0, rfl, Nat.zero_le _, by omega, H2⟩
      case round =>
        clear H2
        obtain ⟨j, rfl, hj, hkx, HV⟩ := hrel
        by_cases hlt9 : j < n
        · obtain ⟨⟨u, d1⟩, f1⟩ := HOd.out wr j HV.out.2.2.1 hlt9
          have hw1 := wraps_i64 ((j : Int) + 1) (by omega) (by omega)
          have hlt' : (j : Int) < (n : Int) := by omega
          have hiL := decide_eq_true hlt9
          have HV2 := Lib.hid (HSet.out wr j (.int .u8 33) HV.out)
          go_wp2_with fail
          go_roundg (n - (j + 1))
          case measure => omega
          case rel => exact ⟨j + 1, by rw [show (j : Int) + 1 = ((j + 1 : Nat) : Int) by omega], by omega, Nat.le_refl _, HV2⟩
        · obtain rfl : j = n := by omega
          have hge : ¬ (j : Int) < (j : Int) := by omega
          obtain ⟨d0, d1, d2, d3, d4⟩ := HCell.out wr HV.out.2.2.1.ob
          have HE := Lib.hid (HErr.out wr m HV.out.1)
          clear HSet HOd
          have H11 : ((1 : Int) == (1 : Int)) = true := by simp
          go_wp2_with (first
            | (go_at_call 20; refine (HRef.out _ HV.out.2.1).mono ?_; rintro e w3 ⟨rfl, hb3⟩; have HB3 := Lib.hid hb3; clear hb3)
            | (go_at_call 21; refine (HNa.out _ (HE.out.on HB3.out)).mono ?_; rintro e w4 ⟨rfl, hb4⟩; have HF : Hid (P (.returned (.tuple #[lv, .bool true])) w4) := HP.out w4 lv R m ⟨HV.out.1.on (below_step HB3.out hb4), row_on HV.out.2.1 (below_step HB3.out hb4), HRe.out⟩ (Nat.le_succ _) (HV.out.2.2.2.trans (Al.below (below_step HB3.out hb4))); clear hb4)
            | fail)
          exact HF.out
    · have h1t : 1 ≤ x.tm := by omega
      have hlt : lastC (chM x.key m) ≤ x.tm := by omega
      have hp := hputO h1t hlt
      obtain ⟨m', hm'⟩ : ∃ m', m' = putM x.key (noTx ⟨x.key, ⟨x.tm, x.row, x.gn⟩⟩).v m := ⟨_, rfl⟩
      rw [← hm'] at hp
      have hmle : nVer m' ≤ nVer m + 1 := by rw [hm']; exact nVer_put hok.srt _ _
      have HPut : Hid (Calls Tryz.prog 19 #[.pointer (some ⟨ps, 0, none⟩), .string x.key, .int .i64 x.tm, .slice (some ⟨W1.heap.size, 0, none⟩) x.row.size G, .bool x.gn] X fun e w' => e = .returned .nilIface ∧ Hid (VnAt W w' ps m' ∧ RowRV w' W.heap.size lv R ∧ OddAt w' W1.heap.size x.row.size w.heap.size (actO x) ∧ Al w w')) := hp.mono fun e w' ⟨e1, e2⟩ => ⟨e1, e2.out.1, hroX w' e2.out.2, hOA w' e2.out.2, (Al.below (below_step hB1 hbX)).trans e2.out.2.1⟩
      have HRef : Hid (∀ V, RowRV V W.heap.size lv R → W.heap.size ≤ V.heap.size → Calls Tryz.prog 20 #[lv, .agg #[.string x.key, .int .i64 x.tm, .string x.row, .bool x.gn]] V fun e w' => ∃ v', e = .returned (.tuple #[v', .int .i64 0]) ∧ Hid (RowRV w' W.heap.size v' (putR R (noTx ⟨x.key, ⟨x.tm, x.row, x.gn⟩⟩)) ∧ RelR (putR R (noTx ⟨x.key, ⟨x.tm, x.row, x.gn⟩⟩)) m' ∧ Below V.heap.size V w')) := fun V hV hsz => by
        have := (rput_all hV (by omega) hre hok ⟨x.key, ⟨x.tm, x.row, x.gn⟩⟩).2 h1t hlt
        rw [← hm'] at this
        exact this.mono fun e w' ⟨v', e1, e2⟩ => ⟨v', e1, row_baseV e2.out.1 hsz, e2.out.2⟩
      have HSet : Hid (∀ V j u, VnAt W V ps m' ∧ RowRV V W.heap.size lv R ∧ OddAt V W1.heap.size x.row.size w.heap.size (actO x) ∧ Al w V → VnAt W (V.setCell ⟨W1.heap.size, j, none⟩ u) ps m' ∧ RowRV (V.setCell ⟨W1.heap.size, j, none⟩ u) W.heap.size lv R ∧ OddAt (V.setCell ⟨W1.heap.size, j, none⟩ u) W1.heap.size x.row.size w.heap.size (actO x) ∧ Al w (V.setCell ⟨W1.heap.size, j, none⟩ u)) := fun V j u ⟨a1, a2, a3, a4⟩ => by
        have hbl := a1.below
        obtain ⟨cs9, h91, h92⟩ := a3.blk
        have hk : ∀ (b : Nat) (c : Array Value) (t : TypeId), V.heap[b]? = some (.cells c t (0, 0)) → (V.setCell ⟨W1.heap.size, j, none⟩ u).heap[b]? = V.heap[b]? := fun b c t hb => heap_far _ fun e => by
          subst e
          rw [h91] at hb
          simp at hb
        refine ⟨a1.keep0 hk ⟨hbl.os, hbl.tape, hbl.output, by rw [size_set]; exact hbl.size, fun k hk' => (heap_far _ (by omega)).trans (hbl.block k hk')⟩, row_keep a2 fun q hq => ?_, a3.set hbne u, fun b c t hb h1 h2 h3 h4 h5 => (heap_far _ (by have := blk_lt hb; omega)).trans (a4 b c t hb h1 h2 h3 h4 h5)⟩
        obtain ⟨cur, hc9⟩ := row_block a2 hq
        exact hk q cur _ hc9
      have HOd : Hid (∀ V j, OddAt V W1.heap.size x.row.size w.heap.size (actO x) → j < x.row.size → (∃ u, V.cell? ⟨W1.heap.size, j, none⟩ = some u) ∧ V.frozen? ⟨W1.heap.size, j, none⟩ = false) := fun V j hV hj => hV.cell hj
      have HNil : Hid (∀ V, Calls Tryz.prog 21 #[.nilIface] V fun e w' => e = .returned (.int .i64 0) ∧ Below V.heap.size V w') := fun V => num11_nil V
      have HNa : Hid (∀ V, ErrType V → Calls Tryz.prog 21 #[erA] V fun e w' => e = .returned (.int .i64 1) ∧ Below V.heap.size V w') := fun V hV => num_erA V hV
      have hsm : x.row.size ≤ 140737488355328 := hs
      clear h hok hlen hWw hm hg hs hB1 ho1 hlt1 h1 hq hcv hbi hblk hsz hbX h2 hoX hputE hputO hodd hOA hroX hg0 hbne hre hp hm'
      obtain ⟨tag, htag⟩ : ∃ tag, tag = actO x := ⟨_, rfl⟩
      rw [← htag] at HPut HSet HOd HCell
      clear htag
      generalize x.row.size = n at *
      unfold actV
      go_enter Tryz.func5, Tryz.ntmps5
      go_upto_region 1 with fail
      rw [← hW1]
      clear hW1
      go_wp2_with (first
        | (refine wpList_exec rfl (exec_conv rfl rfl HCv.out) ?_; clear HCv c0 c1 c2 c3 c4)
        | (go_at_call 19; refine HPut.out.mono ?_; rintro e w2 ⟨rfl, H2⟩; clear HPut p0 p1 p2 p3 p4)
        | fail)
      go_loopg [13] n (fun kx v13 wr => ∃ j : Nat, v13 = .int .i64 j ∧ j ≤ n ∧ n - j ≤ kx ∧ Hid (VnAt W wr ps m' ∧ RowRV wr W.heap.size lv R ∧ OddAt wr W1.heap.size n w.heap.size tag ∧ Al w wr))
      case atStart => exact ⟨0, rfl, Nat.zero_le _, by omega, H2⟩
      case round =>
        clear H2
        obtain ⟨j, rfl, hj, hkx, HV⟩ := hrel
        by_cases hlt9 : j < n
        · obtain ⟨⟨u, d1⟩, f1⟩ := HOd.out wr j HV.out.2.2.1 hlt9
          have hw1 := wraps_i64 ((j : Int) + 1) (by omega) (by omega)
          have hlt' : (j : Int) < (n : Int) := by omega
          have hiL := decide_eq_true hlt9
          have HV2 := Lib.hid (HSet.out wr j (.int .u8 33) HV.out)
          go_wp2_with fail
          go_roundg (n - (j + 1))
          case measure => omega
          case rel => exact ⟨j + 1, by rw [show (j : Int) + 1 = ((j + 1 : Nat) : Int) by omega], by omega, Nat.le_refl _, HV2⟩
        · obtain rfl : j = n := by omega
          have hge : ¬ (j : Int) < (j : Int) := by omega
          obtain ⟨d0, d1, d2, d3, d4⟩ := HCell.out wr HV.out.2.2.1.ob
          have HE := Lib.hid (HErr.out wr m' HV.out.1)
          clear HSet HOd
          have H11 : ((0 : Int) == (0 : Int)) = true := by simp
          go_wp2_with (first
            | (go_at_call 20; refine (HRef.out _ HV.out.2.1 HV.out.1.below.size).mono ?_; rintro e w3 ⟨v', rfl, H3⟩)
            | (go_at_call 21; refine (HNil.out _).mono ?_; rintro e w4 ⟨rfl, hb4⟩; have HF : Hid (P (.returned (.tuple #[v', .bool true])) w4) := HP.out w4 v' _ m' ⟨(HV.out.1.on H3.out.2.2).on hb4, row_on H3.out.1 hb4, H3.out.2.1⟩ hmle (HV.out.2.2.2.trans (Al.below (below_step H3.out.2.2 hb4))); clear hb4)
            | fail)
          exact HF.out
end Go.Proofs.YtagamkahfiackaaGreatDoor
