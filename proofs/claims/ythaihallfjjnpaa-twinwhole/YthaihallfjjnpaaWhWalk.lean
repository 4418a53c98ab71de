/- The law TwinWhole, walked. -/
import Derived.Test.YthaihallfjjnpaaTList
namespace Go.Proofs.Ythaihallfjjnpaa
open Go.RowKit Go.Sort Go.Maps

/-- A row of numbers of one's own, more of them laid behind. -/
theorem info3 : (Try.prog.info? 3).map (fun i => (i.zero, i.size, i.bytes)) = some (some (.int .i64 0), 1, 8) := by kernel_rfl
theorem wpList_append_ints (w : World) {ops : Array Oper} {rest : List Oper} {o : Oper} {act : Act} {Q : Exit → Act → World → Prop} (hgd : o.guard = none) (s x : Operand)
    (ho : o.op = .call { callee := .builtin .append, args := #[s, x], argTypes := #[23, 23] }) (hs : act.eval s = .slice none 0 0)
    (a : Option Addr) (zs : List Int) (m c' : Nat) (hx : act.eval x = .slice a m c') (hm : zs.length = m) (hnil : a = none → c' = 0) (hin : IntsIn w a zs) (hbytes : zs.length * 8 ≤ 140737488355328)
    (hK : ∀ a' c2 w', IntsIn w' a' zs → (∀ b o, a' = some ⟨b, o, none⟩ → w.heap.size ≤ b) → Below w.heap.size w w' → wpList Try.prog ops Q rest (act.put o.dst (.slice a' m c2)) w') : wpList Try.prog ops Q (o :: rest) act w := by
  obtain ⟨i0, hi, hz0, hz1, hz2⟩ := info_parts info3
  subst hm
  refine wpList_plain hgd fun K hKK => ?_
  have hown := World.ownsRow_nil w w.heap.size 3 1
  cases a with
  | none =>
    have hz : zs = [] := by
      cases zs with
      | nil => rfl
      | cons z r => obtain ⟨b, o, e, _⟩ := hin 0 (by simp); cases e
    subst hz
    obtain rfl := hnil rfl
    have hrun := run_append_owned_none (P := Try.prog) w w.heap.size 23 o.type 3 i0 1 Try.underlying23 hi _ _ _ hown
    unfold Oper.wp
    simp only [List.length_nil] at hx
    simp [execOp, ho, resolve, invoke, builtin, hs, hx, hrun, Result.andThen]
    exact hKK _ _ (hK none 0 w (intsIn_nil _ _) (fun b o e => by cases e) (Below.refl _ _))
  | some ad =>
    have hnews : ∀ j u, (zs.map (Value.int .i64))[j]? = some u → w.cell? (ad.add j) = some u := by
      intro j u hj
      have hl : j < zs.length := by
        rcases Nat.lt_or_ge j zs.length with h | h
        · exact h
        · rw [List.getElem?_eq_none (by simpa using h)] at hj; cases hj
      obtain ⟨b, o, e, h1⟩ := hin j hl
      cases e
      rw [Addr.add_lit, h1]
      simp [List.getElem?_map, List.getElem?_eq_getElem hl] at hj
      rw [hj]
    obtain ⟨v', w', hr, h2, h3, _⟩ := run_append_own_at (P := Try.prog) w w.heap.size 23 o.type 3 i0 (.int .i64 0) 1 8 Try.underlying23 hi hz0 hz1 hz2 rfl (by decide) _ 0 [] hown ad zs.length c' (zs.map (Value.int .i64)) (by simp) hnews (by intro u hu; obtain ⟨z, _, rfl⟩ := List.mem_map.1 hu; rfl) (by unfold maxLen; omega) (by omega) (Nat.le_refl _)
    unfold Oper.wp execOp
    simp only [ho, resolve, invoke, builtin, Sem.run_bind, Sem.run_pure, Result.andThen_ok, List.map_toArray, List.map_cons, List.map_nil, hs, hx, hr]
    refine hKK _ _ ?_
    have hB : Below w.heap.size w w' := (Below.refl _ w).grown h3 (Nat.le_refl _) (fun k hk => by simp [Value.ownBlock] at hk)
    rw [Nat.zero_add, List.nil_append] at h2
    rcases h2.2 with ⟨rfl, e⟩ | ⟨g, cap, cur, rfl, q1, q2, _, _, q5, q6⟩
    · have hz : zs = [] := List.eq_nil_of_length_eq_zero e
      subst hz
      exact hK none 0 w' (intsIn_nil _ _) (fun b o e => by cases e) hB
    · refine hK (some ⟨g, 0, none⟩) cap w' (fun i hi => ⟨g, 0, rfl, ?_⟩) (fun b o e => by cases e; exact q1) hB
      have := World.ownsRow.cellAt h2 i (by omega)
      rw [Nat.zero_add, this]
      simp [List.getElem?_map, List.getElem?_eq_getElem hi]
theorem ar12_at (w : World) : ArAt (w.alloc (.cells #[.int .i64 0, .int .i64 0, .int .i64 12] 30)) w.heap.size (arS 6) := World.alloc_heap_new' _ _
theorem six12 : newD 1 (2 * ((6 : Nat) : Int)) = newD 1 12 := rfl
theorem below_stepN {N : Nat} {W w w' : World} (h : Below N W w) (hN : N ≤ W.heap.size) (hb : Below w.heap.size w w') : Below N W w' := h.trans (hb.mono (Nat.le_trans hN h.size))
theorem own_block {w : World} {base : Nat} {v : Value} {vs : List Value} (h : OwnR w base v vs) : ∀ k, v.ownBlock = some k → base ≤ k := fun k hk => by
  rcases h.2 with ⟨e, _⟩ | ⟨g, cap, cur, e, h1, _⟩
  · rw [e] at hk; cases hk
  · rw [e] at hk; simp only [Value.ownBlock, Option.some.injEq] at hk; omega
theorem run_buildR (w : World) (ua : Option Addr) (ul uc : Nat) (a : Act) (o : Oper) (x : Operand) (h : o.op = .buildSlice 22 1 #[(0, x)]) (hx : a.eval x = .slice ua ul uc) : (execOp a.eval o).run Try.prog w = .ok (.value (.slice (some ⟨w.heap.size, 0, none⟩) 1 1)) (w.alloc (.cells #[.slice ua ul uc] 31)) := by
  unfold execOp
  simp only [h, List.map_toArray, List.map_cons, List.map_nil, hx]
  simp [Instr.buildSlice, go_sem]
/-- What stays: all below the texts' rows. -/
theorem WhI.below {w wr V : World} {bx : Nat} {lv lv' : Value} {yss yss' : List (List Nat)} {dv : Dev} {K : Nat} (h : WhI w bx lv yss dv K wr) (hb : Below (bx + 1) wr V) (hl : LsI V (bx + 1) lv' yss') : WhI w bx lv' yss' dv K V := by
  have hlo := h.lo
  exact ⟨h.bw.trans (hb.mono (by omega)), (hb.block bx (by omega)).trans h.ar, h.lo, h.dev.keep (hb.block _ (by omega)) (hb.block _ (by omega)) (hb.block _ (by omega)), hl⟩
/-- j texts were saved. -/
def WhJ (w : World) (bx : Nat) (lv : Value) (yss : List (List Nat)) (j : Nat) (wr : World) : Prop :=
  ∃ dv t, WhI w bx lv yss dv (8193 * j) wr ∧ Tw 6 dv j t ∧ dv.armed = false ∧ (j ≠ 0 → t = yss.getD (j - 1) [])
theorem Tw.arm {q : Nat} {d : Dev} {i : Nat} {t : List Nat} (h : Tw q d i t) (b : Bool) (l : Int) : Tw q { d with armed := b, left := l } i t :=
  ⟨⟨⟨h.st.ok.srt, h.st.ok.pend, h.st.ok.safe, h.st.ok.wid⟩, h.st.r, h.st.s, h.st.pend, h.st.cr, h.st.qb⟩, h.none, h.some⟩
/-- What stands behind a crash. -/
theorem wh_math {da : Dev} {j : Nat} {t ys : List Nat} {yss : List (List Nat)} (hTw : Tw 6 da j t) (hj0 : j ≠ 0) (hj : j < 100) (hlen : ys.length ≤ 360) (hy : ∀ x ∈ ys, x < 256) (hYl : yss.length = j + 1) (ht : t = yss.getD (j - 1) []) (hys : ys = yss.getD j []) (ns : List Int) :
    Still 6 (restartD (saveD da (arS 6) ys) ns) ∧ ((∀ i, i < 2 → rightB (heldB (halfA (restartD (saveD da (arS 6) ys) ns) (arS 6) i)) yss = false) →
      loadE (restartD (saveD da (arS 6) ys) ns) (arS 6) = 0 ∧ (txtA (restartD (saveD da (arS 6) ys) ns) (arS 6) (tellA (restartD (saveD da (arS 6) ys) ns) (arS 6)) = ys ∨ (saveE da (arS 6) ys ≠ 0 ∧ txtA (restartD (saveD da (arS 6) ys) ns) (arS 6) (tellA (restartD (saveD da (arS 6) ys) ns) (arS 6)) = t))) := by
  refine ⟨(hTw.crash hj0 hj hlen (by omega) hy ns).1, fun hr => ?_⟩
  refine hTw.told hj0 hj hlen (by omega) hy ns _ rfl yss hYl ht.symm hys.symm (fun i hi => ?_)
  have := right_no (hr i hi)
  rw [hYl] at this
  exact this
/-- The texts as they are cut. -/
def cutT (f : Nat → TxV) (i : Nat) : List Nat := (f i).xs.take (min (f i).xs.length 360)
def cutsT (f : Nat → TxV) (i : Nat) : List (List Nat) := (List.range i).map (cutT f)
theorem cutsT_succ (f : Nat → TxV) (i : Nat) : cutsT f (i + 1) = cutsT f i ++ [cutT f i] := by simp [cutsT, List.range_succ]
theorem cutsT_len (f : Nat → TxV) (i : Nat) : (cutsT f i).length = i := by simp [cutsT]
set_option maxRecDepth 100000 in
set_option maxHeartbeats 8000000 in
theorem whole_law (a : Option Addr) (n c : Nat) (f : Nat → TxV) (am : Int) (ca : Option Addr) (cs : List Int) (cn cc : Nat) (w : World) (hin : TxsAt w a n f) (hci : IntsIn w ca cs) (hcn : cs.length = cn) (hcz : ca = none → cc = 0) (hcl : cs.length * 8 ≤ 140737488355328) (ham : inI am) :
    Calls Try.prog 3 #[.slice a n c, .int .i64 am, .slice ca cn cc] w fun e w' => e = .returned (.bool true) ∧ Below w.heap.size w w' := by
  have HN := Lib.hid (new_ 1 12 w (by omega))
  have HT := Lib.hid hin
  have HC := Lib.hid (And.intro hci (And.intro hcn (And.intro hcz hcl)))
  have HAm := Lib.hid ham
  have HSu := Lib.hid (fun W => sure_ W)
  have HR : Hid (∀ V, Calls Try.prog 5 #[.agg #[.int .i64 0, .int .i64 0, .int .i64 12]] V fun e w' => e = .returned (.int .i64 360) ∧ Below V.heap.size V w') := fun V => (room9_ (arS 6) V).mono fun e w' ⟨h1, h2⟩ => ⟨by rw [h1, room_eq 6 (by omega) (by omega)]; rfl, h2⟩
  clear hin hci hcn hcz hcl ham
  go_enter Try.func3, Try.ntmps3
  go_wp2_with fail
  refine HN.out.mono ?_
  rintro e w1 ⟨rfl, hb1, hd1⟩
  unfold pt
  obtain ⟨W, hW⟩ : ∃ W, W = w1.alloc (.cells #[.int .i64 0, .int .i64 0, .int .i64 12] 30) := ⟨_, rfl⟩
  have hbW : Below w1.heap.size w1 W := by rw [hW]; exact below_alloc _ _
  have hA : ArAt W w1.heap.size (arS 6) := by rw [hW]; exact ar12_at w1
  have hsW : W.heap.size = w1.heap.size + 1 := by rw [hW]; simp
  have HI0 : Hid (WhI w w1.heap.size (.slice none 0 0) [] (newD 1 12) 0 W) := ⟨below_step hb1 hbW, hA, hd1.lts.1, by simpa using hd1.on hbW, lsI_nil _ _⟩
  have HsW := Lib.hid hsW
  have HW := Lib.hid hW
  clear hb1 hd1 HN hbW hA hW hsW
  go_wp2_with fail
  rw [← HW.out]
  generalize w1.heap.size = bx at *
  clear HW
  go_loopw [10, 11] (fun sv iv wr => ∃ (lv : Value) (i : Nat), lv = sv ∧ iv = .int .i64 i ∧ i ≤ n ∧ i ≤ 6 ∧ Hid (WhI w bx lv (cutsT f i) (newD 1 12) 0 wr) ∧ bx + 1 ≤ wr.heap.size) (fun _ iv _ => 6 - (intOf iv).toNat)
  case atStart => exact ⟨_, 0, rfl, rfl, by omega, by omega, HI0, by rw [HsW.out]; omega⟩
  case round =>
    obtain ⟨lv, i, rfl, rfl, hin, hi6, HI, hsz⟩ := hrel
    clear HI0 HsW
    by_cases hlt : i < n ∧ i < 6
    · obtain ⟨hl1, hl2⟩ := hlt
      have hlt1 : (i : Int) < (n : Int) := by omega
      have hlt2 : (i : Int) < 6 := by omega
      have hlo := HI.out.lo
      obtain ⟨b, o, rfl, hcl0, hby, hbt, hnl, hcp⟩ := HT.out i hl1
      have hbw : b < w.heap.size := block_lt_of_cell hcl0
      have hcl : wr.cell? ⟨b, o + i, none⟩ = some (.slice (f i).a (f i).xs.length (f i).c) := (HI.out.bw.cell (p := ⟨b, o + i, none⟩) hbw).trans hcl0
      clear hcl0
      have hcut : cutT f i = (f i).xs.take (min (f i).xs.length 360) := rfl
      have HCut := Lib.hid (cutsT_succ f i)
      generalize (f i).a = ta at *
      generalize (f i).xs = xs at *
      generalize (f i).c = tc at *
      obtain ⟨m, hm⟩ : ∃ m, m = min xs.length 360 := ⟨_, rfl⟩
      rw [← hm] at hcut
      have hml : (xs.take m).length = m := by rw [List.length_take]; omega
      have hmm : min (xs.length : Int) 360 = (m : Int) := by omega
      have hmc : (m : Int) ≤ (tc : Int) := by omega
      have hm0 : (0 : Int) ≤ (m : Int) := by omega
      have hm360 : m ≤ 360 := by omega
      have HX := Lib.hid (And.intro hby (And.intro hbt (And.intro hnl (And.intro hml (And.intro hm360 hcut)))))
      obtain ⟨z0, z1, z2⟩ := HI.out.area
      have F0 : Hid (∀ V, Below (bx + 1) wr V → V.cell? ⟨bx, 0, none⟩ = some (.int .i64 0)) := fun V hV => (hV.cell (p := ⟨bx, 0, none⟩) (by show bx < bx + 1; omega)).trans z0
      have F1 : Hid (∀ V, Below (bx + 1) wr V → V.cell? ⟨bx, 1, none⟩ = some (.int .i64 0)) := fun V hV => (hV.cell (p := ⟨bx, 1, none⟩) (by show bx < bx + 1; omega)).trans z1
      have F2 : Hid (∀ V, Below (bx + 1) wr V → V.cell? ⟨bx, 2, none⟩ = some (.int .i64 12)) := fun V hV => (hV.cell (p := ⟨bx, 2, none⟩) (by show bx < bx + 1; omega)).trans z2
      have FC : Hid (∀ V, Below (bx + 1) wr V → V.cell? ⟨b, o + i, none⟩ = some (.slice ta xs.length tc)) := fun V hV => (hV.cell (p := ⟨b, o + i, none⟩) (by show b < bx + 1; omega)).trans hcl
      clear hby hbt hnl hcp hml hcl z0 z1 z2 hm hm360 hcut
      generalize hxl : xs.length = l at *
      obtain ⟨vs, hr1, hr2, hr3⟩ := HI.out.ls
      have HLs := Lib.hid (And.intro hr1 (And.intro hr2 hr3))
      have hvl : vs.length ≤ 100 := by rw [hr2, cutsT_len]; omega
      clear hr1 hr2 hr3
      go_wp2_with fail
      refine wp_region_noPanic ?_
      refine wp_region_held_drew (S := fun V => Below (bx + 1) wr V) (by kernel_rfl) ((Below.refl _ _).drew) (fun hHeld => ?_)
      refine take_at 0 (lv) rfl (by kernel_rfl) (by kernel_rfl) (by kernel_rfl) (fun _ _ _ h => h) (Or.inl ⟨by rfl, ?_⟩) (by assumption) ?_
      · intro V hSV; go_simp
      simp only [Act.put, List.setIfInBounds_toArray, List.set_cons_zero, List.set_cons_succ]
      refine take_at 1 (.slice none 0 0) rfl (by kernel_rfl) (by kernel_rfl) (by kernel_rfl) (fun _ _ _ h => h) (Or.inl ⟨by rfl, ?_⟩) (by assumption) ?_
      · intro V hSV; go_simp
      simp only [Act.put, List.setIfInBounds_toArray, List.set_cons_zero, List.set_cons_succ]
      refine take_at 2 (.slice (some ⟨b, o, none⟩) n c) rfl (by kernel_rfl) (by kernel_rfl) (by kernel_rfl) (fun _ _ _ h => h) (Or.inl ⟨by rfl, ?_⟩) (by assumption) ?_
      · intro V hSV; go_simp
      simp only [Act.put, List.setIfInBounds_toArray, List.set_cons_zero, List.set_cons_succ]
      refine take_at 3 (.int .i64 i) rfl (by kernel_rfl) (by kernel_rfl) (by kernel_rfl) (fun _ _ _ h => h) (Or.inl ⟨by rfl, ?_⟩) (by assumption) ?_
      · intro V hSV; go_simp
      simp only [Act.put, List.setIfInBounds_toArray, List.set_cons_zero, List.set_cons_succ]
      refine take_at 4 (.pointer (some ⟨b, o + i, none⟩)) rfl (by kernel_rfl) (by kernel_rfl) (by kernel_rfl) (fun _ _ _ h => h) (Or.inl ⟨by rfl, ?_⟩) (by assumption) ?_
      · intro V hSV; go_simp
      simp only [Act.put, List.setIfInBounds_toArray, List.set_cons_zero, List.set_cons_succ]
      refine take_at 5 (.slice ta l tc) rfl (by kernel_rfl) (by kernel_rfl) (by kernel_rfl) (fun _ _ _ h => h) (Or.inl ⟨by rfl, ?_⟩) (by assumption) ?_
      · intro V hSV; have e0 := FC.out V hSV; go_simp
      simp only [Act.put, List.setIfInBounds_toArray, List.set_cons_zero, List.set_cons_succ]
      refine take_at 6 (.slice (some ⟨b, o, none⟩) n c) rfl (by kernel_rfl) (by kernel_rfl) (by kernel_rfl) (fun _ _ _ h => h) (Or.inl ⟨by rfl, ?_⟩) (by assumption) ?_
      · intro V hSV; go_simp
      simp only [Act.put, List.setIfInBounds_toArray, List.set_cons_zero, List.set_cons_succ]
      refine take_at 7 (.int .i64 i) rfl (by kernel_rfl) (by kernel_rfl) (by kernel_rfl) (fun _ _ _ h => h) (Or.inl ⟨by rfl, ?_⟩) (by assumption) ?_
      · intro V hSV; go_simp
      simp only [Act.put, List.setIfInBounds_toArray, List.set_cons_zero, List.set_cons_succ]
      refine take_at 8 (.pointer (some ⟨b, o + i, none⟩)) rfl (by kernel_rfl) (by kernel_rfl) (by kernel_rfl) (fun _ _ _ h => h) (Or.inl ⟨by rfl, ?_⟩) (by assumption) ?_
      · intro V hSV; go_simp
      simp only [Act.put, List.setIfInBounds_toArray, List.set_cons_zero, List.set_cons_succ]
      refine take_at 9 (.slice ta l tc) rfl (by kernel_rfl) (by kernel_rfl) (by kernel_rfl) (fun _ _ _ h => h) (Or.inl ⟨by rfl, ?_⟩) (by assumption) ?_
      · intro V hSV; have e0 := FC.out V hSV; go_simp
      simp only [Act.put, List.setIfInBounds_toArray, List.set_cons_zero, List.set_cons_succ]
      refine take_at 10 (.int .i64 l) rfl (by kernel_rfl) (by kernel_rfl) (by kernel_rfl) (fun _ _ _ h => h) (Or.inl ⟨by rfl, ?_⟩) (by assumption) ?_
      · intro V hSV; go_simp
      simp only [Act.put, List.setIfInBounds_toArray, List.set_cons_zero, List.set_cons_succ]
      refine take_at 11 (.agg #[.int .i64 0, .int .i64 0, .int .i64 12]) rfl (by kernel_rfl) (by kernel_rfl) (by kernel_rfl) (fun _ _ _ h => h) (Or.inl ⟨by rfl, ?_⟩) (by assumption) ?_
      · intro V hSV; have e0 := F0.out V hSV; have e1 := F1.out V hSV; have e2 := F2.out V hSV; go_simp
      simp only [Act.put, List.setIfInBounds_toArray, List.set_cons_zero, List.set_cons_succ]
      refine wpAnyH_ready (rs := [12]) (by kernel_rfl) (by simp) ?_
      refine AllReadyH.cons rfl (fun KK hK => ?_) AllReadyH.nil
      go_simp
      go_wp2_with (first | (go_at_call 5; refine (HR.out _).mono ?_; rintro e V1 ⟨rfl, hb1⟩))
      refine hK.out _ _ ?_ (fun hHeld12 => ?_)
      · exact below_stepN (by assumption) hsz hb1
      clear hK KK
      refine take_at 13 (.int .i64 m) rfl (by kernel_rfl) (by kernel_rfl) (by kernel_rfl) (fun _ _ _ h => h) (Or.inl ⟨by rfl, ?_⟩) (by assumption) ?_
      · intro V hSV; go_simp
      simp only [Act.put, List.setIfInBounds_toArray, List.set_cons_zero, List.set_cons_succ]
      refine take_at 14 (.slice ta m tc) rfl (by kernel_rfl) (by kernel_rfl) (by kernel_rfl) (fun _ _ _ h => h) (Or.inl ⟨by rfl, ?_⟩) (by assumption) ?_
      · intro V hSV; go_simp
      simp only [Act.put, List.setIfInBounds_toArray, List.set_cons_zero, List.set_cons_succ]
      have hB1 : Below wr.heap.size wr V1 := below_step (below_drew _) hb1
      have hs1 : bx + 1 ≤ V1.heap.size := Nat.le_trans hsz hB1.size
      refine wpAnyH_ready (rs := [15]) (by kernel_rfl) (by simp) ?_
      refine AllReadyH.cons rfl (fun KK hK => ?_) AllReadyH.nil
      refine step_append_bytes _ rfl _ _ rfl (bx + 1) _ [] (xs.take m) rfl (own_nil _ _) ta m tc rfl HX.out.2.2.2.1 HX.out.2.2.1 (((HX.out.1.take m).on HI.out.bw).on hB1) (by rw [HX.out.2.2.2.1]; simp; omega) hs1 ?_
      intro v' V2 hown hgrow
      have hB2 : Below wr.heap.size wr V2 := hB1.grown hgrow hB1.size (fun k hk => by cases hk)
      rw [List.nil_append] at hown
      obtain ⟨xa, xc, rfl, _, _⟩ := hown.bytes
      rw [HX.out.2.2.2.1] at hown ⊢
      refine hK.out _ _ (hB2.mono hsz) (fun hHeld15 => ?_)
      have HXO := Lib.hid hown
      clear hK KK hown hgrow
      have hs2 : bx + 1 ≤ V2.heap.size := Nat.le_trans hsz hB2.size
      have hB3 : Below wr.heap.size wr (V2.alloc (.cells #[.slice xa m xc] 31)) := below_step hB2 (below_alloc _ _)
      refine wpAnyH_ready (rs := [16]) (by kernel_rfl) (by simp) (cons_at 16 rfl (by rfl) (run_buildR _ _ _ _ _ _ _ rfl rfl) (hB3.mono hsz) ?n16 AllReadyH.nil)
      simp only [Act.put, List.setIfInBounds_toArray]
      have hlk : ∀ g, bx + 1 ≤ g → g < wr.heap.size → (V2.alloc (.cells #[.slice xa m xc] 31)).heap[g]? = wr.heap[g]? := fun g _ hg => hB3.block g hg
      have hc3 : (V2.alloc (.cells #[.slice xa m xc] 31)).cell? ⟨V2.heap.size, 0, none⟩ = some (.slice xa m xc) := cell_of (World.alloc_heap_new' _ _) rfl
      have hX3 : Own (V2.alloc (.cells #[.slice xa m xc] 31)) (bx + 1) (.slice xa m xc) (xs.take m) := HXO.out.on (below_alloc _ _)
      have hs3 : bx + 1 ≤ (V2.alloc (.cells #[.slice xa m xc] 31)).heap.size := Nat.le_trans hsz hB3.size
      generalize (V2.alloc (.cells #[.slice xa m xc] 31)) = V3 at *
      refine wpAnyH_ready (rs := [17]) (by kernel_rfl) (by simp) ?_
      refine AllReadyH.cons rfl (fun KK hK => ?_) AllReadyH.nil
      refine step_append_row _ rfl _ _ rfl (bx + 1) lv vs (.slice xa m xc) rfl (HLs.out.1.keepBlk hlk) V2.heap.size rfl hc3 rfl (by omega) hs3 ?_
      intro v' V4 hown4 hgrow4
      have hB4 : Below (bx + 1) wr V4 := (hB3.mono hsz).grown hgrow4 hs3 (fun k hk => own_block HLs.out.1 k hk)
      have hls4 : LsI V4 (bx + 1) v' (cutsT f i ++ [xs.take m]) := LsI.snoc (HLs.out.1.keepBlk hlk) HLs.out.2.1 (fun j hj => ⟨(HLs.out.2.2 j hj).1.keepBlk (fun g h1 h2 _ => hlk g h1 h2), (HLs.out.2.2 j hj).2⟩) hX3 (fun x h => HX.out.2.1 x (List.mem_of_mem_take h)) (by rw [HX.out.2.2.2.1]; exact HX.out.2.2.2.2.1) hown4 hgrow4
      refine hK.out _ _ hB4 (fun hHeld17 => ?_)
      have HI4 : Hid (WhI w bx v' (cutsT f (i + 1)) (newD 1 12) 0 V4 ∧ bx + 1 ≤ V4.heap.size) := ⟨HI.out.below hB4 (by rw [HCut.out, HX.out.2.2.2.2.2]; exact hls4), Nat.le_trans hsz hB4.size⟩
      clear hK KK hown4 hgrow4 hls4 hc3 hX3 hs3 hlk hB1 hB2 hB3 hs1 hs2 hb1 HXO HLs
      refine take_at 18 v' rfl (by kernel_rfl) (by kernel_rfl) (by kernel_rfl) (fun _ _ _ h => h) (Or.inl ⟨by rfl, ?_⟩) (by assumption) ?_
      · intro V hSV; go_simp
      simp only [Act.put]
      refine wpAnyH_done (by kernel_rfl) ?_ _
      refine NoPanic.normal ?_
      clear hHeld hHeld12 hHeld15 hHeld17 F0 F1 F2 FC
      go_wp2_with fail
      exact ⟨⟨_, i + 1, rfl, by go_num, by omega, by omega, Lib.hid HI4.out.1, HI4.out.2⟩, by simp [intOf]; omega⟩
    · have hk : i = n ∨ i = 6 := by omega
      have HK := Lib.hid hk
      clear hk hlt
      obtain ⟨la, lc, hlv, _⟩ := HI.out.ls.slice
      rw [cutsT_len] at hlv
      subst hlv
      by_cases hl2 : i < 2
      · have hlt2 : (i : Int) < 2 := by omega
        have hend : decide ((i : Int) < (n : Int)) = false ∨ (decide ((i : Int) < (n : Int)) = true ∧ decide ((i : Int) < 6) = false) := by
          rcases HK.out with h | h
          · left; simp [h]
          · right; omega
        have HBw := Lib.hid HI.out.bw
        clear HI
        have hin' : i = n := by have := HK.out; omega
        have hlt1 : ¬ (i : Int) < (n : Int) := by omega
        clear hend
        go_wp2_with fail
        refine (HSu.out _).mono ?_
        rintro e w4 ⟨rfl, hb4⟩
        have HB4 := Lib.hid (below_step HBw.out hb4)
        clear hb4
        go_wp2_with fail
        go_ret
        exact ⟨rfl, HB4.out⟩
      · have hlt2 : ¬ (i : Int) < 2 := by omega
        have HYl := Lib.hid (cutsT_len f i)
        generalize cutsT f i = yss at *
        have h0 := tw_new 6 (by omega) (by omega)
        rw [six12] at h0
        have HI2 : Hid (WhJ w bx (.slice la i lc) yss 0 wr) := ⟨newD 1 12, [], by simpa using HI.out, h0, rfl, fun e => absurd rfl e⟩
        have hwi := wraps_i64 ((i : Int) - 1) (by omega) (by omega)
        clear HI h0 HT HR hsz
        have hwh : (¬ (i : Int) < (n : Int)) ∨ ((i : Int) < (n : Int) ∧ ¬ (i : Int) < 6) := by have := HK.out; omega
        clear HK
        rcases hwh with hlt1 | ⟨hlt1, hlt6⟩
        all_goals
          go_wp2_with fail
          go_loopw [13] (fun iv wr => ∃ j : Nat, iv = .int .i64 j ∧ j + 1 ≤ i ∧ Hid (WhJ w bx (.slice la i lc) yss j wr)) (fun iv _ => i - (intOf iv).toNat)
          case atStart => exact ⟨0, rfl, by omega, HI2⟩
          case round =>
            obtain ⟨j, rfl, hj, HJ⟩ := hrel
            clear HI2
            by_cases hlj : j + 1 < i
            · have hlj2 : (j : Int) < (i : Int) - 1 := by omega
              have hji : (j : Int) < (i : Int) := by omega
              obtain ⟨dv, t, hI, hTw, har, _⟩ := HJ.out
              have hlo := hI.lo
              obtain ⟨la', lc', hev, hli⟩ := hI.ls.slice
              simp only [Value.slice.injEq] at hev
              obtain ⟨rfl, hevq, rfl⟩ := hev
              clear hevq
              obtain ⟨lb, lo, rfl, ya, yc, hy1, hy2, hy3⟩ := hli j (by rw [HYl.out]; omega)
              obtain ⟨vs, v1, v2, v3⟩ := hI.ls
              have hlen := (v3 j (by rw [HYl.out]; omega)).2.2
              have hlbx : bx + 1 ≤ lb := by
                rcases v1.2 with ⟨e, _⟩ | ⟨g, cap, cur, e, g1, _⟩
                · simp only [Value.slice.injEq] at e; cases e.1
                · simp only [Value.slice.injEq, Option.some.injEq, Addr.mk.injEq] at e; omega
              obtain ⟨ys, hys⟩ : ∃ ys, ys = yss.getD j [] := ⟨_, rfl⟩
              rw [← hys] at hy1 hy2 hy3 hlen
              obtain ⟨u1, u2, u3, _⟩ := hTw.save (xs := ys) (by omega) har hlen (by omega) hy3
              obtain ⟨z0, z1, z2⟩ := hI.area
              have hne : ∀ k, bx ≤ k → k ≠ w.heap.size + 2 ∧ k ≠ w.heap.size ∧ k ≠ w.heap.size + 1 := fun k hk => by omega
              have FC : Hid (∀ V k o v, bx ≤ k → wr.cell? ⟨k, o, none⟩ = some v → Fd (w.heap.size + 2) w.heap.size (w.heap.size + 1) wr V → V.cell? ⟨k, o, none⟩ = some v) := fun V k o v hk hv hf => (cell_same (hf.block k (block_lt_of_cell hv) (hne k hk).1 (hne k hk).2.1 (hne k hk).2.2)).trans hv
              have F0 : Hid (∀ V, Fd (w.heap.size + 2) w.heap.size (w.heap.size + 1) wr V → V.cell? ⟨bx, 0, none⟩ = some (.int .i64 0)) := fun V hV => FC.out V _ _ _ (Nat.le_refl _) z0 hV
              have F1 : Hid (∀ V, Fd (w.heap.size + 2) w.heap.size (w.heap.size + 1) wr V → V.cell? ⟨bx, 1, none⟩ = some (.int .i64 0)) := fun V hV => FC.out V _ _ _ (Nat.le_refl _) z1 hV
              have F2 : Hid (∀ V, Fd (w.heap.size + 2) w.heap.size (w.heap.size + 1) wr V → V.cell? ⟨bx, 2, none⟩ = some (.int .i64 12)) := fun V hV => FC.out V _ _ _ (Nat.le_refl _) z2 hV
              have F3 : Hid (∀ V, Fd (w.heap.size + 2) w.heap.size (w.heap.size + 1) wr V → V.cell? ⟨lb, lo + j, none⟩ = some (.slice ya ys.length yc)) := fun V hV => FC.out V _ _ _ (by omega) hy1 hV
              have HSv : Hid (Calls Try.prog 7 #[.pointer (some ⟨w.heap.size + 2, 0, none⟩), .agg #[.int .i64 0, .int .i64 0, .int .i64 12], .slice ya ys.length yc] wr.drew fun e w' => e = .returned .nilIface ∧ Hid (WhJ w bx (.slice (some ⟨lb, lo, none⟩) i lc) yss (j + 1) w') ∧ Fd (w.heap.size + 2) w.heap.size (w.heap.size + 1) wr.drew w') :=
                (save_ (hI.dev.on (below_drew _)) (by omega) (arS 6) (inR_s 6 (by omega)) ys ya ys.length yc rfl (hy2.on (below_drew _)) hy3).mono fun e w' ⟨h1, h2, h3⟩ => ⟨by rw [h1, u1]; rfl, ⟨_, ys, by rw [show 8193 * (j + 1) = 8193 * j + 8193 by omega]; exact (hI.on (below_drew _)).work h2 h3, u3, u2, fun _ => by rw [hys]; rfl⟩, h3⟩
              clear hI hTw har hli hy1 hy2 hy3 v1 v2 v3 u1 u2 u3 z0 z1 z2 FC HJ hlen hys hne hlbx
              generalize ys.length = yl at *
              go_wp2_with fail
              refine wp_region_noPanic ?_
              refine wp_region_held_drew (S := fun V => Fd (w.heap.size + 2) w.heap.size (w.heap.size + 1) wr V) (by kernel_rfl) (below_fd (below_drew _) _ _ _) (fun hHeld => ?_)
              refine take_at 0 (.pointer (some ⟨w.heap.size + 2, 0, none⟩)) rfl (by kernel_rfl) (by kernel_rfl) (by kernel_rfl) (fun _ _ _ h => h) (Or.inl ⟨by rfl, ?_⟩) (by assumption) ?_
              · intro V hSV; go_simp
              simp only [Act.put, List.setIfInBounds_toArray, List.set_cons_zero, List.set_cons_succ]
              refine take_at 1 (.agg #[.int .i64 0, .int .i64 0, .int .i64 12]) rfl (by kernel_rfl) (by kernel_rfl) (by kernel_rfl) (fun _ _ _ h => h) (Or.inl ⟨by rfl, ?_⟩) (by assumption) ?_
              · intro V hSV; have e0 := F0.out V hSV; have e1 := F1.out V hSV; have e2 := F2.out V hSV; go_simp
              simp only [Act.put, List.setIfInBounds_toArray, List.set_cons_zero, List.set_cons_succ]
              refine take_at 2 (.slice (some ⟨lb, lo, none⟩) i lc) rfl (by kernel_rfl) (by kernel_rfl) (by kernel_rfl) (fun _ _ _ h => h) (Or.inl ⟨by rfl, ?_⟩) (by assumption) ?_
              · intro V hSV; go_simp
              simp only [Act.put, List.setIfInBounds_toArray, List.set_cons_zero, List.set_cons_succ]
              refine take_at 3 (.int .i64 j) rfl (by kernel_rfl) (by kernel_rfl) (by kernel_rfl) (fun _ _ _ h => h) (Or.inl ⟨by rfl, ?_⟩) (by assumption) ?_
              · intro V hSV; go_simp
              simp only [Act.put, List.setIfInBounds_toArray, List.set_cons_zero, List.set_cons_succ]
              refine take_at 4 (.pointer (some ⟨lb, lo + j, none⟩)) rfl (by kernel_rfl) (by kernel_rfl) (by kernel_rfl) (fun _ _ _ h => h) (Or.inl ⟨by rfl, ?_⟩) (by assumption) ?_
              · intro V hSV; go_simp
              simp only [Act.put, List.setIfInBounds_toArray, List.set_cons_zero, List.set_cons_succ]
              refine take_at 5 (.slice ya yl yc) rfl (by kernel_rfl) (by kernel_rfl) (by kernel_rfl) (fun _ _ _ h => h) (Or.inl ⟨by rfl, ?_⟩) (by assumption) ?_
              · intro V hSV; have e0 := F3.out V hSV; go_simp
              simp only [Act.put, List.setIfInBounds_toArray, List.set_cons_zero, List.set_cons_succ]
              refine wpAnyH_ready (rs := [6]) (by kernel_rfl) (by simp) ?_
              refine AllReadyH.cons rfl (fun KK hK => ?_) AllReadyH.nil
              go_simp
              go_wp2_with (first | (go_at_call 7; refine (HSv.out).mono ?_; rintro e V2 ⟨rfl, hJ2, hf2⟩))
              refine hK.out _ _ ?_ (fun hHeld6 => ?_)
              · exact Fd.trans (by assumption) hf2
              clear hK KK
              refine take_at 7 (.bool false) rfl (by kernel_rfl) (by kernel_rfl) (by kernel_rfl) (fun _ _ _ h => h) (Or.inl ⟨by rfl, ?_⟩) (by assumption) ?_
              · intro V hSV; go_simp
              simp only [Act.put, List.setIfInBounds_toArray, List.set_cons_zero, List.set_cons_succ]
              refine wpAnyH_done (by kernel_rfl) ?_ _
              refine NoPanic.normal ?_
              clear hHeld hHeld6 hf2 F0 F1 F2 F3 HSv
              go_wp2_with fail
              exact ⟨⟨j + 1, by go_num, by omega, hJ2⟩, by simp [intOf]; omega⟩
            · obtain rfl : i = j + 1 := by omega
              have hlj2 : ¬ (j : Int) < ((j + 1 : Nat) : Int) - 1 := by omega
              obtain ⟨dv, t, hI, hTw, har, hlast⟩ := HJ.out
              have hj0 : j ≠ 0 := by omega
              have ht := hlast hj0
              obtain ⟨da, hda⟩ : ∃ da : Dev, da = { dv with armed := true, left := am % 8 } := ⟨_, rfl⟩
              have HTw : Hid (Tw 6 da j t ∧ t = yss.getD (j - 1) []) := ⟨by rw [hda]; exact hTw.arm true (am % 8), ht⟩
              have HArm : Hid (Calls Try.prog 8 #[.pointer (some ⟨w.heap.size + 2, 0, none⟩), .int .i64 (am % 8)] wr fun e w' => e = .returned .nilIface ∧ Hid (WhI w bx (.slice la (j + 1) lc) yss da (8193 * j) w')) :=
                (arm_ hI.dev _ (by omega) (by omega)).mono fun e w' ⟨h1, h2, h3⟩ => ⟨h1, by rw [hda]; exact hI.work h2 h3⟩
              have hwa : IntKind.u64.wrap am = am % 18446744073709551616 := by rw [IntKind.wrap_u64]
              have hwa2 := wraps_i64 ((am % 18446744073709551616) % 8) (by omega) (by omega)
              clear hI hTw har hlast ht HJ hlj hda
              go_wp2_with fail
              refine HArm.out.mono ?_
              rintro e w4 ⟨rfl, HI4⟩
              clear HArm
              have hlo := HI4.out.lo
              obtain ⟨la', lc', hev, hli⟩ := HI4.out.ls.slice
              simp only [Value.slice.injEq] at hev
              obtain ⟨rfl, hevq, rfl⟩ := hev
              clear hevq
              obtain ⟨lb, lo, rfl, ya, yc, hy1, hy2, hy3⟩ := hli j (by rw [HYl.out]; omega)
              obtain ⟨vs, v1, v2, v3⟩ := HI4.out.ls
              have hlen := (v3 j (by rw [HYl.out]; omega)).2.2
              have hlbx : bx + 1 ≤ lb := by
                rcases v1.2 with ⟨e, _⟩ | ⟨g, cap, cur, e, g1, _⟩
                · simp only [Value.slice.injEq] at e; cases e.1
                · simp only [Value.slice.injEq, Option.some.injEq, Addr.mk.injEq] at e; omega
              obtain ⟨ys, hys⟩ : ∃ ys, ys = yss.getD j [] := ⟨_, rfl⟩
              rw [← hys] at hy1 hy2 hy3 hlen
              obtain ⟨z0, z1, z2⟩ := HI4.out.area
              have hne : ∀ k, bx ≤ k → k ≠ w.heap.size + 2 ∧ k ≠ w.heap.size ∧ k ≠ w.heap.size + 1 := fun k hk => by omega
              have FC : Hid (∀ V k o v, bx ≤ k → w4.cell? ⟨k, o, none⟩ = some v → Fd (w.heap.size + 2) w.heap.size (w.heap.size + 1) w4 V → V.cell? ⟨k, o, none⟩ = some v) := fun V k o v hk hv hf => (cell_same (hf.block k (block_lt_of_cell hv) (hne k hk).1 (hne k hk).2.1 (hne k hk).2.2)).trans hv
              have F0 : Hid (∀ V, Fd (w.heap.size + 2) w.heap.size (w.heap.size + 1) w4 V → V.cell? ⟨bx, 0, none⟩ = some (.int .i64 0)) := fun V hV => FC.out V _ _ _ (Nat.le_refl _) z0 hV
              have F1 : Hid (∀ V, Fd (w.heap.size + 2) w.heap.size (w.heap.size + 1) w4 V → V.cell? ⟨bx, 1, none⟩ = some (.int .i64 0)) := fun V hV => FC.out V _ _ _ (Nat.le_refl _) z1 hV
              have F2 : Hid (∀ V, Fd (w.heap.size + 2) w.heap.size (w.heap.size + 1) w4 V → V.cell? ⟨bx, 2, none⟩ = some (.int .i64 12)) := fun V hV => FC.out V _ _ _ (Nat.le_refl _) z2 hV
              have F3 : Hid (∀ V, Fd (w.heap.size + 2) w.heap.size (w.heap.size + 1) w4 V → V.cell? ⟨lb, lo + j, none⟩ = some (.slice ya ys.length yc)) := fun V hV => FC.out V _ _ _ (by omega) hy1 hV
              have HSv : Hid (Calls Try.prog 7 #[.pointer (some ⟨w.heap.size + 2, 0, none⟩), .agg #[.int .i64 0, .int .i64 0, .int .i64 12], .slice ya ys.length yc] w4.drew fun e w' => ∃ ev, e = .returned ev ∧ Hid (ev = errV (saveE da (arS 6) ys)) ∧ Hid (WhI w bx (.slice (some ⟨lb, lo, none⟩) (j + 1) lc) yss (saveD da (arS 6) ys) (8193 * j + 8193) w') ∧ Fd (w.heap.size + 2) w.heap.size (w.heap.size + 1) w4.drew w') :=
                (save_ (HI4.out.dev.on (below_drew _)) (by omega) (arS 6) (inR_s 6 (by omega)) ys ya ys.length yc rfl (hy2.on (below_drew _)) hy3).mono fun e w' ⟨h1, h2, h3⟩ => ⟨_, h1, rfl, (HI4.out.on (below_drew _)).work h2 h3, h3⟩
              have HM := Lib.hid (wh_math HTw.out.1 hj0 (by omega) hlen hy3 HYl.out HTw.out.2 hys)
              have HYs := Lib.hid (And.intro hys (And.intro hy3 HTw.out.2))
              have hsubj : (((j + 1 : Nat) : Int) - 1) = (j : Int) := by omega
              have hwj := wraps_i64 (j : Int) (by omega) (by omega)
              have hjlt : ¬ (j : Int) + 1 ≤ (j : Int) := by omega
              clear hli hy1 hy2 hy3 v1 v2 v3 z0 z1 z2 FC hlen hys HI4 HTw hne hlbx hlo
              generalize ys.length = yl at *
              generalize saveD da (arS 6) ys = D1 at *
              generalize saveE da (arS 6) ys = E1 at *
              go_wp2_with fail
              refine wp_region_noPanic ?_
              refine wp_region_held_drew (S := fun V => Fd (w.heap.size + 2) w.heap.size (w.heap.size + 1) w4 V) (by kernel_rfl) (below_fd (below_drew _) _ _ _) (fun hHeld => ?_)
              refine take_at 0 (.pointer (some ⟨w.heap.size + 2, 0, none⟩)) rfl (by kernel_rfl) (by kernel_rfl) (by kernel_rfl) (fun _ _ _ h => h) (Or.inl ⟨by rfl, ?_⟩) (by assumption) ?_
              · intro V hSV; go_simp
              simp only [Act.put, List.setIfInBounds_toArray, List.set_cons_zero, List.set_cons_succ]
              refine take_at 1 (.agg #[.int .i64 0, .int .i64 0, .int .i64 12]) rfl (by kernel_rfl) (by kernel_rfl) (by kernel_rfl) (fun _ _ _ h => h) (Or.inl ⟨by rfl, ?_⟩) (by assumption) ?_
              · intro V hSV; have e0 := F0.out V hSV; have e1 := F1.out V hSV; have e2 := F2.out V hSV; go_simp
              simp only [Act.put, List.setIfInBounds_toArray, List.set_cons_zero, List.set_cons_succ]
              refine take_at 2 (.slice (some ⟨lb, lo, none⟩) (j + 1) lc) rfl (by kernel_rfl) (by kernel_rfl) (by kernel_rfl) (fun _ _ _ h => h) (Or.inl ⟨by rfl, ?_⟩) (by assumption) ?_
              · intro V hSV; go_simp
              simp only [Act.put, List.setIfInBounds_toArray, List.set_cons_zero, List.set_cons_succ]
              refine take_at 3 (.slice (some ⟨lb, lo, none⟩) (j + 1) lc) rfl (by kernel_rfl) (by kernel_rfl) (by kernel_rfl) (fun _ _ _ h => h) (Or.inl ⟨by rfl, ?_⟩) (by assumption) ?_
              · intro V hSV; go_simp
              simp only [Act.put, List.setIfInBounds_toArray, List.set_cons_zero, List.set_cons_succ]
              refine take_at 4 (.int .i64 ((j : Int) + 1)) rfl (by kernel_rfl) (by kernel_rfl) (by kernel_rfl) (fun _ _ _ h => h) (Or.inl ⟨by rfl, ?_⟩) (by assumption) ?_
              · intro V hSV; go_simp
              simp only [Act.put, List.setIfInBounds_toArray, List.set_cons_zero, List.set_cons_succ]
              refine take_at 5 (.int .i64 (j : Int)) rfl (by kernel_rfl) (by kernel_rfl) (by kernel_rfl) (fun _ _ _ h => h) (Or.inl ⟨by rfl, ?_⟩) (by assumption) ?_
              · intro V hSV; go_simp
              simp only [Act.put, List.setIfInBounds_toArray, List.set_cons_zero, List.set_cons_succ]
              refine take_at 6 (.pointer (some ⟨lb, lo + j, none⟩)) rfl (by kernel_rfl) (by kernel_rfl) (by kernel_rfl) (fun _ _ _ h => h) (Or.inl ⟨by rfl, ?_⟩) (by assumption) ?_
              · intro V hSV; go_simp
              simp only [Act.put, List.setIfInBounds_toArray, List.set_cons_zero, List.set_cons_succ]
              refine take_at 7 (.slice ya yl yc) rfl (by kernel_rfl) (by kernel_rfl) (by kernel_rfl) (fun _ _ _ h => h) (Or.inl ⟨by rfl, ?_⟩) (by assumption) ?_
              · intro V hSV; have e0 := F3.out V hSV; go_simp
              simp only [Act.put, List.setIfInBounds_toArray, List.set_cons_zero, List.set_cons_succ]
              refine wpAnyH_ready (rs := [8]) (by kernel_rfl) (by simp) ?_
              refine AllReadyH.cons rfl (fun KK hK => ?_) AllReadyH.nil
              go_simp
              go_wp2_with (first | (go_at_call 7; refine (HSv.out).mono ?_; rintro e V5 ⟨ev, rfl, HEv, HI5, hf5⟩))
              refine hK.out _ _ ?_ (fun hHeld8 => ?_)
              · exact Fd.trans (by assumption) hf5
              clear hK KK
              refine take_at 9 (ev) rfl (by kernel_rfl) (by kernel_rfl) (by kernel_rfl) (fun _ _ _ h => h) (Or.inl ⟨by rfl, ?_⟩) (by assumption) ?_
              · intro V hSV; go_simp
              simp only [Act.put, List.setIfInBounds_toArray, List.set_cons_zero, List.set_cons_succ]
              refine wpAnyH_done (by kernel_rfl) ?_ _
              refine NoPanic.normal ?_
              clear hHeld hHeld8 hf5 F0 F1 F2 F3 HSv
              go_wp2_with (first
                | (at_builtin; refine wpList_append_ints _ rfl _ _ rfl rfl ca cs cn cc rfl HC.out.2.1 HC.out.2.2.1 (HC.out.1.on HI5.out.bw) HC.out.2.2.2 ?_
                   intro a6 c6 w6 hi6' hl6 hb6
                   have H6 := Lib.hid (And.intro hi6' (And.intro hl6 hb6))
                   clear hi6' hl6 hb6)
                | fail)
              have HI6 := Lib.hid (HI5.out.on H6.out.2.2)
              have HRs : Hid (Calls Try.prog 9 #[.pointer (some ⟨w.heap.size + 2, 0, none⟩), .slice a6 cn c6] w6 fun e w' => e = .returned (.tuple #[]) ∧ Hid (WhI w bx (.slice (some ⟨lb, lo, none⟩) (j + 1) lc) yss (restartD D1 cs) (8193 * j + 8193) w')) :=
                (restart_ HI6.out.dev a6 cs cn c6 HC.out.2.1 H6.out.1 (fun b o e => by have := H6.out.2.1 b o e; have := HI5.out.dev.lts.1; omega) (by have := HC.out.2.2.2; have := HC.out.2.1; omega)).mono fun e w' ⟨h1, h2, h3⟩ => ⟨h1, HI6.out.work h2 h3⟩
              clear HI5 H6 HI6
              go_wp2_with fail
              refine HRs.out.mono ?_
              rintro e w7 ⟨rfl, HI7⟩
              have HM3 := Lib.hid (HM.out cs)
              clear HRs HM HC
              generalize restartD D1 cs = D3 at *
              have HRd : Hid (∀ V (h i : Nat), h < 2 → i < 6 → WhI w bx (.slice (some ⟨lb, lo, none⟩) (j + 1) lc) yss D3 (8193 * j + 8193) V → Calls Try.prog 10 #[.pointer (some ⟨w.heap.size + 2, 0, none⟩), .int .i64 0, .int .i64 (6 * (h : Int) + i)] V (GotC V (readD D3 (0, 6 * (h : Int) + i)))) := fun V h i hh hi hV => by
                have hs := HM3.out.1
                refine read_ok hV.dev (0, 6 * (h : Int) + i) ⟨Int.le_refl _, by rw [hs.r]; show (0 : Int) < 1; decide, ?_, ?_⟩ hs.cr
                · show 0 ≤ 6 * (h : Int) + i; omega
                · rw [hs.s]; show 6 * (h : Int) + i < 2 * ((6 : Nat) : Int); omega
              have HLn : Hid (∀ (g : Int) i, (secsB D3 0 g i).length = 64 * i) := fun g i => secsB_len HM3.out.1.ok 0 g i
              have HCt : Hid (∀ k, (readD D3 k).length = 64) := fun k => (okC_read HM3.out.1.ok k).1
              go_wp2_with fail
              go_loopw [16] (fun hv wr => ∃ h : Nat, hv = .int .i64 h ∧ h ≤ 2 ∧ Hid (WhI w bx (.slice (some ⟨lb, lo, none⟩) (j + 1) lc) yss D3 (8193 * j + 8193) wr ∧ ∀ k, k < h → rightB (heldB (halfA D3 (arS 6) k)) yss = false)) (fun hv _ => 2 - (intOf hv).toNat)
              case atStart => exact ⟨0, rfl, by omega, HI7.out, fun k hk => by omega⟩
              case round =>
                obtain ⟨h, rfl, hh, HK⟩ := hrel
                obtain ⟨wo, rfl⟩ : ∃ wo, wo = wr := ⟨_, rfl⟩
                clear HI7
                by_cases hlh : h < 2
                · have hlh2 : (h : Int) < 2 := by omega
                  have hwh1 := wraps_i64 (6 * (h : Int)) (by omega) (by omega)
                  go_wp2_with fail
                  go_loopw [17, 18] (fun sv iv wr2 => ∃ (v : Value) (i : Nat), v = sv ∧ iv = .int .i64 i ∧ i ≤ 6 ∧ Hid (Own wr2 wo.heap.size v (secsB D3 0 (6 * (h : Int)) i)) ∧ Hid (Below wo.heap.size wo wr2)) (fun _ iv _ => 6 - (intOf iv).toNat)
                  case atStart => exact ⟨_, 0, rfl, rfl, by omega, own_nil _ _, Below.refl _ _⟩
                  case round =>
                    obtain ⟨v, i2, rfl, rfl, hi2, HO, HB⟩ := hrel
                    by_cases hli2 : i2 < 6
                    · have hli3 : (i2 : Int) < 6 := by omega
                      have hwh2 := wraps_i64 (6 * (h : Int) + i2) (by omega) (by omega)
                      have HLn1 := Lib.hid (HLn.out (6 * (h : Int)) i2)
                      go_wp2_with (first
                        | (go_at_call 10; refine (HRd.out _ h i2 hlh hli2 (HK.out.1.on HB.out)).mono ?_; rintro e w9 ⟨gg, rfl, hgg, hgb, hb9⟩
                           have HO2 := Lib.hid (HO.out.on hb9)
                           have HB2 := Lib.hid (below_step HB.out hb9)
                           have HG := Lib.hid (ct_bytes 5 hgb)
                           clear hgg hgb hb9)
                        | (at_builtin; refine wpList_append_bytes _ rfl _ _ rfl wo.heap.size _ (secsB D3 0 (6 * (h : Int)) i2) (readD D3 (0, 6 * (h : Int) + i2)) rfl HO2.out (some ⟨gg, 0, none⟩) 64 64 rfl (HCt.out _) (by simp) HG.out (by rw [HLn1.out, HCt.out]; omega) HB2.out.size ?_
                           intro v' w10 hown hgrow
                           have HO3 := Lib.hid hown
                           have HB3 := Lib.hid (below_grow HB2.out HO2.out hgrow)
                           clear hown hgrow)
                        | fail)
                      exact ⟨⟨_, i2 + 1, rfl, by go_num, by omega, by rw [secsB_snoc]; exact HO3, HB3⟩, by simp [intOf]; omega⟩
                    · have hli3 : ¬ (i2 : Int) < 6 := by omega
                      obtain rfl : i2 = 6 := by omega
                      have hHL := HLn.out (6 * (h : Int)) 6
                      obtain ⟨ag, ac, hva, hcap, hbase, hltb⟩ := own_some' HO.out (by rw [hHL]; omega)
                      subst hva
                      rw [hHL] at hcap HO ⊢
                      have hhalf : halfA D3 (arS 6) h = secsB D3 0 (6 * (h : Int)) 6 := by rw [half_eq, beg_s]; congr 1; omega
                      have HRt : Hid (Calls Try.prog 11 #[.slice (some ⟨ag, 0, none⟩) (64 * 6) ac, .slice (some ⟨lb, lo, none⟩) (j + 1) lc] wr fun e w' => e = .returned (.bool (rightB (heldB (halfA D3 (arS 6) h)) yss)) ∧ Below wr.heap.size wr w') := by
                        rw [hhalf]
                        obtain ⟨la', lc', hev, hli⟩ := (HK.out.1.on HB.out).ls.slice
                        simp only [Value.slice.injEq] at hev
                        obtain ⟨rfl, hevq, rfl⟩ := hev
                        exact right_ ag 0 _ (64 * 6) ac wr HO.out.cells.2.1 (secsB_byte HM3.out.1.ok _ _ _) hHL (by omega) (by omega) hcap _ yss (j + 1) lc HYl.out (by omega) hli
                      clear hHL hbase hltb hcap hhalf HO
                      obtain ⟨rb, hrb⟩ : ∃ rb, rb = rightB (heldB (halfA D3 (arS 6) h)) yss := ⟨_, rfl⟩
                      rw [← hrb] at HRt
                      have HRb := Lib.hid hrb
                      clear hrb
                      go_wp2_with fail
                      refine HRt.out.mono ?_
                      rintro e w10 ⟨rfl, hb10⟩
                      have HK10 : Hid (WhI w bx (.slice (some ⟨lb, lo, none⟩) (j + 1) lc) yss D3 (8193 * j + 8193) w10) := HK.out.1.on (below_step HB.out hb10)
                      clear hb10 HRt
                      cases rb with
                      | true =>
                        go_wp2_with fail
                        refine (HSu.out _).mono ?_
                        rintro e w11 ⟨rfl, hb11⟩
                        have HB11 := Lib.hid (below_step HK10.out.bw hb11)
                        clear hb11
                        go_wp2_with fail
                        go_ret
                        exact ⟨rfl, HB11.out⟩
                      | false =>
                        have HAll : Hid (∀ k, k < h + 1 → rightB (heldB (halfA D3 (arS 6) k)) yss = false) := fun k hk => by
                          rcases Nat.lt_or_ge k h with h1 | h1
                          · exact HK.out.2 k h1
                          · obtain rfl : k = h := by omega
                            exact HRb.out.symm
                        go_wp2_with fail
                        exact ⟨⟨h + 1, by go_num, by omega, HK10.out, HAll.out⟩, by simp [intOf]; omega⟩
                · have hlh2 : ¬ (h : Int) < 2 := by omega
                  obtain rfl : h = 2 := by omega
                  obtain ⟨hld, htx⟩ := HM3.out.2 (fun k hk => HK.out.2 k hk)
                  obtain ⟨jp, rfl⟩ : ∃ jp, j = jp + 1 := ⟨j - 1, by omega⟩
                  obtain ⟨TX, hTX⟩ : ∃ TX, TX = txtA D3 (arS 6) (tellA D3 (arS 6)) := ⟨_, rfl⟩
                  rw [← hTX] at htx
                  have HLd : Hid (Calls Try.prog 12 #[.pointer (some ⟨w.heap.size + 2, 0, none⟩), .agg #[.int .i64 0, .int .i64 0, .int .i64 12]] wo fun e w' => ∃ ta tl tc tn, e = .returned (.tuple #[.slice ta tl tc, .int .u64 tn, .nilIface]) ∧ (∀ V, Below w'.heap.size w' V → (convert 31 9 (.slice ta tl tc)).run Try.prog V = .ok (.string (bs TX)) V) ∧ Below wo.heap.size wo w') := (load_ HK.out.1.dev (arS 6) (inR_s 6 (by omega))).mono fun e w' ⟨h1, h2⟩ => by
                    rcases h1 with ⟨_, v, he, ta, tc, hv, hby, _⟩ | ⟨h0, _⟩
                    · rw [← hTX] at hv hby
                      exact ⟨ta, _, tc, _, by rw [he, hv], fun V hV => conv_ V ta _ tc TX rfl (hby.on hV), h2⟩
                    · exact absurd hld h0
                  obtain ⟨la', lc', hev, hli⟩ := HK.out.1.ls.slice
                  simp only [Value.slice.injEq] at hev
                  obtain ⟨rfl, hevq, rfl⟩ := hev
                  clear hevq
                  obtain ⟨lb1, lo1, e1, oa, oc, ho1, ho2, _⟩ := hli jp (by rw [HYl.out]; omega)
                  cases e1
                  obtain ⟨lb2, lo2, e2, na, nc, hn1, hn2, _⟩ := hli (jp + 1) (by rw [HYl.out]; omega)
                  cases e2
                  have htx2 : TX = yss.getD (jp + 1) [] ∨ (E1 ≠ 0 ∧ TX = yss.getD jp []) := by
                    rcases htx with h1 | ⟨h1, h2⟩
                    · left; rw [h1]; exact HYs.out.1
                    · right; exact ⟨h1, by rw [h2, HYs.out.2.2]; rfl⟩
                  have HTX := Lib.hid htx2
                  have HBw := Lib.hid HK.out.1.bw
                  obtain ⟨z0, z1, z2⟩ := HK.out.1.area
                  have HLs := Lib.hid (And.intro ho1 (And.intro ho2 (And.intro hn1 hn2)))
                  clear hld htx htx2 hTX hli ho1 ho2 hn1 hn2 HM3 HRd HLn HCt HYs HYl HK
                  generalize yss.getD jp [] = OT at *
                  generalize yss.getD (jp + 1) [] = NT at *
                  go_wp2_with fail
                  refine HLd.out.mono ?_
                  rintro e w9 ⟨ta, tl, tc, tn, rfl, hcvB, hb9⟩
                  have HB9 := Lib.hid (below_step HBw.out hb9)
                  have HcB : Hid (∀ V, Below w9.heap.size w9 V → (convert 31 9 (.slice ta tl tc)).run Try.prog V = .ok (.string (bs TX)) V) := hcvB
                  have G1 : Hid (∀ V, Below w9.heap.size w9 V → V.cell? ⟨lb, lo + jp, none⟩ = some (.slice oa OT.length oc)) := fun V hV => ((below_step hb9 hV).cell (block_lt_of_cell HLs.out.1)).trans HLs.out.1
                  have G2 : Hid (∀ V, Below w9.heap.size w9 V → (convert 31 9 (.slice oa OT.length oc)).run Try.prog V = .ok (.string (bs OT)) V) := fun V hV => conv_ V oa _ oc OT rfl (HLs.out.2.1.on (below_step hb9 hV))
                  have G3 : Hid (∀ V, Below w9.heap.size w9 V → V.cell? ⟨lb, lo + (jp + 1), none⟩ = some (.slice na NT.length nc)) := fun V hV => ((below_step hb9 hV).cell (block_lt_of_cell HLs.out.2.2.1)).trans HLs.out.2.2.1
                  have G4 : Hid (∀ V, Below w9.heap.size w9 V → (convert 31 9 (.slice na NT.length nc)).run Try.prog V = .ok (.string (bs NT)) V) := fun V hV => conv_ V na _ nc NT rfl (HLs.out.2.2.2.on (below_step hb9 hV))
                  have hw1 := wraps_i64 (jp : Int) (by omega) (by omega)
                  have hw2 := wraps_i64 ((jp : Int) + 1) (by omega) (by omega)
                  have hs1 : (jp : Int) + 1 + 1 - 2 = (jp : Int) := by omega
                  have hs2 : (jp : Int) + 1 + 1 - 1 = (jp : Int) + 1 := by omega
                  have hl1 : ¬ (jp : Int) + 1 + 1 ≤ (jp : Int) := by omega
                  have hl2' : ¬ (jp : Int) + 1 + 1 ≤ (jp : Int) + 1 := by omega
                  have hl3' : ¬ (jp : Int) + 1 < 0 := by omega
                  clear hb9 HLd HLs HBw z0 z1 z2 hcvB
                  generalize OT.length = ol at *
                  generalize NT.length = nl at *
                  go_wp2_with fail
                  refine wp_region_noPanic ?_
                  refine wp_region_held_drew (S := fun V => Below w9.heap.size w9 V) (by kernel_rfl) (below_drew _) (fun hHeld => ?_)
                  refine take_at 0 (.slice (some ⟨lb, lo, none⟩) (jp + 1 + 1) lc) rfl (by kernel_rfl) (by kernel_rfl) (by kernel_rfl) (fun _ _ _ h => h) (Or.inl ⟨by rfl, ?_⟩) (by assumption) ?_
                  · intro V hSV; go_simp
                  simp only [Act.put, List.setIfInBounds_toArray, List.set_cons_zero, List.set_cons_succ]
                  refine take_at 1 (.slice (some ⟨lb, lo, none⟩) (jp + 1 + 1) lc) rfl (by kernel_rfl) (by kernel_rfl) (by kernel_rfl) (fun _ _ _ h => h) (Or.inl ⟨by rfl, ?_⟩) (by assumption) ?_
                  · intro V hSV; go_simp
                  simp only [Act.put, List.setIfInBounds_toArray, List.set_cons_zero, List.set_cons_succ]
                  refine take_at 2 (.int .i64 ((jp : Int) + 1 + 1)) rfl (by kernel_rfl) (by kernel_rfl) (by kernel_rfl) (fun _ _ _ h => h) (Or.inl ⟨by rfl, ?_⟩) (by assumption) ?_
                  · intro V hSV; go_simp
                  simp only [Act.put, List.setIfInBounds_toArray, List.set_cons_zero, List.set_cons_succ]
                  refine take_at 3 (.int .i64 (jp : Int)) rfl (by kernel_rfl) (by kernel_rfl) (by kernel_rfl) (fun _ _ _ h => h) (Or.inl ⟨by rfl, ?_⟩) (by assumption) ?_
                  · intro V hSV; go_simp
                  simp only [Act.put, List.setIfInBounds_toArray, List.set_cons_zero, List.set_cons_succ]
                  refine take_at 4 (.pointer (some ⟨lb, lo + jp, none⟩)) rfl (by kernel_rfl) (by kernel_rfl) (by kernel_rfl) (fun _ _ _ h => h) (Or.inl ⟨by rfl, ?_⟩) (by assumption) ?_
                  · intro V hSV; go_simp
                  simp only [Act.put, List.setIfInBounds_toArray, List.set_cons_zero, List.set_cons_succ]
                  refine take_at 5 (.slice oa ol oc) rfl (by kernel_rfl) (by kernel_rfl) (by kernel_rfl) (fun _ _ _ h => h) (Or.inl ⟨by rfl, ?_⟩) (by assumption) ?_
                  · intro V hSV; have e0 := G1.out V hSV; go_simp
                  simp only [Act.put, List.setIfInBounds_toArray, List.set_cons_zero, List.set_cons_succ]
                  refine take_at 6 (.string (bs OT)) rfl (by kernel_rfl) (by kernel_rfl) (by kernel_rfl) (fun _ _ _ h => h) (Or.inl ⟨by rfl, ?_⟩) (by assumption) ?_
                  · intro V hSV; have e0 := G2.out V hSV; go_simp
                  simp only [Act.put, List.setIfInBounds_toArray, List.set_cons_zero, List.set_cons_succ]
                  refine take_at 7 (.slice (some ⟨lb, lo, none⟩) (jp + 1 + 1) lc) rfl (by kernel_rfl) (by kernel_rfl) (by kernel_rfl) (fun _ _ _ h => h) (Or.inl ⟨by rfl, ?_⟩) (by assumption) ?_
                  · intro V hSV; go_simp
                  simp only [Act.put, List.setIfInBounds_toArray, List.set_cons_zero, List.set_cons_succ]
                  refine take_at 8 (.slice (some ⟨lb, lo, none⟩) (jp + 1 + 1) lc) rfl (by kernel_rfl) (by kernel_rfl) (by kernel_rfl) (fun _ _ _ h => h) (Or.inl ⟨by rfl, ?_⟩) (by assumption) ?_
                  · intro V hSV; go_simp
                  simp only [Act.put, List.setIfInBounds_toArray, List.set_cons_zero, List.set_cons_succ]
                  refine take_at 9 (.int .i64 ((jp : Int) + 1 + 1)) rfl (by kernel_rfl) (by kernel_rfl) (by kernel_rfl) (fun _ _ _ h => h) (Or.inl ⟨by rfl, ?_⟩) (by assumption) ?_
                  · intro V hSV; go_simp
                  simp only [Act.put, List.setIfInBounds_toArray, List.set_cons_zero, List.set_cons_succ]
                  refine take_at 10 (.int .i64 ((jp : Int) + 1)) rfl (by kernel_rfl) (by kernel_rfl) (by kernel_rfl) (fun _ _ _ h => h) (Or.inl ⟨by rfl, ?_⟩) (by assumption) ?_
                  · intro V hSV; go_simp
                  simp only [Act.put, List.setIfInBounds_toArray, List.set_cons_zero, List.set_cons_succ]
                  refine take_at 11 (.pointer (some ⟨lb, lo + (jp + 1), none⟩)) rfl (by kernel_rfl) (by kernel_rfl) (by kernel_rfl) (fun _ _ _ h => h) (Or.inl ⟨by rfl, ?_⟩) (by assumption) ?_
                  · intro V hSV; go_simp
                  simp only [Act.put, List.setIfInBounds_toArray, List.set_cons_zero, List.set_cons_succ]
                  refine take_at 12 (.slice na nl nc) rfl (by kernel_rfl) (by kernel_rfl) (by kernel_rfl) (fun _ _ _ h => h) (Or.inl ⟨by rfl, ?_⟩) (by assumption) ?_
                  · intro V hSV; have e0 := G3.out V hSV; go_simp
                  simp only [Act.put, List.setIfInBounds_toArray, List.set_cons_zero, List.set_cons_succ]
                  refine take_at 13 (.string (bs NT)) rfl (by kernel_rfl) (by kernel_rfl) (by kernel_rfl) (fun _ _ _ h => h) (Or.inl ⟨by rfl, ?_⟩) (by assumption) ?_
                  · intro V hSV; have e0 := G4.out V hSV; go_simp
                  simp only [Act.put, List.setIfInBounds_toArray, List.set_cons_zero, List.set_cons_succ]
                  refine take_at 14 (.string (bs OT)) rfl (by kernel_rfl) (by kernel_rfl) (by kernel_rfl) (fun _ _ _ h => h) (Or.inl ⟨by rfl, ?_⟩) (by assumption) ?_
                  · intro V hSV; go_simp
                  simp only [Act.put, List.setIfInBounds_toArray, List.set_cons_zero, List.set_cons_succ]
                  refine take_at 15 (.string (bs NT)) rfl (by kernel_rfl) (by kernel_rfl) (by kernel_rfl) (fun _ _ _ h => h) (Or.inl ⟨by rfl, ?_⟩) (by assumption) ?_
                  · intro V hSV; go_simp
                  simp only [Act.put, List.setIfInBounds_toArray, List.set_cons_zero, List.set_cons_succ]
                  refine wpAnyH_done (by kernel_rfl) ?_ _
                  refine NoPanic.normal ?_
                  have hcvB := HcB.out _ hHeld
                  have HBd := Lib.hid (below_step HB9.out hHeld)
                  clear hHeld HcB G1 G2 G3 G4 HB9
                  generalize w9.drew = w10 at *
                  rcases HTX.out with hq | ⟨hE, hq⟩
                  · subst hq
                    generalize bs TX = sN at *
                    generalize bs OT = sO at *
                    clear HTX
                    go_wp2_with (first | (go_at_call 6; refine (HSu.out _).mono ?_; rintro e w11 ⟨rfl, hb11⟩; have HB11 := Lib.hid (below_step HBd.out hb11); clear hb11) | fail)
                    go_ret
                    exact ⟨rfl, HB11.out⟩
                  · subst hq
                    have hev := HEv.out
                    rw [errV_not hE] at hev
                    subst hev
                    clear HTX HEv
                    by_cases hsame : (bs TX).toList == (bs NT).toList
                    · generalize bs TX = sO at *
                      generalize bs NT = sN at *
                      go_wp2_with (first | (go_at_call 6; refine (HSu.out _).mono ?_; rintro e w11 ⟨rfl, hb11⟩; have HB11 := Lib.hid (below_step HBd.out hb11); clear hb11) | fail)
                      go_ret
                      exact ⟨rfl, HB11.out⟩
                    · have hsame' : ((bs TX).toList == (bs NT).toList) = false := by simpa using hsame
                      clear hsame
                      generalize bs TX = sO at *
                      generalize bs NT = sN at *
                      go_wp2_with (first | (go_at_call 6; refine (HSu.out _).mono ?_; rintro e w11 ⟨rfl, hb11⟩; have HB11 := Lib.hid (below_step HBd.out hb11); clear hb11) | fail)
                      go_ret
                      exact ⟨rfl, HB11.out⟩
end Go.Proofs.Ythaihallfjjnpaa
