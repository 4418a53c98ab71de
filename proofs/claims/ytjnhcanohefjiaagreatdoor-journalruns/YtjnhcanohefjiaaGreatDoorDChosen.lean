/- The walk of chosen. -/
import Derived.Test.YtjnhcanohefjiaaGreatDoorDRead
namespace Go.Proofs.YtjnhcanohefjiaaGreatDoor
open Go.RowKit Go.Sort Go.Maps

theorem wpList_box_ct {ops : Array Oper} {rest : List Oper} {op : Oper} {a : Act} {w : World} {Q : Exit → Act → World → Prop} (hgd : op.guard = none) (x : Operand) (ho : op.op = .box 137 x) (c : Ct) (hx : a.eval x = ctV c)
    (h : wpList Tryz.prog ops Q rest (a.put op.dst (.pointer (some ⟨w.heap.size, 0, none⟩))) (w.alloc (.cells (vals c).toArray 137))) : wpList Tryz.prog ops Q (op :: rest) a w :=
  wpList_plain hgd fun _ hK => by
    have hr : (Instr.box 137 (ctV c)).run Tryz.prog w = .ok (.pointer (some ⟨w.heap.size, 0, none⟩)) (w.alloc (.cells (vals c).toArray 137)) := by
      simp [Instr.box, newVar, newObj, go_sem, Value.cells, Result.andThen, ctV]
      rfl
    unfold Oper.wp execOp
    simp only [ho, hx, hr, Sem.run_bind, Sem.run_pure, Result.andThen_ok]
    exact hK _ _ h
theorem ready_copy {P : Program} {l : List Oper} {Q : Exit → Act → World → Prop} {md : Region.Mode} {S : World → Prop} (i : Nat) {oi : Oper} {post : List Oper} {fuel : Nat} {listed : Array Bool} {a : Act} {w w' : World} (hi : l.drop i = oi :: post) (hr : Region.ready md l.toArray listed = [i]) (hw : Region.wanted oi (yielded l.toArray a.tmps) = true)
    (t k : TypeId) (m x : Operand) (ho : oi.op = .call { callee := .builtin .copy, args := #[m, x], argTypes := #[t, k] }) (mv xv v : Value) (hm : a.eval m = mv) (hx : a.eval x = xv) (hrun : (Builtin.copy_ #[t, k] oi.type #[mv, xv]).run P w = .ok v w') (hS : S w')
    (h : wpAnyH P md l.toArray Q S fuel (listed.setIfInBounds i true) (a.put oi.dst v) w') : wpAnyH P md l.toArray Q S (fuel + 1) listed a w :=
  ready_at i hi hr hw (.inl (by simp [execOp, ho, resolve, invoke, builtin, hm, hx, hrun, Result.andThen])) hS h
/-- The world with the two contents and an empty one. -/
def chW (w : World) (a b : Ct) : World := ((w.alloc (.cells (vals a).toArray 137)).alloc (.cells (vals b).toArray 137)).alloc (.cells (vals zeroC).toArray 137)
theorem chW_at (w : World) (a b : Ct) : CtAt (chW w a b) w.heap.size a ∧ CtAt (chW w a b) (w.heap.size + 1) b ∧ CtAt (chW w a b) (w.heap.size + 2) zeroC ∧ Below w.heap.size w (chW w a b) ∧ (chW w a b).heap.size = w.heap.size + 3 := by
  have h2 := heap_two w (.cells (vals a).toArray 137) (.cells (vals b).toArray 137)
  have e : ((w.alloc (.cells (vals a).toArray 137)).alloc (.cells (vals b).toArray 137)).heap.size = w.heap.size + 2 := by simp
  have hb := (Below.refl _ ((w.alloc (.cells (vals a).toArray 137)).alloc (.cells (vals b).toArray 137))).alloc (Nat.le_refl _) (.cells (vals zeroC).toArray 137)
  refine ⟨(hb.block _ (by omega)).trans h2.2, (hb.block _ (by omega)).trans h2.1, ?_, (below_two w _ _).trans (hb.mono (by omega)), ?_⟩
  · have := World.alloc_heap_new' ((w.alloc (.cells (vals a).toArray 137)).alloc (.cells (vals b).toArray 137)) (.cells (vals zeroC).toArray 137)
    rw [e] at this
    exact this
  · unfold chW; simp
theorem torn_splice (a b : Ct) (ha : a.length = 64) : splice (vals b) 0 (vals (a.take 32)) = vals (tornC a b) := by
  simp only [splice, List.take_zero, List.nil_append, Nat.zero_add, vals_len, tornC, ← vals_append, List.length_take, ha]
  congr 1
  simp [vals]
set_option maxRecDepth 100000 in
set_option maxHeartbeats 2000000 in
theorem chosen_ (n : Int) (a b : Ct) (w : World) (ha : a.length = 64) (hb : b.length = 64) :
    Calls Tryz.prog 69 #[.int .i64 n, ctV a, ctV b] w fun e w' => e = .returned (ctV (chosenC n a b)) ∧ Below w.heap.size w w' := by
  obtain ⟨p0, p1, p2, pb, ps⟩ := chW_at w a b
  obtain ⟨W, hW⟩ : ∃ W, W = chW w a b := ⟨_, rfl⟩
  rw [← hW] at p0 p1 p2 pb ps
  have HW := Lib.hid hW
  unfold chW at HW
  clear hW
  by_cases h1 : n = 1
  · have hl := load_ct p0 ha
    have hs := store_ct p2 zero_len ha
    have HE : Hid (CtAt (W.setRow (w.heap.size + 2) (vals a).toArray) (w.heap.size + 2) a ∧ Below w.heap.size w (W.setRow (w.heap.size + 2) (vals a).toArray)) := ⟨p2.set _, below_setRow pb (by omega) _⟩
    have HC : Hid (chosenC n a b = a) := by simp [Hid, chosenC, h1]
    have k1 : (n == 1) = true := by simpa using h1
    generalize chosenC n a b = r at *
    clear p0 p1 p2 pb ps h1
    go_enter Tryz.func69, Tryz.ntmps69
    go_wp2_with (first | (refine wpList_box_ct rfl _ rfl a rfl ?_) | (refine wpList_box_ct rfl _ rfl b rfl ?_) | (refine wpList_alloc_ct rfl rfl ?_) | (refine wpList_load_at rfl 137 _ rfl _ _ rfl hl ?_) | (refine wpList_store_at rfl 137 _ _ rfl _ _ rfl rfl hs ?_) | (rw [← HW.out]; refine wpList_load_at rfl 137 _ rfl _ _ rfl hl ?_) | fail)
    refine bodyPost_ret (v := ctV a) ?_ rfl ⟨by rw [HC.out], HE.out.2⟩
    rw [results_cell rfl]
    simp [asAddr, Result.andThen, Act.put, loadVar_ct HE.out.1 ha]
  · have k1 : (n == 1) = false := by simpa using h1
    by_cases h2 : n = 2
    · have k2 : (n == 2) = true := by simpa using h2
      have HC : Hid (chosenC n a b = tornC a b) := by simp [Hid, chosenC, h2]
      generalize chosenC n a b = r at *
      have Hp := Lib.hid (And.intro p0 (And.intro p1 (And.intro p2 (And.intro pb ps))))
      have ht : (tornC a b).length = 64 := by simp [tornC, ha, hb]
      clear p0 p1 p2 pb ps h1 h2
      go_enter Tryz.func69, Tryz.ntmps69
      go_wp2_with (first | (refine wpList_box_ct rfl _ rfl a rfl ?_) | (refine wpList_box_ct rfl _ rfl b rfl ?_) | (refine wpList_alloc_ct rfl rfl ?_) | fail)
      rw [← HW.out]
      clear HW
      refine wp_region_noPanic ?_
      refine wp_region_held_drew (S := fun V => W.grownBy V (some (w.heap.size + 1))) (by kernel_rfl) (grown_drew _ _) (fun hHeld => ?_)
      refine take_at 0 (.slice (some ⟨w.heap.size + 1, 0, none⟩) 32 64) rfl (by kernel_rfl) (by kernel_rfl) (by kernel_rfl) (fun _ _ _ h => h) (Or.inl ⟨by rfl, ?_⟩) (by assumption) ?_
      · intro V hSV; go_simp
      simp only [Act.put, List.setIfInBounds_toArray, List.set_cons_zero, List.set_cons_succ]
      refine take_at 1 (.slice (some ⟨w.heap.size, 0, none⟩) 32 64) rfl (by kernel_rfl) (by kernel_rfl) (by kernel_rfl) (fun _ _ _ h => h) (Or.inl ⟨by rfl, ?_⟩) (by assumption) ?_
      · intro V hSV; go_simp
      simp only [Act.put, List.setIfInBounds_toArray, List.set_cons_zero, List.set_cons_succ]
      have hca : CtAt W.drew w.heap.size a := Hp.out.1
      have hcb : CtAt W.drew (w.heap.size + 1) b := Hp.out.2.1
      have hrun := run_copy_row (P := Tryz.prog) W.drew 53 53 3 5 (w.heap.size + 1) 0 32 64 ⟨w.heap.size, 0, none⟩ 32 64 (vals b).toArray 137 (vals (a.take 32)) Tryz.underlying53 sizeB hcb (by rw [vals_len, List.length_take, ha]; rfl) ((ct_bytes 137 hca).take 32).news (by simp [vals_len, ha, hb]) (vals_one _)
      have et : ((vals b).toArray.toList.take 0 ++ vals (a.take 32) ++ (vals b).toArray.toList.drop (0 + (vals (a.take 32)).length)).toArray = (vals (tornC a b)).toArray := by
        rw [← torn_splice a b ha]; simp [splice]
      rw [et] at hrun
      have hgS : W.grownBy (W.drew.setRow (w.heap.size + 1) (vals (tornC a b)).toArray) (some (w.heap.size + 1)) := ⟨rfl, rfl, rfl, by simp [World.setRow], fun i hi hne => setRow_other W.drew (w.heap.size + 1) i _ (fun e => hne (by rw [e]))⟩
      refine ready_copy 2 rfl (by kernel_rfl) (by rfl) 53 53 _ _ (by rfl) _ _ _ (by rfl) (by rfl) hrun hgS ?_
      refine wpAnyH_done (by kernel_rfl) ?_ _
      refine NoPanic.normal ?_
      have hct : CtAt (W.drew.setRow (w.heap.size + 1) (vals (tornC a b)).toArray) (w.heap.size + 1) (tornC a b) := hcb.set _
      have hcz : CtAt (W.drew.setRow (w.heap.size + 1) (vals (tornC a b)).toArray) (w.heap.size + 2) zeroC := (hgS.block _ (by rw [Hp.out.2.2.2.2]; omega) (fun e => by simp only [Option.some.injEq] at e; omega)).trans Hp.out.2.2.1
      have hbt : Below w.heap.size w (W.drew.setRow (w.heap.size + 1) (vals (tornC a b)).toArray) := below_setRow (below_step Hp.out.2.2.2.1 (below_drew W)) (by omega) _
      generalize W.drew.setRow (w.heap.size + 1) (vals (tornC a b)).toArray = W2 at *
      have hl := load_ct hct ht
      have hs := store_ct hcz zero_len ht
      have HE : Hid (CtAt (W2.setRow (w.heap.size + 2) (vals (tornC a b)).toArray) (w.heap.size + 2) (tornC a b) ∧ Below w.heap.size w (W2.setRow (w.heap.size + 2) (vals (tornC a b)).toArray)) := ⟨hcz.set _, below_setRow hbt (by omega) _⟩
      clear hct hcz hbt hrun hgS hca hcb Hp hHeld
      simp only [Act.put, List.setIfInBounds_toArray, List.set_cons_zero, List.set_cons_succ]
      go_wp2_with (first | (refine wpList_load_at rfl 137 _ rfl _ _ rfl hl ?_) | (refine wpList_store_at rfl 137 _ _ rfl _ _ rfl rfl hs ?_) | fail)
      refine bodyPost_ret (v := ctV (tornC a b)) ?_ rfl ⟨by rw [HC.out], HE.out.2⟩
      rw [results_cell rfl]
      simp [asAddr, Result.andThen, loadVar_ct HE.out.1 ht]
    · have k2 : (n == 2) = false := by simpa using h2
      have hl := load_ct p1 hb
      have hs := store_ct p2 zero_len hb
      have HE : Hid (CtAt (W.setRow (w.heap.size + 2) (vals b).toArray) (w.heap.size + 2) b ∧ Below w.heap.size w (W.setRow (w.heap.size + 2) (vals b).toArray)) := ⟨p2.set _, below_setRow pb (by omega) _⟩
      have HC : Hid (chosenC n a b = b) := by simp [Hid, chosenC, h1, h2]
      generalize chosenC n a b = r at *
      clear p0 p1 p2 pb ps h1 h2
      go_enter Tryz.func69, Tryz.ntmps69
      go_wp2_with (first | (refine wpList_box_ct rfl _ rfl a rfl ?_) | (refine wpList_box_ct rfl _ rfl b rfl ?_) | (refine wpList_alloc_ct rfl rfl ?_) | (refine wpList_load_at rfl 137 _ rfl _ _ rfl hl ?_) | (refine wpList_store_at rfl 137 _ _ rfl _ _ rfl rfl hs ?_) | (rw [← HW.out]; refine wpList_load_at rfl 137 _ rfl _ _ rfl hl ?_) | fail)
      refine bodyPost_ret (v := ctV b) ?_ rfl ⟨by rw [HC.out], HE.out.2⟩
      rw [results_cell rfl]
      simp [asAddr, Result.andThen, Act.put, loadVar_ct HE.out.1 hb]
end Go.Proofs.YtjnhcanohefjiaaGreatDoor
