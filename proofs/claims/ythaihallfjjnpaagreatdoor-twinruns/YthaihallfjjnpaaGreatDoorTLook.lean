/- twin.look: what both halves hold. -/
import Derived.Test.YthaihallfjjnpaaGreatDoorTFind
import Derived.Deep.MidRow
namespace Go.Proofs.YthaihallfjjnpaaGreatDoor
open Go.RowKit Go.Sort Go.Maps

/-- A slice of bytes. -/
def SlT (w : World) (v : Value) (ts : List Nat) : Prop := ∃ a c, v = .slice a ts.length c ∧ BytesIn w a ts ∧ (a = none → c = 0) ∧ ts.length ≤ c
theorem SlT.on {w w' : World} {v : Value} {ts : List Nat} (h : SlT w v ts) (hb : Below w.heap.size w w') : SlT w' v ts := by
  obtain ⟨a, c, h1, h2, h3⟩ := h
  exact ⟨a, c, h1, h2.on hb, h3⟩
theorem slT_nil (w : World) : SlT w (.slice none 0 0) [] := ⟨none, 0, rfl, bytesIn_nil _ _, fun _ => rfl, Nat.le_refl _⟩
/-- What look hands back. -/
def LookTo (w : World) (d : Dev) (a : Ar) (e : Ending) (w' : World) : Prop :=
  ((lookE d a = 0 ∧ ∃ s0 s1, e = .returned (.tuple #[twoV (numA d a 0) (numA d a 1) s0 s1, .nilIface]) ∧ SlT w' s0 (txtA d a 0) ∧ SlT w' s1 (txtA d a 1)) ∨ (lookE d a ≠ 0 ∧ e = .returned (.tuple #[twoV 0 0 (.slice none 0 0) (.slice none 0 0), .iface 56 (.int .i64 (lookE d a : Nat))]))) ∧ Below w.heap.size w w'
theorem infoKs : (Tryz.prog.info? 71).map (·.size) = some 4 := by kernel_rfl
theorem zeroKs : (Tryz.prog.info? 71).map (fun i => (i.zero, i.size)) = some (some (.agg #[.int .u64 0, .slice none 0 0, .int .u64 0, .slice none 0 0]), 4) := by kernel_rfl
theorem loadVar_ks {w : World} {b : Nat} {cs : Array Value} (h : w.heap[b]? = some (.cells cs 71 (0, 0))) (hc : cs.size = 4) : (loadVar 71 ⟨b, 0, none⟩).run Tryz.prog w = .ok (.agg cs) w :=
  run_loadVar_row w b 71 71 _ (0, 0) _ h Tryz.underlying71 rfl (by rw [hc]; exact infoKs)
theorem load_ks {w : World} {b : Nat} {cs : Array Value} (h : w.heap[b]? = some (.cells cs 71 (0, 0))) (hc : cs.size = 4) : (Instr.loadAt 71 (.pointer (some ⟨b, 0, none⟩))).run Tryz.prog w = .ok (.agg cs) w := by
  simp only [Instr.loadAt, Instr.sureAddr, Sem.run_bind, Sem.run_pure, Result.andThen]
  exact loadVar_ks h hc
theorem store_ks {w : World} {b : Nat} {old cs : Array Value} (h : w.heap[b]? = some (.cells old 71 (0, 0))) (ho : old.size = 4) (hc : cs.size = 4) (h1 : cs.all (·.oneCell') = true) : (Instr.storeAt 71 (.pointer (some ⟨b, 0, none⟩)) (.agg cs)).run Tryz.prog w = .ok () (w.setRow b cs) := by
  simp only [Instr.storeAt, Instr.sureAddr, Sem.run_bind, Sem.run_pure, Result.andThen]
  exact run_storeVar_row w b 71 71 _ _ h (by rw [hc]; exact infoKs) (ho.trans hc.symm) h1
theorem four_one (n m : Int) (a b : Option Addr) (l k c e : Nat) : (#[Value.int .u64 n, .slice a l c, .int .u64 m, .slice b k e]).all (·.oneCell') = true := by
  simp [Value.oneCell']
theorem results_ks {fn : Func} {p q : Tmp} (h : fn.results = #[.cell p 71, .tmp q]) (tmps : Array Value) (w : World) (b : Nat) (cs : Array Value) (v : Value) (hp : tmps.getD p undef = .pointer (some ⟨b, 0, none⟩)) (hq : tmps.getD q undef = v) (hb : w.heap[b]? = some (.cells cs 71 (0, 0))) (hc : cs.size = 4) :
    (results fn tmps).run Tryz.prog w = .ok (.tuple #[.agg cs, v]) w := by
  have hl := loadVar_ks hb hc
  simp only [results, h]
  rw [Array.getD_eq_getD_getElem?] at hp hq
  simp [Result.andThen, hp, hq, asAddr, hl]
/-- Where look's result lies: the area's box and the result's block. -/
def lkW (w : World) (a : Ar) : World := (w.alloc (.cells #[.int .i64 a.g, .int .i64 a.f, .int .i64 a.s] 44)).alloc (.cells #[.int .u64 0, .slice none 0 0, .int .u64 0, .slice none 0 0] 71)
theorem lkW_at (w : World) (a : Ar) : ArAt (lkW w a) w.heap.size a ∧ (lkW w a).heap[w.heap.size + 1]? = some (.cells #[.int .u64 0, .slice none 0 0, .int .u64 0, .slice none 0 0] 71 (0, 0)) ∧ Below w.heap.size w (lkW w a) := ⟨(heap_two w _ _).2, (heap_two w _ _).1, below_two w _ _⟩
set_option maxRecDepth 100000 in
set_option maxHeartbeats 2000000 in
theorem look_out {w : World} {p aa bb : Nat} {d : Dev} {K : Nat} (h : DevIn w p aa bb d K) (a : Ar) (hr : inR a) (hin : ¬ inA d a) :
    Calls Tryz.prog 24 #[.pointer (some ⟨p, 0, none⟩), arV a] w (LookTo w d a) := by
  obtain ⟨x1, x2, x3⟩ := lkW_at w a
  have HI := Lib.hid (isIn_ (h.on x3) a hr)
  rw [decide_eq_false hin] at HI
  have hl : lookE d a = 1 := if_pos hin
  have hzk := (zero_of_info zeroKs).1
  have HX := Lib.hid (And.intro x1 (And.intro x2 x3))
  unfold lkW at HI HX
  clear x1 x2 x3 h hin
  obtain ⟨g, f, s⟩ := a
  unfold arV at HI ⊢
  simp only at HI HX ⊢
  generalize hV : (w.alloc (.cells #[.int .i64 g, .int .i64 f, .int .i64 s] 44)).alloc (.cells #[.int .u64 0, .slice none 0 0, .int .u64 0, .slice none 0 0] 71) = V at *
  have HV := Lib.hid hV
  clear hV
  go_enter Tryz.func24, Tryz.ntmps24
  go_wp2_with fail
  rw [HV.out]
  refine HI.out.mono ?_
  rintro e w1 ⟨rfl, hb1⟩
  have hk1 := (hb1.block _ (blk_lt HX.out.2.1)).trans HX.out.2.1
  have HS := Lib.hid (store_ks hk1 rfl (cs := #[.int .u64 0, .slice none 0 0, .int .u64 0, .slice none 0 0]) rfl (four_one _ _ _ _ _ _ _ _))
  have HR := Lib.hid (setRow_heap w1 _ _ #[.int .u64 0, .slice none 0 0, .int .u64 0, .slice none 0 0] 71 (0, 0) hk1)
  have HB := Lib.hid (below_setRow (g := w.heap.size + 1) (cs := #[.int .u64 0, .slice none 0 0, .int .u64 0, .slice none 0 0]) (below_step HX.out.2.2 hb1) (by omega))
  clear hb1 hk1 HI
  go_wp2_with (first | (refine wpList_store_at rfl 71 _ _ rfl _ _ rfl rfl HS.out ?_) | fail)
  refine bodyPost_ret (v := .tuple #[twoV 0 0 (.slice none 0 0) (.slice none 0 0), .iface 56 (.int .i64 1)]) ?_ rfl ⟨.inr ⟨by rw [hl]; decide, by rw [hl]; rfl⟩, HB.out⟩
  exact results_ks rfl _ _ (w.heap.size + 1) _ _ rfl rfl HR.out rfl
/-- The facts of an area that lies in a device. -/
theorem inA_half {d : Dev} {a : Ar} (hin : inA d a) (h : Nat) (hh : h < 2) : 0 ≤ begA a h ∧ ∀ i : Nat, i < (a.s / 2).toNat → hasD d (a.g, begA a h + i) := by
  obtain ⟨h1, h2, h3, h4, h5, h6⟩ := hin
  have hm : (h : Int) * (a.s / 2) = 0 ∨ (h : Int) * (a.s / 2) = a.s / 2 := by
    have : h = 0 ∨ h = 1 := by omega
    rcases this with rfl | rfl
    · left; simp
    · right; simp
  unfold begA
  generalize (h : Int) * (a.s / 2) = m at *
  refine ⟨by omega, fun i hi => ⟨h1, h2, ?_, ?_⟩⟩
  · show 0 ≤ a.f + m + (i : Int); omega
  · show a.f + m + (i : Int) < d.s; omega
set_option maxRecDepth 100000 in
set_option maxHeartbeats 2000000 in
theorem look_crash {w : World} {p aa bb : Nat} {d : Dev} {K : Nat} (h : DevIn w p aa bb d K) (a : Ar) (hr : inR a) (hin : inA d a) (hcr : d.crashed = true) :
    Calls Tryz.prog 24 #[.pointer (some ⟨p, 0, none⟩), arV a] w (LookTo w d a) := by
  obtain ⟨x1, x2, x3⟩ := lkW_at w a
  have HI := Lib.hid (isIn_ (h.on x3) a hr)
  rw [decide_eq_true hin] at HI
  have hl : lookE d a = 60 := by unfold lookE; rw [if_neg (fun e => e hin), if_pos hcr]
  have hzk := (zero_of_info zeroKs).1
  have hlim := h.lim
  have HX := Lib.hid (And.intro x1 (And.intro x2 x3))
  obtain ⟨hb0, hsec⟩ := inA_half hin 0 (by omega)
  obtain ⟨i1, i2, i3, i4, i5, i6⟩ := hin
  have HBg := Lib.hid (fun W => begin_ a 0 W (by omega) (by omega) i3 (by omega) (by omega))
  have HHs := Lib.hid (fun W => halfS_ a W (by omega) (by omega))
  have hq : ((a.s / 2).toNat : Int) = a.s / 2 := by omega
  have hb00 : begA a 0 = a.f := by simp [begA]
  have HRd : Hid (∀ W, Below w.heap.size w W → Calls Tryz.prog 50 #[.pointer (some ⟨p, 0, none⟩), .int .i64 a.g, .int .i64 (begA a 0), .int .i64 (a.s / 2)] W fun e w' => e = .returned (.tuple #[.slice none 0 0, .iface 56 (.int .i64 60)]) ∧ Below W.heap.size W w') := fun W hW => by
    have := tread_bad (h.on hW) a.g (begA a 0) (a.s / 2).toNat (by omega) (by omega) (by have := hsec 0 (by omega); simpa using this) hcr (by rw [hb00]; omega)
    rw [hq] at this
    exact this
  unfold lkW at HI HX
  clear x1 x2 x3 h hcr hsec hb00
  generalize hB : begA a 0 = B at *
  generalize hQ : a.s / 2 = Q at *
  obtain ⟨g, f, s⟩ := a
  unfold arV at HI HBg HHs ⊢
  simp only at HI HX HBg HHs HRd i1 i2 i3 i4 i5 i6 hQ ⊢
  generalize hV : (w.alloc (.cells #[.int .i64 g, .int .i64 f, .int .i64 s] 44)).alloc (.cells #[.int .u64 0, .slice none 0 0, .int .u64 0, .slice none 0 0] 71) = V at *
  have HV := Lib.hid hV
  clear hV hB hQ
  go_enter Tryz.func24, Tryz.ntmps24
  go_wp2_with fail
  rw [HV.out]
  refine HI.out.mono ?_
  rintro e w1 ⟨rfl, hb1⟩
  obtain ⟨W, hW⟩ : ∃ W, W = w1.alloc (.cells #[.int .u64 0, .slice none 0 0, .int .u64 0, .slice none 0 0] 71) := ⟨_, rfl⟩
  have hbW : Below w1.heap.size w1 W := by rw [hW]; exact below_alloc _ _
  have hA := HX.out.1.on (below_step hb1 hbW)
  have hk1 := (((below_step hb1 hbW).block _ (blk_lt HX.out.2.1)).trans HX.out.2.1)
  have HBW := Lib.hid (below_step HX.out.2.2 (below_step hb1 hbW))
  have HAK := Lib.hid (And.intro hA hk1)
  have HW := Lib.hid hW
  clear hb1 hbW hA hk1 hW HI HX HV
  go_wp2_with fail
  rw [← HW.out]
  go_loopw [16] (fun iv wr => iv = .int .i64 0 ∧ wr = W) (fun _ _ => 0)
  case atStart => exact ⟨rfl, rfl⟩
  case round =>
    obtain ⟨rfl, rfl⟩ := hrel
    obtain ⟨y0, y1, y2⟩ := HAK.out.1.cells
    simp only at y0 y1 y2
    have F0 : Hid (∀ V, Below wr.heap.size wr V → V.cell? ⟨w.heap.size, 0, none⟩ = some (.int .i64 g)) := fun V hV => (hV.cell (block_lt_of_cell y0)).trans y0
    have F1 : Hid (∀ V, Below wr.heap.size wr V → V.cell? ⟨w.heap.size, 1, none⟩ = some (.int .i64 f)) := fun V hV => (hV.cell (block_lt_of_cell y1)).trans y1
    have F2 : Hid (∀ V, Below wr.heap.size wr V → V.cell? ⟨w.heap.size, 2, none⟩ = some (.int .i64 s)) := fun V hV => (hV.cell (block_lt_of_cell y2)).trans y2
    clear y0 y1 y2 HW
    go_wp2_with fail
    refine wp_region_noPanic ?_
    refine wp_region_held_drew (S := fun V => Below wr.heap.size wr V) (by kernel_rfl) (below_drew _) (fun hHeld => ?_)
    refine take_at 0 (.pointer (some ⟨p, 0, none⟩)) rfl (by kernel_rfl) (by kernel_rfl) (by kernel_rfl) (fun _ _ _ h => h) (Or.inl ⟨by rfl, ?_⟩) (by assumption) ?_
    · intro V hSV; go_simp
    simp only [Act.put, List.setIfInBounds_toArray, List.set_cons_zero, List.set_cons_succ]
    refine take_at 1 (.pointer (some ⟨w.heap.size, 0, none⟩)) rfl (by kernel_rfl) (by kernel_rfl) (by kernel_rfl) (fun _ _ _ h => h) (Or.inl ⟨by rfl, ?_⟩) (by assumption) ?_
    · intro V hSV; go_simp
    simp only [Act.put, List.setIfInBounds_toArray, List.set_cons_zero, List.set_cons_succ]
    refine take_at 2 (.int .i64 g) rfl (by kernel_rfl) (by kernel_rfl) (by kernel_rfl) (fun _ _ _ h => h) (Or.inl ⟨by rfl, ?_⟩) (by assumption) ?_
    · intro V hSV; have e0 := F0.out V hSV; go_simp
    simp only [Act.put, List.setIfInBounds_toArray, List.set_cons_zero, List.set_cons_succ]
    refine take_at 3 (.agg #[.int .i64 g, .int .i64 f, .int .i64 s]) rfl (by kernel_rfl) (by kernel_rfl) (by kernel_rfl) (fun _ _ _ h => h) (Or.inl ⟨by rfl, ?_⟩) (by assumption) ?_
    · intro V hSV; have e0 := F0.out V hSV; have e1 := F1.out V hSV; have e2 := F2.out V hSV; go_simp
    simp only [Act.put, List.setIfInBounds_toArray, List.set_cons_zero, List.set_cons_succ]
    refine take_at 4 (.int .i64 0) rfl (by kernel_rfl) (by kernel_rfl) (by kernel_rfl) (fun _ _ _ h => h) (Or.inl ⟨by rfl, ?_⟩) (by assumption) ?_
    · intro V hSV; go_simp
    simp only [Act.put, List.setIfInBounds_toArray, List.set_cons_zero, List.set_cons_succ]
    refine take_at 6 (.agg #[.int .i64 g, .int .i64 f, .int .i64 s]) rfl (by kernel_rfl) (by kernel_rfl) (by kernel_rfl) (fun _ _ _ h => h) (Or.inl ⟨by rfl, ?_⟩) (by assumption) ?_
    · intro V hSV; have e0 := F0.out V hSV; have e1 := F1.out V hSV; have e2 := F2.out V hSV; go_simp
    simp only [Act.put, List.setIfInBounds_toArray, List.set_cons_zero, List.set_cons_succ]
    refine wpAnyH_ready (rs := [5]) (by kernel_rfl) (by simp) ?_
    refine AllReadyH.cons rfl (fun KK hK => ?_) AllReadyH.nil
    go_simp
    go_wp2_with (first | (go_at_call 33; refine (HBg.out _).mono ?_; rintro e V1 ⟨rfl, hb1⟩))
    refine hK.out _ _ ?_ (fun hHeld5 => ?_)
    · exact below_step (by assumption) hb1
    clear hK KK
    refine wpAnyH_ready (rs := [7]) (by kernel_rfl) (by simp) ?_
    refine AllReadyH.cons rfl (fun KK hK => ?_) AllReadyH.nil
    go_simp
    go_wp2_with (first | (go_at_call 30; refine (HHs.out _).mono ?_; rintro e V2 ⟨rfl, hb2⟩))
    refine hK.out _ _ ?_ (fun hHeld7 => ?_)
    · exact below_step (by assumption) hb2
    clear hK KK
    refine wpAnyH_ready (rs := [8]) (by kernel_rfl) (by simp) ?_
    refine AllReadyH.cons rfl (fun KK hK => ?_) AllReadyH.nil
    go_simp
    go_wp2_with (first | (go_at_call 50; refine (HRd.out _ (below_step HBW.out (by assumption))).mono ?_; rintro e V3 ⟨rfl, hb3⟩))
    refine hK.out _ _ ?_ (fun hHeld8 => ?_)
    · exact below_step (by assumption) hb3
    clear hK KK
    refine take_at 9 (.tuple #[.slice none 0 0, .iface 56 (.int .i64 60)]) rfl (by kernel_rfl) (by kernel_rfl) (by kernel_rfl) (fun _ _ _ h => h) (Or.inl ⟨by rfl, ?_⟩) (by assumption) ?_
    · intro V hSV; go_simp
    simp only [Act.put, List.setIfInBounds_toArray, List.set_cons_zero, List.set_cons_succ]
    refine take_at 10 (.slice none 0 0) rfl (by kernel_rfl) (by kernel_rfl) (by kernel_rfl) (fun _ _ _ h => h) (Or.inl ⟨by rfl, ?_⟩) (by assumption) ?_
    · intro V hSV; go_simp
    simp only [Act.put, List.setIfInBounds_toArray, List.set_cons_zero, List.set_cons_succ]
    refine take_at 11 (.iface 56 (.int .i64 60)) rfl (by kernel_rfl) (by kernel_rfl) (by kernel_rfl) (fun _ _ _ h => h) (Or.inl ⟨by rfl, ?_⟩) (by assumption) ?_
    · intro V hSV; go_simp
    simp only [Act.put, List.setIfInBounds_toArray, List.set_cons_zero, List.set_cons_succ]
    refine take_at 12 (.slice none 0 0) rfl (by kernel_rfl) (by kernel_rfl) (by kernel_rfl) (fun _ _ _ h => h) (Or.inl ⟨by rfl, ?_⟩) (by assumption) ?_
    · intro V hSV; go_simp
    simp only [Act.put, List.setIfInBounds_toArray, List.set_cons_zero, List.set_cons_succ]
    refine take_at 13 (.iface 56 (.int .i64 60)) rfl (by kernel_rfl) (by kernel_rfl) (by kernel_rfl) (fun _ _ _ h => h) (Or.inl ⟨by rfl, ?_⟩) (by assumption) ?_
    · intro V hSV; go_simp
    simp only [Act.put, List.setIfInBounds_toArray, List.set_cons_zero, List.set_cons_succ]
    refine wpAnyH_done (by kernel_rfl) ?_ _
    refine NoPanic.normal ?_
    have hBV : Below wr.heap.size wr V3 := by assumption
    have hk1 := (hBV.block _ (blk_lt HAK.out.2)).trans HAK.out.2
    have HS := Lib.hid (store_ks hk1 rfl (cs := #[.int .u64 0, .slice none 0 0, .int .u64 0, .slice none 0 0]) rfl (four_one _ _ _ _ _ _ _ _))
    have HR := Lib.hid (setRow_heap V3 _ _ #[.int .u64 0, .slice none 0 0, .int .u64 0, .slice none 0 0] 71 (0, 0) hk1)
    have HB := Lib.hid (below_setRow (g := w.heap.size + 1) (cs := #[.int .u64 0, .slice none 0 0, .int .u64 0, .slice none 0 0]) (below_step HBW.out hBV) (by omega))
    clear hb1 hb2 hb3 hk1 hBV F0 F1 F2 HBg HHs HRd hHeld hHeld5 hHeld7 hHeld8
    go_wp2_with (first | (refine wpList_store_at rfl 71 _ _ rfl _ _ rfl rfl HS.out ?_) | fail)
    refine bodyPost_ret (v := .tuple #[twoV 0 0 (.slice none 0 0) (.slice none 0 0), .iface 56 (.int .i64 60)]) ?_ rfl ⟨.inr ⟨by rw [hl]; decide, by rw [hl]; rfl⟩, HB.out⟩
    exact results_ks rfl _ _ (w.heap.size + 1) _ _ rfl rfl HR.out rfl
/-- Between two rounds of look. -/
structure Lk (w : World) (B : Nat) (d : Dev) (a : Ar) (i : Nat) (wr : World) : Prop where
  bw : Below w.heap.size w wr
  ar : ArAt wr w.heap.size a
  res : wr.heap[w.heap.size + 1]? = some (.cells #[.int .u64 0, .slice none 0 0, .int .u64 0, .slice none 0 0] 71 (0, 0))
  two : ∃ s0 s1, wr.heap[B]? = some (.cells #[.int .u64 (if 0 < i then numA d a 0 else 0 : Nat), s0, .int .u64 (if 1 < i then numA d a 1 else 0 : Nat), s1] 71 (0, 0)) ∧ SlT wr s0 (if 0 < i then txtA d a 0 else []) ∧ SlT wr s1 (if 1 < i then txtA d a 1 else [])
theorem Lk.on {w wr V : World} {B : Nat} {d : Dev} {a : Ar} {i : Nat} (h : Lk w B d a i wr) (hb : Below wr.heap.size wr V) : Lk w B d a i V := by
  obtain ⟨s0, s1, h1, h2, h3⟩ := h.two
  exact ⟨below_step h.bw hb, h.ar.on hb, (hb.block _ (blk_lt h.res)).trans h.res, s0, s1, (hb.block _ (blk_lt h1)).trans h1, h2.on hb, h3.on hb⟩
theorem SlT.set {w : World} {v x y u0 u1 : Value} {ts : List Nat} {B o o' : Nat} {m0 m1 : Int} (h : SlT w v ts) (hB : w.heap[B]? = some (.cells #[.int .u64 m0, u0, .int .u64 m1, u1] 71 (0, 0))) (h0 : ∀ m, u0 ≠ .int .u8 m) (h1 : ∀ m, u1 ≠ .int .u8 m) : SlT ((w.setCell ⟨B, o, none⟩ x).setCell ⟨B, o', none⟩ y) v ts := by
  obtain ⟨a, cc, h1', h2, h3⟩ := h
  refine ⟨a, cc, h1', ?_, h3⟩
  intro i hi
  obtain ⟨b, p, e, hcell⟩ := h2 i hi
  refine ⟨b, p, e, ?_⟩
  have hne : b ≠ B := by
    rintro rfl
    simp only [World.cell?, hB] at hcell
    rcases Nat.lt_or_ge (p + i) 4 with hlt | hge
    · have : p + i = 0 ∨ p + i = 1 ∨ p + i = 2 ∨ p + i = 3 := by omega
      rcases this with e | e | e | e <;> rw [e] at hcell <;> simp at hcell
      · exact h0 _ hcell
      · exact h1 _ hcell
    · rw [Array.getElem?_eq_none (by simpa using hge)] at hcell
      cases hcell
  rw [← hcell]
  simp only [World.cell?, heap_far _ hne]
theorem SlT.no8 {w : World} {v : Value} {ts : List Nat} (h : SlT w v ts) (m : Int) : v ≠ .int .u8 m := by
  obtain ⟨a, c, rfl, _⟩ := h
  exact fun e => by cases e
theorem SlT.one {w : World} {v : Value} {ts : List Nat} (h : SlT w v ts) : v.oneCell' = true := by
  obtain ⟨a, c, rfl, _⟩ := h
  rfl
theorem two_one (n : Int) (v : Value) (h : v.oneCell' = true) : (#[Value.int .u64 n, v]).all (·.oneCell') = true := by
  rw [Array.all_eq_true_iff_forall_mem]
  intro x hx
  simp at hx
  rcases hx with rfl | rfl
  · rfl
  · exact h
theorem SlT.row {w : World} {v : Value} {ts : List Nat} {B : Nat} {cs : Array Value} (h : SlT w v ts) (hB : w.heap[B]? = some (.cells #[.int .u64 0, .slice none 0 0, .int .u64 0, .slice none 0 0] 71 (0, 0))) : SlT (w.setRow B cs) v ts := by
  obtain ⟨a, cc, h1', h2, h3⟩ := h
  refine ⟨a, cc, h1', ?_, h3⟩
  intro i hi
  obtain ⟨b, p, e, hcell⟩ := h2 i hi
  refine ⟨b, p, e, ?_⟩
  have hne : b ≠ B := by
    rintro rfl
    simp only [World.cell?, hB] at hcell
    rcases Nat.lt_or_ge (p + i) 4 with hlt | hge
    · have : p + i = 0 ∨ p + i = 1 ∨ p + i = 2 ∨ p + i = 3 := by omega
      rcases this with e | e | e | e <;> rw [e] at hcell <;> simp at hcell
    · rw [Array.getElem?_eq_none (by simpa using hge)] at hcell
      cases hcell
  rw [← hcell]
  simp only [World.cell?, setRow_other w B b cs hne]
/-- What find kept is stored into its half. -/
theorem lk_store {w V : World} {B : Nat} {d : Dev} {a : Ar} {i : Nat} {v : Value} (h : Lk w B d a i V) (hi : i < 2) (hB : w.heap.size + 1 < B) (hv : SlT V v (txtA d a i)) :
    ∃ V', (Instr.storeAt 70 (.pointer (some ⟨B, i * 2, none⟩)) (.agg #[.int .u64 (numA d a i : Nat), v])).run Tryz.prog V = .ok () V' ∧ Lk w B d a (i + 1) V' := by
  obtain ⟨s0, s1, h1, h2, h3⟩ := h.two
  have hth : V.there B (i * 2) 2 := fun j hj => by
    refine ⟨?_, frozen_of h1⟩
    have : i * 2 + j = 0 ∨ i * 2 + j = 1 ∨ i * 2 + j = 2 ∨ i * 2 + j = 3 := by omega
    rcases this with e | e | e | e <;> rw [e] <;> simp [World.cell?, h1]
  refine ⟨_, run_storeAt_mid V B (i * 2) 70 _ hth infoK (two_one _ _ hv.one), ?_⟩
  have hset : V.setCells B (i * 2) [.int .u64 (numA d a i : Nat), v] = (V.setCell ⟨B, i * 2, none⟩ (.int .u64 (numA d a i : Nat))).setCell ⟨B, i * 2 + 1, none⟩ v := rfl
  show Lk w B d a (i + 1) (V.setCells B (i * 2) [.int .u64 (numA d a i : Nat), v])
  rw [hset]
  have hfar : ∀ k, k ≠ B → ((V.setCell ⟨B, i * 2, none⟩ (.int .u64 (numA d a i : Nat))).setCell ⟨B, i * 2 + 1, none⟩ v).heap[k]? = V.heap[k]? := fun k hk => (heap_far _ hk).trans (heap_far _ hk)
  have hblk := heap_set (o := i * 2 + 1) v (heap_set (o := i * 2) (.int .u64 (numA d a i : Nat)) h1)
  refine ⟨(h.bw.setCell (p := ⟨B, i * 2, none⟩) (by show w.heap.size ≤ B; omega) _).setCell (p := ⟨B, i * 2 + 1, none⟩) (by show w.heap.size ≤ B; omega) _, (hfar _ (by omega)).trans h.ar, (hfar _ (by omega)).trans h.res, ?_⟩
  have hc : i = 0 ∨ i = 1 := by omega
  rcases hc with rfl | rfl
  · refine ⟨v, s1, ?_, ?_, ?_⟩
    · rw [hblk]; rfl
    · exact hv.set h1 h2.no8 h3.no8
    · exact h3.set h1 h2.no8 h3.no8
  · refine ⟨s0, v, ?_, ?_, ?_⟩
    · rw [hblk]; rfl
    · exact h2.set h1 h2.no8 h3.no8
    · exact hv.set h1 h2.no8 h3.no8
set_option maxRecDepth 100000 in
set_option maxHeartbeats 2000000 in
theorem look_ok {w : World} {p aa bb : Nat} {d : Dev} {K : Nat} (h : DevIn w p aa bb d K) (a : Ar) (hr : inR a) (hin : inA d a) (hcr : d.crashed = false) :
    Calls Tryz.prog 24 #[.pointer (some ⟨p, 0, none⟩), arV a] w (LookTo w d a) := by
  obtain ⟨x1, x2, x3⟩ := lkW_at w a
  have HI := Lib.hid (isIn_ (h.on x3) a hr)
  rw [decide_eq_true hin] at HI
  have hl : lookE d a = 0 := by unfold lookE; rw [if_neg (fun e => e hin), if_neg (by simp [hcr])]
  have hzk := (zero_of_info zeroKs).1
  have hlim := h.lim
  have HX := Lib.hid (And.intro x1 (And.intro x2 x3))
  have hsec := inA_half hin
  obtain ⟨i1, i2, i3, i4, i5, i6⟩ := hin
  have HBg := Lib.hid (fun W i hi => begin_ a i W (by omega) (by omega) i3 (by omega) hi)
  have HHs := Lib.hid (fun W => halfS_ a W (by omega) (by omega))
  have hq : ((a.s / 2).toNat : Int) = a.s / 2 := by omega
  have hq1 : 1 ≤ (a.s / 2).toNat ∧ (a.s / 2).toNat ≤ 8192 := by omega
  have hbg : ∀ i : Nat, i < 2 → begA a i ≤ 16384 := fun i hi => by
    have := (hsec i hi).2 0 (by omega)
    have h4 : begA a i + ((0 : Nat) : Int) < d.s := this.2.2.2
    omega
  have HRd : Hid (∀ W (i : Nat), i < 2 → Below w.heap.size w W → Calls Tryz.prog 50 #[.pointer (some ⟨p, 0, none⟩), .int .i64 a.g, .int .i64 (begA a i), .int .i64 (a.s / 2)] W fun e w' => ∃ ad c, e = .returned (.tuple #[.slice ad (64 * (a.s / 2).toNat) c, .nilIface]) ∧ BytesIn w' ad (halfA d a i) ∧ 64 * (a.s / 2).toNat ≤ c ∧ Below W.heap.size W w') := fun W i hi hW => by
    have := tread_ok (h.on hW) a.g (begA a i) (a.s / 2).toNat (by omega) (hsec i hi).2 hcr (hsec i hi).1 (hbg i hi)
    rw [hq] at this
    exact this
  have hlen : ∀ i, (halfA d a i).length = 64 * (a.s / 2).toNat := fun i => secsB_len h.ok _ _ _
  have HFd : Hid (∀ W (i : Nat) ad c, BytesIn W ad (halfA d a i) → 64 * (a.s / 2).toNat ≤ c → Calls Tryz.prog 51 #[.slice ad (64 * (a.s / 2).toNat) c] W (Found W (numA d a i) (txtA d a i))) := fun W i ad c hW hc => by
    obtain ⟨b, o, rfl, _⟩ := hW 0 (by rw [hlen]; omega)
    exact find_ b o (halfA d a i) _ c W hW (secsB_byte h.ok _ _ _) (hlen i) (by omega) (by omega) hc
  unfold lkW at HI HX
  clear x1 x2 x3 h hcr hsec hlen hbg
  have HN : Hid (∀ B i wr, Lk w B d a i wr → Lk w B d a i wr) := fun _ _ _ h => h
  generalize hL : 64 * (a.s / 2).toNat = L at *
  generalize hQ : a.s / 2 = Q at *
  obtain ⟨g, f, s⟩ := a
  unfold arV at HI HBg HHs ⊢
  simp only at HI HX HBg HHs HRd i1 i2 i3 i4 i5 i6 hQ ⊢
  generalize hV : (w.alloc (.cells #[.int .i64 g, .int .i64 f, .int .i64 s] 44)).alloc (.cells #[.int .u64 0, .slice none 0 0, .int .u64 0, .slice none 0 0] 71) = V at *
  have HV := Lib.hid hV
  clear hV hQ hL HN
  go_enter Tryz.func24, Tryz.ntmps24
  go_wp2_with fail
  rw [HV.out]
  refine HI.out.mono ?_
  rintro e w1 ⟨rfl, hb1⟩
  obtain ⟨W, hW⟩ : ∃ W, W = w1.alloc (.cells #[.int .u64 0, .slice none 0 0, .int .u64 0, .slice none 0 0] 71) := ⟨_, rfl⟩
  have hbW : Below w1.heap.size w1 W := by rw [hW]; exact below_alloc _ _
  have hgt : w.heap.size + 1 < w1.heap.size := by have := blk_lt HX.out.2.1; have := hb1.size; omega
  have HLk : Hid (Lk w w1.heap.size d ⟨g, f, s⟩ 0 W) := by
    refine ⟨below_step HX.out.2.2 (below_step hb1 hbW), HX.out.1.on (below_step hb1 hbW), (((below_step hb1 hbW).block _ (blk_lt HX.out.2.1)).trans HX.out.2.1), .slice none 0 0, .slice none 0 0, ?_, slT_nil _, slT_nil _⟩
    rw [hW]
    exact World.alloc_heap_new' _ _
  have HW := Lib.hid hW
  clear hb1 hbW hW HI HX HV
  go_wp2_with fail
  rw [← HW.out]
  clear HW
  go_loopw [16] (fun iv wr => ∃ i : Nat, iv = .int .i64 i ∧ i ≤ 2 ∧ Hid (Lk w w1.heap.size d ⟨g, f, s⟩ i wr)) (fun iv _ => 2 - (intOf iv).toNat)
  case atStart => exact ⟨0, rfl, by omega, HLk⟩
  case round =>
    obtain ⟨i, rfl, hi2, HK⟩ := hrel
    clear HLk
    obtain ⟨y0, y1, y2⟩ := HK.out.ar.cells
    simp only at y0 y1 y2
    by_cases hlt : i < 2
    · have F0 : Hid (∀ V, Below wr.heap.size wr V → V.cell? ⟨w.heap.size, 0, none⟩ = some (.int .i64 g)) := fun V hV => (hV.cell (block_lt_of_cell y0)).trans y0
      have F1 : Hid (∀ V, Below wr.heap.size wr V → V.cell? ⟨w.heap.size, 1, none⟩ = some (.int .i64 f)) := fun V hV => (hV.cell (block_lt_of_cell y1)).trans y1
      have F2 : Hid (∀ V, Below wr.heap.size wr V → V.cell? ⟨w.heap.size, 2, none⟩ = some (.int .i64 s)) := fun V hV => (hV.cell (block_lt_of_cell y2)).trans y2
      have hlt2 : (i : Int) < 2 := by omega
      clear y0 y1 y2
      go_wp2_with fail
      refine wp_region_noPanic ?_
      refine wp_region_held_drew (S := fun V => Below wr.heap.size wr V) (by kernel_rfl) (below_drew _) (fun hHeld => ?_)
      refine take_at 0 (.pointer (some ⟨p, 0, none⟩)) rfl (by kernel_rfl) (by kernel_rfl) (by kernel_rfl) (fun _ _ _ h => h) (Or.inl ⟨by rfl, ?_⟩) (by assumption) ?_
      · intro V hSV; go_simp
      simp only [Act.put, List.setIfInBounds_toArray, List.set_cons_zero, List.set_cons_succ]
      refine take_at 1 (.pointer (some ⟨w.heap.size, 0, none⟩)) rfl (by kernel_rfl) (by kernel_rfl) (by kernel_rfl) (fun _ _ _ h => h) (Or.inl ⟨by rfl, ?_⟩) (by assumption) ?_
      · intro V hSV; go_simp
      simp only [Act.put, List.setIfInBounds_toArray, List.set_cons_zero, List.set_cons_succ]
      refine take_at 2 (.int .i64 g) rfl (by kernel_rfl) (by kernel_rfl) (by kernel_rfl) (fun _ _ _ h => h) (Or.inl ⟨by rfl, ?_⟩) (by assumption) ?_
      · intro V hSV; have e0 := F0.out V hSV; go_simp
      simp only [Act.put, List.setIfInBounds_toArray, List.set_cons_zero, List.set_cons_succ]
      refine take_at 3 (.agg #[.int .i64 g, .int .i64 f, .int .i64 s]) rfl (by kernel_rfl) (by kernel_rfl) (by kernel_rfl) (fun _ _ _ h => h) (Or.inl ⟨by rfl, ?_⟩) (by assumption) ?_
      · intro V hSV; have e0 := F0.out V hSV; have e1 := F1.out V hSV; have e2 := F2.out V hSV; go_simp
      simp only [Act.put, List.setIfInBounds_toArray, List.set_cons_zero, List.set_cons_succ]
      refine take_at 4 (.int .i64 i) rfl (by kernel_rfl) (by kernel_rfl) (by kernel_rfl) (fun _ _ _ h => h) (Or.inl ⟨by rfl, ?_⟩) (by assumption) ?_
      · intro V hSV; go_simp
      simp only [Act.put, List.setIfInBounds_toArray, List.set_cons_zero, List.set_cons_succ]
      refine take_at 6 (.agg #[.int .i64 g, .int .i64 f, .int .i64 s]) rfl (by kernel_rfl) (by kernel_rfl) (by kernel_rfl) (fun _ _ _ h => h) (Or.inl ⟨by rfl, ?_⟩) (by assumption) ?_
      · intro V hSV; have e0 := F0.out V hSV; have e1 := F1.out V hSV; have e2 := F2.out V hSV; go_simp
      simp only [Act.put, List.setIfInBounds_toArray, List.set_cons_zero, List.set_cons_succ]
      refine wpAnyH_ready (rs := [5]) (by kernel_rfl) (by simp) ?_
      refine AllReadyH.cons rfl (fun KK hK => ?_) AllReadyH.nil
      go_simp
      go_wp2_with (first | (go_at_call 33; refine (HBg.out _ i hlt).mono ?_; rintro e V1 ⟨rfl, hb1⟩))
      refine hK.out _ _ ?_ (fun hHeld5 => ?_)
      · exact below_step (by assumption) hb1
      clear hK KK
      refine wpAnyH_ready (rs := [7]) (by kernel_rfl) (by simp) ?_
      refine AllReadyH.cons rfl (fun KK hK => ?_) AllReadyH.nil
      go_simp
      go_wp2_with (first | (go_at_call 30; refine (HHs.out _).mono ?_; rintro e V2 ⟨rfl, hb2⟩))
      refine hK.out _ _ ?_ (fun hHeld7 => ?_)
      · exact below_step (by assumption) hb2
      clear hK KK
      refine wpAnyH_ready (rs := [8]) (by kernel_rfl) (by simp) ?_
      refine AllReadyH.cons rfl (fun KK hK => ?_) AllReadyH.nil
      go_simp
      go_wp2_with (first | (go_at_call 50; refine (HRd.out _ i hlt (below_step HK.out.bw (by assumption))).mono ?_; rintro e V3 ⟨ad, cd, rfl, hby, hcd, hb3⟩))
      refine hK.out _ _ ?_ (fun hHeld8 => ?_)
      · exact below_step (by assumption) hb3
      clear hK KK
      refine take_at 9 (.tuple #[.slice ad L cd, .nilIface]) rfl (by kernel_rfl) (by kernel_rfl) (by kernel_rfl) (fun _ _ _ h => h) (Or.inl ⟨by rfl, ?_⟩) (by assumption) ?_
      · intro V hSV; go_simp
      simp only [Act.put, List.setIfInBounds_toArray, List.set_cons_zero, List.set_cons_succ]
      refine take_at 10 (.slice ad L cd) rfl (by kernel_rfl) (by kernel_rfl) (by kernel_rfl) (fun _ _ _ h => h) (Or.inl ⟨by rfl, ?_⟩) (by assumption) ?_
      · intro V hSV; go_simp
      simp only [Act.put, List.setIfInBounds_toArray, List.set_cons_zero, List.set_cons_succ]
      refine take_at 11 (.nilIface) rfl (by kernel_rfl) (by kernel_rfl) (by kernel_rfl) (fun _ _ _ h => h) (Or.inl ⟨by rfl, ?_⟩) (by assumption) ?_
      · intro V hSV; go_simp
      simp only [Act.put, List.setIfInBounds_toArray, List.set_cons_zero, List.set_cons_succ]
      refine take_at 12 (.slice ad L cd) rfl (by kernel_rfl) (by kernel_rfl) (by kernel_rfl) (fun _ _ _ h => h) (Or.inl ⟨by rfl, ?_⟩) (by assumption) ?_
      · intro V hSV; go_simp
      simp only [Act.put, List.setIfInBounds_toArray, List.set_cons_zero, List.set_cons_succ]
      refine take_at 13 (.nilIface) rfl (by kernel_rfl) (by kernel_rfl) (by kernel_rfl) (fun _ _ _ h => h) (Or.inl ⟨by rfl, ?_⟩) (by assumption) ?_
      · intro V hSV; go_simp
      simp only [Act.put, List.setIfInBounds_toArray, List.set_cons_zero, List.set_cons_succ]
      refine wpAnyH_done (by kernel_rfl) ?_ _
      refine NoPanic.normal ?_
      have hBV : Below wr.heap.size wr V3 := by assumption
      have HK3 := Lib.hid (HK.out.on hBV)
      have HY := Lib.hid (And.intro hby hcd)
      clear hb1 hb2 hb3 hby hcd hBV F0 F1 F2 hHeld hHeld5 hHeld7 hHeld8 HK
      go_wp2_with (first | (go_at_call 51; refine (HFd.out _ i _ _ HY.out.1 HY.out.2).mono ?_; rintro e V4 ⟨ta, tc, rfl, ht1, ht2, ht3, hb4⟩
                            obtain ⟨V5, hst, hk5⟩ := lk_store (HK3.out.on hb4) hlt hgt ⟨ta, tc, rfl, ht1, ht2, ht3⟩
                            have HS := Lib.hid hst
                            have HK5 := Lib.hid hk5
                            clear ht1 ht2 ht3 hb4 HK3 HY hst hk5) | (refine wpList_store_at rfl 70 _ _ rfl _ _ rfl rfl HS.out ?_) | fail)
      go_roundw
      case rel => exact ⟨i + 1, by go_num, by omega, HK5⟩
      case measure => simp [intOf]; omega
    · have hlt2 : ¬ (i : Int) < 2 := by omega
      obtain rfl : i = 2 := by omega
      obtain ⟨s0, s1, t1, t2, t3⟩ := HK.out.two
      have hz : (numA d ⟨g, f, s⟩ 0 : Int) = (numA d ⟨g, f, s⟩ 0 : Nat) := rfl
      rw [if_pos (by omega), if_pos (by omega)] at t1
      rw [if_pos (by omega)] at t2 t3
      obtain ⟨a0, c0, rfl, t2'⟩ := t2
      obtain ⟨a1, c1, rfl, t3'⟩ := t3
      have HLd := Lib.hid (load_ks t1 rfl)
      have hk1 := HK.out.res
      have HS := Lib.hid (store_ks hk1 rfl (cs := #[.int .u64 (numA d ⟨g, f, s⟩ 0 : Nat), .slice a0 (txtA d ⟨g, f, s⟩ 0).length c0, .int .u64 (numA d ⟨g, f, s⟩ 1 : Nat), .slice a1 (txtA d ⟨g, f, s⟩ 1).length c1]) rfl (four_one _ _ _ _ _ _ _ _))
      have HR := Lib.hid (setRow_heap wr _ _ #[.int .u64 (numA d ⟨g, f, s⟩ 0 : Nat), .slice a0 (txtA d ⟨g, f, s⟩ 0).length c0, .int .u64 (numA d ⟨g, f, s⟩ 1 : Nat), .slice a1 (txtA d ⟨g, f, s⟩ 1).length c1] 71 (0, 0) hk1)
      have HB := Lib.hid (below_setRow (g := w.heap.size + 1) (cs := #[.int .u64 (numA d ⟨g, f, s⟩ 0 : Nat), .slice a0 (txtA d ⟨g, f, s⟩ 0).length c0, .int .u64 (numA d ⟨g, f, s⟩ 1 : Nat), .slice a1 (txtA d ⟨g, f, s⟩ 1).length c1]) HK.out.bw (by omega))
      have HT := Lib.hid (And.intro (SlT.row (w := wr) (cs := #[.int .u64 (numA d ⟨g, f, s⟩ 0 : Nat), .slice a0 (txtA d ⟨g, f, s⟩ 0).length c0, .int .u64 (numA d ⟨g, f, s⟩ 1 : Nat), .slice a1 (txtA d ⟨g, f, s⟩ 1).length c1]) ⟨a0, c0, rfl, t2'⟩ hk1) (SlT.row (w := wr) (cs := #[.int .u64 (numA d ⟨g, f, s⟩ 0 : Nat), .slice a0 (txtA d ⟨g, f, s⟩ 0).length c0, .int .u64 (numA d ⟨g, f, s⟩ 1 : Nat), .slice a1 (txtA d ⟨g, f, s⟩ 1).length c1]) ⟨a1, c1, rfl, t3'⟩ hk1))
      clear t1 t2' t3' hk1 y0 y1 y2 hz HBg HHs HRd HFd
      go_wp2_with (first | (refine wpList_load_at rfl 71 _ rfl _ _ rfl HLd.out ?_) | (refine wpList_store_at rfl 71 _ _ rfl _ _ rfl rfl HS.out ?_) | fail)
      refine bodyPost_ret (v := .tuple #[twoV (numA d ⟨g, f, s⟩ 0) (numA d ⟨g, f, s⟩ 1) (.slice a0 (txtA d ⟨g, f, s⟩ 0).length c0) (.slice a1 (txtA d ⟨g, f, s⟩ 1).length c1), .nilIface]) ?_ rfl ⟨.inl ⟨hl, _, _, rfl, HT.out.1, HT.out.2⟩, HB.out⟩
      exact results_ks rfl _ _ (w.heap.size + 1) _ _ rfl rfl HR.out rfl
/-- look, at whatever area. -/
theorem look_ {w : World} {p aa bb : Nat} {d : Dev} {K : Nat} (h : DevIn w p aa bb d K) (a : Ar) (hr : inR a) : Calls Tryz.prog 24 #[.pointer (some ⟨p, 0, none⟩), arV a] w (LookTo w d a) := by
  by_cases hin : inA d a
  · cases hc : d.crashed
    · exact look_ok h a hr hin hc
    · exact look_crash h a hr hin hc
  · exact look_out h a hr hin
end Go.Proofs.YthaihallfjjnpaaGreatDoor
