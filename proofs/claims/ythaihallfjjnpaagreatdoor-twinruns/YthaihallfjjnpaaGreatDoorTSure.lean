/- The law's sure: two texts saved, the second one loaded. -/
import Derived.Test.YthaihallfjjnpaaGreatDoorTLd
import Derived.Test.YthaihallfjjnpaaGreatDoorJ1
namespace Go.Proofs.YthaihallfjjnpaaGreatDoor
open Go.RowKit Go.Sort Go.Maps

/-- A byte in a block of its own. -/
def ByteAt (w : World) (g x : Nat) : Prop := ∃ fr, w.heap[g]? = some (.cells #[.int .u8 (x : Int)] 5 fr)
theorem ByteAt.bytes {w : World} {g x : Nat} (h : ByteAt w g x) : BytesIn w (some ⟨g, 0, none⟩) [x] := by
  obtain ⟨fr, h⟩ := h
  intro i hi
  refine ⟨_, _, rfl, ?_⟩
  simp at hi
  subst hi
  simp [World.cell?, h]
theorem ByteAt.keep {w w' : World} {g x : Nat} (h : ByteAt w g x) (e : w'.heap[g]? = w.heap[g]?) : ByteAt w' g x := by
  obtain ⟨fr, h⟩ := h
  exact ⟨fr, e.trans h⟩
theorem ByteAt.lt {w : World} {g x : Nat} (h : ByteAt w g x) : g < w.heap.size := by
  obtain ⟨fr, h⟩ := h
  exact blk_lt h
/-- A constant's bytes are marked. -/
theorem conv_mark {w : World} {g x : Nat} (h : ByteAt w g x) : ∃ W, (convert 37 37 (.slice (some ⟨g, 0, none⟩) 1 1)).run Tryz.prog w = .ok (.slice (some ⟨g, 0, none⟩) 1 1) W ∧ ByteAt W g x ∧ w.grownBy W (some g) := by
  obtain ⟨fr, h⟩ := h
  have hsh : w.shape? g = some (5, 1) := by unfold World.shape?; rw [h]; rfl
  refine ⟨w.freeze ⟨g, 1, none⟩ 1, ?_, ?_, ?_⟩
  · simp [convert, run_underlying Tryz.underlying37, run_underlying Tryz.underlying5, markStringish, hsh]
  · simp only [ByteAt, World.freeze]
    rw [if_neg (by decide)]
    simp only [Array.getElem?_modify, h, if_true, Option.map_some]
    exact ⟨_, rfl⟩
  · refine ⟨rfl, rfl, rfl, by simp [World.freeze], fun k hk hne => ?_⟩
    have hne' : g ≠ k := fun e => hne (by rw [e])
    simp [World.freeze, Array.getElem?_modify, hne']
section
variable {P : Program} {l : List Oper} {Q : Exit → Act → World → Prop} {md : Region.Mode} {S : World → Prop}
/-- One of those operations of a drawn region that may come up, whose outcome is known. -/
theorem cons_at (i : Nat) {oi : Oper} {post : List Oper} {rs : List Nat} {fuel : Nat} {listed : Array Bool} {a : Act} {w w' : World} {v : Value} (hi : l.drop i = oi :: post) (hw : Region.wanted oi (yielded l.toArray a.tmps) = true)
    (hrun : (execOp a.eval oi).run P w = .ok (.value v) w') (hS : S w')
    (h : wpAnyH P md l.toArray Q S fuel (listed.setIfInBounds i true) (a.put oi.dst v) w') (hr : AllReadyH P md l.toArray Q S fuel listed a w rs) : AllReadyH P md l.toArray Q S fuel listed a w (i :: rs) := by
  have h1 : l.toArray[i]? = some oi := by
    have h1 : (l.drop i)[0]? = some oi := by rw [hi]; rfl
    rw [List.getElem?_drop, Nat.add_zero] at h1
    simpa using h1
  refine AllReadyH.cons h1 (fun K hK => ?_) hr
  rw [if_pos hw]
  unfold Oper.wp
  rw [hrun]
  exact hK.out _ _ hS (fun _ => h)
end
theorem run_build (w : World) (x : Int) (a : Act) (o : Oper) (h : o.op = .buildSlice 37 1 #[(0, .const (.int .u8 x))]) : (execOp a.eval o).run Tryz.prog w = .ok (.value (.slice (some ⟨w.heap.size, 0, none⟩) 1 1)) (w.alloc (.cells #[.int .u8 x] 5)) := by
  unfold execOp
  simp only [h]
  simp [Instr.buildSlice, go_sem, Act.eval]
theorem run_conv {w w' : World} {v v' : Value} (a : Act) (o : Oper) (x : Operand) (h : o.op = .convert 37 37 x) (hx : a.eval x = v) (hr : (convert 37 37 v).run Tryz.prog w = .ok v' w') : (execOp a.eval o).run Tryz.prog w = .ok (.value v') w' := by
  unfold execOp
  simp only [h, hx, hr, Sem.run_bind, Sem.run_pure, Result.andThen_ok]
/-- Where both texts lie, and the device. -/
structure SuI (W V : World) (p aa bb : Nat) (d : Dev) (K : Nat) (oa ob : Option Nat) : Prop where
  fd : Fd p aa bb W V
  dev : DevIn V p aa bb d K
  hw : p < W.heap.size ∧ aa < W.heap.size ∧ bb < W.heap.size
  ha : ∀ g, oa = some g → ByteAt V g 97 ∧ W.heap.size ≤ g
  hb : ∀ g, ob = some g → ByteAt V g 98 ∧ W.heap.size ≤ g
  ne : ∀ g h, oa = some g → ob = some h → g ≠ h
theorem fd_alloc {p aa bb : Nat} {W V : World} (h : Fd p aa bb W V) (o : Obj) : Fd p aa bb W (V.alloc o) := h.trans (below_fd (below_alloc V o) _ _ _)
theorem SuI.buildA {W V : World} {p aa bb : Nat} {d : Dev} {K : Nat} {ob : Option Nat} (h : SuI W V p aa bb d K none ob) : SuI W (V.alloc (.cells #[.int .u8 97] 5)) p aa bb d K (some V.heap.size) ob :=
  ⟨fd_alloc h.fd _, h.dev.on (below_alloc V _), h.hw, fun g e => by cases e; exact ⟨⟨_, World.alloc_heap_new' _ _⟩, h.fd.size⟩, fun g e => ⟨(h.hb g e).1.keep ((below_alloc V _).block g (h.hb g e).1.lt), (h.hb g e).2⟩, fun g k e e2 => by cases e; have := (h.hb k e2).1.lt; omega⟩
theorem SuI.buildB {W V : World} {p aa bb : Nat} {d : Dev} {K : Nat} {oa : Option Nat} (h : SuI W V p aa bb d K oa none) : SuI W (V.alloc (.cells #[.int .u8 98] 5)) p aa bb d K oa (some V.heap.size) :=
  ⟨fd_alloc h.fd _, h.dev.on (below_alloc V _), h.hw, fun g e => ⟨(h.ha g e).1.keep ((below_alloc V _).block g (h.ha g e).1.lt), (h.ha g e).2⟩, fun g e => by cases e; exact ⟨⟨_, World.alloc_heap_new' _ _⟩, h.fd.size⟩, fun g k e e2 => by cases e2; have := (h.ha g e).1.lt; omega⟩
theorem SuI.grown {W V V' : World} {p aa bb g0 : Nat} {d : Dev} {K : Nat} {oa ob : Option Nat} (h : SuI W V p aa bb d K oa ob) (hg : V.grownBy V' (some g0)) (h0 : W.heap.size ≤ g0) (ha : ∀ g, oa = some g → ByteAt V' g 97) (hb : ∀ g, ob = some g → ByteAt V' g 98) : SuI W V' p aa bb d K oa ob := by
  have hl := h.dev.lts
  have hw := h.hw
  have key : ∀ k, k < V.heap.size → k ≠ g0 → V'.heap[k]? = V.heap[k]? := fun k hk hne => hg.block k hk (fun e => hne (by cases e; rfl))
  exact ⟨fd_grown h.fd (N := W.heap.size) (Nat.le_refl _) hg (fun r e => by cases e; exact h0), h.dev.keep (key _ hl.1 (by omega)) (key _ hl.2.1 (by omega)) (key _ hl.2.2 (by omega)), h.hw, fun g e => ⟨ha g e, (h.ha g e).2⟩, fun g e => ⟨hb g e, (h.hb g e).2⟩, h.ne⟩
theorem SuI.convA {W V : World} {p aa bb g0 : Nat} {d : Dev} {K : Nat} {ob : Option Nat} (h : SuI W V p aa bb d K (some g0) ob) : ∃ V', (convert 37 37 (.slice (some ⟨g0, 0, none⟩) 1 1)).run Tryz.prog V = .ok (.slice (some ⟨g0, 0, none⟩) 1 1) V' ∧ SuI W V' p aa bb d K (some g0) ob := by
  obtain ⟨V', h1, h2, h3⟩ := conv_mark (h.ha g0 rfl).1
  refine ⟨V', h1, h.grown h3 (h.ha g0 rfl).2 (fun g e => by cases e; exact h2) (fun g e => (h.hb g e).1.keep (h3.block g (h.hb g e).1.lt (fun e2 => by cases e2; exact h.ne g0 g0 rfl e rfl)))⟩
theorem SuI.convB {W V : World} {p aa bb g0 : Nat} {d : Dev} {K : Nat} {oa : Option Nat} (h : SuI W V p aa bb d K oa (some g0)) : ∃ V', (convert 37 37 (.slice (some ⟨g0, 0, none⟩) 1 1)).run Tryz.prog V = .ok (.slice (some ⟨g0, 0, none⟩) 1 1) V' ∧ SuI W V' p aa bb d K oa (some g0) := by
  obtain ⟨V', h1, h2, h3⟩ := conv_mark (h.hb g0 rfl).1
  refine ⟨V', h1, h.grown h3 (h.hb g0 rfl).2 (fun g e => (h.ha g e).1.keep (h3.block g (h.ha g e).1.lt (fun e2 => by cases e2; exact h.ne g0 g0 e rfl rfl))) (fun g e => by cases e; exact h2)⟩
theorem SuI.work {W V V' : World} {p aa bb : Nat} {d d' : Dev} {K K' : Nat} {oa ob : Option Nat} (h : SuI W V p aa bb d K oa ob) (hd : DevIn V' p aa bb d' K') (hf : Fd p aa bb V V') : SuI W V' p aa bb d' K' oa ob := by
  have hw := h.hw
  exact ⟨h.fd.trans hf, hd, h.hw, fun g e => ⟨(h.ha g e).1.keep (hf.block g (h.ha g e).1.lt (by have := (h.ha g e).2; omega) (by have := (h.ha g e).2; omega) (by have := (h.ha g e).2; omega)), (h.ha g e).2⟩, fun g e => ⟨(h.hb g e).1.keep (hf.block g (h.hb g e).1.lt (by have := (h.hb g e).2; omega) (by have := (h.hb g e).2; omega) (by have := (h.hb g e).2; omega)), (h.hb g e).2⟩, h.ne⟩
theorem SuI.weak {W V : World} {p aa bb : Nat} {d : Dev} {K : Nat} {oa ob : Option Nat} (h : SuI W V p aa bb d K oa ob) : Fd p aa bb W V ∧ DevIn V p aa bb d K := ⟨h.fd, h.dev⟩
def su1 : Dev := saveD (newD 1 8) (arS 4) [97]
def su2 : Dev := saveD su1 (arS 4) [98]
theorem su_tw : saveE (newD 1 8) (arS 4) [97] = 0 ∧ saveE su1 (arS 4) [98] = 0 ∧ Tw 4 su2 2 [98] := by
  have h0 := tw_new 4 (by omega) (by omega)
  have e : newD 1 (2 * ((4 : Nat) : Int)) = newD 1 8 := rfl
  rw [e] at h0
  obtain ⟨a1, a2, a3, _⟩ := h0.save (xs := [97]) (by omega) rfl (by decide) (by decide) (by decide)
  obtain ⟨b1, b2, b3, _⟩ := a3.save (xs := [98]) (by omega) a2 (by decide) (by decide) (by decide)
  exact ⟨a1, b1, b3⟩
theorem inR_s (q : Nat) (h : q ≤ 100) : inR (arS q) := by
  refine ⟨⟨by show (_ : Int) ≤ 0; omega, by show (0 : Int) ≤ _; omega⟩, ⟨by show (_ : Int) ≤ 0; omega, by show (0 : Int) ≤ _; omega⟩, ⟨by show (_ : Int) ≤ 2 * (q : Int); omega, by show (2 * (q : Int) : Int) ≤ _; omega⟩⟩
theorem ar8_at (w : World) : ArAt (w.alloc (.cells #[.int .i64 0, .int .i64 0, .int .i64 8] 44)) w.heap.size (arS 4) := World.alloc_heap_new' _ _
set_option maxRecDepth 100000 in
set_option maxHeartbeats 8000000 in
theorem sure_ (w : World) : Calls Tryz.prog 14 #[] w fun e w' => e = .returned (.bool true) ∧ Below w.heap.size w w' := by
  have HN := Lib.hid (new_ 1 8 w (by omega))
  go_enter Tryz.func14, Tryz.ntmps14
  go_wp2_with fail
  refine HN.out.mono ?_
  rintro e w1 ⟨rfl, hb1, hd1⟩
  have HB1 := Lib.hid hb1
  have HD1 := Lib.hid hd1
  clear hb1 hd1 HN
  unfold pt
  obtain ⟨W, hW⟩ : ∃ W, W = w1.alloc (.cells #[.int .i64 0, .int .i64 0, .int .i64 8] 44) := ⟨_, rfl⟩
  have HW := Lib.hid hW
  have HBW : Hid (Below w1.heap.size w1 W) := by rw [hW]; exact below_alloc _ _
  have HAW : Hid (ArAt W w1.heap.size (arS 4)) := by rw [hW]; exact ar8_at w1
  clear hW
  go_wp2_with fail
  rw [← HW.out]
  generalize hp : w.heap.size + 2 = p at *
  generalize hbx : w1.heap.size = bx at *
  have HP := Lib.hid (And.intro hp hbx)
  clear hp hbx HW
  refine Code.wp_mono (Q := fun e a' V => e = .normal ∧ (Fd p w.heap.size (w.heap.size + 1) W V ∧ DevIn V p w.heap.size (w.heap.size + 1) su2 16386) ∧ ∃ v22 v23 v27 v28, a' = { tmps := #[.bool false, .pointer (some ⟨p, 0, none⟩), .nilIface, .pointer (some ⟨bx, 0, none⟩), .nilIface, .nilIface, undef, undef, undef, .tuple #[.pointer (some ⟨p, 0, none⟩), .nilIface], .tuple #[.pointer (some ⟨p, 0, none⟩), .nilIface], .pointer (some ⟨p, 0, none⟩), .nilIface, .nilIface, .bool false, .bool false, .pointer (some ⟨p, 0, none⟩), .bool false, .bool false, .agg #[.int .i64 0, .int .i64 0, .int .i64 8], .pointer (some ⟨p, 0, none⟩), .agg #[.int .i64 0, .int .i64 0, .int .i64 8], v22, v23, .nilIface, .pointer (some ⟨p, 0, none⟩), .agg #[.int .i64 0, .int .i64 0, .int .i64 8], v27, v28, .nilIface, undef, undef, undef, undef, undef, undef, undef, undef, undef, undef, undef, undef, undef, undef, undef, undef, undef, undef, undef, undef, undef, undef, undef, undef, undef, undef, undef, undef, undef, undef, undef], defers := [] }) ?tail ?reg
  case tail =>
    rintro e a' V ⟨rfl, ⟨hfd, hdv⟩, v22, v23, v27, v28, rfl⟩
    have HT := su_tw.2.2
    have hbV : Below w.heap.size w V := by
      have h1 := HB1.out
      have h2 := HP.out
      have h3 : Below w1.heap.size w1 W := by rw [h2.2]; exact HBW.out
      have h4 := below_step h1 h3
      have h5 := h4.size
      exact h4.trans (hfd.below h5 (by omega) (by omega) (by omega))
    have hne : bx ≠ p ∧ bx ≠ w.heap.size ∧ bx ≠ w.heap.size + 1 := by have h1 := HD1.out.lts; have h2 := HP.out; omega
    have hav : ArAt V bx (arS 4) := hfd.ar HAW.out hne.1 hne.2.1 hne.2.2
    obtain ⟨y0, y1, y2⟩ := hav.cells
    have e2 : (arS 4).s = 8 := rfl
    have e1 : (arS 4).f = 0 := rfl
    have e0 : (arS 4).g = 0 := rfl
    rw [e0] at y0
    rw [e1] at y1
    rw [e2] at y2
    obtain ⟨t1, t2, t3⟩ := HT.tells (by omega)
    have hld : loadE su2 (arS 4) = 0 := by unfold loadE; rw [if_neg (by simpa using still_look (by omega) HT.st), if_neg (by omega)]
    have HL : Hid (Calls Tryz.prog 7 #[.pointer (some ⟨p, 0, none⟩), .agg #[.int .i64 0, .int .i64 0, .int .i64 8]] V fun e w' => ∃ ta tc, e = .returned (.tuple #[.slice ta 1 tc, .int .u64 2, .nilIface]) ∧ (convert 37 9 (.slice ta 1 tc)).run Tryz.prog w' = .ok (.string { data := #[98] }) w' ∧ Below V.heap.size V w') := (load_ hdv (arS 4) (inR_s 4 (by omega))).mono fun e w' ⟨h1, h2⟩ => by
      rcases h1 with ⟨_, v, he, ta, tc, hv, hby, _⟩ | ⟨h0, _⟩
      · rw [t3] at hv hby
        refine ⟨ta, tc, by rw [he, hv, t2]; rfl, conv_ w' ta 1 tc [98] rfl hby, h2⟩
      · exact absurd hld h0
    have HR := Lib.hid (fun W => room9_ (arS 4) W)
    rw [room_eq 4 (by omega) (by omega)] at HR
    have HBV := Lib.hid hbV
    have HAV := Lib.hid hav
    clear hfd hdv hbV hav e0 e1 e2 t1 t2 t3 hld HT HB1 HD1 HBW HAW HP hne
    unfold arV at HR
    go_wp2_with (first
      | (go_at_call 7; refine HL.out.mono ?_; rintro e w4 ⟨ta, tc, rfl, hcv, hb4⟩
         have HB4 := Lib.hid (below_step HBV.out hb4)
         obtain ⟨z0, z1, z2⟩ := (HAV.out.on hb4).cells
         clear hb4 HBV HAV y0 y1 y2)
      | (go_at_call 12; refine (HR.out _).mono ?_; rintro e w5 ⟨rfl, hb5⟩)
      | fail)
    go_ret
    exact ⟨rfl, below_step HB4.out hb5⟩
  case reg =>
    have hlt := HD1.out.lts
    have HSa : Hid (∀ (V : World) (g : Nat) (ob : Option Nat), SuI W V p w.heap.size (w.heap.size + 1) (newD 1 8) 0 (some g) ob → Calls Tryz.prog 15 #[.pointer (some ⟨p, 0, none⟩), .agg #[.int .i64 0, .int .i64 0, .int .i64 8], .slice (some ⟨g, 0, none⟩) 1 1] V fun e w' => e = .returned .nilIface ∧ SuI W w' p w.heap.size (w.heap.size + 1) su1 8193 (some g) ob) := fun V g ob hI =>
      (save_ hI.dev (by omega) (arS 4) (inR_s 4 (by omega)) [97] (some ⟨g, 0, none⟩) 1 1 rfl (hI.ha g rfl).1.bytes (by decide)).mono fun e w' ⟨h1, h2, h3⟩ => ⟨by rw [h1, su_tw.1]; rfl, hI.work h2 h3⟩
    have HSb : Hid (∀ (V : World) (ga g : Nat), SuI W V p w.heap.size (w.heap.size + 1) su1 8193 (some ga) (some g) → Calls Tryz.prog 15 #[.pointer (some ⟨p, 0, none⟩), .agg #[.int .i64 0, .int .i64 0, .int .i64 8], .slice (some ⟨g, 0, none⟩) 1 1] V fun e w' => e = .returned .nilIface ∧ SuI W w' p w.heap.size (w.heap.size + 1) su2 16386 (some ga) (some g)) := fun V ga g hI =>
      (save_ hI.dev (by omega) (arS 4) (inR_s 4 (by omega)) [98] (some ⟨g, 0, none⟩) 1 1 rfl (hI.hb g rfl).1.bytes (by decide)).mono fun e w' ⟨h1, h2, h3⟩ => ⟨by rw [h1, su_tw.2.1]; rfl, hI.work h2 h3⟩
    have h3 : Below w1.heap.size w1 W := by rw [HP.out.2]; exact HBW.out
    have hne : bx ≠ p ∧ bx ≠ w.heap.size ∧ bx ≠ w.heap.size + 1 := by have h2 := HP.out; omega
    have HI0 : Hid (SuI W W.drew p w.heap.size (w.heap.size + 1) (newD 1 8) 0 none none) := by
      have h5 := h3.size
      exact ⟨below_fd (below_drew W) _ _ _, (HD1.out.on h3).on (below_drew W), by omega, (fun g e => by cases e), (fun g e => by cases e), (fun g k e => by cases e)⟩
    have F0 : Hid (∀ V, Fd p w.heap.size (w.heap.size + 1) W V → V.cell? ⟨bx, 0, none⟩ = some (.int .i64 0)) := fun V hV => (hV.ar HAW.out hne.1 hne.2.1 hne.2.2).cells.1
    have F1 : Hid (∀ V, Fd p w.heap.size (w.heap.size + 1) W V → V.cell? ⟨bx, 1, none⟩ = some (.int .i64 0)) := fun V hV => (hV.ar HAW.out hne.1 hne.2.1 hne.2.2).cells.2.1
    have F2 : Hid (∀ V, Fd p w.heap.size (w.heap.size + 1) W V → V.cell? ⟨bx, 2, none⟩ = some (.int .i64 8)) := fun V hV => (hV.ar HAW.out hne.1 hne.2.1 hne.2.2).cells.2.2
    clear hlt h3 hne HB1 HD1 HBW HAW HP
    refine wp_region_noPanic ?_
    refine wp_region_held_drew (S := fun V => Fd p w.heap.size (w.heap.size + 1) W V) (by kernel_rfl) (below_fd (below_drew _) _ _ _) (fun hHeld => ?_)
    refine take_at 0 (.pointer (some ⟨p, 0, none⟩)) rfl (by kernel_rfl) (by kernel_rfl) (by kernel_rfl) (fun _ _ _ h => h) (Or.inl ⟨by rfl, ?_⟩) (by assumption) ?_
    · intro V hSV; go_simp
    simp only [Act.put, List.setIfInBounds_toArray, List.set_cons_zero, List.set_cons_succ]
    refine take_at 1 (.agg #[.int .i64 0, .int .i64 0, .int .i64 8]) rfl (by kernel_rfl) (by kernel_rfl) (by kernel_rfl) (fun _ _ _ h => h) (Or.inl ⟨by rfl, ?_⟩) (by assumption) ?_
    · intro V hSV; have e0 := F0.out V hSV; have e1 := F1.out V hSV; have e2 := F2.out V hSV; go_simp
    simp only [Act.put, List.setIfInBounds_toArray, List.set_cons_zero, List.set_cons_succ]
    refine take_at 5 (.pointer (some ⟨p, 0, none⟩)) rfl (by kernel_rfl) (by kernel_rfl) (by kernel_rfl) (fun _ _ _ h => h) (Or.inl ⟨by rfl, ?_⟩) (by assumption) ?_
    · intro V hSV; go_simp
    simp only [Act.put, List.setIfInBounds_toArray, List.set_cons_zero, List.set_cons_succ]
    refine take_at 6 (.agg #[.int .i64 0, .int .i64 0, .int .i64 8]) rfl (by kernel_rfl) (by kernel_rfl) (by kernel_rfl) (fun _ _ _ h => h) (Or.inl ⟨by rfl, ?_⟩) (by assumption) ?_
    · intro V hSV; have e0 := F0.out V hSV; have e1 := F1.out V hSV; have e2 := F2.out V hSV; go_simp
    simp only [Act.put, List.setIfInBounds_toArray, List.set_cons_zero, List.set_cons_succ]
    generalize W.drew = V0 at HI0 hHeld ⊢
    refine wpAnyH_ready (rs := [2, 7]) (by kernel_rfl) (by simp) (cons_at 2 rfl (by rfl) (run_build _ 97 _ _ rfl) HI0.out.buildA.fd ?q1n2 (cons_at 7 rfl (by rfl) (run_build _ 98 _ _ rfl) HI0.out.buildB.fd ?q1n7 AllReadyH.nil))
    case q1n2 =>
      have hI2 := HI0.out.buildA
      simp only [Act.put, List.setIfInBounds_toArray, List.set_cons_zero, List.set_cons_succ]
      generalize V0.alloc (.cells #[.int .u8 97] 5) = V3 at hI2 ⊢
      generalize V0.heap.size = gI2 at hI2 ⊢
      have hHeld := hI2.fd
      have I2 := Lib.hid hI2
      clear hI2 HI0
      obtain ⟨V4, h5c, h5⟩ := I2.out.convA
      refine wpAnyH_ready (rs := [3, 7]) (by kernel_rfl) (by simp) (cons_at 3 rfl (by rfl) (run_conv _ _ _ rfl rfl h5c) h5.fd ?q6n3 (cons_at 7 rfl (by rfl) (run_build _ 98 _ _ rfl) I2.out.buildB.fd ?q6n7 AllReadyH.nil))
      case q6n3 =>
        have hI7 := h5
        simp only [Act.put, List.setIfInBounds_toArray, List.set_cons_zero, List.set_cons_succ]
        have hHeld := hI7.fd
        have I7 := Lib.hid hI7
        clear hI7 I2
        refine wpAnyH_ready (rs := [4, 7]) (by kernel_rfl) (by simp) (AllReadyH.cons rfl (fun KK hK => ?q8n4) (cons_at 7 rfl (by rfl) (run_build _ 98 _ _ rfl) I7.out.buildB.fd ?q8n7 AllReadyH.nil))
        case q8n4 =>
          go_simp
          go_wp2_with (first | (go_at_call 15; refine (HSa.out _ _ none I7.out).mono ?_; rintro e V10 ⟨rfl, hI9⟩))
          refine hK.out _ _ hI9.fd (fun hHeld => ?_)
          clear hK KK
          have hHeld := hI9.fd
          have I9 := Lib.hid hI9
          clear hI9 I7
          refine wpAnyH_ready (rs := [7]) (by kernel_rfl) (by simp) (cons_at 7 rfl (by rfl) (run_build _ 98 _ _ rfl) I9.out.buildB.fd ?q11n7 AllReadyH.nil)
          case q11n7 =>
            have hI12 := I9.out.buildB
            simp only [Act.put, List.setIfInBounds_toArray, List.set_cons_zero, List.set_cons_succ]
            generalize V10.alloc (.cells #[.int .u8 98] 5) = V13 at hI12 ⊢
            generalize V10.heap.size = gI12 at hI12 ⊢
            have hHeld := hI12.fd
            have I12 := Lib.hid hI12
            clear hI12 I9
            obtain ⟨V14, h15c, h15⟩ := I12.out.convB
            refine wpAnyH_ready (rs := [8]) (by kernel_rfl) (by simp) (cons_at 8 rfl (by rfl) (run_conv _ _ _ rfl rfl h15c) h15.fd ?q16n8 AllReadyH.nil)
            case q16n8 =>
              have hI17 := h15
              simp only [Act.put, List.setIfInBounds_toArray, List.set_cons_zero, List.set_cons_succ]
              have hHeld := hI17.fd
              have I17 := Lib.hid hI17
              clear hI17 I12
              refine wpAnyH_ready (rs := [9]) (by kernel_rfl) (by simp) ?_
              refine AllReadyH.cons rfl (fun KK hK => ?_) AllReadyH.nil
              go_simp
              go_wp2_with (first | (go_at_call 15; refine (HSb.out _ _ _ I17.out).mono ?_; rintro e V9 ⟨rfl, hI9⟩))
              refine hK.out _ _ hI9.fd (fun hHeld9 => ?_)
              have HI9 := Lib.hid hI9
              clear hK KK hI9
              refine take_at 10 (.nilIface) rfl (by kernel_rfl) (by kernel_rfl) (by kernel_rfl) (fun _ _ _ h => h) (Or.inl ⟨by rfl, ?_⟩) (by assumption) ?_
              · intro V hSV; go_simp
              simp only [Act.put, List.setIfInBounds_toArray, List.set_cons_zero, List.set_cons_succ]
              refine take_at 11 (.nilIface) rfl (by kernel_rfl) (by kernel_rfl) (by kernel_rfl) (fun _ _ _ h => h) (Or.inl ⟨by rfl, ?_⟩) (by assumption) ?_
              · intro V hSV; go_simp
              simp only [Act.put, List.setIfInBounds_toArray, List.set_cons_zero, List.set_cons_succ]
              refine wpAnyH_done (by kernel_rfl) ?_ _
              refine NoPanic.normal ?_
              exact ⟨rfl, HI9.out.weak, _, _, _, _, rfl⟩
        case q8n7 =>
          have hI18 := I7.out.buildB
          simp only [Act.put, List.setIfInBounds_toArray, List.set_cons_zero, List.set_cons_succ]
          generalize V4.alloc (.cells #[.int .u8 98] 5) = V19 at hI18 ⊢
          generalize V4.heap.size = gI18 at hI18 ⊢
          have hHeld := hI18.fd
          have I18 := Lib.hid hI18
          clear hI18 I7
          obtain ⟨V20, h21c, h21⟩ := I18.out.convB
          refine wpAnyH_ready (rs := [4, 8]) (by kernel_rfl) (by simp) (AllReadyH.cons rfl (fun KK hK => ?q22n4) (cons_at 8 rfl (by rfl) (run_conv _ _ _ rfl rfl h21c) h21.fd ?q22n8 AllReadyH.nil))
          case q22n4 =>
            go_simp
            go_wp2_with (first | (go_at_call 15; refine (HSa.out _ _ (some _) I18.out).mono ?_; rintro e V24 ⟨rfl, hI23⟩))
            refine hK.out _ _ hI23.fd (fun hHeld => ?_)
            clear hK KK
            have hHeld := hI23.fd
            have I23 := Lib.hid hI23
            clear hI23 I18
            obtain ⟨V25, h26c, h26⟩ := I23.out.convB
            refine wpAnyH_ready (rs := [8]) (by kernel_rfl) (by simp) (cons_at 8 rfl (by rfl) (run_conv _ _ _ rfl rfl h26c) h26.fd ?q27n8 AllReadyH.nil)
            case q27n8 =>
              have hI28 := h26
              simp only [Act.put, List.setIfInBounds_toArray, List.set_cons_zero, List.set_cons_succ]
              have hHeld := hI28.fd
              have I28 := Lib.hid hI28
              clear hI28 I23
              refine wpAnyH_ready (rs := [9]) (by kernel_rfl) (by simp) ?_
              refine AllReadyH.cons rfl (fun KK hK => ?_) AllReadyH.nil
              go_simp
              go_wp2_with (first | (go_at_call 15; refine (HSb.out _ _ _ I28.out).mono ?_; rintro e V9 ⟨rfl, hI9⟩))
              refine hK.out _ _ hI9.fd (fun hHeld9 => ?_)
              have HI9 := Lib.hid hI9
              clear hK KK hI9
              refine take_at 10 (.nilIface) rfl (by kernel_rfl) (by kernel_rfl) (by kernel_rfl) (fun _ _ _ h => h) (Or.inl ⟨by rfl, ?_⟩) (by assumption) ?_
              · intro V hSV; go_simp
              simp only [Act.put, List.setIfInBounds_toArray, List.set_cons_zero, List.set_cons_succ]
              refine take_at 11 (.nilIface) rfl (by kernel_rfl) (by kernel_rfl) (by kernel_rfl) (fun _ _ _ h => h) (Or.inl ⟨by rfl, ?_⟩) (by assumption) ?_
              · intro V hSV; go_simp
              simp only [Act.put, List.setIfInBounds_toArray, List.set_cons_zero, List.set_cons_succ]
              refine wpAnyH_done (by kernel_rfl) ?_ _
              refine NoPanic.normal ?_
              exact ⟨rfl, HI9.out.weak, _, _, _, _, rfl⟩
          case q22n8 =>
            have hI29 := h21
            simp only [Act.put, List.setIfInBounds_toArray, List.set_cons_zero, List.set_cons_succ]
            have hHeld := hI29.fd
            have I29 := Lib.hid hI29
            clear hI29 I18
            refine wpAnyH_ready (rs := [4]) (by kernel_rfl) (by simp) (AllReadyH.cons rfl (fun KK hK => ?q30n4) AllReadyH.nil)
            case q30n4 =>
              go_simp
              go_wp2_with (first | (go_at_call 15; refine (HSa.out _ _ (some _) I29.out).mono ?_; rintro e V32 ⟨rfl, hI31⟩))
              refine hK.out _ _ hI31.fd (fun hHeld => ?_)
              clear hK KK
              have hHeld := hI31.fd
              have I31 := Lib.hid hI31
              clear hI31 I29
              refine wpAnyH_ready (rs := [9]) (by kernel_rfl) (by simp) ?_
              refine AllReadyH.cons rfl (fun KK hK => ?_) AllReadyH.nil
              go_simp
              go_wp2_with (first | (go_at_call 15; refine (HSb.out _ _ _ I31.out).mono ?_; rintro e V9 ⟨rfl, hI9⟩))
              refine hK.out _ _ hI9.fd (fun hHeld9 => ?_)
              have HI9 := Lib.hid hI9
              clear hK KK hI9
              refine take_at 10 (.nilIface) rfl (by kernel_rfl) (by kernel_rfl) (by kernel_rfl) (fun _ _ _ h => h) (Or.inl ⟨by rfl, ?_⟩) (by assumption) ?_
              · intro V hSV; go_simp
              simp only [Act.put, List.setIfInBounds_toArray, List.set_cons_zero, List.set_cons_succ]
              refine take_at 11 (.nilIface) rfl (by kernel_rfl) (by kernel_rfl) (by kernel_rfl) (fun _ _ _ h => h) (Or.inl ⟨by rfl, ?_⟩) (by assumption) ?_
              · intro V hSV; go_simp
              simp only [Act.put, List.setIfInBounds_toArray, List.set_cons_zero, List.set_cons_succ]
              refine wpAnyH_done (by kernel_rfl) ?_ _
              refine NoPanic.normal ?_
              exact ⟨rfl, HI9.out.weak, _, _, _, _, rfl⟩
      case q6n7 =>
        have hI33 := I2.out.buildB
        simp only [Act.put, List.setIfInBounds_toArray, List.set_cons_zero, List.set_cons_succ]
        generalize V3.alloc (.cells #[.int .u8 98] 5) = V34 at hI33 ⊢
        generalize V3.heap.size = gI33 at hI33 ⊢
        have hHeld := hI33.fd
        have I33 := Lib.hid hI33
        clear hI33 I2
        obtain ⟨V35, h36c, h36⟩ := I33.out.convA
        obtain ⟨V37, h38c, h38⟩ := I33.out.convB
        refine wpAnyH_ready (rs := [3, 8]) (by kernel_rfl) (by simp) (cons_at 3 rfl (by rfl) (run_conv _ _ _ rfl rfl h36c) h36.fd ?q39n3 (cons_at 8 rfl (by rfl) (run_conv _ _ _ rfl rfl h38c) h38.fd ?q39n8 AllReadyH.nil))
        case q39n3 =>
          have hI40 := h36
          simp only [Act.put, List.setIfInBounds_toArray, List.set_cons_zero, List.set_cons_succ]
          have hHeld := hI40.fd
          have I40 := Lib.hid hI40
          clear hI40 I33
          obtain ⟨V41, h42c, h42⟩ := I40.out.convB
          refine wpAnyH_ready (rs := [4, 8]) (by kernel_rfl) (by simp) (AllReadyH.cons rfl (fun KK hK => ?q43n4) (cons_at 8 rfl (by rfl) (run_conv _ _ _ rfl rfl h42c) h42.fd ?q43n8 AllReadyH.nil))
          case q43n4 =>
            go_simp
            go_wp2_with (first | (go_at_call 15; refine (HSa.out _ _ (some _) I40.out).mono ?_; rintro e V45 ⟨rfl, hI44⟩))
            refine hK.out _ _ hI44.fd (fun hHeld => ?_)
            clear hK KK
            have hHeld := hI44.fd
            have I44 := Lib.hid hI44
            clear hI44 I40
            obtain ⟨V46, h47c, h47⟩ := I44.out.convB
            refine wpAnyH_ready (rs := [8]) (by kernel_rfl) (by simp) (cons_at 8 rfl (by rfl) (run_conv _ _ _ rfl rfl h47c) h47.fd ?q48n8 AllReadyH.nil)
            case q48n8 =>
              have hI49 := h47
              simp only [Act.put, List.setIfInBounds_toArray, List.set_cons_zero, List.set_cons_succ]
              have hHeld := hI49.fd
              have I49 := Lib.hid hI49
              clear hI49 I44
              refine wpAnyH_ready (rs := [9]) (by kernel_rfl) (by simp) ?_
              refine AllReadyH.cons rfl (fun KK hK => ?_) AllReadyH.nil
              go_simp
              go_wp2_with (first | (go_at_call 15; refine (HSb.out _ _ _ I49.out).mono ?_; rintro e V9 ⟨rfl, hI9⟩))
              refine hK.out _ _ hI9.fd (fun hHeld9 => ?_)
              have HI9 := Lib.hid hI9
              clear hK KK hI9
              refine take_at 10 (.nilIface) rfl (by kernel_rfl) (by kernel_rfl) (by kernel_rfl) (fun _ _ _ h => h) (Or.inl ⟨by rfl, ?_⟩) (by assumption) ?_
              · intro V hSV; go_simp
              simp only [Act.put, List.setIfInBounds_toArray, List.set_cons_zero, List.set_cons_succ]
              refine take_at 11 (.nilIface) rfl (by kernel_rfl) (by kernel_rfl) (by kernel_rfl) (fun _ _ _ h => h) (Or.inl ⟨by rfl, ?_⟩) (by assumption) ?_
              · intro V hSV; go_simp
              simp only [Act.put, List.setIfInBounds_toArray, List.set_cons_zero, List.set_cons_succ]
              refine wpAnyH_done (by kernel_rfl) ?_ _
              refine NoPanic.normal ?_
              exact ⟨rfl, HI9.out.weak, _, _, _, _, rfl⟩
          case q43n8 =>
            have hI50 := h42
            simp only [Act.put, List.setIfInBounds_toArray, List.set_cons_zero, List.set_cons_succ]
            have hHeld := hI50.fd
            have I50 := Lib.hid hI50
            clear hI50 I40
            refine wpAnyH_ready (rs := [4]) (by kernel_rfl) (by simp) (AllReadyH.cons rfl (fun KK hK => ?q51n4) AllReadyH.nil)
            case q51n4 =>
              go_simp
              go_wp2_with (first | (go_at_call 15; refine (HSa.out _ _ (some _) I50.out).mono ?_; rintro e V53 ⟨rfl, hI52⟩))
              refine hK.out _ _ hI52.fd (fun hHeld => ?_)
              clear hK KK
              have hHeld := hI52.fd
              have I52 := Lib.hid hI52
              clear hI52 I50
              refine wpAnyH_ready (rs := [9]) (by kernel_rfl) (by simp) ?_
              refine AllReadyH.cons rfl (fun KK hK => ?_) AllReadyH.nil
              go_simp
              go_wp2_with (first | (go_at_call 15; refine (HSb.out _ _ _ I52.out).mono ?_; rintro e V9 ⟨rfl, hI9⟩))
              refine hK.out _ _ hI9.fd (fun hHeld9 => ?_)
              have HI9 := Lib.hid hI9
              clear hK KK hI9
              refine take_at 10 (.nilIface) rfl (by kernel_rfl) (by kernel_rfl) (by kernel_rfl) (fun _ _ _ h => h) (Or.inl ⟨by rfl, ?_⟩) (by assumption) ?_
              · intro V hSV; go_simp
              simp only [Act.put, List.setIfInBounds_toArray, List.set_cons_zero, List.set_cons_succ]
              refine take_at 11 (.nilIface) rfl (by kernel_rfl) (by kernel_rfl) (by kernel_rfl) (fun _ _ _ h => h) (Or.inl ⟨by rfl, ?_⟩) (by assumption) ?_
              · intro V hSV; go_simp
              simp only [Act.put, List.setIfInBounds_toArray, List.set_cons_zero, List.set_cons_succ]
              refine wpAnyH_done (by kernel_rfl) ?_ _
              refine NoPanic.normal ?_
              exact ⟨rfl, HI9.out.weak, _, _, _, _, rfl⟩
        case q39n8 =>
          have hI54 := h38
          simp only [Act.put, List.setIfInBounds_toArray, List.set_cons_zero, List.set_cons_succ]
          have hHeld := hI54.fd
          have I54 := Lib.hid hI54
          clear hI54 I33
          obtain ⟨V55, h56c, h56⟩ := I54.out.convA
          refine wpAnyH_ready (rs := [3]) (by kernel_rfl) (by simp) (cons_at 3 rfl (by rfl) (run_conv _ _ _ rfl rfl h56c) h56.fd ?q57n3 AllReadyH.nil)
          case q57n3 =>
            have hI58 := h56
            simp only [Act.put, List.setIfInBounds_toArray, List.set_cons_zero, List.set_cons_succ]
            have hHeld := hI58.fd
            have I58 := Lib.hid hI58
            clear hI58 I54
            refine wpAnyH_ready (rs := [4]) (by kernel_rfl) (by simp) (AllReadyH.cons rfl (fun KK hK => ?q59n4) AllReadyH.nil)
            case q59n4 =>
              go_simp
              go_wp2_with (first | (go_at_call 15; refine (HSa.out _ _ (some _) I58.out).mono ?_; rintro e V61 ⟨rfl, hI60⟩))
              refine hK.out _ _ hI60.fd (fun hHeld => ?_)
              clear hK KK
              have hHeld := hI60.fd
              have I60 := Lib.hid hI60
              clear hI60 I58
              refine wpAnyH_ready (rs := [9]) (by kernel_rfl) (by simp) ?_
              refine AllReadyH.cons rfl (fun KK hK => ?_) AllReadyH.nil
              go_simp
              go_wp2_with (first | (go_at_call 15; refine (HSb.out _ _ _ I60.out).mono ?_; rintro e V9 ⟨rfl, hI9⟩))
              refine hK.out _ _ hI9.fd (fun hHeld9 => ?_)
              have HI9 := Lib.hid hI9
              clear hK KK hI9
              refine take_at 10 (.nilIface) rfl (by kernel_rfl) (by kernel_rfl) (by kernel_rfl) (fun _ _ _ h => h) (Or.inl ⟨by rfl, ?_⟩) (by assumption) ?_
              · intro V hSV; go_simp
              simp only [Act.put, List.setIfInBounds_toArray, List.set_cons_zero, List.set_cons_succ]
              refine take_at 11 (.nilIface) rfl (by kernel_rfl) (by kernel_rfl) (by kernel_rfl) (fun _ _ _ h => h) (Or.inl ⟨by rfl, ?_⟩) (by assumption) ?_
              · intro V hSV; go_simp
              simp only [Act.put, List.setIfInBounds_toArray, List.set_cons_zero, List.set_cons_succ]
              refine wpAnyH_done (by kernel_rfl) ?_ _
              refine NoPanic.normal ?_
              exact ⟨rfl, HI9.out.weak, _, _, _, _, rfl⟩
    case q1n7 =>
      have hI62 := HI0.out.buildB
      simp only [Act.put, List.setIfInBounds_toArray, List.set_cons_zero, List.set_cons_succ]
      generalize V0.alloc (.cells #[.int .u8 98] 5) = V63 at hI62 ⊢
      generalize V0.heap.size = gI62 at hI62 ⊢
      have hHeld := hI62.fd
      have I62 := Lib.hid hI62
      clear hI62 HI0
      obtain ⟨V64, h65c, h65⟩ := I62.out.convB
      refine wpAnyH_ready (rs := [2, 8]) (by kernel_rfl) (by simp) (cons_at 2 rfl (by rfl) (run_build _ 97 _ _ rfl) I62.out.buildA.fd ?q66n2 (cons_at 8 rfl (by rfl) (run_conv _ _ _ rfl rfl h65c) h65.fd ?q66n8 AllReadyH.nil))
      case q66n2 =>
        have hI67 := I62.out.buildA
        simp only [Act.put, List.setIfInBounds_toArray, List.set_cons_zero, List.set_cons_succ]
        generalize V63.alloc (.cells #[.int .u8 97] 5) = V68 at hI67 ⊢
        generalize V63.heap.size = gI67 at hI67 ⊢
        have hHeld := hI67.fd
        have I67 := Lib.hid hI67
        clear hI67 I62
        obtain ⟨V69, h70c, h70⟩ := I67.out.convA
        obtain ⟨V71, h72c, h72⟩ := I67.out.convB
        refine wpAnyH_ready (rs := [3, 8]) (by kernel_rfl) (by simp) (cons_at 3 rfl (by rfl) (run_conv _ _ _ rfl rfl h70c) h70.fd ?q73n3 (cons_at 8 rfl (by rfl) (run_conv _ _ _ rfl rfl h72c) h72.fd ?q73n8 AllReadyH.nil))
        case q73n3 =>
          have hI74 := h70
          simp only [Act.put, List.setIfInBounds_toArray, List.set_cons_zero, List.set_cons_succ]
          have hHeld := hI74.fd
          have I74 := Lib.hid hI74
          clear hI74 I67
          obtain ⟨V75, h76c, h76⟩ := I74.out.convB
          refine wpAnyH_ready (rs := [4, 8]) (by kernel_rfl) (by simp) (AllReadyH.cons rfl (fun KK hK => ?q77n4) (cons_at 8 rfl (by rfl) (run_conv _ _ _ rfl rfl h76c) h76.fd ?q77n8 AllReadyH.nil))
          case q77n4 =>
            go_simp
            go_wp2_with (first | (go_at_call 15; refine (HSa.out _ _ (some _) I74.out).mono ?_; rintro e V79 ⟨rfl, hI78⟩))
            refine hK.out _ _ hI78.fd (fun hHeld => ?_)
            clear hK KK
            have hHeld := hI78.fd
            have I78 := Lib.hid hI78
            clear hI78 I74
            obtain ⟨V80, h81c, h81⟩ := I78.out.convB
            refine wpAnyH_ready (rs := [8]) (by kernel_rfl) (by simp) (cons_at 8 rfl (by rfl) (run_conv _ _ _ rfl rfl h81c) h81.fd ?q82n8 AllReadyH.nil)
            case q82n8 =>
              have hI83 := h81
              simp only [Act.put, List.setIfInBounds_toArray, List.set_cons_zero, List.set_cons_succ]
              have hHeld := hI83.fd
              have I83 := Lib.hid hI83
              clear hI83 I78
              refine wpAnyH_ready (rs := [9]) (by kernel_rfl) (by simp) ?_
              refine AllReadyH.cons rfl (fun KK hK => ?_) AllReadyH.nil
              go_simp
              go_wp2_with (first | (go_at_call 15; refine (HSb.out _ _ _ I83.out).mono ?_; rintro e V9 ⟨rfl, hI9⟩))
              refine hK.out _ _ hI9.fd (fun hHeld9 => ?_)
              have HI9 := Lib.hid hI9
              clear hK KK hI9
              refine take_at 10 (.nilIface) rfl (by kernel_rfl) (by kernel_rfl) (by kernel_rfl) (fun _ _ _ h => h) (Or.inl ⟨by rfl, ?_⟩) (by assumption) ?_
              · intro V hSV; go_simp
              simp only [Act.put, List.setIfInBounds_toArray, List.set_cons_zero, List.set_cons_succ]
              refine take_at 11 (.nilIface) rfl (by kernel_rfl) (by kernel_rfl) (by kernel_rfl) (fun _ _ _ h => h) (Or.inl ⟨by rfl, ?_⟩) (by assumption) ?_
              · intro V hSV; go_simp
              simp only [Act.put, List.setIfInBounds_toArray, List.set_cons_zero, List.set_cons_succ]
              refine wpAnyH_done (by kernel_rfl) ?_ _
              refine NoPanic.normal ?_
              exact ⟨rfl, HI9.out.weak, _, _, _, _, rfl⟩
          case q77n8 =>
            have hI84 := h76
            simp only [Act.put, List.setIfInBounds_toArray, List.set_cons_zero, List.set_cons_succ]
            have hHeld := hI84.fd
            have I84 := Lib.hid hI84
            clear hI84 I74
            refine wpAnyH_ready (rs := [4]) (by kernel_rfl) (by simp) (AllReadyH.cons rfl (fun KK hK => ?q85n4) AllReadyH.nil)
            case q85n4 =>
              go_simp
              go_wp2_with (first | (go_at_call 15; refine (HSa.out _ _ (some _) I84.out).mono ?_; rintro e V87 ⟨rfl, hI86⟩))
              refine hK.out _ _ hI86.fd (fun hHeld => ?_)
              clear hK KK
              have hHeld := hI86.fd
              have I86 := Lib.hid hI86
              clear hI86 I84
              refine wpAnyH_ready (rs := [9]) (by kernel_rfl) (by simp) ?_
              refine AllReadyH.cons rfl (fun KK hK => ?_) AllReadyH.nil
              go_simp
              go_wp2_with (first | (go_at_call 15; refine (HSb.out _ _ _ I86.out).mono ?_; rintro e V9 ⟨rfl, hI9⟩))
              refine hK.out _ _ hI9.fd (fun hHeld9 => ?_)
              have HI9 := Lib.hid hI9
              clear hK KK hI9
              refine take_at 10 (.nilIface) rfl (by kernel_rfl) (by kernel_rfl) (by kernel_rfl) (fun _ _ _ h => h) (Or.inl ⟨by rfl, ?_⟩) (by assumption) ?_
              · intro V hSV; go_simp
              simp only [Act.put, List.setIfInBounds_toArray, List.set_cons_zero, List.set_cons_succ]
              refine take_at 11 (.nilIface) rfl (by kernel_rfl) (by kernel_rfl) (by kernel_rfl) (fun _ _ _ h => h) (Or.inl ⟨by rfl, ?_⟩) (by assumption) ?_
              · intro V hSV; go_simp
              simp only [Act.put, List.setIfInBounds_toArray, List.set_cons_zero, List.set_cons_succ]
              refine wpAnyH_done (by kernel_rfl) ?_ _
              refine NoPanic.normal ?_
              exact ⟨rfl, HI9.out.weak, _, _, _, _, rfl⟩
        case q73n8 =>
          have hI88 := h72
          simp only [Act.put, List.setIfInBounds_toArray, List.set_cons_zero, List.set_cons_succ]
          have hHeld := hI88.fd
          have I88 := Lib.hid hI88
          clear hI88 I67
          obtain ⟨V89, h90c, h90⟩ := I88.out.convA
          refine wpAnyH_ready (rs := [3]) (by kernel_rfl) (by simp) (cons_at 3 rfl (by rfl) (run_conv _ _ _ rfl rfl h90c) h90.fd ?q91n3 AllReadyH.nil)
          case q91n3 =>
            have hI92 := h90
            simp only [Act.put, List.setIfInBounds_toArray, List.set_cons_zero, List.set_cons_succ]
            have hHeld := hI92.fd
            have I92 := Lib.hid hI92
            clear hI92 I88
            refine wpAnyH_ready (rs := [4]) (by kernel_rfl) (by simp) (AllReadyH.cons rfl (fun KK hK => ?q93n4) AllReadyH.nil)
            case q93n4 =>
              go_simp
              go_wp2_with (first | (go_at_call 15; refine (HSa.out _ _ (some _) I92.out).mono ?_; rintro e V95 ⟨rfl, hI94⟩))
              refine hK.out _ _ hI94.fd (fun hHeld => ?_)
              clear hK KK
              have hHeld := hI94.fd
              have I94 := Lib.hid hI94
              clear hI94 I92
              refine wpAnyH_ready (rs := [9]) (by kernel_rfl) (by simp) ?_
              refine AllReadyH.cons rfl (fun KK hK => ?_) AllReadyH.nil
              go_simp
              go_wp2_with (first | (go_at_call 15; refine (HSb.out _ _ _ I94.out).mono ?_; rintro e V9 ⟨rfl, hI9⟩))
              refine hK.out _ _ hI9.fd (fun hHeld9 => ?_)
              have HI9 := Lib.hid hI9
              clear hK KK hI9
              refine take_at 10 (.nilIface) rfl (by kernel_rfl) (by kernel_rfl) (by kernel_rfl) (fun _ _ _ h => h) (Or.inl ⟨by rfl, ?_⟩) (by assumption) ?_
              · intro V hSV; go_simp
              simp only [Act.put, List.setIfInBounds_toArray, List.set_cons_zero, List.set_cons_succ]
              refine take_at 11 (.nilIface) rfl (by kernel_rfl) (by kernel_rfl) (by kernel_rfl) (fun _ _ _ h => h) (Or.inl ⟨by rfl, ?_⟩) (by assumption) ?_
              · intro V hSV; go_simp
              simp only [Act.put, List.setIfInBounds_toArray, List.set_cons_zero, List.set_cons_succ]
              refine wpAnyH_done (by kernel_rfl) ?_ _
              refine NoPanic.normal ?_
              exact ⟨rfl, HI9.out.weak, _, _, _, _, rfl⟩
      case q66n8 =>
        have hI96 := h65
        simp only [Act.put, List.setIfInBounds_toArray, List.set_cons_zero, List.set_cons_succ]
        have hHeld := hI96.fd
        have I96 := Lib.hid hI96
        clear hI96 I62
        refine wpAnyH_ready (rs := [2]) (by kernel_rfl) (by simp) (cons_at 2 rfl (by rfl) (run_build _ 97 _ _ rfl) I96.out.buildA.fd ?q97n2 AllReadyH.nil)
        case q97n2 =>
          have hI98 := I96.out.buildA
          simp only [Act.put, List.setIfInBounds_toArray, List.set_cons_zero, List.set_cons_succ]
          generalize V64.alloc (.cells #[.int .u8 97] 5) = V99 at hI98 ⊢
          generalize V64.heap.size = gI98 at hI98 ⊢
          have hHeld := hI98.fd
          have I98 := Lib.hid hI98
          clear hI98 I96
          obtain ⟨V100, h101c, h101⟩ := I98.out.convA
          refine wpAnyH_ready (rs := [3]) (by kernel_rfl) (by simp) (cons_at 3 rfl (by rfl) (run_conv _ _ _ rfl rfl h101c) h101.fd ?q102n3 AllReadyH.nil)
          case q102n3 =>
            have hI103 := h101
            simp only [Act.put, List.setIfInBounds_toArray, List.set_cons_zero, List.set_cons_succ]
            have hHeld := hI103.fd
            have I103 := Lib.hid hI103
            clear hI103 I98
            refine wpAnyH_ready (rs := [4]) (by kernel_rfl) (by simp) (AllReadyH.cons rfl (fun KK hK => ?q104n4) AllReadyH.nil)
            case q104n4 =>
              go_simp
              go_wp2_with (first | (go_at_call 15; refine (HSa.out _ _ (some _) I103.out).mono ?_; rintro e V106 ⟨rfl, hI105⟩))
              refine hK.out _ _ hI105.fd (fun hHeld => ?_)
              clear hK KK
              have hHeld := hI105.fd
              have I105 := Lib.hid hI105
              clear hI105 I103
              refine wpAnyH_ready (rs := [9]) (by kernel_rfl) (by simp) ?_
              refine AllReadyH.cons rfl (fun KK hK => ?_) AllReadyH.nil
              go_simp
              go_wp2_with (first | (go_at_call 15; refine (HSb.out _ _ _ I105.out).mono ?_; rintro e V9 ⟨rfl, hI9⟩))
              refine hK.out _ _ hI9.fd (fun hHeld9 => ?_)
              have HI9 := Lib.hid hI9
              clear hK KK hI9
              refine take_at 10 (.nilIface) rfl (by kernel_rfl) (by kernel_rfl) (by kernel_rfl) (fun _ _ _ h => h) (Or.inl ⟨by rfl, ?_⟩) (by assumption) ?_
              · intro V hSV; go_simp
              simp only [Act.put, List.setIfInBounds_toArray, List.set_cons_zero, List.set_cons_succ]
              refine take_at 11 (.nilIface) rfl (by kernel_rfl) (by kernel_rfl) (by kernel_rfl) (fun _ _ _ h => h) (Or.inl ⟨by rfl, ?_⟩) (by assumption) ?_
              · intro V hSV; go_simp
              simp only [Act.put, List.setIfInBounds_toArray, List.set_cons_zero, List.set_cons_succ]
              refine wpAnyH_done (by kernel_rfl) ?_ _
              refine NoPanic.normal ?_
              exact ⟨rfl, HI9.out.weak, _, _, _, _, rfl⟩
end Go.Proofs.YthaihallfjjnpaaGreatDoor
