/- Changed. -/
import Derived.Test.YtagamkahfiackaaGreatDoorVnVer
import Derived.Shelf.RegionOpen
namespace Go.Proofs.YtagamkahfiackaaGreatDoor
open Go.RowKit Go.Sort Go.Shelf

attribute [local go_sem] Oper.semAt_some
abbrev Inl (l : List It) := { x : It // x ∈ l }
/-- Between two rounds: the answer's box, the commit's box; what is old. -/
structure ChI (w : World) (bs br : Nat) (t : Int) (b : Bool) (W : World) : Prop where
  bx : Boxed W bs 3 (.int .i64 t)
  rx : Boxed W br 4 (.bool b)
  old : Below w.heap.size w W
  lo : w.heap.size ≤ bs ∧ w.heap.size ≤ br
theorem ChI.grown {w W W' : World} {bs br B : Nat} {t : Int} {b : Bool} {row : Option Nat} (h : ChI w bs br t b W) (hB : bs < B ∧ br < B) (hg : W.grownBy W' row) (hr : ∀ r, row = some r → B ≤ r) : ChI w bs br t b W' := by
  have key : ∀ k, k < B → k < W.heap.size → W'.heap[k]? = W.heap[k]? := fun k hk hl => hg.block k hl (fun e => by have := hr k e.symm; omega)
  exact ⟨(key _ hB.1 h.bx.lt).trans h.bx, (key _ hB.2 h.rx.lt).trans h.rx, ⟨hg.os.trans h.old.os, hg.tape.trans h.old.tape, hg.output.trans h.old.output, Nat.le_trans h.old.size hg.size, fun k hk => (key k (by have := h.lo; omega) (by have := h.old.size; omega)).trans (h.old.block k hk)⟩, h.lo⟩
theorem ChI.on {w W W' : World} {bs br : Nat} {t : Int} {b : Bool} (h : ChI w bs br t b W) (hb : Below W.heap.size W W') : ChI w bs br t b W' := ⟨blkKeep hb h.bx, blkKeep hb h.rx, below_step h.old hb, h.lo⟩
theorem ChI.set {w W : World} {bs br : Nat} {t : Int} {b : Bool} (h : ChI w bs br t b W) (hne : bs ≠ br) (c : Bool) : ChI w bs br t c (W.setCell ⟨br, 0, none⟩ (.bool c)) :=
  ⟨(heap_far _ hne).trans h.bx, h.rx.set _, ⟨h.old.os, h.old.tape, h.old.output, by rw [size_set]; exact h.old.size, fun k hk => (heap_far _ (by have := h.lo; omega)).trans (h.old.block k hk)⟩, h.lo⟩
def lateV (rd : Nat → List MV) (t : Int) (x : It) : Bool := decide (t < lastC (fV rd x.2))
theorem chg_eq (rd : Nat → List MV) (r : Rg) (t : Int) (l : List It) : chgM r t (mdl rd l) = (selR r l).any (lateV rd t) := by
  unfold chgM selM mdl mapV selR
  rw [List.filter_map, List.any_map]
  rfl
set_option maxRecDepth 100000 in
set_option maxHeartbeats 4000000 in
theorem changed_ {W w : World} {ps : Nat} {m : List Ct} (h : VnAt W w ps m) (hm : nVer m ≤ 1000000) (r : Rg) (t : Int) :
    Calls Tryz.prog 12 #[.pointer (some ⟨ps, 0, none⟩), rgV r, .int .i64 t] w fun e w' => e = .returned (.bool (chgM r t m)) ∧ Below w.heap.size w w' := by
  obtain ⟨p, M, F, l, rd, hd, rfl⟩ := h.ex
  have HK : Hid (∀ V, Below w.heap.size w V → Calls Tryz.prog 22 #[.pointer (some ⟨ps, 0, none⟩)] V fun e w' => e = .returned (.pointer (some ⟨p, 0, none⟩)) ∧ w' = V) := fun V hV => kept_ (hd.on hV).bs
  have HA : Hid (∀ V, Calls Tryz.prog 27 #[.pointer (some ⟨p, 0, none⟩), rgV r] V (AllTo p r V)) := fun V => allB_ p r V
  have HL : Hid (∀ x ∈ l, ∀ V, Below w.heap.size w V → Calls Tryz.prog 30 #[.slice x.2.a x.2.n x.2.c] V fun e w' => e = .returned (.int .i64 (lastC (fV rd x.2))) ∧ w' = V) := fun x hx V hV => by
    obtain ⟨g, e, hc⟩ := hd.ch.at' x hx
    obtain ⟨s1, s2, _⟩ := hc.row.shape
    have hx2 : (x.1, fV rd x.2) ∈ mdl rd l := List.mem_map_of_mem hx
    have hlen : (fV rd x.2).length ≤ nVer (mdl rd l) := by
      have h1 := ch_le h.ok.srt x.1
      unfold chM at h1
      rw [mem_get h.ok.srt hx2] at h1
      exact h1
    have ef : fV rd x.2 = pvs (rd g) := by unfold fV ctV; rw [e]
    rw [ef, pvs_len] at hlen
    rw [ef]
    exact last_ s1 (s2.on hV) (by omega)
  have HD := Lib.hid hd
  rw [chg_eq]
  obtain ⟨W1, hW1⟩ : ∃ W1, W1 = ((w.alloc (.cells #[.string r.f, .string r.t, .bool r.hf, .bool r.ht, .bool r.pf, .bool r.pt] 28)).alloc (.cells #[.int .i64 t] 3)).alloc (.cells #[.bool false] 4) := ⟨_, rfl⟩
  have HB1 : Hid (Below w.heap.size w W1 ∧ RgAt W1 w.heap.size r ∧ Boxed W1 (w.heap.size + 1) 3 (.int .i64 t) ∧ Boxed W1 (w.heap.size + 1 + 1) 4 (.bool false) ∧ W1.heap.size = w.heap.size + 1 + 1 + 1) := by
    obtain ⟨b0, b1, b2⟩ := two_box w (.cells #[.string r.f, .string r.t, .bool r.hf, .bool r.ht, .bool r.pf, .bool r.pt] 28) (.cells #[.int .i64 t] 3)
    have b3 := below_alloc ((w.alloc (.cells #[.string r.f, .string r.t, .bool r.hf, .bool r.ht, .bool r.pf, .bool r.pt] 28)).alloc (.cells #[.int .i64 t] 3)) (.cells #[.bool false] 4)
    have b4 := new_blk ((w.alloc (.cells #[.string r.f, .string r.t, .bool r.hf, .bool r.ht, .bool r.pf, .bool r.pt] 28)).alloc (.cells #[.int .i64 t] 3)) (.cells #[.bool false] 4)
    rw [hW1]
    refine ⟨below_step b0 b3, ?_, blkKeep b3 b2, by simp only [World.size_alloc] at b4; exact b4, by simp [go_sem]⟩
    have := blkKeep b3 b1
    exact ⟨cell_of this rfl, cell_of this rfl, cell_of this rfl, cell_of this rfl, cell_of this rfl, cell_of this rfl⟩
  clear h hd hm
  unfold rgV at *
  refine callsIn_wide.1 (callsIn_of_wp_marks (n := 9) Tryz.func12 rfl (wide_fn _) (wpIn_wide.2 ?_) wide_round)
  simp only [Tryz.ntmps12, List.size_toArray, List.length_cons, List.length_nil, Nat.reduceAdd, Nat.reduceSub, Array.replicate_succ, Array.replicate_zero, List.push_toArray, List.append_toArray, List.nil_append, List.cons_append]
  go_upto_region 1 with fail
  rw [← hW1]
  clear hW1
  have HKp : Hid (∀ V, Below W1.heap.size W1 V → (RgAt V w.heap.size r ∧ Below W1.heap.size W1 V)) := fun V hV => ⟨HB1.out.2.1.on hV (by have := HB1.out.2.2.2.2; omega), hV⟩
  unfold RgAt at HKp
  refine wp_region_noPanic ?_
  go_region_held (fun V => (V.cell? ⟨w.heap.size, 0, none⟩ = some (.string r.f) ∧ V.cell? ⟨w.heap.size, 1, none⟩ = some (.string r.t) ∧ V.cell? ⟨w.heap.size, 2, none⟩ = some (.bool r.hf) ∧ V.cell? ⟨w.heap.size, 3, none⟩ = some (.bool r.ht) ∧ V.cell? ⟨w.heap.size, 4, none⟩ = some (.bool r.pf) ∧ V.cell? ⟨w.heap.size, 5, none⟩ = some (.bool r.pt)) ∧ Below W1.heap.size W1 V)
    (first | (exact HKp.out _ (below_drew _)) | (exact HKp.out _ (below_step (by assumption : RgAt _ w.heap.size r ∧ Below W1.heap.size W1 _).2 (by assumption))) | assumption)
    (first
      | (go_at_call 22; refine (HK.out _ (below_step HB1.out.1 (by assumption : RgAt _ w.heap.size r ∧ Below W1.heap.size W1 _).2)).mono ?_; rintro e w1 ⟨rfl, rfl⟩; clear HK)
      | (go_at_call 27; refine (HA.out _).mono ?_; rintro e W2 ⟨bt, br, rfl, HX⟩; have hb := HX.out.1; clear HA)
      | fail)
  refine NoPanic.normal ?_
  go_wp2_with fail
  have hW12 := (by assumption : RgAt W2 w.heap.size r ∧ Below W1.heap.size W1 W2).2
  obtain ⟨x1, x2, x3, x4, x5⟩ := HX.out
  obtain ⟨y1, y2, y3, y4, y5⟩ := HB1.out
  have hbt : W1.heap.size ≤ bt := x4
  have hbr : W1.heap.size ≤ br := x5
  have hW2 : Below w.heap.size w W2 := below_step y1 hW12
  have hpl : p < w.heap.size := HD.out.tr.lt
  have hT := (HD.out.on hW2).seq x2 x3
  have hlt : ∀ k, (Own M k ∨ k = p ∨ k = bt ∨ k = br) → k < W2.heap.size ∧ k ≠ w.heap.size + 1 + 1 := fun k hk => ⟨hT.lts k hk, by
    rcases hk with h | rfl | rfl | rfl
    · have := HD.out.wk.st.lt h; omega
    · omega
    · omega
    · omega⟩
  have hbl : w.heap.size + 1 < W2.heap.size ∧ w.heap.size + 1 + 1 < W2.heap.size := by have := hW12.size; omega
  have hI0 : ChI w (w.heap.size + 1) (w.heap.size + 1 + 1) t false W2 ∧ ∀ x ∈ ([] : List (Inl l)), lateV rd t x.1 = false := ⟨⟨blkKeep hW12 y3, blkKeep hW12 y4, hW2, by omega⟩, fun x hx => by cases hx⟩
  have hseq := all_stopsS 8 (by omega) hT
  have hkb : ∀ (W : World) (ll : Nat) (o o' : Obj), W2.heap.size ≤ ll → W.heap[ll]? = some o → o.isCells = false → o.isWalk = false → KpT M p bt br W (W.putObj ll o') := fun W ll o o' h1 _ _ _ k hk => World.putObj_heap_other (by have := (hlt k hk).1; omega)
  clear x1 x2 x3 x4 x5 y1 y2 y3 y4 y5 hT HX HB1 hW2 hpl HD HKp hbt hbr hW12
  rw [← wpIn_wide (n := 9)]
  apply wpIn_rangeFunc_ownG (encs := encS (l := l)) (Kp := KpT M p bt br) (S := fun ys => ys.map (·.1) = selR r l) (Sp := fun pre => pre.map (·.1) <+: selR r l) (N := l.length) (w0 := W2) wide_round (by omega) (gf := 43) (lb := #[.pointer (some ⟨bt, 0, none⟩), .pointer (some ⟨br, 0, none⟩)]) rfl (wide_fn _) (enters_of Tryz.func43 (by kernel_rfl) rfl) hseq kpT_t hkb (Below.refl _ _) (fun _ => rfl)
    (fun pre W => ChI w (w.heap.size + 1) (w.heap.size + 1 + 1) t false W ∧ ∀ x ∈ pre, lateV rd t x.1 = false) (fun cc pre W => cc = .ret ∧ ChI w (w.heap.size + 1) (w.heap.size + 1 + 1) t true W ∧ ∃ x ∈ pre, lateV rd t x.1 = true)
    (fun pre W W' row hi hg hr => ⟨hi.1.grown hbl hg (fun r e => (hr r e).1), hi.2⟩) (fun cc pre W W' row hi hg hr => ⟨hi.1, hi.2.1.grown hbl hg (fun r e => (hr r e).1), hi.2.2⟩) hI0
  case hassign =>
    intro ll x W KK hK
    unfold encS encI
    rw [fold2]
    simp only [List.setIfInBounds_toArray, List.set_cons_zero, List.set_cons_succ]
    gi_wp2
    exact hK
  case hbody =>
    rintro ll pre ⟨x, hx⟩ W ⟨hi, hno⟩ hlen
    have c0 := hi.bx.cell
    have c1 := hi.rx.cell
    have f1 := hi.rx.frozen
    have HI := Lib.hid hi
    have HNo := Lib.hid hno
    have HC := Lib.hid (HL.out x hx W.drew (below_step hi.old (below_drew W)))
    have hlate : lateV rd t x = decide (t < lastC (fV rd x.2)) := rfl
    have HLt := Lib.hid hlate
    clear hi hno hlen hlate
    generalize lastC (fV rd x.2) = lc at *
    dsimp only
    have hmx : Tryz.prog.follows .mixedOrders = true := by kernel_rfl
    have HKF : Hid (KeepsFrom W2.heap.size W (W.setCell ⟨w.heap.size + 1 + 1, 0, none⟩ (.bool true)).drew) := ⟨by show _ ≤ (W.setCell _ _).heap.size; rw [size_set]; exact Nat.le_refl _, fun k o hk hko _ => (heap_far _ (by omega)).trans hko⟩
    by_cases hc : t < lc
    · have HLx : Hid (lateV rd t x = true) := by show _ = _; rw [HLt.out]; exact decide_eq_true hc
      gi_wp2
      gi_region_with_o (refine ⟨wide_fn _, ?_⟩; gi_at_call 30; refine (CallsIn.inRound ll (callsIn_wide.2 HC.out)).mono ?_; rintro e w' ⟨rfl, rfl⟩)
      all_goals gi_wp2
      all_goals exact ⟨HKF.out, rfl, (HI.out.set (by omega) true).on (below_drew _), ⟨x, hx⟩, by simp, HLx.out⟩
    · have HLx : Hid (lateV rd t x = false) := by show _ = _; rw [HLt.out]; exact decide_eq_false hc
      gi_wp2
      gi_region_with_o (refine ⟨wide_fn _, ?_⟩; gi_at_call 30; refine (CallsIn.inRound ll (callsIn_wide.2 HC.out)).mono ?_; rintro e w' ⟨rfl, rfl⟩)
      all_goals gi_wp2
      all_goals exact ⟨⟨Nat.le_refl _, fun k o hk hko _ => hko⟩, fun k hk => rfl, HI.out.on (below_drew _), fun y hy => (List.mem_append.1 hy).elim (HNo.out y) fun q => by rw [List.mem_singleton.1 q]; exact HLx.out⟩
  case hstop =>
    rintro D cc pre W hD hsp ⟨rfl, hi, ⟨x, hx, hlx⟩⟩ hK
    have HAny : Hid ((selR r l).any (lateV rd t) = true) := List.any_eq_true.2 ⟨x.1, hsp.subset (List.mem_map_of_mem hx), hlx⟩
    have HI := Lib.hid (And.intro hi hK)
    have c0 := hi.rx.cell
    clear hi hK hseq hkb hx hlx hsp
    gi_wp2
    obtain ⟨hi, hK⟩ := HI.out
    have hp := hi.grown hbl (grownBy_putObj' W D (.deferred none)) (fun r e => by cases e; exact hD)
    have c9 := hp.rx.cell
    refine ⟨by simp, .inl ⟨_, _, rfl, run_takeDeferred hK, ?_⟩⟩
    exact ⟨.bool true, by simp [results, Tryz.results12, go_sem, c9], by rw [HAny.out], hp.old⟩
  case hdone =>
    rintro D1 ys W hD1 hys ⟨hi, hno⟩ hK1
    have HAny : Hid ((selR r l).any (lateV rd t) = false) := by
      show _ = _
      rw [← hys]
      simp only [List.any_eq_false, List.mem_map]
      rintro x ⟨y, hy, rfl⟩
      rw [hno y hy]; simp
    have HI := Lib.hid (And.intro hi hK1)
    have c0 := hi.rx.cell
    have f0 := hi.rx.frozen
    clear hi hno hK1 hseq hkb hys
    go_wp2_with fail
    obtain ⟨hi, hK⟩ := HI.out
    have hs := hi.set (by omega) false
    have hK2 : (W.setCell ⟨w.heap.size + 1 + 1, 0, none⟩ (.bool false)).heap[D1]? = some (.deferred (some [])) := (heap_far _ (by omega)).trans hK
    have hp := hs.grown hbl (grownBy_putObj' _ D1 (.deferred none)) (fun r e => by cases e; exact hD1)
    have c9 := hp.rx.cell
    refine ⟨by simp, .inl ⟨_, _, rfl, run_takeDeferred hK2, ?_⟩⟩
    exact ⟨.bool false, by simp [results, Tryz.results12, go_sem, c9], by rw [HAny.out], hp.old⟩
end Go.Proofs.YtagamkahfiackaaGreatDoor
