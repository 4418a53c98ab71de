/- Count. -/
import Derived.Test.YtagamkahfiackaaGreatDoorVnRows1
namespace Go.Proofs.YtagamkahfiackaaGreatDoor
open Go.RowKit Go.Sort Go.Shelf

attribute [local go_sem] Oper.semAt_some
def cntW {α : Type} (pre : List α) : Int := pre.foldl (fun s _ => wrap64 (s + 1)) 0
theorem cntW_snoc {α : Type} (pre : List α) (x : α) : cntW (pre ++ [x]) = wrap64 (cntW pre + 1) := by simp [cntW]
theorem cnt_le {α : Type} : ∀ (l : List α) (s : Int), 0 ≤ s → s + l.length ≤ 1000000 → l.foldl (fun s _ => wrap64 (s + 1)) s = s + l.length
  | [], s, _, _ => by simp
  | x :: l, s, h0, h => by
    simp only [List.length_cons, List.foldl_cons] at h ⊢
    have hw : wrap64 (s + 1) = s + 1 := by unfold wrap64; omega
    rw [hw, cnt_le l (s + 1) (by omega) (by omega)]
    omega
def prI (rd : Nat → List MV) (t : Int) (x : It) : ByteArray × ByteArray := (x.1, (rowC (fV rd x.2) t).getD ⟨#[]⟩)
theorem rows_eq (rd : Nat → List MV) (r : Rg) (t : Int) (l : List It) : rowsM r t (mdl rd l) = ((selR r l).filter (hvI rd t)).map (prI rd t) := by
  unfold rowsM selM mdl mapV selR
  rw [List.filter_map, List.filterMap_map]
  show List.filterMap _ (List.filter (fun x => hasR r x.1) l) = _
  generalize List.filter (fun x => hasR r x.1) l = q
  induction q with
  | nil => rfl
  | cons x q ih =>
    rw [List.filter_cons]
    cases e : rowC (fV rd x.2) t with
    | none =>
      rw [List.filterMap_cons_none (by simp [e]), if_neg (by simp [hvI, e])]
      exact ih
    | some y =>
      rw [List.filterMap_cons_some (b := (x.1, y)) (by simp [e]), if_pos (by simp [hvI, e]), List.map_cons, ih]
      simp [prI, e]
theorem CnV.kp {w V : World} {b : Nat} {z : Int} (_h : CnV w b z V) (y : Int) : KpR b V (V.setCell ⟨b, 0, none⟩ (.int .i64 y)) := ⟨by rw [size_set]; exact Nat.le_refl _, fun k c ty hk _ hc => (heap_far _ hk).trans hc⟩
set_option maxRecDepth 100000 in
set_option maxHeartbeats 2000000 in
theorem count_ {W w : World} {ps : Nat} {m : List Ct} (h : VnAt W w ps m) (hm : nVer m ≤ 1000000) (t : Int) :
    Calls Tryz.prog 14 #[.pointer (some ⟨ps, 0, none⟩), .int .i64 t] w fun e w' => e = .returned (.int .i64 (rowsM r00 t m).length) ∧ Below w.heap.size w w' := by
  obtain ⟨p, M, F, l, rd, hd, rfl⟩ := h.ex
  have hlen : l.length ≤ 1000000 := by
    have := h.ok.len
    rw [mdl_len] at this
    omega
  rw [rows_eq, List.length_map]
  have HS := Lib.hid hlen
  have HA : Hid (∀ V, Calls Tryz.prog 28 #[.pointer (some ⟨ps, 0, none⟩), .agg #[.string ⟨#[]⟩, .string ⟨#[]⟩, .bool false, .bool false, .bool false, .bool false], .int .i64 t] V (RowsTo ps r00 t V)) := fun V => rows_ ps r00 t V
  obtain ⟨W1, hW1⟩ : ∃ W1, W1 = w.alloc (.cells #[.int .i64 0] 3) := ⟨_, rfl⟩
  have HB1 : Hid (Below w.heap.size w W1 ∧ Boxed W1 w.heap.size 3 (.int .i64 0) ∧ W1.heap.size = w.heap.size + 1) := by rw [hW1]; exact ⟨below_alloc _ _, new_blk _ _, by simp [go_sem]⟩
  have HD := Lib.hid (And.intro hd (And.intro h.ok hm))
  clear h hd hlen hm
  refine callsIn_wide.1 (callsIn_of_wp_marks (n := 9) Tryz.func14 rfl (wide_fn _) (wpIn_wide.2 ?_) wide_round)
  simp only [Tryz.ntmps14, List.size_toArray, List.length_cons, List.length_nil, Nat.reduceAdd, Nat.reduceSub, Array.replicate_succ, Array.replicate_zero, List.push_toArray, List.append_toArray, List.nil_append, List.cons_append]
  go_upto_region 2 with fail
  rw [← hW1]
  clear hW1
  go_wp2_with (first
    | (go_at_call 28; refine (HA.out _).mono ?_; rintro e W2 ⟨bs, br, bt, rfl, HX⟩; clear HA)
    | fail)
  obtain ⟨x1, x2, x3, x4, x5⟩ := HX.out
  obtain ⟨y1, y2, y3⟩ := HB1.out
  have hW2 : Below w.heap.size w W2 := below_step y1 x1
  have hbl : w.heap.size < W2.heap.size := by have := x1.size; omega
  have hI0 : CnV w w.heap.size (cntW ([] : List (Inl l))) W2 := ⟨blkKeep x1 y2, hW2, Nat.le_refl _⟩
  have hseq := rows1_ (ob := w.heap.size) (D := W2.heap.size + 2) HD.out.1 HD.out.2.1 HD.out.2.2 r00 t hW2 x2 ⟨Nat.le_refl _, by omega, by omega, by omega⟩
  clear x1 x2 x3 x4 x5 y1 y2 y3 HX HB1 hW2 HD
  rw [← wpIn_wide (n := 9)]
  apply range_over (encs := encR (l := l) rd t) (Kp := KpR w.heap.size) (S := fun ys => ys.map (·.1) = (selR r00 l).filter (hvI rd t)) (Sp := fun _ => True) (N := l.length) (w0 := W2) (gf := 47) (lb := #[.pointer (some ⟨bs, 0, none⟩), .pointer (some ⟨br, 0, none⟩), .pointer (some ⟨bt, 0, none⟩)]) rfl (enters_of Tryz.func47 (by kernel_rfl) rfl) hseq kpR_t (fun V q o o' _ hq ho => kpR_put _ V q o' hq ho) (Below.refl _ _) (fun _ => rfl)
    (fun pre V => CnV w w.heap.size (cntW pre) V) (fun _ _ _ => False)
    (fun pre V V' row hi hg hr => hi.grown hbl hg (fun r e => (hr r e).1)) (fun cc pre V V' row hi hg hr => hi) hI0
  case hassign =>
    intro ll x V KK hK
    unfold encR
    rw [fold2]
    simp only [List.setIfInBounds_toArray, List.set_cons_zero, List.set_cons_succ]
    gi_wp2
    exact hK
  case hbody =>
    rintro ll pre x V hi hlen
    have c0 := hi.bx.cell
    have f0 := hi.bx.frozen
    have HI := Lib.hid hi
    clear hi hlen
    gi_wp2
    have hi := HI.out
    rw [← cntW_snoc]
    exact ⟨⟨by rw [size_set]; exact Nat.le_refl _, fun k o hk hko _ => (heap_far _ (by omega)).trans hko⟩, hi.kp _, hi.set _⟩
  case hstop =>
    rintro D cc pre V hD hsp hix hK
    exact hix.elim
  case hdone =>
    rintro D1 ys V hD1 hys hi hK1
    have HI := Lib.hid (And.intro hi (And.intro hK1 hys))
    have c0 := hi.bx.cell
    clear hi hK1 hseq hys
    go_wp2_with fail
    obtain ⟨hi, hK, hys⟩ := HI.out
    have e : cntW ys = (((selR r00 l).filter (hvI rd t)).length : Int) := by
      have hl := congrArg List.length hys
      rw [List.length_map] at hl
      have h2 : ((selR r00 l).filter (hvI rd t)).length ≤ l.length := Nat.le_trans (List.length_filter_le _ _) (List.length_filter_le _ _)
      have := cnt_le ys 0 (Int.le_refl _) (by have := HS.out; omega)
      unfold cntW
      rw [this, hl]; omega
    refine ⟨by simp, .inl ⟨_, _, rfl, run_takeDeferred hK, ?_⟩⟩
    exact ⟨.int .i64 (cntW ys), by simp [results, Tryz.results14, go_sem], by rw [e], (hi.grown hbl (grownBy_putObj' _ D1 _) (fun r e => by cases e; exact hD1)).old⟩
end Go.Proofs.YtagamkahfiackaaGreatDoor
