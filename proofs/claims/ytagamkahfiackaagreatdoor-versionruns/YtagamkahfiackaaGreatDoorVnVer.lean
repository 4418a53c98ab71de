/- Versions. -/
import Derived.Test.YtagamkahfiackaaGreatDoorVnPut
import Derived.Test.YtagamkahfiackaaGreatDoorCuAll
import Derived.Deep.CutRange
namespace Go.Proofs.YtagamkahfiackaaGreatDoor
open Go.RowKit Go.Sort Go.Shelf

attribute [local go_sem] Oper.semAt_some
theorem fold2 (i j : Nat) (u v : Value) (t : Array Value) : (#[i, j].zip #[u, v]).foldl (fun t (p, v) => t.setIfInBounds p v) t = (t.setIfInBounds i u).setIfInBounds j v := by simp
def r00 : Rg := ⟨⟨#[]⟩, ⟨#[]⟩, false, false, false, false⟩
theorem sel_all (l : List It) : selR r00 l = l := List.filter_eq_self.2 fun _ _ => rfl
/-- All's iterator, and its two boxes. -/
def AllTo (p : Nat) (r : Rg) (W : World) (e : Ending) (w' : World) : Prop := ∃ bt br, e = .returned (.func (.func 43) #[] #[.pointer (some ⟨bt, 0, none⟩), .pointer (some ⟨br, 0, none⟩)]) ∧
  Hid (Below W.heap.size W w' ∧ w'.heap[bt]? = some (.cells #[.pointer (some ⟨p, 0, none⟩)] 49 (0, 0)) ∧ w'.heap[br]? = some (.cells #[.string r.f, .string r.t, .bool r.hf, .bool r.ht, .bool r.pf, .bool r.pt] 28 (0, 0)) ∧ W.heap.size ≤ bt ∧ W.heap.size ≤ br)
theorem allB_ (p : Nat) (r : Rg) (W : World) : Calls Tryz.prog 27 #[.pointer (some ⟨p, 0, none⟩), rgV r] W (AllTo p r W) :=
  (all_ p r W).mono fun e w' ⟨e1, e2⟩ => by
    obtain ⟨b0, b1, b2⟩ := two_box W (.cells #[.pointer (some ⟨p, 0, none⟩)] 49) (.cells #[.string r.f, .string r.t, .bool r.hf, .bool r.ht, .bool r.pf, .bool r.pt] 28)
    rw [← e2] at b0 b1 b2
    exact ⟨_, _, e1, b0, b1, b2, Nat.le_refl _, Nat.le_succ _⟩
/-- What an iterator over a store's tree leans on. -/
theorem VnD.seq {W V : World} {ps p : Nat} {M : Nat → Option Nd} {F : Nat → Prop} {l : List It} {rd : Nat → List MV} (h : VnD W V ps p M F l rd) {bt br : Nat} {r : Rg} (hbt : V.heap[bt]? = some (.cells #[.pointer (some ⟨p, 0, none⟩)] 49 (0, 0))) (hbr : V.heap[br]? = some (.cells #[.string r.f, .string r.t, .bool r.hf, .bool r.ht, .bool r.pf, .bool r.pt] 28 (0, 0))) : Tr V M p l F bt br r := ⟨h.wk.st, h.tr, hbt, hbr⟩
def wsum (pre : List It) : Int := pre.foldl (fun s x => wrap64 (s + x.2.n)) 0
theorem wsum_snoc (pre : List It) (x : It) : wsum (pre ++ [x]) = wrap64 (wsum pre + x.2.n) := by simp [wsum]
theorem wsum_le : ∀ (l : List It) (s : Int), 0 ≤ s → s + (l.map (·.2.n)).sum ≤ 1000000 → l.foldl (fun s x => wrap64 (s + x.2.n)) s = s + (l.map (·.2.n)).sum
  | [], s, _, _ => by simp
  | x :: l, s, h0, h => by
    simp only [List.map_cons, List.sum_cons, List.foldl_cons] at h ⊢
    have hw : wrap64 (s + x.2.n) = s + x.2.n := by unfold wrap64; omega
    rw [hw, wsum_le l (s + x.2.n) (by omega) (by omega)]
    omega
theorem VnD.nver {W V : World} {ps p : Nat} {M : Nat → Option Nd} {F : Nat → Prop} {l : List It} {rd : Nat → List MV} (h : VnD W V ps p M F l rd) : (l.map (·.2.n)).sum = nVer (mdl rd l) := by
  unfold nVer mdl mapV
  rw [List.map_map]
  congr 1
  refine List.map_congr_left fun x hx => ?_
  obtain ⟨g, e, hc⟩ := h.ch.at' x hx
  obtain ⟨s1, _, _⟩ := hc.row.shape
  simp only [Function.comp_apply, fV, ctV, e]
  rw [s1, pvs_len]
/-- A number in a box, and what is old. -/
structure CnV (w : World) (b : Nat) (z : Int) (W : World) : Prop where
  bx : Boxed W b 3 (.int .i64 z)
  old : Below w.heap.size w W
  lo : w.heap.size ≤ b
theorem CnV.grown {w W W' : World} {b B : Nat} {z : Int} {row : Option Nat} (h : CnV w b z W) (hB : b < B) (hg : W.grownBy W' row) (hr : ∀ r, row = some r → B ≤ r) : CnV w b z W' := by
  have key : ∀ k, k < B → k < W.heap.size → W'.heap[k]? = W.heap[k]? := fun k hk hl => hg.block k hl (fun e => by have := hr k e.symm; omega)
  exact ⟨(key _ hB h.bx.lt).trans h.bx, ⟨hg.os.trans h.old.os, hg.tape.trans h.old.tape, hg.output.trans h.old.output, Nat.le_trans h.old.size hg.size, fun k hk => (key k (by have := h.lo; omega) (by have := h.old.size; omega)).trans (h.old.block k hk)⟩, h.lo⟩
theorem CnV.set {w W : World} {b : Nat} {z : Int} (h : CnV w b z W) (y : Int) : CnV w b y (W.setCell ⟨b, 0, none⟩ (.int .i64 y)) :=
  ⟨h.bx.set _, ⟨h.old.os, h.old.tape, h.old.output, by rw [size_set]; exact h.old.size, fun k hk => (heap_far _ (by have := h.lo; omega)).trans (h.old.block k hk)⟩, h.lo⟩
set_option maxRecDepth 100000 in
set_option maxHeartbeats 2000000 in
theorem versions_ {W w : World} {ps : Nat} {m : List Ct} (h : VnAt W w ps m) (hm : nVer m ≤ 1000000) :
    Calls Tryz.prog 8 #[.pointer (some ⟨ps, 0, none⟩)] w fun e w' => e = .returned (.int .i64 (nVer m)) ∧ Below w.heap.size w w' := by
  obtain ⟨p, M, F, l, rd, hd, rfl⟩ := h.ex
  have hsum := hd.nver
  have HK : Hid (∀ V, Below w.heap.size w V → Calls Tryz.prog 22 #[.pointer (some ⟨ps, 0, none⟩)] V fun e w' => e = .returned (.pointer (some ⟨p, 0, none⟩)) ∧ w' = V) := fun V hV => kept_ (hd.on hV).bs
  have HA : Hid (∀ V, Calls Tryz.prog 27 #[.pointer (some ⟨p, 0, none⟩), .agg #[.string ⟨#[]⟩, .string ⟨#[]⟩, .bool false, .bool false, .bool false, .bool false]] V (AllTo p r00 V)) := fun V => allB_ p r00 V
  have HD := Lib.hid hd
  obtain ⟨N, hN⟩ : ∃ N, N = nVer (mdl rd l) := ⟨_, rfl⟩
  rw [← hN] at hsum hm ⊢
  have HS := Lib.hid (And.intro hsum hm)
  obtain ⟨W1, hW1⟩ : ∃ W1, W1 = w.alloc (.cells #[.int .i64 0] 3) := ⟨_, rfl⟩
  have HB1 : Hid (Below w.heap.size w W1 ∧ Boxed W1 w.heap.size 3 (.int .i64 0) ∧ W1.heap.size = w.heap.size + 1) := by rw [hW1]; exact ⟨below_alloc _ _, new_blk _ _, by simp [go_sem]⟩
  clear h hd hN hsum hm
  refine callsIn_wide.1 (callsIn_of_wp_marks (n := 9) Tryz.func8 rfl (wide_fn _) (wpIn_wide.2 ?_) wide_round)
  simp only [Tryz.ntmps8, List.size_toArray, List.length_cons, List.length_nil, Nat.reduceAdd, Nat.reduceSub, Array.replicate_succ, Array.replicate_zero, List.push_toArray, List.append_toArray, List.nil_append, List.cons_append]
  go_upto_region 2 with fail
  rw [← hW1]
  clear hW1
  go_wp2_with (first
    | (go_at_call 22; refine (HK.out _ HB1.out.1).mono ?_; rintro e w1 ⟨rfl, rfl⟩; clear HK)
    | (go_at_call 27; refine (HA.out _).mono ?_; rintro e W2 ⟨bt, br, rfl, HX⟩; clear HA)
    | fail)
  obtain ⟨x1, x2, x3, x4, x5⟩ := HX.out
  obtain ⟨y1, y2, y3⟩ := HB1.out
  have hW2 : Below w.heap.size w W2 := below_step y1 x1
  have hpl : p < w.heap.size := HD.out.tr.lt
  have hT := (HD.out.on hW2).seq x2 x3
  have hlt : ∀ k, (Own M k ∨ k = p ∨ k = bt ∨ k = br) → k < W2.heap.size ∧ k ≠ w.heap.size := fun k hk => ⟨hT.lts k hk, by
    rcases hk with h | rfl | rfl | rfl
    · have := HD.out.wk.st.lt h; omega
    · omega
    · omega
    · omega⟩
  have hbl : w.heap.size < W2.heap.size := by have := x1.size; omega
  have hI0 : CnV w w.heap.size (wsum []) W2 := ⟨blkKeep x1 y2, hW2, Nat.le_refl _⟩
  have hseq := all_stops 8 (by omega) hT
  rw [sel_all] at hseq
  have hkb : ∀ (W : World) (ll : Nat) (o o' : Obj), W2.heap.size ≤ ll → W.heap[ll]? = some o → o.isCells = false → o.isWalk = false → KpT M p bt br W (W.putObj ll o') := fun W ll o o' h1 _ _ _ k hk => World.putObj_heap_other (by have := (hlt k hk).1; omega)
  clear x1 x2 x3 x4 x5 y1 y2 y3 hT HX HB1 hW2 hpl HD
  rw [← wpIn_wide (n := 9)]
  apply wpIn_rangeFunc_ownG (encs := encI) (Kp := KpT M p bt br) (S := fun ys => ys = l) (Sp := fun pre => pre <+: l) (N := l.length) (w0 := W2) wide_round (by omega) (gf := 43) (lb := #[.pointer (some ⟨bt, 0, none⟩), .pointer (some ⟨br, 0, none⟩)]) rfl (wide_fn _) (enters_of Tryz.func43 (by kernel_rfl) rfl) hseq kpT_t hkb (Below.refl _ _) (fun _ => rfl)
    (fun pre W => CnV w w.heap.size (wsum pre) W) (fun _ _ _ => False)
    (fun pre W W' row hi hg hr => hi.grown hbl hg (fun r e => (hr r e).1)) (fun cc pre W W' row hi hg hr => hi) hI0
  case hassign =>
    intro ll x W KK hK
    unfold encI
    rw [fold2]
    simp only [List.setIfInBounds_toArray, List.set_cons_zero, List.set_cons_succ]
    gi_wp2
    exact hK
  case hbody =>
    rintro ll pre x W hi hlen
    have c0 := hi.bx.cell
    have f0 := hi.bx.frozen
    have HI := Lib.hid hi
    clear hi hlen
    gi_wp2
    have hi := HI.out
    rw [← wsum_snoc]
    exact ⟨⟨by rw [size_set]; exact Nat.le_refl _, fun k o hk hko _ => (heap_far _ (by omega)).trans hko⟩, fun k hk => heap_far _ (hlt k hk).2, hi.set _⟩
  case hstop =>
    rintro D cc pre W hD hsp hix hK
    exact hix.elim
  case hdone =>
    rintro D1 ys W hD1 hys hi hK1
    subst hys
    have HI := Lib.hid (And.intro hi hK1)
    have c0 := hi.bx.cell
    clear hi hK1 hseq hkb
    go_wp2_with fail
    obtain ⟨hi, hK⟩ := HI.out
    have e : wsum ys = (N : Int) := by
      have := wsum_le ys 0 (Int.le_refl _) (by have := HS.out; omega)
      unfold wsum
      rw [this, HS.out.1]; omega
    refine ⟨by simp, .inl ⟨_, _, rfl, run_takeDeferred hK, ?_⟩⟩
    exact ⟨.int .i64 (wsum ys), by simp [results, Tryz.results8, go_sem], by rw [e], (hi.grown hbl (grownBy_putObj' _ D1 _) (fun r e => by cases e; exact hD1)).old⟩
end Go.Proofs.YtagamkahfiackaaGreatDoor
