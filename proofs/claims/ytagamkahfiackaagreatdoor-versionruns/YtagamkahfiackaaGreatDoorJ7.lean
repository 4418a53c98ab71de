/- Versions; Changed; Plain facts: what nobody sees goes, key by key; One; []byte(s); the law's sure; Plain facts: one key, written commit by commit; what is done, among the arguments; What is done, among the arguments, opened; how long its rows are; What the row's listed type of errors gives the walk; The walks of unseen, and of a copy of a chain. -/
import Derived.Test.YtagamkahfiackaaGreatDoorJ5
import Derived.Test.YtagamkahfiackaaGreatDoorJ6
import Derived.Deep.CutRange
import Derived.Shelf.RegionOpen
import Derived.Test.YtagamkahfiackaaGreatDoorJ4
import Derived.Laws.Tables
import Derived.Lib.SlBytesConst
import Derived.Test.YtagamkahfiackaaGreatDoorRows
import Derived.ProofKit
import Derived.OpenShut
import Derived.SizedLaws
import Derived.HandedShaped
import Derived.Carry
import Derived.ChangeSlices
import Derived.Shelf.Vars
import Derived.Deep.Slices
import Derived.Deep.Grids
import Derived.Test.YtagamkahfiackaaGreatDoorCards
import Derived.Test.YtagamkahfiackaaGreatDoorTie
import Derived.LaidMore
import Derived.LaidHandle
import Derived.Stop.Joined
import Derived.Lib.SmallJoins
import Derived.Deep.DeepHandedRow
import Derived.Deep.DeepWitnessRowRef
namespace Go.Proofs.YtagamkahfiackaaGreatDoor
open Go.RowKit Go.Sort Go.Shelf

attribute [local go_sem] Oper.semAt_some
theorem fold2 (i j : Nat) (u v : Value) (t : Array Value) : (#[i, j].zip #[u, v]).foldl (fun t (p, v) => t.setIfInBounds p v) t = (t.setIfInBounds i u).setIfInBounds j v := by simp
def r00 : Rg := ⟨⟨#[]⟩, ⟨#[]⟩, false, false, false, false⟩
theorem sel_all (l : List It) : selR r00 l = l := List.filter_eq_self.2 fun _ _ => rfl
/-- All's iterator, and its two boxes. -/
def AllTo (p : Nat) (r : Rg) (W : World) (e : Ending) (w' : World) : Prop := ∃ bt br, e = .returned (.func (.func 43) #[] #[.pointer (some ⟨bt, 0, none⟩), .pointer (some ⟨br, 0, none⟩)]) ∧
  Hid (Below W.heap.size W w' ∧ w'.heap[bt]? = some (.cells #[.pointer (some ⟨p, 0, none⟩)] 49 (0, 0)) ∧ w'.heap[br]? = some (.cells #[.string r.f, .string r.t, .bool r.hf, .bool r.ht, .bool r.pf, .bool r.pt] 28 (0, 0)) ∧ W.heap.size ≤ bt ∧ W.heap.size ≤ br)
theorem allB_ (p : Nat) (r : Rg) (W : World) : Calls Tryz.prog 27 #[.pointer (some ⟨p, 0, none⟩), rgV r] W (AllTo p r W) :=
  (all_ p r W).mono fun e w' ⟨e1, e2⟩ => by
    obtain ⟨b0, b1, b2⟩ := two_box W (.cells #[.pointer (some ⟨p, 0, none⟩)] 49) (.cells #[.string r.f, .string r.t, .bool r.hf, .bool r.ht, .bool r.pf, .bool r.pt] 28)
    rw [← e2] at b0 b1 b2
    exact ⟨_, _, e1, b0, b1, b2, Nat.le_refl _, Nat.le_succ _⟩
/-- What an iterator over a store's tree leans on. -/
theorem VnD.seq {W V : World} {ps p : Nat} {M : Nat → Option Nd} {F : Nat → Prop} {l : List It} {rd : Nat → List MV} (h : VnD W V ps p M F l rd) {bt br : Nat} {r : Rg} (hbt : V.heap[bt]? = some (.cells #[.pointer (some ⟨p, 0, none⟩)] 49 (0, 0))) (hbr : V.heap[br]? = some (.cells #[.string r.f, .string r.t, .bool r.hf, .bool r.ht, .bool r.pf, .bool r.pt] 28 (0, 0))) : Tr V M p l F bt br r := ⟨h.wk.st, h.tr, hbt, hbr⟩
def wsum (pre : List It) : Int := pre.foldl (fun s x => wrap64 (s + x.2.n)) 0
theorem wsum_snoc (pre : List It) (x : It) : wsum (pre ++ [x]) = wrap64 (wsum pre + x.2.n) := by simp [wsum]
theorem wsum_le : ∀ (l : List It) (s : Int), 0 ≤ s → s + (l.map (·.2.n)).sum ≤ 1000000 → l.foldl (fun s x => wrap64 (s + x.2.n)) s = s + (l.map (·.2.n)).sum
  | [], s, _, _ => by simp
  | x :: l, s, h0, h => by
    simp only [List.map_cons, List.sum_cons, List.foldl_cons] at h ⊢
    have hw : wrap64 (s + x.2.n) = s + x.2.n := by unfold wrap64; omega
    rw [hw, wsum_le l (s + x.2.n) (by omega) (by omega)]
    omega
theorem VnD.nver {W V : World} {ps p : Nat} {M : Nat → Option Nd} {F : Nat → Prop} {l : List It} {rd : Nat → List MV} (h : VnD W V ps p M F l rd) : (l.map (·.2.n)).sum = nVer (mdl rd l) := by
  unfold nVer mdl mapV
  rw [List.map_map]
  congr 1
  refine List.map_congr_left fun x hx => ?_
  obtain ⟨g, e, hc⟩ := h.ch.at' x hx
  obtain ⟨s1, _, _⟩ := hc.row.shape
  simp only [Function.comp_apply, fV, ctV, e]
  rw [s1, pvs_len]
/-- A number in a box, and what is old. -/
structure CnV (w : World) (b : Nat) (z : Int) (W : World) : Prop where
  bx : Boxed W b 3 (.int .i64 z)
  old : Below w.heap.size w W
  lo : w.heap.size ≤ b
theorem CnV.grown {w W W' : World} {b B : Nat} {z : Int} {row : Option Nat} (h : CnV w b z W) (hB : b < B) (hg : W.grownBy W' row) (hr : ∀ r, row = some r → B ≤ r) : CnV w b z W' := by
  have key : ∀ k, k < B → k < W.heap.size → W'.heap[k]? = W.heap[k]? := fun k hk hl => hg.block k hl (fun e => by have := hr k e.symm; omega)
  exact ⟨(key _ hB h.bx.lt).trans h.bx, ⟨hg.os.trans h.old.os, hg.tape.trans h.old.tape, hg.output.trans h.old.output, Nat.le_trans h.old.size hg.size, fun k hk => (key k (by have := h.lo; omega) (by have := h.old.size; omega)).trans (h.old.block k hk)⟩, h.lo⟩
theorem CnV.set {w W : World} {b : Nat} {z : Int} (h : CnV w b z W) (y : Int) : CnV w b y (W.setCell ⟨b, 0, none⟩ (.int .i64 y)) :=
  ⟨h.bx.set _, ⟨h.old.os, h.old.tape, h.old.output, by rw [size_set]; exact h.old.size, fun k hk => (heap_far _ (by have := h.lo; omega)).trans (h.old.block k hk)⟩, h.lo⟩
set_option maxRecDepth 100000 in
set_option maxHeartbeats 2000000 in
theorem versions_ {W w : World} {ps : Nat} {m : List Ct} (h : VnAt W w ps m) (hm : nVer m ≤ 1000000) :
    Calls Tryz.prog 8 #[.pointer (some ⟨ps, 0, none⟩)] w fun e w' => e = .returned (.int .i64 (nVer m)) ∧ Below w.heap.size w w' := by
  obtain ⟨p, M, F, l, rd, hd, rfl⟩ := h.ex
  have hsum := hd.nver
  have HK : Hid (∀ V, Below w.heap.size w V → Calls Tryz.prog 22 #[.pointer (some ⟨ps, 0, none⟩)] V fun e w' => e = .returned (.pointer (some ⟨p, 0, none⟩)) ∧ w' = V) := fun V hV => kept_ (hd.on hV).bs
  have HA : Hid (∀ V, Calls Tryz.prog 27 #[.pointer (some ⟨p, 0, none⟩), .agg #[.string ⟨#[]⟩, .string ⟨#[]⟩, .bool false, .bool false, .bool false, .bool false]] V (AllTo p r00 V)) := fun V => allB_ p r00 V
  have HD := Lib.hid hd
  obtain ⟨N, hN⟩ : ∃ N, N = nVer (mdl rd l) := ⟨_, rfl⟩
  rw [← hN] at hsum hm ⊢
  have HS := Lib.hid (And.intro hsum hm)
  obtain ⟨W1, hW1⟩ : ∃ W1, W1 = w.alloc (.cells #[.int .i64 0] 3) := ⟨_, rfl⟩
  have HB1 : Hid (Below w.heap.size w W1 ∧ Boxed W1 w.heap.size 3 (.int .i64 0) ∧ W1.heap.size = w.heap.size + 1) := by rw [hW1]; exact ⟨below_alloc _ _, new_blk _ _, by simp [go_sem]⟩
  clear h hd hN hsum hm
  refine callsIn_wide.1 (callsIn_of_wp_marks (n := 9) Tryz.func8 rfl (wide_fn _) (wpIn_wide.2 ?_) wide_round)
  simp only [Tryz.ntmps8, List.size_toArray, List.length_cons, List.length_nil, Nat.reduceAdd, Nat.reduceSub, Array.replicate_succ, Array.replicate_zero, List.push_toArray, List.append_toArray, List.nil_append, List.cons_append]
  go_upto_region 2 with fail
  rw [← hW1]
  clear hW1
  go_wp2_with (first
    | (go_at_call 22; refine (HK.out _ HB1.out.1).mono ?_; rintro e w1 ⟨rfl, rfl⟩; clear HK)
    | (go_at_call 27; refine (HA.out _).mono ?_; rintro e W2 ⟨bt, br, rfl, HX⟩; clear HA)
    | fail)
  obtain ⟨x1, x2, x3, x4, x5⟩ := HX.out
  obtain ⟨y1, y2, y3⟩ := HB1.out
  have hW2 : Below w.heap.size w W2 := below_step y1 x1
  have hpl : p < w.heap.size := HD.out.tr.lt
  have hT := (HD.out.on hW2).seq x2 x3
  have hlt : ∀ k, (Own M k ∨ k = p ∨ k = bt ∨ k = br) → k < W2.heap.size ∧ k ≠ w.heap.size := fun k hk => ⟨hT.lts k hk, by
    rcases hk with h | rfl | rfl | rfl
    · have := HD.out.wk.st.lt h; omega
    · omega
    · omega
    · omega⟩
  have hbl : w.heap.size < W2.heap.size := by have := x1.size; omega
  have hI0 : CnV w w.heap.size (wsum []) W2 := ⟨blkKeep x1 y2, hW2, Nat.le_refl _⟩
  have hseq := all_stops 8 (by omega) hT
  rw [sel_all] at hseq
  have hkb : ∀ (W : World) (ll : Nat) (o o' : Obj), W2.heap.size ≤ ll → W.heap[ll]? = some o → o.isCells = false → o.isWalk = false → KpT M p bt br W (W.putObj ll o') := fun W ll o o' h1 _ _ _ k hk => World.putObj_heap_other (by have := (hlt k hk).1; omega)
  clear x1 x2 x3 x4 x5 y1 y2 y3 hT HX HB1 hW2 hpl HD
  rw [← wpIn_wide (n := 9)]
  apply wpIn_rangeFunc_ownG (encs := encI) (Kp := KpT M p bt br) (S := fun ys => ys = l) (Sp := fun pre => pre <+: l) (N := l.length) (w0 := W2) wide_round (by omega) (gf := 43) (lb := #[.pointer (some ⟨bt, 0, none⟩), .pointer (some ⟨br, 0, none⟩)]) rfl (wide_fn _) (enters_of Tryz.func43 (by kernel_rfl) rfl) hseq kpT_t hkb (Below.refl _ _) (fun _ => rfl)
    (fun pre W => CnV w w.heap.size (wsum pre) W) (fun _ _ _ => False)
    (fun pre W W' row hi hg hr => hi.grown hbl hg (fun r e => (hr r e).1)) (fun cc pre W W' row hi hg hr => hi) hI0
  case hassign =>
    intro ll x W KK hK
    unfold encI
    rw [fold2]
    simp only [List.setIfInBounds_toArray, List.set_cons_zero, List.set_cons_succ]
    gi_wp2
    exact hK
  case hbody =>
    rintro ll pre x W hi hlen
    have c0 := hi.bx.cell
    have f0 := hi.bx.frozen
    have HI := Lib.hid hi
    clear hi hlen
    gi_wp2
    have hi := HI.out
    rw [← wsum_snoc]
    exact ⟨⟨by rw [size_set]; exact Nat.le_refl _, fun k o hk hko _ => (heap_far _ (by omega)).trans hko⟩, fun k hk => heap_far _ (hlt k hk).2, hi.set _⟩
  case hstop =>
    rintro D cc pre W hD hsp hix hK
    exact hix.elim
  case hdone =>
    rintro D1 ys W hD1 hys hi hK1
    subst hys
    have HI := Lib.hid (And.intro hi hK1)
    have c0 := hi.bx.cell
    clear hi hK1 hseq hkb
    go_wp2_with fail
    obtain ⟨hi, hK⟩ := HI.out
    have e : wsum ys = (N : Int) := by
      have := wsum_le ys 0 (Int.le_refl _) (by have := HS.out; omega)
      unfold wsum
      rw [this, HS.out.1]; omega
    refine ⟨by simp, .inl ⟨_, _, rfl, run_takeDeferred hK, ?_⟩⟩
    exact ⟨.int .i64 (wsum ys), by simp [results, Tryz.results8, go_sem], by rw [e], (hi.grown hbl (grownBy_putObj' _ D1 _) (fun r e => by cases e; exact hD1)).old⟩
end Go.Proofs.YtagamkahfiackaaGreatDoor

namespace Go.Proofs.YtagamkahfiackaaGreatDoor
open Go.RowKit Go.Sort Go.Shelf

attribute [local go_sem] Oper.semAt_some
abbrev Inl (l : List It) := { x : It // x ∈ l }
/-- Between two rounds: the answer's box, the commit's box; what is old. -/
structure ChI (w : World) (bs br : Nat) (t : Int) (b : Bool) (W : World) : Prop where
  bx : Boxed W bs 3 (.int .i64 t)
  rx : Boxed W br 4 (.bool b)
  old : Below w.heap.size w W
  lo : w.heap.size ≤ bs ∧ w.heap.size ≤ br
theorem ChI.grown {w W W' : World} {bs br B : Nat} {t : Int} {b : Bool} {row : Option Nat} (h : ChI w bs br t b W) (hB : bs < B ∧ br < B) (hg : W.grownBy W' row) (hr : ∀ r, row = some r → B ≤ r) : ChI w bs br t b W' := by
  have key : ∀ k, k < B → k < W.heap.size → W'.heap[k]? = W.heap[k]? := fun k hk hl => hg.block k hl (fun e => by have := hr k e.symm; omega)
  exact ⟨(key _ hB.1 h.bx.lt).trans h.bx, (key _ hB.2 h.rx.lt).trans h.rx, ⟨hg.os.trans h.old.os, hg.tape.trans h.old.tape, hg.output.trans h.old.output, Nat.le_trans h.old.size hg.size, fun k hk => (key k (by have := h.lo; omega) (by have := h.old.size; omega)).trans (h.old.block k hk)⟩, h.lo⟩
theorem ChI.on {w W W' : World} {bs br : Nat} {t : Int} {b : Bool} (h : ChI w bs br t b W) (hb : Below W.heap.size W W') : ChI w bs br t b W' := ⟨blkKeep hb h.bx, blkKeep hb h.rx, below_step h.old hb, h.lo⟩
theorem ChI.set {w W : World} {bs br : Nat} {t : Int} {b : Bool} (h : ChI w bs br t b W) (hne : bs ≠ br) (c : Bool) : ChI w bs br t c (W.setCell ⟨br, 0, none⟩ (.bool c)) :=
  ⟨(heap_far _ hne).trans h.bx, h.rx.set _, ⟨h.old.os, h.old.tape, h.old.output, by rw [size_set]; exact h.old.size, fun k hk => (heap_far _ (by have := h.lo; omega)).trans (h.old.block k hk)⟩, h.lo⟩
def lateV (rd : Nat → List MV) (t : Int) (x : It) : Bool := decide (t < lastC (fV rd x.2))
theorem chg_eq (rd : Nat → List MV) (r : Rg) (t : Int) (l : List It) : chgM r t (mdl rd l) = (selR r l).any (lateV rd t) := by
  unfold chgM selM mdl mapV selR
  rw [List.filter_map, List.any_map]
  rfl
set_option maxRecDepth 100000 in
set_option maxHeartbeats 4000000 in
theorem changed_ {W w : World} {ps : Nat} {m : List Ct} (h : VnAt W w ps m) (hm : nVer m ≤ 1000000) (r : Rg) (t : Int) :
    Calls Tryz.prog 12 #[.pointer (some ⟨ps, 0, none⟩), rgV r, .int .i64 t] w fun e w' => e = .returned (.bool (chgM r t m)) ∧ Below w.heap.size w w' := by
  obtain ⟨p, M, F, l, rd, hd, rfl⟩ := h.ex
  have HK : Hid (∀ V, Below w.heap.size w V → Calls Tryz.prog 22 #[.pointer (some ⟨ps, 0, none⟩)] V fun e w' => e = .returned (.pointer (some ⟨p, 0, none⟩)) ∧ w' = V) := fun V hV => kept_ (hd.on hV).bs
  have HA : Hid (∀ V, Calls Tryz.prog 27 #[.pointer (some ⟨p, 0, none⟩), rgV r] V (AllTo p r V)) := fun V => allB_ p r V
  have HL : Hid (∀ x ∈ l, ∀ V, Below w.heap.size w V → Calls Tryz.prog 30 #[.slice x.2.a x.2.n x.2.c] V fun e w' => e = .returned (.int .i64 (lastC (fV rd x.2))) ∧ w' = V) := fun x hx V hV => by
    obtain ⟨g, e, hc⟩ := hd.ch.at' x hx
    obtain ⟨s1, s2, _⟩ := hc.row.shape
    have hx2 : (x.1, fV rd x.2) ∈ mdl rd l := List.mem_map_of_mem hx
    have hlen : (fV rd x.2).length ≤ nVer (mdl rd l) := by
      have h1 := ch_le h.ok.srt x.1
      unfold chM at h1
      rw [mem_get h.ok.srt hx2] at h1
      exact h1
    have ef : fV rd x.2 = pvs (rd g) := by unfold fV ctV; rw [e]
    rw [ef, pvs_len] at hlen
    rw [ef]
    exact last_ s1 (s2.on hV) (by omega)
  have HD := Lib.hid hd
  rw [chg_eq]
  obtain ⟨W1, hW1⟩ : ∃ W1, W1 = ((w.alloc (.cells #[.string r.f, .string r.t, .bool r.hf, .bool r.ht, .bool r.pf, .bool r.pt] 28)).alloc (.cells #[.int .i64 t] 3)).alloc (.cells #[.bool false] 4) := ⟨_, rfl⟩
  have HB1 : Hid (Below w.heap.size w W1 ∧ RgAt W1 w.heap.size r ∧ Boxed W1 (w.heap.size + 1) 3 (.int .i64 t) ∧ Boxed W1 (w.heap.size + 1 + 1) 4 (.bool false) ∧ W1.heap.size = w.heap.size + 1 + 1 + 1) := by
    obtain ⟨b0, b1, b2⟩ := two_box w (.cells #[.string r.f, .string r.t, .bool r.hf, .bool r.ht, .bool r.pf, .bool r.pt] 28) (.cells #[.int .i64 t] 3)
    have b3 := below_alloc ((w.alloc (.cells #[.string r.f, .string r.t, .bool r.hf, .bool r.ht, .bool r.pf, .bool r.pt] 28)).alloc (.cells #[.int .i64 t] 3)) (.cells #[.bool false] 4)
    have b4 := new_blk ((w.alloc (.cells #[.string r.f, .string r.t, .bool r.hf, .bool r.ht, .bool r.pf, .bool r.pt] 28)).alloc (.cells #[.int .i64 t] 3)) (.cells #[.bool false] 4)
    rw [hW1]
    refine ⟨below_step b0 b3, ?_, blkKeep b3 b2, by simp only [World.size_alloc] at b4; exact b4, by simp [go_sem]⟩
    have := blkKeep b3 b1
    exact ⟨cell_of this rfl, cell_of this rfl, cell_of this rfl, cell_of this rfl, cell_of this rfl, cell_of this rfl⟩
  clear h hd hm
  unfold rgV at *
  refine callsIn_wide.1 (callsIn_of_wp_marks (n := 9) Tryz.func12 rfl (wide_fn _) (wpIn_wide.2 ?_) wide_round)
  simp only [Tryz.ntmps12, List.size_toArray, List.length_cons, List.length_nil, Nat.reduceAdd, Nat.reduceSub, Array.replicate_succ, Array.replicate_zero, List.push_toArray, List.append_toArray, List.nil_append, List.cons_append]
  go_upto_region 1 with fail
  rw [← hW1]
  clear hW1
  have HKp : Hid (∀ V, Below W1.heap.size W1 V → (RgAt V w.heap.size r ∧ Below W1.heap.size W1 V)) := fun V hV => ⟨HB1.out.2.1.on hV (by have := HB1.out.2.2.2.2; omega), hV⟩
  unfold RgAt at HKp
  refine wp_region_noPanic ?_
  go_region_held (fun V => (V.cell? ⟨w.heap.size, 0, none⟩ = some (.string r.f) ∧ V.cell? ⟨w.heap.size, 1, none⟩ = some (.string r.t) ∧ V.cell? ⟨w.heap.size, 2, none⟩ = some (.bool r.hf) ∧ V.cell? ⟨w.heap.size, 3, none⟩ = some (.bool r.ht) ∧ V.cell? ⟨w.heap.size, 4, none⟩ = some (.bool r.pf) ∧ V.cell? ⟨w.heap.size, 5, none⟩ = some (.bool r.pt)) ∧ Below W1.heap.size W1 V)
    (first | (exact HKp.out _ (below_drew _)) | (exact HKp.out _ (below_step (by assumption : RgAt _ w.heap.size r ∧ Below W1.heap.size W1 _).2 (by assumption))) | assumption)
    (first
      | (go_at_call 22; refine (HK.out _ (below_step HB1.out.1 (by assumption : RgAt _ w.heap.size r ∧ Below W1.heap.size W1 _).2)).mono ?_; rintro e w1 ⟨rfl, rfl⟩; clear HK)
      | (go_at_call 27; refine (HA.out _).mono ?_; rintro e W2 ⟨bt, br, rfl, HX⟩; have hb := HX.out.1; clear HA)
      | fail)
  refine NoPanic.normal ?_
  go_wp2_with fail
  have hW12 := (by assumption : RgAt W2 w.heap.size r ∧ Below W1.heap.size W1 W2).2
  obtain ⟨x1, x2, x3, x4, x5⟩ := HX.out
  obtain ⟨y1, y2, y3, y4, y5⟩ := HB1.out
  have hbt : W1.heap.size ≤ bt := x4
  have hbr : W1.heap.size ≤ br := x5
  have hW2 : Below w.heap.size w W2 := below_step y1 hW12
  have hpl : p < w.heap.size := HD.out.tr.lt
  have hT := (HD.out.on hW2).seq x2 x3
  have hlt : ∀ k, (Own M k ∨ k = p ∨ k = bt ∨ k = br) → k < W2.heap.size ∧ k ≠ w.heap.size + 1 + 1 := fun k hk => ⟨hT.lts k hk, by
    rcases hk with h | rfl | rfl | rfl
    · have := HD.out.wk.st.lt h; omega
    · omega
    · omega
    · omega⟩
  have hbl : w.heap.size + 1 < W2.heap.size ∧ w.heap.size + 1 + 1 < W2.heap.size := by have := hW12.size; omega
  have hI0 : ChI w (w.heap.size + 1) (w.heap.size + 1 + 1) t false W2 ∧ ∀ x ∈ ([] : List (Inl l)), lateV rd t x.1 = false := ⟨⟨blkKeep hW12 y3, blkKeep hW12 y4, hW2, by omega⟩, fun x hx => by cases hx⟩
  have hseq := all_stopsS 8 (by omega) hT
  have hkb : ∀ (W : World) (ll : Nat) (o o' : Obj), W2.heap.size ≤ ll → W.heap[ll]? = some o → o.isCells = false → o.isWalk = false → KpT M p bt br W (W.putObj ll o') := fun W ll o o' h1 _ _ _ k hk => World.putObj_heap_other (by have := (hlt k hk).1; omega)
  clear x1 x2 x3 x4 x5 y1 y2 y3 y4 y5 hT HX HB1 hW2 hpl HD HKp hbt hbr hW12
  rw [← wpIn_wide (n := 9)]
  apply wpIn_rangeFunc_ownG (encs := encS (l := l)) (Kp := KpT M p bt br) (S := fun ys => ys.map (·.1) = selR r l) (Sp := fun pre => pre.map (·.1) <+: selR r l) (N := l.length) (w0 := W2) wide_round (by omega) (gf := 43) (lb := #[.pointer (some ⟨bt, 0, none⟩), .pointer (some ⟨br, 0, none⟩)]) rfl (wide_fn _) (enters_of Tryz.func43 (by kernel_rfl) rfl) hseq kpT_t hkb (Below.refl _ _) (fun _ => rfl)
    (fun pre W => ChI w (w.heap.size + 1) (w.heap.size + 1 + 1) t false W ∧ ∀ x ∈ pre, lateV rd t x.1 = false) (fun cc pre W => cc = .ret ∧ ChI w (w.heap.size + 1) (w.heap.size + 1 + 1) t true W ∧ ∃ x ∈ pre, lateV rd t x.1 = true)
    (fun pre W W' row hi hg hr => ⟨hi.1.grown hbl hg (fun r e => (hr r e).1), hi.2⟩) (fun cc pre W W' row hi hg hr => ⟨hi.1, hi.2.1.grown hbl hg (fun r e => (hr r e).1), hi.2.2⟩) hI0
  case hassign =>
    intro ll x W KK hK
    unfold encS encI
    rw [fold2]
    simp only [List.setIfInBounds_toArray, List.set_cons_zero, List.set_cons_succ]
    gi_wp2
    exact hK
  case hbody =>
    rintro ll pre ⟨x, hx⟩ W ⟨hi, hno⟩ hlen
    have c0 := hi.bx.cell
    have c1 := hi.rx.cell
    have f1 := hi.rx.frozen
    have HI := Lib.hid hi
    have HNo := Lib.hid hno
    have HC := Lib.hid (HL.out x hx W.drew (below_step hi.old (below_drew W)))
    have hlate : lateV rd t x = decide (t < lastC (fV rd x.2)) := rfl
    have HLt := Lib.hid hlate
    clear hi hno hlen hlate
    generalize lastC (fV rd x.2) = lc at *
    dsimp only
    have hmx : Tryz.prog.follows .mixedOrders = true := by kernel_rfl
    have HKF : Hid (KeepsFrom W2.heap.size W (W.setCell ⟨w.heap.size + 1 + 1, 0, none⟩ (.bool true)).drew) := ⟨by show _ ≤ (W.setCell _ _).heap.size; rw [size_set]; exact Nat.le_refl _, fun k o hk hko _ => (heap_far _ (by omega)).trans hko⟩
    by_cases hc : t < lc
    · have HLx : Hid (lateV rd t x = true) := by show _ = _; rw [HLt.out]; exact decide_eq_true hc
      gi_wp2
      gi_region_with_o (refine ⟨wide_fn _, ?_⟩; gi_at_call 30; refine (CallsIn.inRound ll (callsIn_wide.2 HC.out)).mono ?_; rintro e w' ⟨rfl, rfl⟩)
      all_goals gi_wp2
      all_goals exact ⟨HKF.out, rfl, (HI.out.set (by omega) true).on (below_drew _), ⟨x, hx⟩, by simp, HLx.out⟩
    · have HLx : Hid (lateV rd t x = false) := by show _ = _; rw [HLt.out]; exact decide_eq_false hc
      gi_wp2
      gi_region_with_o (refine ⟨wide_fn _, ?_⟩; gi_at_call 30; refine (CallsIn.inRound ll (callsIn_wide.2 HC.out)).mono ?_; rintro e w' ⟨rfl, rfl⟩)
      all_goals gi_wp2
      all_goals exact ⟨⟨Nat.le_refl _, fun k o hk hko _ => hko⟩, fun k hk => rfl, HI.out.on (below_drew _), fun y hy => (List.mem_append.1 hy).elim (HNo.out y) fun q => by rw [List.mem_singleton.1 q]; exact HLx.out⟩
  case hstop =>
    rintro D cc pre W hD hsp ⟨rfl, hi, ⟨x, hx, hlx⟩⟩ hK
    have HAny : Hid ((selR r l).any (lateV rd t) = true) := List.any_eq_true.2 ⟨x.1, hsp.subset (List.mem_map_of_mem hx), hlx⟩
    have HI := Lib.hid (And.intro hi hK)
    have c0 := hi.rx.cell
    clear hi hK hseq hkb hx hlx hsp
    gi_wp2
    obtain ⟨hi, hK⟩ := HI.out
    have hp := hi.grown hbl (grownBy_putObj' W D (.deferred none)) (fun r e => by cases e; exact hD)
    have c9 := hp.rx.cell
    refine ⟨by simp, .inl ⟨_, _, rfl, run_takeDeferred hK, ?_⟩⟩
    exact ⟨.bool true, by simp [results, Tryz.results12, go_sem, c9], by rw [HAny.out], hp.old⟩
  case hdone =>
    rintro D1 ys W hD1 hys ⟨hi, hno⟩ hK1
    have HAny : Hid ((selR r l).any (lateV rd t) = false) := by
      show _ = _
      rw [← hys]
      simp only [List.any_eq_false, List.mem_map]
      rintro x ⟨y, hy, rfl⟩
      rw [hno y hy]; simp
    have HI := Lib.hid (And.intro hi hK1)
    have c0 := hi.rx.cell
    have f0 := hi.rx.frozen
    clear hi hno hK1 hseq hkb hys
    go_wp2_with fail
    obtain ⟨hi, hK⟩ := HI.out
    have hs := hi.set (by omega) false
    have hK2 : (W.setCell ⟨w.heap.size + 1 + 1, 0, none⟩ (.bool false)).heap[D1]? = some (.deferred (some [])) := (heap_far _ (by omega)).trans hK
    have hp := hs.grown hbl (grownBy_putObj' _ D1 (.deferred none)) (fun r e => by cases e; exact hD1)
    have c9 := hp.rx.cell
    refine ⟨by simp, .inl ⟨_, _, rfl, run_takeDeferred hK2, ?_⟩⟩
    exact ⟨.bool false, by simp [results, Tryz.results12, go_sem, c9], by rw [HAny.out], hp.old⟩
end Go.Proofs.YtagamkahfiackaaGreatDoor

namespace Go.Proofs.YtagamkahfiackaaGreatDoor

theorem get_ins {α : Type} (l : List (PIt α)) (k : ByteArray) (v : α) : get k (ins k v l) = some v := by
  unfold ins
  exact get_at fun x hx => (mem_lo.1 hx).2
theorem get_lo {α : Type} {l : List (PIt α)} {k q : ByteArray} (h : ltb q k = true) : get q (lo k l) = get q l := by
  unfold get lo
  rw [List.find?_filter]
  congr 2
  funext x
  by_cases e : (!(ltb x.1 q) && !(ltb q x.1)) = true
  · simp only [Bool.and_eq_true, Bool.not_eq_true'] at e
    rw [ltb_total e.1 e.2, h]; simp
  · rw [Bool.eq_false_iff.2 e]; simp
theorem get_hi {α : Type} {l : List (PIt α)} {k q : ByteArray} (h : ltb k q = true) : get q (hi k l) = get q l := by
  unfold get hi
  rw [List.find?_filter]
  congr 2
  funext x
  by_cases e : (!(ltb x.1 q) && !(ltb q x.1)) = true
  · simp only [Bool.and_eq_true, Bool.not_eq_true'] at e
    rw [ltb_total e.1 e.2, h]; simp
  · rw [Bool.eq_false_iff.2 e]; simp
/-- Another key's value. -/
theorem get_del_other {α : Type} {l : List (PIt α)} {k q : ByteArray} (hne : q ≠ k) : get q (del k l) = get q l := by
  rcases ltb_cases q k with h | h | h
  · unfold del
    rw [get_cut (fun x hx => ltb_trans h (mem_hi.1 hx).2), get_lo h]
  · exact absurd h hne
  · unfold del
    rw [get_skip (fun x hx => ltb_trans (mem_lo.1 hx).2 h), get_hi h]
theorem get_ins_other {α : Type} {l : List (PIt α)} {k q : ByteArray} (v : α) (hne : q ≠ k) : get q (ins k v l) = get q l := by
  rcases ltb_cases q k with h | h | h
  · unfold ins
    rw [get_cut (fun x hx => by
      rcases List.mem_cons.1 hx with rfl | hx
      · exact h
      · exact ltb_trans h (mem_hi.1 hx).2), get_lo h]
  · exact absurd h hne
  · unfold ins
    have e : lo k l ++ (k, v) :: hi k l = (lo k l ++ [(k, v)]) ++ hi k l := by simp
    rw [e, get_skip (fun x hx => by
      rcases List.mem_append.1 hx with hx | hx
      · exact ltb_trans (mem_lo.1 hx).2 h
      · rw [List.mem_singleton.1 hx]; exact h), get_hi h]
theorem get_del_self {α : Type} (l : List (PIt α)) (k : ByteArray) : get k (del k l) = none := by
  unfold del
  exact get_new (fun x hx => (mem_lo.1 hx).2) (fun x hx => (mem_hi.1 hx).2)
theorem un_le (c : List PV) (t : Int) : unC c t ≤ c.length := by
  have := up_le c t
  unfold unC
  split
  · exact Nat.zero_le _
  · split <;> omega
theorem un_nil (t : Int) : unC [] t = 0 := rfl
theorem ch_pr1_self (t : Int) (k : ByteArray) (m : List Ct) : chM k (pr1 t k m) = (chM k m).drop (unC (chM k m) t) := by
  unfold pr1
  have hu := un_le (chM k m) t
  split
  · rename_i e
    rw [e, List.drop_length]
    show (get k (del k m)).getD [] = []
    rw [get_del_self]; rfl
  · split
    · show (get k (ins k _ m)).getD [] = _
      rw [get_ins]; rfl
    · rename_i h
      rw [show unC (chM k m) t = 0 by omega, List.drop_zero]
theorem ch_pr1_other (t : Int) {k q : ByteArray} (m : List Ct) (h : q ≠ k) : chM q (pr1 t k m) = chM q m := by
  unfold pr1
  split
  · show (get q (del k m)).getD [] = _
    rw [get_del_other h]; rfl
  · split
    · show (get q (ins k _ m)).getD [] = _
      rw [get_ins_other _ h]; rfl
    · rfl
theorem OkM.pr1 {m : List Ct} (h : OkM m) (t : Int) (k : ByteArray) : OkM (pr1 t k m) := by
  have hu := un_le (chM k m) t
  unfold YtagamkahfiackaaGreatDoor.pr1
  split
  · exact ⟨h.srt.del k, fun x hx => h.asc x (mem_del.1 hx).1, fun x hx => h.ne x (mem_del.1 hx).1⟩
  · split
    · rename_i h1 h2
      refine ⟨h.srt.ins k _, fun x hx => ?_, fun x hx => ?_⟩
      · rcases mem_ins.1 hx with rfl | ⟨hx, _⟩
        · exact (h.ch k).sub (List.drop_sublist _ _)
        · exact h.asc x hx
      · rcases mem_ins.1 hx with rfl | ⟨hx, _⟩
        · intro e
          have := congrArg List.length e
          simp at this
          omega
        · exact h.ne x hx
    · exact h
theorem nVer_pr1 {m : List Ct} (h : Srt m) (t : Int) (k : ByteArray) : nVer (pr1 t k m) + unC (chM k m) t = nVer m := by
  have hu := un_le (chM k m) t
  unfold pr1
  split
  · rename_i e
    rw [e]; exact nVer_del h k
  · split
    · have := nVer_ins h k ((chM k m).drop (unC (chM k m) t))
      rw [List.length_drop] at this
      omega
    · omega
/-- All keys, one behind the other. -/
def prS (t : Int) (ks : List ByteArray) (m : List Ct) : List Ct × Nat := ks.foldl (fun s k => (pr1 t k s.1, s.2 + unC (chM k s.1) t)) (m, 0)
theorem prS_snoc (t : Int) (ks : List ByteArray) (k : ByteArray) (m : List Ct) : prS t (ks ++ [k]) m = (pr1 t k (prS t ks m).1, (prS t ks m).2 + unC (chM k (prS t ks m).1) t) := by simp [prS]
theorem snoc_ind {α : Type} {P : List α → Prop} (h0 : P []) (h1 : ∀ l x, P l → P (l ++ [x])) : ∀ l, P l := by
  intro l
  have : ∀ n (l : List α), l.length = n → P l := by
    intro n
    induction n with
    | zero => intro l hl; rw [List.eq_nil_of_length_eq_zero hl]; exact h0
    | succ n ih =>
      intro l hl
      rcases List.eq_nil_or_concat l with rfl | ⟨d, x, rfl⟩
      · exact h0
      · rw [List.concat_eq_append] at hl ⊢
        exact h1 d x (ih d (by simpa using hl))
  exact this _ l rfl
theorem prS_ok {m : List Ct} (h : OkM m) (t : Int) : ∀ ks, OkM (prS t ks m).1 ∧ nVer (prS t ks m).1 + (prS t ks m).2 = nVer m := by
  refine snoc_ind ⟨h, rfl⟩ fun ks k ⟨h1, h2⟩ => ?_
  rw [prS_snoc]
  refine ⟨h1.pr1 t k, ?_⟩
  have := nVer_pr1 h1.srt t k
  simp only
  omega
theorem prS_ch (m : List Ct) (t : Int) (q : ByteArray) : ∀ ks : List ByteArray, ks.Nodup → (q ∈ ks → chM q (prS t ks m).1 = (chM q m).drop (unC (chM q m) t)) ∧ (q ∉ ks → chM q (prS t ks m).1 = chM q m) := by
  refine snoc_ind (fun _ => ⟨fun h => (by cases h), fun _ => rfl⟩) fun ks k ih hn => ?_
  rw [prS_snoc]
  have hn2 := List.nodup_append.1 hn
  have ih := ih hn2.1
  simp only
  refine ⟨fun hq => ?_, fun hq => ?_⟩
  · rcases List.mem_append.1 hq with hq | hq
    · rw [ch_pr1_other t _ (fun e => hn2.2.2 q hq k (by simp) e)]
      exact ih.1 hq
    · obtain rfl := List.mem_singleton.1 hq
      rw [ch_pr1_self, ih.2 fun hk => hn2.2.2 q hk q (by simp) rfl]
  · rw [ch_pr1_other t _ (fun e => hq (by simp [e]))]
    exact ih.2 fun hk => hq (by simp [hk])
theorem keys_nodup {m : List Ct} (h : Srt m) : (m.map (·.1)).Nodup := by
  rw [List.Nodup, List.pairwise_map]
  exact h.imp fun q => ltb_ne q
theorem ch_of_not {m : List Ct} {q : ByteArray} (h : q ∉ m.map (·.1)) : chM q m = [] := by
  unfold chM
  cases e : get q m with
  | none => rfl
  | some c => exact absurd (List.mem_map.2 ⟨_, get_mem e, rfl⟩) h
/-- What Prune leaves. -/
def prM (t : Int) (m : List Ct) : List Ct := (prS t (m.map (·.1)) m).1
theorem prM_ch {m : List Ct} (h : OkM m) (t : Int) (q : ByteArray) : chM q (prM t m) = (chM q m).drop (unC (chM q m) t) := by
  have := prS_ch m t q _ (keys_nodup h.srt)
  by_cases hq : q ∈ m.map (·.1)
  · exact this.1 hq
  · refine (this.2 hq).trans ?_
    rw [ch_of_not hq]; simp
end Go.Proofs.YtagamkahfiackaaGreatDoor

namespace Go.Proofs.YtagamkahfiackaaGreatDoor
open Go.RowKit Go.Sort

/-- A struct stored into a block of one's own. -/
theorem store_row {N : Nat} {w W : World} {g : Nat} {ty : TypeId} {old : Array Value} (cs : Array Value) (h : W.heap[g]? = some (.cells old ty (0, 0))) (hi : (Tryz.prog.info? ty).map (·.size) = some cs.size) (ho : old.size = cs.size) (h1 : cs.all (·.oneCell') = true) (hg : N ≤ g) (hb : Below N w W) :
    ∃ V, (Instr.storeAt ty (.pointer (some ⟨g, 0, none⟩)) (.agg cs)).run Tryz.prog W = .ok () V ∧ V.heap[g]? = some (.cells cs ty (0, 0)) ∧ Below N w V ∧ (∀ k, k ≠ g → V.heap[k]? = W.heap[k]?) ∧ V.heap.size = W.heap.size := by
  refine ⟨W.setRow g cs, ?_, setRow_heap W g old cs ty (0, 0) h, ⟨hb.os, hb.tape, hb.output, by rw [setRow_size]; exact hb.size, fun k hk => (setRow_other W g k cs (by omega)).trans (hb.block k hk)⟩, fun k hk => setRow_other W g k cs hk, setRow_size W g cs⟩
  simp only [Instr.storeAt, Instr.sureAddr, Sem.run_bind, Sem.run_pure, Result.andThen]
  exact run_storeVar_row W g ty ty old cs h hi ho h1
theorem store_rg {N : Nat} {w W : World} {g : Nat} {old : Array Value} (r : Rg) (h : W.heap[g]? = some (.cells old 28 (0, 0))) (ho : old.size = 6) (hg : N ≤ g) (hb : Below N w W) :
    ∃ V, (Instr.storeAt 28 (.pointer (some ⟨g, 0, none⟩)) (.agg #[.string r.f, .string r.t, .bool r.hf, .bool r.ht, .bool r.pf, .bool r.pt])).run Tryz.prog W = .ok () V ∧ RgAt V g r ∧ Below N w V ∧ (∀ k, k ≠ g → V.heap[k]? = W.heap[k]?) ∧ V.heap.size = W.heap.size := by
  obtain ⟨V, h1, h2, h3⟩ := store_row #[.string r.f, .string r.t, .bool r.hf, .bool r.ht, .bool r.pf, .bool r.pt] h (by kernel_rfl) ho (by simp [Value.oneCell']) hg hb
  exact ⟨V, h1, ⟨cell_of h2 rfl, cell_of h2 rfl, cell_of h2 rfl, cell_of h2 rfl, cell_of h2 rfl, cell_of h2 rfl⟩, h3⟩
theorem conv_new (w : World) (T : ByteArray) : ∃ (W : World) (G : Nat), (convert 9 33 (.string T)).run Tryz.prog w = .ok (.slice (some ⟨w.heap.size, 0, none⟩) T.size G) W ∧ BytesIn W (some ⟨w.heap.size, 0, none⟩) (ns T.data.toList) ∧ (∀ j, j < T.size → W.frozen? ⟨w.heap.size, j, none⟩ = false) ∧ Below w.heap.size w W := by
  refine ⟨_, _, Lib.run_convert_string_bytes (P := Tryz.prog) w 9 33 5 T Tryz.underlying9 Tryz.underlying33 Tryz.underlying5, ?_, ?_, ?_⟩
  · intro j hj
    simp only [ns, List.length_map] at hj
    have hj2 : j < T.size := by rw [size_list]; exact hj
    refine ⟨_, 0, rfl, ?_⟩
    rw [Nat.zero_add, Lib.bytesWorld_cell w _ T j hj2]
    simp only [ns, List.getD_eq_getElem?_getD, List.getElem?_map, List.getElem?_eq_getElem hj]
    rfl
  · intro j hj
    have hs : T.size ≤ (Lib.bytesCells w 5 T).size := by
      unfold Lib.bytesCells
      rw [Array.size_append, Array.size_map]
      exact Nat.le_add_right _ _
    simp only [World.frozen?, Lib.bytesWorld_at_new]
    simp
    omega
  · refine ⟨rfl, rfl, rfl, by rw [Lib.bytesWorld_size]; omega, fun j hj => Lib.bytesWorld_at_old w _ T j hj⟩
theorem ch_put (m : List Ct) (k : ByteArray) (v : PV) : chM k (putM k v m) = withC (chM k m) v := by
  show (get k (putM k v m)).getD [] = _
  unfold putM
  rw [get_ins]; rfl
def tA : ByteArray := ⟨#[97]⟩
def tX : ByteArray := ⟨#[120]⟩
def mS1 : List Ct := putM tA ⟨1, tX, false⟩ []
def mS2 : List Ct := putM tA ⟨3, ⟨#[]⟩, true⟩ mS1
theorem mS1_ok : OkM mS1 := ok_nil.put (by decide) (by decide)
theorem chS1 : chM tA mS1 = [⟨1, tX, false⟩] := by
  unfold mS1
  rw [ch_put]
  rfl
theorem mS2_ok : OkM mS2 := mS1_ok.put (by decide) (by rw [chS1]; decide)
theorem chS2 : chM tA mS2 = [⟨1, tX, false⟩, ⟨3, ⟨#[]⟩, true⟩] := by
  unfold mS2
  rw [ch_put, chS1]
  rfl
theorem rowS2 : rowC (chM tA mS2) 2 = some tX := by
  rw [chS2]
  simp [rowC, asC, loC, rowO]
theorem nS1 : nVer mS1 = 1 := by
  have := nVer_ins (m := []) List.Pairwise.nil tA (withC (chM tA []) ⟨1, tX, false⟩)
  unfold mS1 putM
  simp only [nVer_nil] at this
  have e : (withC (chM tA []) ⟨1, tX, false⟩).length = 1 := rfl
  have e2 : (chM tA ([] : List Ct)).length = 0 := rfl
  omega
theorem nS2 : nVer mS2 = 2 := by
  have := nVer_ins mS1_ok.srt tA (withC (chM tA mS1) ⟨3, ⟨#[]⟩, true⟩)
  unfold mS2 putM
  rw [nS1] at this
  have e : (withC (chM tA mS1) ⟨3, ⟨#[]⟩, true⟩).length = 2 := by rw [chS1]; rfl
  have e2 : (chM tA mS1).length = 1 := by rw [chS1]; rfl
  omega
set_option maxRecDepth 100000 in
set_option maxHeartbeats 1000000 in
theorem sure_ (w : World) : Calls Tryz.prog 15 #[] w fun e w' => e = .returned (.bool true) ∧ Below w.heap.size w w' := by
  have HN := Lib.hid (vnew_ w)
  have HP1 : Hid (∀ ps w1, VnAt w w1 ps [] ∧ w.heap.size ≤ ps → Calls Tryz.prog 19 #[.pointer (some ⟨ps, 0, none⟩), .string ⟨#[97]⟩, .int .i64 1, .slice (some ⟨w1.heap.size, 0, none⟩) 1 1, .bool false] (w1.alloc (.cells #[.int .u8 120] 5 (1, 2))) fun e w' => e = .returned .nilIface ∧ Hid (VnAt w w' ps mS1)) := fun ps w1 h => by
    have hb := below_alloc w1 (.cells #[.int .u8 120] 5 (1, 2))
    have hn := new_blk w1 (.cells #[.int .u8 120] 5 (1, 2))
    refine (vput_row (h.1.on hb) (by rw [nVer_nil]; omega) tA 1 (by omega) (by show (0 : Int) ≤ 1; omega) (s := tX) rfl (fun i hi => ?_) (fun e => by cases e) (by show (1 : Nat) ≤ _; omega)).mono fun e w' ⟨e1, e2⟩ => ⟨e1, e2.out.1⟩
    have hi0 : i = 0 := by have : i < 1 := hi; omega
    subst hi0
    exact ⟨_, 0, rfl, cell_of hn rfl⟩
  have HP2 : Hid (∀ ps w1, VnAt w w1 ps mS1 → Calls Tryz.prog 19 #[.pointer (some ⟨ps, 0, none⟩), .string ⟨#[97]⟩, .int .i64 3, .slice none 0 0, .bool true] w1 fun e w' => e = .returned .nilIface ∧ Hid (VnAt w w' ps mS2)) := fun ps w1 h =>
    (vput_gone h (by rw [nS1]; omega) tA 3 (by omega) (by rw [chS1]; decide) none 0 0).mono fun e w' ⟨e1, e2⟩ => ⟨e1, e2.out.1⟩
  have HG : Hid (∀ ps w1, VnAt w w1 ps mS2 → Calls Tryz.prog 6 #[.pointer (some ⟨ps, 0, none⟩), .string ⟨#[97]⟩, .int .i64 2] w1 fun e w' => ∃ r : Vl, e = .returned (.tuple #[.slice r.a r.n r.c, .bool true]) ∧ (∀ V, Below w'.heap.size w' V → (convert 33 9 (.slice r.a r.n r.c)).run Tryz.prog V = .ok (.string ⟨#[120]⟩) V) ∧ Hid (VnAt w w' ps mS2)) := fun ps w1 h => by
    have := vget_ h (by rw [nS2]; omega) tA 2
    rw [rowS2] at this
    refine this.mono fun e w' ⟨r, e1, h1, _, h3⟩ => ⟨r, e1, fun V hV => ?_, h.on h3⟩
    obtain ⟨b1, b2, _⟩ := (h1.on hV).bytes
    have := conv_ V r.a r.n r.c _ b1 b2
    rw [bs_bsN] at this
    exact this
  have HV : Hid (∀ ps w1, VnAt w w1 ps mS2 → Calls Tryz.prog 8 #[.pointer (some ⟨ps, 0, none⟩)] w1 fun e w' => e = .returned (.int .i64 2) ∧ Hid (VnAt w w' ps mS2)) := fun ps w1 h => by
    have := versions_ h (by rw [nS2]; omega)
    rw [nS2] at this
    exact this.mono fun e w' ⟨e1, e2⟩ => ⟨e1, h.on e2⟩
  have kc := fun (w : World) (C : Array Value) (n c : Nat) => Lib.run_convert_bytes_const (P := Tryz.prog) w 33 5 C n c Tryz.underlying33 Tryz.underlying5
  go_enter Tryz.func15, Tryz.ntmps15
  go_wp2_with (first
    | (go_at_call 4; refine HN.out.mono ?_; rintro e w1 ⟨ps, rfl, H1⟩; clear HN)
    | (go_at_call_of 19 (#[.pointer (some ⟨ps, 0, none⟩), .string ⟨#[97]⟩, .int .i64 1, .slice (some ⟨w1.heap.size, 0, none⟩) 1 1, .bool false] : Array Value); refine (HP1.out ps _ H1.out).mono ?_; rintro e w2 ⟨rfl, H2⟩; clear HP1)
    | (go_at_call_of 19 (#[.pointer (some ⟨ps, 0, none⟩), .string ⟨#[97]⟩, .int .i64 3, .slice none 0 0, .bool true] : Array Value); refine (HP2.out ps _ H2.out).mono ?_; rintro e w3 ⟨rfl, H3⟩; clear HP2)
    | (go_at_call 6; refine (HG.out ps _ H3.out).mono ?_; rintro e w4 ⟨r, rfl, hcv, H4⟩; have hcw := hcv w4 (Below.refl _ _); clear HG hcv)
    | (go_at_call 8; refine (HV.out ps _ H4.out).mono ?_; rintro e w5 ⟨rfl, H5⟩; clear HV)
    | fail)
  go_ret
  exact ⟨rfl, H5.out.below⟩
end Go.Proofs.YtagamkahfiackaaGreatDoor

namespace Go.Proofs.YtagamkahfiackaaGreatDoor
open Go.RowKit Go.Sort

/-- Something that is done. -/
structure ActV where
  kd : Int
  tm : Int
  key : ByteArray
  row : ByteArray
  gn : Bool
/-- What is done, behind a slice. -/
def ActsIn (w : World) (a : Option Addr) (L : List ActV) : Prop := ∀ i x, L[i]? = some x → ∃ b o, a = some ⟨b, o, none⟩ ∧ b < w.heap.size ∧ w.cell? ⟨b, o + i * 5, none⟩ = some (.int .i64 x.kd) ∧ w.cell? ⟨b, o + i * 5 + 1, none⟩ = some (.int .i64 x.tm) ∧ w.cell? ⟨b, o + i * 5 + 2, none⟩ = some (.string x.key) ∧ w.cell? ⟨b, o + i * 5 + 3, none⟩ = some (.string x.row) ∧ w.cell? ⟨b, o + i * 5 + 4, none⟩ = some (.bool x.gn)
theorem ActsIn.on {w w' : World} {a : Option Addr} {L : List ActV} (h : ActsIn w a L) (hb : Below w.heap.size w w') : ActsIn w' a L := fun i x hi => by
  obtain ⟨b, o, e, h0, h1, h2, h3, h4, h5⟩ := h i x hi
  exact ⟨b, o, e, Nat.lt_of_lt_of_le h0 hb.size, (hb.cell (p := ⟨b, o + i * 5, none⟩) h0).trans h1, (hb.cell (p := ⟨b, o + i * 5 + 1, none⟩) h0).trans h2, (hb.cell (p := ⟨b, o + i * 5 + 2, none⟩) h0).trans h3, (hb.cell (p := ⟨b, o + i * 5 + 3, none⟩) h0).trans h4, (hb.cell (p := ⟨b, o + i * 5 + 4, none⟩) h0).trans h5⟩
def kK : ByteArray := ⟨#[107]⟩
def kJ : ByteArray := ⟨#[106]⟩
def txA (x : ActV) : ByteArray := if x.gn then ⟨#[]⟩ else x.row
def pvT (L : List ActV) (i : Nat) : PV := match L[i]? with
  | some x => ⟨2 * ((i : Int) + 1), txA x, x.gn⟩
  | none => ⟨2 * ((i : Int) + 1), ⟨#[]⟩, true⟩
def tK (L : List ActV) (i : Nat) : List PV := (List.range i).map (pvT L)
def mK (L : List ActV) : Nat → List Ct
  | 0 => []
  | i + 1 => putM kK (pvT L i) (mK L i)
theorem pvT_cm (L : List ActV) (i : Nat) : (pvT L i).cm = 2 * ((i : Int) + 1) := by unfold pvT; split <;> rfl
theorem tK_succ (L : List ActV) (i : Nat) : tK L (i + 1) = tK L i ++ [pvT L i] := by simp [tK, List.range_succ]
theorem tK_len (L : List ActV) (i : Nat) : (tK L i).length = i := by simp [tK]
theorem last_tK (L : List ActV) (i : Nat) : lastC (tK L i) = 2 * (i : Int) := by
  cases i with
  | zero => rfl
  | succ i => rw [tK_succ, last_snoc, pvT_cm]; omega
theorem mem_tK {L : List ActV} {n : Nat} {v : PV} (h : v ∈ tK L n) : ∃ i, i < n ∧ v = pvT L i := by
  obtain ⟨i, hi, rfl⟩ := List.mem_map.1 h
  exact ⟨i, List.mem_range.1 hi, rfl⟩
theorem ch_mK (L : List ActV) : ∀ i, chM kK (mK L i) = tK L i
  | 0 => rfl
  | i + 1 => by
    unfold mK
    rw [ch_put, ch_mK L i, tK_succ]
    unfold withC
    rw [if_neg (by rw [last_tK, pvT_cm]; omega)]
theorem mK_ok (L : List ActV) : ∀ i, OkM (mK L i)
  | 0 => ok_nil
  | i + 1 => (mK_ok L i).put (by rw [pvT_cm]; omega) (by rw [ch_mK, last_tK, pvT_cm]; omega)
theorem mK_eq (L : List ActV) : ∀ i, mK L (i + 1) = [(kK, tK L (i + 1))]
  | 0 => by
    have hc : chM kK (putM kK (pvT L 0) []) = tK L 1 := ch_mK L 1
    show putM kK (pvT L 0) [] = _
    unfold putM at hc ⊢
    have h2 : chM kK (ins kK (withC (chM kK []) (pvT L 0)) []) = withC (chM kK []) (pvT L 0) := by
      show (get kK (ins kK (withC (chM kK []) (pvT L 0)) [])).getD [] = _
      rw [get_ins]; rfl
    rw [← h2, hc]
    rfl
  | i + 1 => by
    have e : mK L (i + 1 + 1) = putM kK (pvT L (i + 1)) (mK L (i + 1)) := rfl
    have hc := ch_mK L (i + 1 + 1)
    rw [e] at hc ⊢
    unfold putM at hc ⊢
    rw [mK_eq L i] at hc ⊢
    unfold chM at hc
    rw [get_ins] at hc
    simp only [Option.getD_some] at hc
    rw [show withC (chM kK [(kK, tK L (i + 1))]) (pvT L (i + 1)) = tK L (i + 1 + 1) from hc]
    simp [ins, lo, hi, ltb_irrefl]
theorem nVer_mK (L : List ActV) (i : Nat) : nVer (mK L i) = i := by
  cases i with
  | zero => rfl
  | succ i => rw [mK_eq, nVer_cons, nVer_nil]; simp only [tK_len]
theorem asc_tK (L : List ActV) (i : Nat) : AscC (tK L i) := by rw [← ch_mK]; exact (mK_ok L i).ch kK
theorem chg_one (L : List ActV) (n : Nat) (t : Int) (ht : 0 ≤ t) : chgM (oneR kK) t (mK L n) = decide (t < 2 * (n : Int)) := by
  cases n with
  | zero =>
    have : chgM (oneR kK) t (mK L 0) = false := rfl
    rw [this]
    exact (decide_eq_false (by omega)).symm
  | succ n =>
    rw [mK_eq]
    unfold chgM selM
    have hk : hasR (oneR kK) kK = true := by simp [hasR, behR, ahdR, oneR, sameb_self]
    rw [List.filter_cons_of_pos (by simpa using hk)]
    simp only [List.filter_nil, List.any_cons, List.any_nil, Bool.or_false, last_tK]
theorem chg_other (L : List ActV) (n : Nat) (t : Int) : chgM (oneR kJ) t (mK L n) = false := by
  cases n with
  | zero => rfl
  | succ n =>
    rw [mK_eq]
    unfold chgM selM
    have hk : hasR (oneR kJ) kK = false := by decide +kernel
    rw [List.filter_cons_of_neg (by simp [hk])]
    rfl
theorem as_tK (L : List ActV) (n : Nat) (t : Nat) : asC (tK L n) (t : Int) = if min (t / 2) n = 0 then none else some (pvT L (min (t / 2) n - 1)) := by
  split
  · rename_i h0
    refine as_none fun u hu => ?_
    obtain ⟨i, hi, rfl⟩ := mem_tK hu
    rw [pvT_cm]
    omega
  · rename_i h0
    refine as_of_max (asc_tK L n) (List.mem_map.2 ⟨min (t / 2) n - 1, List.mem_range.2 (by omega), rfl⟩) (by rw [pvT_cm]; omega) fun u hu hut => ?_
    obtain ⟨i, hi, rfl⟩ := mem_tK hu
    rw [pvT_cm] at hut ⊢
    rw [pvT_cm]
    omega
end Go.Proofs.YtagamkahfiackaaGreatDoor

namespace Go.Proofs.YtagamkahfiackaaGreatDoor
open Go.ChangeShapes Go.WideShapes Go.ChangeAt Go.RowKit

theorem own : ownKnob Tryz.prog.godebug = none := by kernel_rfl
theorem laidOut : laidOutB Tryz.prog = true := by kernel_rfl
theorem cells9 : Tryz.prog.cellsOf 9 = 1 := by kernel_rfl
theorem cells3 : Tryz.prog.cellsOf 3 = 1 := by kernel_rfl
theorem cells4 : Tryz.prog.cellsOf 4 = 1 := by kernel_rfl
theorem plain_addr {W : World} {b o : Nat} {sp : Option Nat} {v : Value} (h : W.cell? ⟨b, o, sp⟩ = some v) : sp = none := by
  cases sp with
  | none => rfl
  | some x =>
    unfold World.cell? at h
    split at h
    · simp at h
    · cases h
theorem i64_lim {x : Int} (h : (Lit.int .i64 x).wf = true) : -9223372036854775808 ≤ x ∧ x ≤ 9223372036854775807 := by
  simp only [Lit.wf, Bool.and_eq_true, decide_eq_true_eq] at h
  exact h
theorem cellsA : Tryz.prog.cellsOf 32 = 5 := by kernel_rfl
/-- Something done, as data. -/
def IsAct {H : Type} (x : ActV) (d : DataW H) : Prop := d = .agg [.lit (.int .i64 x.kd), .lit (.int .i64 x.tm), .lit (.string x.key.data.toList), .lit (.string x.row.data.toList), .lit (.bool x.gn)]
def LimA (x : ActV) : Prop := (-9223372036854775808 ≤ x.kd ∧ x.kd ≤ 9223372036854775807) ∧ -9223372036854775808 ≤ x.tm ∧ x.tm ≤ 9223372036854775807
set_option maxRecDepth 100000 in
theorem open_acts {H : Type} {enc : TypeId × Value → H} {W : World} {base : Nat} {v : Value} {d : DataW H} {p : List MemPlace}
    (hv : Value.okWide Tryz.prog W .any base 22 v) (h : DataW.Trod enc Tryz.prog W 0 (fun _ => true) true 22 v d p) :
    ∃ (a : Option Addr) (L : List ActV) (c : Nat), v = .slice a L.length c ∧ ActsIn W a L ∧ (∀ x ∈ L, LimA x) ∧ ((d = .nil ∧ L = []) ∨ ∃ ds spare, d = .slice ds spare ∧ ds.length = L.length ∧ ∀ i (h : i < L.length) (h2 : i < ds.length), IsAct L[i] ds[i]) := by
  obtain ⟨a, len, cap, rfl⟩ := okWide_slice Tryz.underlying22 hv
  obtain ⟨fuel, h⟩ := h
  have h' : DataW.trod enc Tryz.prog W 0 (fun _ => true) true fuel 22 [.slice a len cap] = some (d, p) := by simpa [Value.cells] using h
  rcases Deep.open_slice Tryz.underlying22 h' with ⟨e1, e2⟩ | ⟨ad, len', cap', m, n, D, Pl, e1, _, hl, hcm, hm, e2, hc⟩
  · simp only [List.cons.injEq, and_true, Value.slice.injEq] at e1
    obtain ⟨rfl, rfl, rfl⟩ := e1
    simp only [Prod.mk.injEq] at e2
    exact ⟨none, [], 0, rfl, fun i x hi => by simp at hi, fun x hx => (by cases hx), .inl ⟨e2.1, rfl⟩⟩
  · simp only [List.cons.injEq, and_true, Value.slice.injEq] at e1
    obtain ⟨rfl, rfl, rfl⟩ := e1
    simp only [if_true] at hm
    subst hm
    simp only [Prod.mk.injEq] at e2
    have each : ∀ i, i < m → ∃ x : ActV, IsAct x (D i) ∧ LimA x ∧ ∃ b o, ad = ⟨b, o, none⟩ ∧ b < W.heap.size ∧ W.cell? ⟨b, o + i * 5, none⟩ = some (.int .i64 x.kd) ∧ W.cell? ⟨b, o + i * 5 + 1, none⟩ = some (.int .i64 x.tm) ∧ W.cell? ⟨b, o + i * 5 + 2, none⟩ = some (.string x.key) ∧ W.cell? ⟨b, o + i * 5 + 3, none⟩ = some (.string x.row) ∧ W.cell? ⟨b, o + i * 5 + 4, none⟩ = some (.bool x.gn) := by
      intro i hi
      obtain ⟨cs', h1, h2⟩ := hc i hi
      rw [cellsA] at h1
      obtain ⟨_, hlen, hcell⟩ := World.cells?_some h1
      obtain ⟨xs, k, _, hxy, _, hxl, hf⟩ := DataW.trod_struct Tryz.underlying32 h2
      match xs, hxl, cs', hlen with
      | [y0, y1, y2, y3, y4], _, [v0, v1, v2, v3, v4], _ =>
        have g0 := hf 0 _ rfl
        have g1 := hf 1 _ rfl
        have g2 := hf 2 _ rfl
        have g3 := hf 3 _ rfl
        have g4 := hf 4 _ rfl
        simp [cells3, cells9, cells4] at g0 g1 g2 g3 g4
        obtain ⟨x0, f0, z0, w0⟩ := DataW.trod_int Tryz.underlying3 g0
        obtain ⟨x1, f1, z1, w1⟩ := DataW.trod_int Tryz.underlying3 g1
        obtain ⟨x2, f2, z2, _⟩ := DataW.trod_string Tryz.underlying9 g2
        obtain ⟨x3, f3, z3, _⟩ := DataW.trod_string Tryz.underlying9 g3
        obtain ⟨x4, f4, z4⟩ := DataW.trod_bool Tryz.underlying4 g4
        simp at f0 f1 f2 f3 f4
        subst f0 f1 f2 f3 f4
        obtain ⟨b, o, sp⟩ := ad
        have k0 := hcell 0 (by simp)
        have k1 := hcell 1 (by simp)
        have k2 := hcell 2 (by simp)
        have k3 := hcell 3 (by simp)
        have k4 := hcell 4 (by simp)
        have hsp : sp = none := by
          obtain ⟨cs0, q1, _⟩ := hc 0 (by omega)
          rw [cellsA] at q1
          obtain ⟨_, zl, zc⟩ := World.cells?_some q1
          have q0 := zc 0 (by omega)
          exact plain_addr (b := b) (o := o) (q0.trans (List.getElem?_eq_getElem (by omega)))
        subst hsp
        simp only [Addr.add_lit] at k0 k1 k2 k3 k4
        simp only [Prod.mk.injEq] at hxy
        have k0' : W.cell? ⟨b, o + i * 5, none⟩ = some (.int .i64 x0) := by simpa using k0
        refine ⟨⟨x0, x1, x2, x3, x4⟩, ?_, ⟨i64_lim w0, i64_lim w1⟩, b, o, rfl, block_lt_of_cell k0', k0', by simpa [Nat.add_assoc] using k1, by simpa [Nat.add_assoc] using k2, by simpa [Nat.add_assoc] using k3, by simpa [Nat.add_assoc] using k4⟩
        have := hxy.1
        simp only [List.map_cons, List.map_nil] at this
        unfold IsAct
        rw [this, z0, z1, z2, z3, z4]
    obtain ⟨f, hf⟩ := @Deep.choose_lt ActV ⟨⟨0, 0, ⟨#[]⟩, ⟨#[]⟩, false⟩⟩ m _ each
    have hlen : ((List.range len).map f).length = len := by simp
    refine ⟨some ad, (List.range len).map f, m, by rw [hlen], ?_, ?_, .inr ⟨_, _, e2.1, by simp, ?_⟩⟩
    · intro i x hi
      obtain ⟨hil, e⟩ := List.getElem?_eq_some_iff.1 hi
      rw [hlen] at hil
      simp only [List.getElem_map, List.getElem_range] at e
      subst e
      obtain ⟨_, _, b, o, rfl, h1⟩ := hf i (by omega)
      exact ⟨b, o, rfl, h1⟩
    · intro x hx
      obtain ⟨i, hi, rfl⟩ := List.mem_map.1 hx
      exact (hf i (by have := List.mem_range.1 hi; omega)).2.1
    · intro i hi h2
      rw [hlen] at hi
      have := (hf i (by omega)).1
      simp only [List.getElem_map, List.getElem_range]
      exact this
theorem mem_all {H : Type} {e : TypeId} : ∀ (ds : List (DataW H)) (i : Nat) (h : i < ds.length) (n : Nat), n ∈ ds[i].weights Tryz.prog e → n ∈ DataW.weightsAll Tryz.prog e ds
  | [], i, h, _, _ => by simp at h
  | d :: r, 0, _, n, hn => by
    simp only [DataW.weightsAll, List.mem_append]
    exact .inl hn
  | d :: r, i + 1, h, n, hn => by
    simp only [DataW.weightsAll, List.mem_append]
    exact .inr (mem_all r i (by simpa using h) n hn)
/-- No row is longer than a machine can reach. -/
theorem acts_lim {H : Type} {ts : List TypeId} {ds : List (DataW H)} {d : DataW H} {L : List ActV} (h : (DataW.weightsEach Tryz.prog ts ds).all (· ≤ reachBytes) = true) {j : Nat} (ht : ts[j]? = some 22) (hd : ds[j]? = some d)
    (hcase : (d = .nil ∧ L = []) ∨ ∃ es spare, d = .slice es spare ∧ es.length = L.length ∧ ∀ i (h : i < L.length) (h2 : i < es.length), IsAct L[i] es[i]) : ∀ x ∈ L, x.row.size ≤ 140737488355328 := by
  rcases hcase with ⟨_, rfl⟩ | ⟨es, spare, rfl, hl, hdat⟩
  · exact fun x hx => by cases hx
  · have e : reachBytes = 140737488351232 := by decide
    have all : ∀ n ∈ (DataW.slice es spare : DataW H).weights Tryz.prog 22, n ≤ 140737488351232 := fun n hn => by
      have := List.all_eq_true.1 h _ (DataW.weights_mem_each (P := Tryz.prog) ht hd n hn)
      simpa [e] using this
    intro x hx
    obtain ⟨i, hi, rfl⟩ := List.getElem_of_mem hx
    have hw : (L[i]).row.data.toList.length ∈ (es[i]'(by omega)).weights Tryz.prog 32 := by
      rw [hdat i hi (by omega)]
      simp [DataW.weights, DataW.weightsEach, Tryz.underlying32]
    have := all _ (by
      simp only [DataW.weights, Tryz.underlying22, List.mem_cons, List.mem_append]
      exact .inr (.inl (mem_all es i (by omega) _ hw)))
    rw [size_list]; omega
end Go.Proofs.YtagamkahfiackaaGreatDoor

namespace Go.Proofs.YtagamkahfiackaaGreatDoor
open Go.ChangeShapes Go.WideShapes Go.ChangeAt Go.RowKit Go.Joins

theorem typesSize : Tryz.prog.types.size = 194 := by kernel_rfl
theorem gErr : Tryz.prog.globalNamed "errors.errorType" = some 0 := by kernel_rfl
theorem errRow : ((List.range 194).filter fun t => Tryz.prog.rowNamed t [101, 114, 114, 111, 114]) = [59] := by kernel_rfl
theorem err_of_handles {W : World} (h : handlesMet Tryz.prog [("errors.errorType", Rows.laid_errors_errorType)] W) : ErrType W := by
  obtain ⟨name, u, ty, e1, e2, e3, e4, e5⟩ := h _ (List.mem_singleton.2 rfl)
  have en : name = [101, 114, 114, 111, 114] := (Option.some.inj e1).symm
  subst en
  obtain rfl : u = 143 := Option.some.inj (e2.symm.trans (show _ = some 143 by kernel_rfl))
  have hm : ty ∈ (List.range 194).filter fun t => Tryz.prog.rowNamed t [101, 114, 114, 111, 114] := List.mem_filter.2 ⟨List.mem_range.2 (by rw [← typesSize]; exact e3), e4⟩
  rw [errRow] at hm
  obtain rfl := List.mem_singleton.1 hm
  have hh : typeHandle Tryz.prog 59 = .pointer (some ⟨2, 59, none⟩) := by kernel_rfl
  rw [hh] at e5
  have := World.var?_cell gErr e5 0
  unfold ErrType
  simpa using this
end Go.Proofs.YtagamkahfiackaaGreatDoor

namespace Go.Proofs.YtagamkahfiackaaGreatDoor
open Go.RowKit Go.Sort

theorem un_as {L : List MV} (h : AscC (pvs L)) (t : Int) : unC (pvs L) t = match asL L t with
    | none => 0
    | some x => if upC (pvs L) t = L.length ∧ x.v.gn = true then upC (pvs L) t else upC (pvs L) t - 1 := by
  unfold unC
  rw [asL_as h, pvs_len]
  cases asL L t <;> rfl
set_option maxRecDepth 100000 in
set_option maxHeartbeats 1000000 in
theorem unseen_ {w : World} {v : Vl} {L : List MV} (hn : v.n = L.length) (hv : VerIn w v.a L) (hl : L.length ≤ 1000000) (ha : AscC (pvs L)) (t : Int) :
    Calls Tryz.prog 33 #[.slice v.a v.n v.c, .int .i64 t] w fun e w' => e = .returned (.int .i64 (unC (pvs L) t)) ∧ Below w.heap.size w w' := by
  have HU := Lib.hid (upTo_ (v := v) hn hv hl ha t)
  have hul : upC (pvs L) t ≤ L.length := by rw [← pvs_len]; exact up_le _ _
  have hun := un_as ha t
  obtain ⟨o, ho⟩ : ∃ o, o = asL L t := ⟨_, rfl⟩
  rw [← ho] at hun
  unfold asL at ho
  rw [hun]
  clear hun
  generalize upC (pvs L) t = u at *
  obtain ⟨a, n, c⟩ := v
  simp only at hn hv HU
  rw [← hn] at hul hl ⊢
  rcases Nat.eq_zero_or_pos u with rfl | hp
  · rw [if_pos rfl] at ho
    subst ho
    clear hn hv hul hl
    go_enter Tryz.func33, Tryz.ntmps33
    go_wp2_with (first | (go_at_call 42; refine HU.out.mono ?_; rintro e w' ⟨rfl, hb⟩; have HB2 := Lib.hid hb; clear hb) | fail)
    go_ret
    exact ⟨rfl, HB2.out⟩
  · obtain ⟨j, rfl⟩ : ∃ j, u = j + 1 := ⟨u - 1, by omega⟩
    rw [if_neg (by omega)] at ho
    obtain ⟨x, hx⟩ := getElem?_of_lt (show j < L.length by omega)
    rw [show j + 1 - 1 = j by omega, hx] at ho
    subst ho
    obtain ⟨⟨cm, tx, gn⟩, ⟨ra, rn, rc⟩⟩ := x
    obtain ⟨g, rfl, hg, _, _, c3⟩ := hv j _ hx
    simp only at c3
    have HC : Hid (∀ V, Below w.heap.size w V → V.cell? ⟨g, j * 3 + 2, none⟩ = some (.bool gn)) := fun V hV => (hV.cell (p := ⟨g, j * 3 + 2, none⟩) hg).trans c3
    have HU' : Hid (Calls Tryz.prog 42 #[.slice (some ⟨g, 0, none⟩) n c, .int .i64 t] w fun e w' => e = .returned (.int .i64 ((j : Int) + 1)) ∧ Below w.heap.size w w') := by
      have := HU.out
      rw [show (((j + 1 : Nat) : Int)) = (j : Int) + 1 by omega] at this
      exact this
    have hjn : (j : Int) < n := by omega
    have hw := wraps_i64 (j : Int) (by omega) (by omega)
    have h0 : ¬ ((j : Int) + 1 = 0) := by omega
    simp only
    rw [show j + 1 - 1 = j by omega]
    clear HU hn hv hx c3 hg
    by_cases hjl : j + 1 = n
    · have he : (((j : Int) + 1) == (n : Int)) = true := by simp; omega
      cases gn with
      | true =>
        rw [if_pos ⟨hjl, rfl⟩, show (((j + 1 : Nat) : Int)) = (j : Int) + 1 by omega]
        clear hjl
        go_enter Tryz.func33, Tryz.ntmps33
        go_wp2_with (first | (go_at_call 42; refine HU'.out.mono ?_; rintro e w' ⟨rfl, hb⟩; have HB2 := Lib.hid hb; have d2 := HC.out _ hb; clear hb) | fail)
        go_ret
        exact ⟨rfl, HB2.out⟩
      | false =>
        rw [if_neg (by simp)]
        clear hjl
        go_enter Tryz.func33, Tryz.ntmps33
        go_wp2_with (first | (go_at_call 42; refine HU'.out.mono ?_; rintro e w' ⟨rfl, hb⟩; have HB2 := Lib.hid hb; have d2 := HC.out _ hb; clear hb) | fail)
        go_ret
        exact ⟨rfl, HB2.out⟩
    · have he : (((j : Int) + 1) == (n : Int)) = false := by simp; omega
      rw [if_neg (fun h => hjl h.1)]
      clear hjl
      go_enter Tryz.func33, Tryz.ntmps33
      go_wp2_with (first | (go_at_call 42; refine HU'.out.mono ?_; rintro e w' ⟨rfl, hb⟩; have HB2 := Lib.hid hb; have d2 := HC.out _ hb; clear hb) | fail)
      go_ret
      exact ⟨rfl, HB2.out⟩
/-- A copy of a piece of a chain. -/
def CloToV (w : World) (N : List MV) (e : Ending) (w' : World) : Prop :=
  ∃ g c, w.heap.size ≤ g ∧ e = .returned (.slice (some ⟨g, 0, none⟩) N.length c) ∧ RowV w' (.slice (some ⟨g, 0, none⟩) N.length c) N ∧ Below w.heap.size w w'
set_option maxRecDepth 100000 in
set_option maxHeartbeats 1000000 in
theorem cloneV_ {w : World} (b off n c : Nat) (N : List MV) (hnN : n = N.length) (hn0 : 0 < n) (hn : n ≤ 1000000) (hc : ∀ j u, (cV N)[j]? = some u → w.cell? ⟨b, off + j, none⟩ = some u) :
    Calls Tryz.prog 36 #[.slice (some ⟨b, off, none⟩) n c] w (CloToV w N) := by
  obtain ⟨i0, hi0, hz0, hz1, hz2⟩ := info_parts infoVer
  have q22 : ∀ (w : World) (a : Option Addr) (n c n' c' : Nat), (binOp .eql 52 (.slice a n c) (.slice none n' c')).run Tryz.prog w = .ok (.bool a.isNone) w := fun w a n c n' c' => Lib.run_eql_slice_nil w _ _ a n c n' c' Tryz.underlying52
  have hl := cV_len N
  rw [← hnN] at hl
  have h1 := cV_one N
  have HNn := Lib.hid hnN
  generalize hcv : cV N = news at *
  have HCV := Lib.hid hcv
  have A : Aside (∀ j u, news[j]? = some u → w.cell? ⟨b, off + j, none⟩ = some u) := hc
  clear hc hnN hcv
  go_enter Tryz.func36, Tryz.ntmps36
  go_wp2_with (at_builtin; refine wpList_append_own _ rfl _ _ 52 rfl w.heap.size 90 i0 _ 3 40 Tryz.underlying52 hi0 hz0 hz1 hz2 rfl (by decide) _ _ _ rfl (World.ownsRow_made w #[] 0 (Nat.le_refl _) (Nat.zero_le _) (by simp)) ⟨b, off, none⟩ n c news rfl ?qc1 ?qc2 ?qc3 ?qc4 ?qc5 ?qc6 ?_)
  case qc1 => exact hl
  case qc2 =>
    intro j u hj
    rw [Addr.add_lit]
    exact Lib.cell?_alloc_some _ (A.out j u hj)
  case qc3 => exact h1
  case qc4 => rw [Nat.zero_add]; unfold maxLen; omega
  case qc5 => rw [Nat.zero_add]; omega
  case qc6 => simp
  intro v' w1 hown hgrow hnil
  have hb : Below w.heap.size w w1 := ((Below.refl _ w).alloc (Nat.le_refl _) _).grown hgrow (by simp) (by intro k hk; simp [Value.ownBlock] at hk; omega)
  obtain ⟨g, cap, cur, rfl, h2⟩ : ∃ g cap cur, v' = .slice (some ⟨g, 0, none⟩) n cap ∧ w.heap.size ≤ g ∧ w1.heap[g]? = some (.cells cur 90 (0, 0)) ∧ n ≤ cap ∧ cap ≤ maxLen ∧ cur.size = cap * 3 ∧ cur.toList.take (n * 3) = news := by
    rcases hown.2 with ⟨_, e⟩ | ⟨g, cap, cur, e1, h1, h2⟩
    · omega
    · exact ⟨g, cap, cur, e1, h1, h2⟩
  obtain ⟨h3, h4, h5, h6, h7, h8⟩ := h2
  have HZ : Hid (CloToV w N (.returned (.slice (some ⟨g, 0, none⟩) n cap)) w1) := by
    refine ⟨g, cap, h3, by rw [HNn.out], ?_, hb⟩
    unfold RowV
    rw [← HNn.out]
    exact row_mk h4 h5 h6 h7 (by rw [HCV.out]; exact h8)
  clear hb hown hgrow hnil h3 h4 h5 h6 h7 h8 h1 hl
  go_wp2
  go_ret
  exact HZ.out
end Go.Proofs.YtagamkahfiackaaGreatDoor
