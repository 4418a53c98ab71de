/- The walks of slices.AppendSeq and slices.Collect, at places. -/
import Derived.Test.YtjnhcanohefjiaaGreatDoorDKeys
import Derived.RangeFuncBox
namespace Go.Proofs.YtjnhcanohefjiaaGreatDoor
open Go.RowKit Go.Sort Go.Maps Go.Shelf

/-- Places as cells. -/
def flat (ss : List Pl) : List Value := ss.flatMap fun k => [.int .i64 k.1, .int .i64 k.2]
theorem flat_append (a b : List Pl) : flat a ++ flat b = flat (a ++ b) := by simp [flat]
theorem infoP : (Tryz.prog.info? 132).map (fun i => (i.zero, i.size, i.bytes)) = some (some (.agg #[.int .i64 0, .int .i64 0]), 2, 16) := by kernel_rfl
/-- What the loop of AppendSeq does with each. -/
def apA (s : String) : Code := .region 2 #[{ dst := some 5, op := .alloc 132, type := 0, pos := s, after := #[], guard := none }, { dst := none, op := .store 132 (.tmp 5) (.tmp 7), type := 0, pos := s, after := #[{ on := 0, ground := .data }, { on := 0, ground := .phase }], guard := none }] false
def apB (s : String) : Code := .block 1 (.region 3 #[{ dst := some 8, op := .load 129 (.tmp 2), type := 129, pos := s, after := #[], guard := none }, { dst := some 9, op := .load 132 (.tmp 5), type := 132, pos := s, after := #[], guard := none }, { dst := some 10, op := .buildSlice 129 1 #[(0, .tmp 9)], type := 129, pos := s, after := #[{ on := 1, ground := .data }], guard := none }, { dst := some 11, op := .call { callee := .builtin .append, args := #[.tmp 8, .tmp 10], argTypes := #[129, 129] }, type := 129, pos := s, after := #[{ on := 0, ground := .data }, { on := 2, ground := .data }], guard := none }, { dst := none, op := .store 129 (.tmp 2) (.tmp 11), type := 0, pos := s, after := #[{ on := 3, ground := .data }, { on := 3, ground := .chain }, { on := 0, ground := .phase }, { on := 1, ground := .phase }, { on := 2, ground := .phase }, { on := 3, ground := .phase }], guard := none }] false)
def apR (s t : String) (fn : FuncId) (sv : Value) (Bs D : Nat) (st : LoopState) : Loop :=
  { state := st, pending := none, fn, tmps := #[.slice none 0 0, sv, .pointer (some ⟨Bs, 0, none⟩), undef, .slice none 0 0, undef, sv, undef, undef, undef, undef, undef, undef], params := #[7], assign := apA s, body := apB t, defers := D }
/-- Between two rounds. -/
structure ApAt (s t : String) (w0 : World) (fn : FuncId) (sv : Value) (Bs l D : Nat) (ss : List Pl) (W : World) : Prop where
  box : ∃ v, Boxed W Bs 129 v ∧ W.ownsRow w0.heap.size 132 2 v ss.length (flat ss) ∧ (v = .slice none 0 0 ↔ ss = [])
  lop : W.heap[l]? = some (.loop (apR s t fn sv Bs D .ready))
  dfr : W.heap[D]? = some (.deferred (some []))
  below : Below w0.heap.size w0 W
theorem walk_not_cells {o : Obj} (h : o.isWalk = true) : o.isCells = false := Obj.not_cells_of_walk h
theorem ap_abides (s t : String) (w0 : World) (fn : FuncId) (sv : Value) (Bs l D B : Nat) (hB : w0.heap.size ≤ B) : AbidesFrom B (ApAt s t w0 fn sv Bs l D) := fun ss W W' row h hg hrow => by
  have hr1 : ∀ r, row = some r → ∃ o : Obj, W.heap[r]? = some o ∧ o.isWalk = true := fun r e => (hrow r e).2
  have hr2 : ∀ r, row = some r → ∃ o : Obj, W.heap[r]? = some o ∧ o.isCells = false := fun r e => by obtain ⟨o, h1, h2⟩ := (hrow r e).2; exact ⟨o, h1, walk_not_cells h2⟩
  obtain ⟨v, h1, h2, h3⟩ := h.box
  obtain ⟨v', g1, g2, g3⟩ := holdsRow_own w0.heap.size Bs 129 132 2 (fun s : List Pl => s.length) flat (fun s v => v = .slice none 0 0 ↔ s = []) ss W W' row ⟨v, h1, h2, h3⟩ hg hr2
  exact ⟨⟨v', g1, g2, g3⟩, (grownBy_keeps hg hr1 h.lop rfl).trans h.lop, (grownBy_keeps hg hr1 h.dfr rfl).trans h.dfr, h.below.grown hg h.below.size (fun k e => Nat.le_trans hB (hrow k e).1)⟩
theorem cell_two (w : World) (x y : Value) (t : TypeId) : ∀ j u, [x, y][j]? = some u → (w.alloc (.cells #[x, y] t)).cell? ((⟨w.heap.size, 0, none⟩ : Addr).add j) = some u := by
  intro j u hj
  rw [Addr.add_lit, Nat.zero_add]
  refine cell_of (World.alloc_heap_new' w _) ?_
  simpa using hj
theorem place_ne : (129 : TypeId) ≠ 132 := by decide
set_option maxRecDepth 100000 in
set_option maxHeartbeats 2000000 in
theorem apYield (s t : String) (m : Nat) (w0 : World) (fn : FuncId) (sv : Value) (Bs l D : Nat) (hBl : Bs ≠ l) (hDl : D ≠ l) (h0B : w0.heap.size ≤ Bs) (h0l : w0.heap.size ≤ l)
    (N : Nat) (hN : N ≤ 1000000) (ss : List Pl) (x : Pl) (W : World) (h : ApAt s t w0 fn sv Bs l D ss W) (hlen : ss.length < N) :
    YieldAt Fence.wide m Tryz.prog l #[plV x] W fun e W' => e = .returned (.bool true) ∧ ApAt s t w0 fn sv Bs l D (ss ++ [x]) W' ∧ KeepsWalks W W' := by
  obtain ⟨i0, hi, hz0, hz1, hz2⟩ := info_parts infoP
  obtain ⟨v, hv, hrow, hnil⟩ := h.box
  refine ⟨fn, #[.slice none 0 0, sv, .pointer (some ⟨Bs, 0, none⟩), undef, .slice none 0 0, undef, sv, plV x, undef, undef, undef, undef, undef], apA s, apB t, by simpa [apR] using run_yield (P := Tryz.prog) (args := #[plV x]) h.lop rfl, roundIn_of_wpIn (wide_fn _) ?_⟩
  obtain ⟨g, j⟩ := x
  obtain ⟨W1, hW1⟩ : ∃ W1, W1 = W.alloc (.cells #[.int .i64 g, .int .i64 j] 132) := ⟨_, rfl⟩
  have hs1 : W1.heap.size = W.heap.size + 1 := by rw [hW1]; simp
  have hp1 : W1.heap[W.heap.size]? = some (.cells #[.int .i64 g, .int .i64 j] 132 (0, 0)) := by rw [hW1]; exact World.alloc_heap_new' _ _
  have hv1 : Boxed W1 Bs 129 v := by rw [hW1]; exact hv.alloc _
  have hr1 : W1.ownsRow w0.heap.size 132 2 v ss.length (flat ss) := by rw [hW1]; exact hrow.alloc _
  have hB1 : Below W.heap.size W W1 := by rw [hW1]; exact (Below.refl _ _).alloc (Nat.le_refl _) _
  have hl1 : W1.heap[l]? = some (.loop (apR s t fn sv Bs D .ready)) := (hB1.block l (blk_lt h.lop)).trans h.lop
  have hd1 : W1.heap[D]? = some (.deferred (some [])) := (hB1.block D (blk_lt h.dfr)).trans h.dfr
  have hk1 : KeepsWalks W W1 := by rw [hW1]; exact KeepsWalks.alloc _ _
  have hbr := run_beginRound (P := Tryz.prog) hl1 rfl
  obtain ⟨W2, hW2⟩ : ∃ W2, W2 = W1.putObj l (.loop { apR s t fn sv Bs D .ready with state := .busy }) := ⟨_, rfl⟩
  rw [← hW2] at hbr
  have hlW : l ≠ W.heap.size := by have := blk_lt h.lop; omega
  have hp2 : W2.heap[W.heap.size]? = some (.cells #[.int .i64 g, .int .i64 j] 132 (0, 0)) := by rw [hW2]; exact (World.putObj_heap_other (Ne.symm hlW)).trans hp1
  have hv2 : Boxed W2 Bs 129 v := by rw [hW2]; exact (World.putObj_heap_other hBl).trans hv1
  have hr2 : W2.ownsRow w0.heap.size 132 2 v ss.length (flat ss) := by rw [hW2]; exact ownsRow_putObj hr1 _ hl1 rfl
  have hl2 : W2.heap[l]? = some (.loop { apR s t fn sv Bs D .ready with state := .busy }) := by rw [hW2]; exact World.putObj_heap_same (blk_lt hl1)
  have hd2 : W2.heap[D]? = some (.deferred (some [])) := by rw [hW2]; exact (World.putObj_heap_other hDl).trans hd1
  have hk2 : KeepsWalks W W2 := by rw [hW2]; exact hk1.trans (KeepsWalks.putObj _ hl1 rfl)
  have hb2 : Below w0.heap.size w0 W2 := by rw [hW2]; exact (h.below.trans (hB1.mono h.below.size)).grown (grownBy_putObj' _ _ _) (Nat.le_trans h.below.size (by omega)) (fun k e => by cases e; exact h0l)
  have hc2 := hv2.cell
  have hp20 : W2.cell? ⟨W.heap.size, 0, none⟩ = some (.int .i64 g) := cell_of hp2 rfl
  have hp21 : W2.cell? ⟨W.heap.size, 1, none⟩ = some (.int .i64 j) := cell_of hp2 rfl
  have HX := Lib.hid (And.intro hv2 (And.intro hr2 (And.intro hl2 (And.intro hd2 (And.intro hk2 hb2)))))
  have hsz := hb2.size
  clear hp1 hv1 hr1 hB1 hl1 hd1 hk1 hW2 hrow hv h hp2
  unfold apA plV
  gi_wp2_with gi_round_op_a
  rw [← hW1]
  clear hW1
  refine ⟨W2, hbr, ?_⟩
  clear hbr
  unfold apB
  gi_wp2_with (first
    | (gi_at_builtin; refine wpListIn_append_own _ rfl _ _ 129 rfl w0.heap.size 132 i0 (.agg #[.int .i64 0, .int .i64 0]) 2 16 Tryz.underlying129 hi hz0 hz1 hz2 rfl (by decide) _ _ _ rfl (HX.out.2.1.alloc _) ⟨W2.heap.size, 0, none⟩ 1 1 [.int .i64 g, .int .i64 j] rfl rfl (cell_two _ _ _ _) (by simp [Value.oneCell']) (by unfold maxLen; omega) (by omega) (by simp; omega) ?_; intro v' w3 hown' hg3 hnil3
       have HA := Boxed.appended HX.out.1 place_ne HX.out.2.1 hsz h0B hown' hg3
       obtain ⟨g', cap', rfl⟩ := ownsRow_succ hown'
       have hc3 := HA.1.cell
       have hf3 := HA.1.frozen
       go_frame)
    | gi_round_op_a)
  obtain ⟨hv2, hr2, hl2, hd2, hk2, hb2⟩ := HX.out
  obtain ⟨_, hv5, hr5, ho5, hb5⟩ := HA
  generalize w3.setCell ⟨Bs, 0, none⟩ (.slice (some ⟨g', 0, none⟩) (ss.length + 1) cap') = W5 at *
  have hl5 := ho5.same l _ hl2 rfl
  have hd5 := ho5.same D _ hd2 rfl
  have hB5 : Below w0.heap.size w0 W5 := hb2.trans hb5
  refine ⟨_, _, run_endRound none hl5, rfl, ⟨⟨_, (World.putObj_heap_other hBl).trans hv5, ?_, by simp⟩, World.putObj_heap_same (blk_lt hl5), (World.putObj_heap_other hDl).trans hd5, hB5.grown (grownBy_putObj' _ _ _) hB5.size (fun k e => by cases e; exact h0l)⟩, (hk2.trans ho5.walks).trans (KeepsWalks.putObj _ hl5 rfl)⟩
  rw [List.length_append, ← flat_append]
  exact ownsRow_putObj hr5 _ hl5 rfl
/-- What is handed back where places are collected. -/
def CollTo (w : World) (S : List Pl → Prop) (e : Ending) (w' : World) : Prop :=
  ∃ (v : Value) (ss : List Pl), e = .returned v ∧ S ss ∧ w'.ownsRow w.heap.size 132 2 v ss.length (flat ss) ∧ (v = .slice none 0 0 ↔ ss = []) ∧ Below w.heap.size w w'
set_option maxRecDepth 100000 in
set_option maxHeartbeats 2000000 in
/-- The loop of AppendSeq. -/
theorem apLoop (s t : String) (lb : Array Value) (S : List Pl → Prop) (N : Nat) (hN : N ≤ 1000000) (w W0 : World) (hseq : SeqGives Fence.wide 4 Tryz.prog 86 lb plV S N w) (hs0 : W0.heap.size = w.heap.size + 1) (hv0 : Boxed W0 w.heap.size 129 (.slice none 0 0)) (hb0 : Below w.heap.size w W0) (Q : Exit → Act → World → Prop)
    (hdone : ∀ (W : World) (v : Value) (ss : List Pl), S ss → Boxed W w.heap.size 129 v → W.ownsRow w.heap.size 132 2 v ss.length (flat ss) → (v = .slice none 0 0 ↔ ss = []) → Below w.heap.size w W → W.heap[w.heap.size + 1]? = some (.deferred (some [])) →
      Q .normal { tmps := #[.slice none 0 0, .func (.func 86) #[] lb, .pointer (some ⟨w.heap.size, 0, none⟩), undef, .slice none 0 0, undef, .func (.func 86) #[] lb, undef, undef, undef, undef, undef, undef], defers := [{ target := .collected (w.heap.size + 1), args := #[] }] } W) :
    (Code.rangeFunc (.tmp 6) #[7] (apA s) (apB t)).wpIn Fence.wide 5 Tryz.prog Q { tmps := #[.slice none 0 0, .func (.func 86) #[] lb, .pointer (some ⟨w.heap.size, 0, none⟩), undef, .slice none 0 0, undef, .func (.func 86) #[] lb, undef, undef, undef, undef, undef, undef], defers := [] } W0 := by
  refine wpIn_rangeFunc ?_
  intro fn hfn
  rw [wide_round]
  obtain ⟨W1, hW1⟩ : ∃ W1, W1 = (W0.alloc (.deferred (some []))).alloc (.loop (apR s t fn (.func (.func 86) #[] lb) w.heap.size W0.heap.size .ready)) := ⟨_, rfl⟩
  have hB1 : Below W0.heap.size W0 W1 := by rw [hW1]; exact below_two W0 _ _
  have hb1 : Below w.heap.size w W1 := hb0.trans (hB1.mono hb0.size)
  have hM : ApAt s t w fn (.func (.func 86) #[] lb) w.heap.size (W0.heap.size + 1) W0.heap.size [] W1 :=
    ⟨⟨_, (hB1.block _ (by omega)).trans hv0, ⟨rfl, .inl ⟨rfl, rfl⟩⟩, by simp⟩, by rw [hW1]; exact (heap_two W0 _ _).1, by rw [hW1]; exact (heap_two W0 _ _).2, hb1⟩
  refine ⟨W0.heap.size + 1, [{ target := .collected W0.heap.size, args := #[] }], W1, { target := .fn (.func 86) lb, args := #[.func (.yield (W0.heap.size + 1)) #[] #[]] }, W1, 86,
    #[.func (.yield (W0.heap.size + 1)) #[] #[]] ++ lb, W1, ?_, ?_, ?_, ?_, fun _ => by decide, ?_⟩
  · rw [hW1]; exact run_enterLoop_outer _ _ _ _ _
  · simp [resolve, go_sem]
  · intro f' _; exact wide_fn _
  · simp [invoke, go_sem]
  · refine (hseq (W0.heap.size + 1) (ApAt s t w fn (.func (.func 86) #[] lb) w.heap.size (W0.heap.size + 1) W0.heap.size) W1 hb1 (ap_abides s t w _ _ _ _ _ _ hb1.size)
      (fun pre x W hJ hl => apYield s t 3 w fn _ w.heap.size (W0.heap.size + 1) W0.heap.size (by omega) (by omega) (Nat.le_refl _) (by omega) N hN pre x W hJ hl) hM).mono ?_
    rintro e W2 ⟨⟨v0, rfl⟩, ss, hS, h2⟩
    obtain ⟨v, hv, hrow, hnil⟩ := h2.box
    have hend := run_endLoop (P := Tryz.prog) h2.lop (by simp [apR])
    obtain ⟨W3, hW3⟩ : ∃ W3, W3 = W2.putObj (W0.heap.size + 1) (.loop { apR s t fn (.func (.func 86) #[] lb) w.heap.size W0.heap.size .ready with state := .exhausted }) := ⟨_, rfl⟩
    rw [← hW3] at hend
    have hv3 : Boxed W3 w.heap.size 129 v := by rw [hW3]; exact (World.putObj_heap_other (by omega)).trans hv
    have hd3 : W3.heap[W0.heap.size]? = some (.deferred (some [])) := by rw [hW3]; exact (World.putObj_heap_other (by omega)).trans h2.dfr
    have hr3 : W3.ownsRow w.heap.size 132 2 v ss.length (flat ss) := by rw [hW3]; exact ownsRow_putObj hrow _ h2.lop rfl
    have hb3 : Below w.heap.size w W3 := by rw [hW3]; exact h2.below.grown (grownBy_putObj' _ _ _) h2.below.size (fun k e => by cases e; omega)
    clear hW3
    rw [hs0] at hd3
    refine ⟨none, W3, hend, ?_⟩
    rw [hs0]
    exact hdone W3 v ss hS hv3 hr3 hnil hb3 hd3
set_option maxRecDepth 100000 in
set_option maxHeartbeats 2000000 in
theorem appendSeq_ (lb : Array Value) (S : List Pl → Prop) (N : Nat) (hN : N ≤ 1000000) (w : World) (hseq : SeqGives Fence.wide 4 Tryz.prog 86 lb plV S N w) :
    CallsIn Fence.wide 5 Tryz.prog 96 #[.slice none 0 0, .func (.func 86) #[] lb] w (CollTo w S) := by
  refine callsIn_of_wp_marks Tryz.func96 rfl (wide_fn _) ?_ wide_round
  simp only [Tryz.ntmps96, List.size_toArray, List.length_cons, List.length_nil, Nat.reduceAdd, Nat.reduceSub, Array.replicate_succ, Array.replicate_zero, List.push_toArray, List.append_toArray, List.nil_append, List.cons_append]
  gi_wp2
  refine apLoop _ _ lb S N hN w _ hseq (by simp) (Boxed.new _ _ _) ((Below.refl _ w).alloc (Nat.le_refl _) _) _ ?_
  intro W3 v ss hS hv3 hr3 hnil hb3 hd3
  have hc3 := hv3.cell
  gi_wp2
  refine ⟨by simp, .inl ⟨_, _, rfl, run_takeDeferred hd3, ?_⟩⟩
  exact ⟨_, results_tmp rfl _ _ _, v, ss, rfl, hS, ownsRow_putObj hr3 _ hd3 rfl, hnil, hb3.grown (grownBy_putObj' _ _ _) hb3.size (fun k e => by cases e; omega)⟩
set_option maxHeartbeats 1000000 in
theorem collect_ (lb : Array Value) (S : List Pl → Prop) (N : Nat) (hN : N ≤ 1000000) (w : World) (hseq : SeqGives Fence.wide 4 Tryz.prog 86 lb plV S N w) :
    Calls Tryz.prog 84 #[.func (.func 86) #[] lb] w (CollTo w S) := by
  have H := Lib.hid (callsIn_wide.1 (appendSeq_ lb S N hN w hseq))
  clear hseq
  go_enter Tryz.func84, Tryz.ntmps84
  go_wp2_with fail
  refine H.out.mono ?_
  rintro e w1 ⟨v, ss, rfl, hh⟩
  have HH := Lib.hid hh
  clear hh H
  go_wp2_with fail
  go_ret
  exact ⟨v, ss, rfl, HH.out⟩
end Go.Proofs.YtjnhcanohefjiaaGreatDoor
