/- fromOf, toOf, narrower, One, Prefix. -/
import Derived.Test.YteeojhmdefhlmaaCuHas
import Derived.Test.YteeojhmdefhlmaaCuNx
import Derived.Laws.Tables
namespace Go.Proofs.Yteeojhmdefhlmaa
open Go.RowKit Go.Sort

/-- A struct stored into a block of one's own. -/
theorem store_row {N : Nat} {w W : World} {g : Nat} {ty : TypeId} {old : Array Value} (cs : Array Value) (h : W.heap[g]? = some (.cells old ty (0, 0))) (hi : (Try.prog.info? ty).map (·.size) = some cs.size) (ho : old.size = cs.size) (h1 : cs.all (·.oneCell') = true) (hg : N ≤ g) (hb : Below N w W) :
    ∃ V, (Instr.storeAt ty (.pointer (some ⟨g, 0, none⟩)) (.agg cs)).run Try.prog W = .ok () V ∧ V.heap[g]? = some (.cells cs ty (0, 0)) ∧ Below N w V ∧ (∀ k, k ≠ g → V.heap[k]? = W.heap[k]?) ∧ V.heap.size = W.heap.size := by
  refine ⟨W.setRow g cs, ?_, setRow_heap W g old cs ty (0, 0) h, ⟨hb.os, hb.tape, hb.output, by rw [setRow_size]; exact hb.size, fun k hk => (setRow_other W g k cs (by omega)).trans (hb.block k hk)⟩, fun k hk => setRow_other W g k cs hk, setRow_size W g cs⟩
  simp only [Instr.storeAt, Instr.sureAddr, Sem.run_bind, Sem.run_pure, Result.andThen]
  exact run_storeVar_row W g ty ty old cs h hi ho h1
/-- An end in a block of its own. -/
def EnAt (w : World) (b : Nat) (e : En) : Prop := w.heap[b]? = some (.cells #[.string e.t, .bool e.h, .bool e.o] 54 (0, 0))
theorem EnAt.cells {w : World} {b : Nat} {e : En} (h : EnAt w b e) : w.cell? ⟨b, 0, none⟩ = some (.string e.t) ∧ w.cell? ⟨b, 1, none⟩ = some (.bool e.h) ∧ w.cell? ⟨b, 2, none⟩ = some (.bool e.o) := ⟨cell_of h rfl, cell_of h rfl, cell_of h rfl⟩
theorem store_en {N : Nat} {w W : World} {g : Nat} {old : Array Value} (e : En) (h : W.heap[g]? = some (.cells old 54 (0, 0))) (ho : old.size = 3) (hg : N ≤ g) (hb : Below N w W) :
    ∃ V, (Instr.storeAt 54 (.pointer (some ⟨g, 0, none⟩)) (.agg #[.string e.t, .bool e.h, .bool e.o])).run Try.prog W = .ok () V ∧ EnAt V g e ∧ Below N w V ∧ (∀ k, k ≠ g → V.heap[k]? = W.heap[k]?) ∧ V.heap.size = W.heap.size :=
  store_row _ h (by kernel_rfl) ho (by simp [Value.oneCell']) hg hb
theorem store_rg {N : Nat} {w W : World} {g : Nat} {old : Array Value} (r : Rg) (h : W.heap[g]? = some (.cells old 24 (0, 0))) (ho : old.size = 6) (hg : N ≤ g) (hb : Below N w W) :
    ∃ V, (Instr.storeAt 24 (.pointer (some ⟨g, 0, none⟩)) (.agg #[.string r.f, .string r.t, .bool r.hf, .bool r.ht, .bool r.pf, .bool r.pt])).run Try.prog W = .ok () V ∧ RgAt V g r ∧ Below N w V ∧ (∀ k, k ≠ g → V.heap[k]? = W.heap[k]?) ∧ V.heap.size = W.heap.size := by
  obtain ⟨V, h1, h2, h3⟩ := store_row #[.string r.f, .string r.t, .bool r.hf, .bool r.ht, .bool r.pf, .bool r.pt] h (by kernel_rfl) ho (by simp [Value.oneCell']) hg hb
  exact ⟨V, h1, ⟨cell_of h2 rfl, cell_of h2 rfl, cell_of h2 rfl, cell_of h2 rfl, cell_of h2 rfl, cell_of h2 rfl⟩, h3⟩
theorem two_alloc (w : World) (a b : Obj) : ((w.alloc a).alloc b).heap[w.heap.size + 1]? = some b := by
  have := new_blk (w.alloc a) b
  simpa [go_sem] using this
theorem below_two (w : World) (a b : Obj) : Below w.heap.size w ((w.alloc a).alloc b) := below_step (below_alloc w a) (below_alloc _ b)
set_option maxRecDepth 100000 in
theorem fromOf_ (r : Rg) (w : World) : Calls Try.prog 27 #[rgV r] w fun e w' => e = .returned (enV (frmE r)) ∧ Below w.heap.size w w' := by
  obtain ⟨f, t, hf, ht, pf, po⟩ := r
  obtain ⟨R, hR⟩ : ∃ R, R = enV (frmE ⟨f, t, hf, ht, pf, po⟩) := ⟨_, rfl⟩
  have HR := Lib.hid hR
  rw [← hR]
  clear hR
  unfold rgV
  cases hf with
  | false =>
    obtain ⟨V, hst, hE, hB, _⟩ := store_en ⟨⟨#[]⟩, false, false⟩ (two_alloc w (.cells #[.string f, .string t, .bool false, .bool ht, .bool pf, .bool po] 24) (.cells #[.string ⟨#[]⟩, .bool false, .bool false] 54)) rfl (Nat.le_succ _) (below_two w _ _)
    obtain ⟨c0, c1, c2⟩ := hE.cells
    have HB := Lib.hid hB
    clear hB hE
    go_enter Try.func27, Try.ntmps27
    go_wp2_with (first | (refine wpList_store_at rfl _ _ _ rfl _ _ rfl rfl hst ?_; clear hst) | fail)
    refine bodyPost_ret (v := R) ?_ rfl ⟨rfl, HB.out⟩
    rw [results_cell rfl, HR.out]
    go_simp
    rfl
  | true =>
    obtain ⟨V, hst, hE, hB, _⟩ := store_en ⟨f, true, pf⟩ (two_alloc w (.cells #[.string f, .string t, .bool true, .bool ht, .bool pf, .bool po] 24) (.cells #[.string ⟨#[]⟩, .bool false, .bool false] 54)) rfl (Nat.le_succ _) (below_two w _ _)
    obtain ⟨c0, c1, c2⟩ := hE.cells
    have HB := Lib.hid hB
    clear hB hE
    go_enter Try.func27, Try.ntmps27
    go_wp2_with (first | (refine wpList_store_at rfl _ _ _ rfl _ _ rfl rfl hst ?_; clear hst) | fail)
    refine bodyPost_ret (v := R) ?_ rfl ⟨rfl, HB.out⟩
    rw [results_cell rfl, HR.out]
    go_simp
    rfl
set_option maxRecDepth 100000 in
theorem toOf_ (r : Rg) (w : World) : Calls Try.prog 28 #[rgV r] w fun e w' => e = .returned (enV (toE r)) ∧ Below w.heap.size w w' := by
  obtain ⟨f, t, hf, ht, pf, po⟩ := r
  obtain ⟨R, hR⟩ : ∃ R, R = enV (toE ⟨f, t, hf, ht, pf, po⟩) := ⟨_, rfl⟩
  have HR := Lib.hid hR
  rw [← hR]
  clear hR
  unfold rgV
  cases ht with
  | false =>
    obtain ⟨V, hst, hE, hB, _⟩ := store_en ⟨⟨#[]⟩, false, false⟩ (two_alloc w (.cells #[.string f, .string t, .bool hf, .bool false, .bool pf, .bool po] 24) (.cells #[.string ⟨#[]⟩, .bool false, .bool false] 54)) rfl (Nat.le_succ _) (below_two w _ _)
    obtain ⟨c0, c1, c2⟩ := hE.cells
    have HB := Lib.hid hB
    clear hB hE
    go_enter Try.func28, Try.ntmps28
    go_wp2_with (first | (refine wpList_store_at rfl _ _ _ rfl _ _ rfl rfl hst ?_; clear hst) | fail)
    refine bodyPost_ret (v := R) ?_ rfl ⟨rfl, HB.out⟩
    rw [results_cell rfl, HR.out]
    go_simp
    rfl
  | true =>
    obtain ⟨V, hst, hE, hB, _⟩ := store_en ⟨t, true, po⟩ (two_alloc w (.cells #[.string f, .string t, .bool hf, .bool true, .bool pf, .bool po] 24) (.cells #[.string ⟨#[]⟩, .bool false, .bool false] 54)) rfl (Nat.le_succ _) (below_two w _ _)
    obtain ⟨c0, c1, c2⟩ := hE.cells
    have HB := Lib.hid hB
    clear hB hE
    go_enter Try.func28, Try.ntmps28
    go_wp2_with (first | (refine wpList_store_at rfl _ _ _ rfl _ _ rfl rfl hst ?_; clear hst) | fail)
    refine bodyPost_ret (v := R) ?_ rfl ⟨rfl, HB.out⟩
    rw [results_cell rfl, HR.out]
    go_simp
    rfl
theorem cmp3 (a b : ByteArray) : (ltb a b = true → Lib.compareBytes a.data.toList b.data.toList = -1) ∧ (ltb b a = true → Lib.compareBytes a.data.toList b.data.toList = 1) ∧ (a = b → Lib.compareBytes a.data.toList b.data.toList = 0) := by
  rw [ltb_data, ltb_data]
  have h : ∀ s t : List UInt8, (Op.bytesLess s t = true → Lib.compareBytes s t = -1) ∧ (Op.bytesLess t s = true → Lib.compareBytes s t = 1) := by
    intro s
    induction s with
    | nil => intro t; cases t <;> simp [Lib.compareBytes, Op.bytesLess]
    | cons x s ih =>
      intro t
      cases t with
      | nil => simp [Lib.compareBytes, Op.bytesLess]
      | cons y t =>
        rw [less_cons, less_cons]
        unfold Lib.compareBytes
        simp only [UInt8.lt_iff_toNat_lt]
        constructor
        · rintro (h | ⟨rfl, h⟩)
          · simp [h]
          · simp [(ih t).1 h]
        · rintro (h | ⟨rfl, h⟩)
          · simp [h, show ¬ x.toNat < y.toNat by omega]
          · simp [(ih t).2 h]
  exact ⟨(h _ _).1, (h _ _).2, fun e => ((compare_ltb a b).2.2 e)⟩
def sgn (up : Bool) : Int := bif up then 1 else -1
theorem cmpStringC_ (a b : ByteArray) (w : World) : Calls Try.prog 54 #[.string a, .string b] w fun e w' => e = .returned (.int .i64 (Lib.compareBytes a.data.toList b.data.toList)) ∧ w' = w := by
  go_enter Try.func54, Try.ntmps54
  go_wp2
  rw [run_callFunc_extern Try.func63 (by kernel_rfl) (by kernel_rfl) (by kernel_rfl) (e := Extern.BytealgCompare.compare) (by kernel_rfl), Lib.run_compareString]
  simp only [Result.andThen]
  rw [Oper.upon_value]
  go_wp2
  go_ret
  exact ⟨rfl, rfl⟩
theorem sCompareC_ (a b : ByteArray) (w : World) : Calls Try.prog 43 #[.string a, .string b] w fun e w' => e = .returned (.int .i64 (Lib.compareBytes a.data.toList b.data.toList)) ∧ w' = w := by
  go_enter Try.func43, Try.ntmps43
  go_wp2_with (first | (go_at_call 54; refine (cmpStringC_ _ _ _).mono ?_; rintro e w' ⟨rfl, rfl⟩) | fail)
  go_ret
  exact ⟨rfl, rfl⟩
theorem below_three (w : World) (a b c : Obj) : Below w.heap.size w (((w.alloc a).alloc b).alloc c) := below_step (below_two w a b) (below_alloc _ c)
theorem three_alloc (w : World) (a b c : Obj) : (((w.alloc a).alloc b).alloc c).heap[w.heap.size + 1 + 1]? = some c := by
  have := new_blk ((w.alloc a).alloc b) c
  simpa [go_sem] using this
set_option maxRecDepth 100000 in
set_option maxHeartbeats 1000000 in
theorem nar_ (a b : En) (up : Bool) (w : World) : Calls Try.prog 31 #[enV a, enV b, .int .i64 (sgn up)] w fun e w' => e = .returned (enV (narE a b up)) ∧ Below w.heap.size w w' := by
  obtain ⟨ta, ha, oa⟩ := a
  obtain ⟨tb, hb, ob⟩ := b
  obtain ⟨s, hs⟩ : ∃ s, s = sgn up := ⟨_, rfl⟩
  obtain ⟨c, hc⟩ : ∃ c, c = Lib.compareBytes ta.data.toList tb.data.toList := ⟨_, rfl⟩
  obtain ⟨m, hm⟩ : ∃ m, m = s * c := ⟨_, rfl⟩
  obtain ⟨R, hR⟩ : ∃ R, R = narE ⟨ta, ha, oa⟩ ⟨tb, hb, ob⟩ up := ⟨_, rfl⟩
  have hcase : (m = 1 ∧ (bif up then ltb tb ta else ltb ta tb) = true) ∨ (m = 0 ∧ (bif up then ltb tb ta else ltb ta tb) = false ∧ sameb ta tb = true) ∨ (m = -1 ∧ (bif up then ltb tb ta else ltb ta tb) = false ∧ sameb ta tb = false) := by
    rw [hm, hs, hc]
    rcases ltb_cases ta tb with q | rfl | q
    · rw [(cmp3 ta tb).1 q]; cases up <;> simp [sgn, q, ltb_asymm q, sameb_lt q]
    · rw [(cmp3 ta ta).2.2 rfl]; cases up <;> simp [ltb_irrefl, sameb_self]
    · rw [(cmp3 ta tb).2.1 q]; cases up <;> simp [sgn, q, ltb_asymm q, sameb_gt q]
  have HC : Hid (∀ W, Calls Try.prog 43 #[.string ta, .string tb] W fun e w' => e = .returned (.int .i64 c) ∧ w' = W) := fun W => by rw [hc]; exact sCompareC_ ta tb W
  have hwr : IntKind.i64.wrap (s * c) = m := by rw [← hm]; rcases hcase with ⟨h, _⟩ | ⟨h, _⟩ | ⟨h, _⟩ <;> rw [h] <;> rfl
  have HE : Hid (∃ A : En, ((ha = false ∧ A = ⟨tb, hb, ob⟩) ∨ (ha = true ∧ hb = false ∧ A = ⟨ta, ha, oa⟩) ∨ (ha = true ∧ hb = true ∧ (((m = 1 ∨ (m = 0 ∧ oa = true)) ∧ A = ⟨ta, ha, oa⟩) ∨ ((m = -1 ∨ (m = 0 ∧ oa = false)) ∧ A = ⟨tb, hb, ob⟩)))) ∧ R = A) := by
    refine ⟨R, ?_, rfl⟩
    rw [hR]
    cases ha with
    | false => exact .inl ⟨rfl, rfl⟩
    | true =>
      cases hb with
      | false => exact .inr (.inl ⟨rfl, rfl, rfl⟩)
      | true =>
        refine .inr (.inr ⟨rfl, rfl, ?_⟩)
        unfold narE
        simp only [if_true]
        rcases hcase with ⟨h, q⟩ | ⟨h, q, q2⟩ | ⟨h, q, q2⟩
        · rw [q]; exact .inl ⟨.inl h, rfl⟩
        · rw [q, q2]
          cases oa with
          | true => exact .inl ⟨.inr ⟨h, rfl⟩, rfl⟩
          | false => exact .inr ⟨.inr ⟨h, rfl⟩, rfl⟩
        · rw [q, q2]; exact .inr ⟨.inl h, rfl⟩
  rw [← hs, ← hR]
  clear hs hc hm hR hcase
  unfold enV
  dsimp only
  obtain ⟨A, HA, hRA⟩ := HE.out
  subst hRA
  clear HE
  have HST := fun e : En => store_en e (three_alloc w (.cells #[.string ta, .bool ha, .bool oa] 54) (.cells #[.string tb, .bool hb, .bool ob] 54) (.cells #[.string ⟨#[]⟩, .bool false, .bool false] 54)) rfl (by omega) (below_three w _ _ _)
  rcases HA with ⟨rfl, rfl⟩ | ⟨rfl, rfl, rfl⟩ | ⟨rfl, rfl, ⟨rfl | ⟨rfl, rfl⟩, rfl⟩ | ⟨rfl | ⟨rfl, rfl⟩, rfl⟩⟩
  · obtain ⟨V, hst, hE, hB, _⟩ := HST ⟨tb, hb, ob⟩
    obtain ⟨c0, c1, c2⟩ := hE.cells
    have HB := Lib.hid hB
    clear hB hE HST
    go_enter Try.func31, Try.ntmps31
    go_wp2_with (first | (go_at_call 43; refine (HC.out _).mono ?_; rintro e w' ⟨rfl, rfl⟩) | (refine wpList_store_at rfl _ _ _ rfl _ _ rfl rfl hst ?_; clear hst) | fail)
    refine bodyPost_ret (v := .agg #[.string tb, .bool hb, .bool ob]) ?_ rfl ⟨rfl, HB.out⟩
    rw [results_cell rfl]
    go_simp
  · obtain ⟨V, hst, hE, hB, _⟩ := HST ⟨ta, true, oa⟩
    obtain ⟨c0, c1, c2⟩ := hE.cells
    have HB := Lib.hid hB
    clear hB hE HST
    go_enter Try.func31, Try.ntmps31
    go_wp2_with (first | (go_at_call 43; refine (HC.out _).mono ?_; rintro e w' ⟨rfl, rfl⟩) | (refine wpList_store_at rfl _ _ _ rfl _ _ rfl rfl hst ?_; clear hst) | fail)
    refine bodyPost_ret (v := .agg #[.string ta, .bool true, .bool oa]) ?_ rfl ⟨rfl, HB.out⟩
    rw [results_cell rfl]
    go_simp
  · obtain ⟨V, hst, hE, hB, _⟩ := HST ⟨ta, true, oa⟩
    obtain ⟨c0, c1, c2⟩ := hE.cells
    have HB := Lib.hid hB
    clear hB hE HST
    go_enter Try.func31, Try.ntmps31
    go_wp2_with (first | (go_at_call 43; refine (HC.out _).mono ?_; rintro e w' ⟨rfl, rfl⟩) | (refine wpList_store_at rfl _ _ _ rfl _ _ rfl rfl hst ?_; clear hst) | fail)
    refine bodyPost_ret (v := .agg #[.string ta, .bool true, .bool oa]) ?_ rfl ⟨rfl, HB.out⟩
    rw [results_cell rfl]
    go_simp
  · obtain ⟨V, hst, hE, hB, _⟩ := HST ⟨ta, true, true⟩
    obtain ⟨c0, c1, c2⟩ := hE.cells
    have HB := Lib.hid hB
    clear hB hE HST
    go_enter Try.func31, Try.ntmps31
    go_wp2_with (first | (go_at_call 43; refine (HC.out _).mono ?_; rintro e w' ⟨rfl, rfl⟩) | (refine wpList_store_at rfl _ _ _ rfl _ _ rfl rfl hst ?_; clear hst) | fail)
    refine bodyPost_ret (v := .agg #[.string ta, .bool true, .bool true]) ?_ rfl ⟨rfl, HB.out⟩
    rw [results_cell rfl]
    go_simp
  · obtain ⟨V, hst, hE, hB, _⟩ := HST ⟨tb, true, ob⟩
    obtain ⟨c0, c1, c2⟩ := hE.cells
    have HB := Lib.hid hB
    clear hB hE HST
    go_enter Try.func31, Try.ntmps31
    go_wp2_with (first | (go_at_call 43; refine (HC.out _).mono ?_; rintro e w' ⟨rfl, rfl⟩) | (refine wpList_store_at rfl _ _ _ rfl _ _ rfl rfl hst ?_; clear hst) | fail)
    refine bodyPost_ret (v := .agg #[.string tb, .bool true, .bool ob]) ?_ rfl ⟨rfl, HB.out⟩
    rw [results_cell rfl]
    go_simp
  · obtain ⟨V, hst, hE, hB, _⟩ := HST ⟨tb, true, ob⟩
    obtain ⟨c0, c1, c2⟩ := hE.cells
    have HB := Lib.hid hB
    clear hB hE HST
    go_enter Try.func31, Try.ntmps31
    go_wp2_with (first | (go_at_call 43; refine (HC.out _).mono ?_; rintro e w' ⟨rfl, rfl⟩) | (refine wpList_store_at rfl _ _ _ rfl _ _ rfl rfl hst ?_; clear hst) | fail)
    refine bodyPost_ret (v := .agg #[.string tb, .bool true, .bool ob]) ?_ rfl ⟨rfl, HB.out⟩
    rw [results_cell rfl]
    go_simp
end Go.Proofs.Yteeojhmdefhlmaa
