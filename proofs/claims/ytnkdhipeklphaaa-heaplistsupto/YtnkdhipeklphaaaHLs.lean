/- Lists copied into a row of one's own; the walk of the law's ints; none merged. -/
import Derived.Test.YtnkdhipeklphaaaHTx
namespace Go.Proofs.Ytnkdhipeklphaaa
open Go.RowKit Go.Sort

/-- The first lists, one behind the other. -/
def cat (ls : Nat → List ByteArray) : Nat → List ByteArray
  | 0 => []
  | n + 1 => cat ls n ++ ls n
theorem cat_len (ls : Nat → List ByteArray) : ∀ n, (cat ls n).length = tot ls n
  | 0 => rfl
  | n + 1 => by simp only [cat, List.length_append, cat_len ls n, tot]
theorem tot_mono (ls : Nat → List ByteArray) {i n : Nat} (h : i ≤ n) : tot ls i ≤ tot ls n := by
  induction h with
  | refl => exact Nat.le_refl _
  | step _ ih => exact Nat.le_trans ih (Nat.le_add_right _ _)
theorem tot_one (ls : Nat → List ByteArray) {i n : Nat} (h : i < n) : (ls i).length ≤ tot ls n := by
  have h1 : tot ls (i + 1) ≤ tot ls n := tot_mono ls h
  have h2 : tot ls (i + 1) = tot ls i + (ls i).length := rfl
  omega
theorem tot_zero {cur : Nat → List ByteArray} : ∀ {n : Nat}, (∀ i, i < n → cur i = []) → tot cur n = 0
  | 0, _ => rfl
  | n + 1, h => by
    have h1 : tot cur n = 0 := tot_zero (fun i hi => h i (by omega))
    simp only [tot, h n (by omega), List.length_nil, h1]
theorem Mg.len {n : Nat} {cur : Nat → List ByteArray} {o : List ByteArray} (h : Mg n cur o) : o.length = tot cur n := by
  induction o generalizing cur with
  | nil => rw [tot_zero h]; rfl
  | cons s out ih =>
    obtain ⟨i, t, hi, e, _, h1⟩ := h
    have := tot_upd e hi
    rw [List.length_cons, ih h1]
    omega
theorem vls_snoc (n : Nat) (f : Nat → Value) (m : Value) : vls n f ++ [m] = vls (n + 1) (updF f n m) := by
  unfold vls
  rw [List.range_succ, List.map_append, List.map_singleton, updF_at]
  congr 1
  apply List.map_congr_left
  intro a ha
  rw [updF_old (by have := List.mem_range.1 ha; omega)]
/-- append(row, texts...), at the operation: where the row then lies. -/
theorem wp_append_texts2 (w : World) {o : Oper} {act : Act} {K : Act → World → Prop} {Q : Exit → Act → World → Prop} (s x : Operand)
    (ho : o.op = .call { callee := .builtin .append, args := #[s, x], argTypes := #[23, 23] }) (base : Nat) (v : Value) (es ys : List ByteArray) (hs : act.eval s = v) (hown : OwnT w base v es)
    (a : Option Addr) (m c' : Nat) (hx : act.eval x = .slice a m c') (hm : ys.length = m) (hnil : a = none → c' = 0) (hin : Tx w a ys) (hlen : es.length + ys.length ≤ 4000000) (hbase : base ≤ w.heap.size)
    (hK : ∀ v' w', OwnT w' base v' (es ++ ys) → w.grownBy w' v.ownBlock → (v'.ownBlock = v.ownBlock ∨ v'.ownBlock = some w.heap.size) → K (act.put o.dst v') w') : o.wp Try.prog act w K Q := by
  obtain ⟨i0, hi, hz0, hz1, hz2⟩ := info_parts info9
  subst hm
  cases a with
  | none =>
    obtain rfl := tx_none hin
    obtain rfl := hnil rfl
    have hrun := run_append_owned_none (P := Try.prog) w base 23 o.type 9 i0 1 Try.underlying23 hi _ _ _ hown
    unfold Oper.wp
    simp only [List.length_nil] at hx
    simp [execOp, ho, resolve, invoke, builtin, hs, hx, hrun, Result.andThen]
    have := hK v w (by rw [List.append_nil]; exact hown) ⟨rfl, rfl, rfl, Nat.le_refl _, fun _ _ _ => rfl⟩ (.inl rfl)
    exact this
  | some ad =>
    obtain ⟨v', w', hr, h2, h3, _, h5⟩ := run_append_own_at (P := Try.prog) w base 23 o.type 9 i0 (.string ⟨#[]⟩) 1 16 Try.underlying23 hi hz0 hz1 hz2 rfl (by decide) v es.length (strs es) hown ad ys.length c' (strs ys) (by rw [strs_len]; omega) hin.news (strs_one ys) (by unfold maxLen; omega) (by omega) hbase
    unfold Oper.wp execOp
    simp only [ho, resolve, invoke, builtin, Sem.run_bind, Sem.run_pure, Result.andThen_ok, List.map_toArray, List.map_cons, List.map_nil, hs, hx, hr]
    exact hK v' w' (ownT_join h2) h3 h5
/-- The same at a plain region's list. -/
theorem wpList_append_texts2 (w : World) {ops : Array Oper} {rest : List Oper} {o : Oper} {act : Act} {Q : Exit → Act → World → Prop} (hgd : o.guard = none) (s x : Operand)
    (ho : o.op = .call { callee := .builtin .append, args := #[s, x], argTypes := #[23, 23] }) (base : Nat) (v : Value) (es ys : List ByteArray) (hs : act.eval s = v) (hown : OwnT w base v es)
    (a : Option Addr) (m c : Nat) (hx : act.eval x = .slice a m c) (hm : ys.length = m) (hnil : a = none → c = 0) (hin : Tx w a ys) (hlen : es.length + ys.length ≤ 4000000) (hbase : base ≤ w.heap.size)
    (hK : ∀ v' w', OwnT w' base v' (es ++ ys) → w.grownBy w' v.ownBlock → (v'.ownBlock = v.ownBlock ∨ v'.ownBlock = some w.heap.size) → wpList Try.prog ops Q rest (act.put o.dst v') w') : wpList Try.prog ops Q (o :: rest) act w :=
  wpList_plain hgd fun _ hK' => wp_append_texts2 w s x ho base v es ys hs hown a m c hx hm hnil hin hlen hbase fun v' w' h1 h2 h3 => hK' _ _ (hK v' w' h1 h2 h3)
theorem owns_keep {w w' : World} {base sz : Nat} {ty : TypeId} {v : Value} {n : Nat} {xs : List Value} (h : w.ownsRow base ty sz v n xs) (hk : ∀ g c, v.ownBlock = some g → w.heap[g]? = some (.cells c ty (0, 0)) → w'.heap[g]? = w.heap[g]?) : w'.ownsRow base ty sz v n xs := by
  refine ⟨h.1, ?_⟩
  rcases h.2 with h1 | ⟨g, cap, cur, e, h1, h2, h3⟩
  · exact .inl h1
  · exact .inr ⟨g, cap, cur, e, h1, (hk g cur (by rw [e]; rfl) h2).trans h2, h3⟩
theorem owns_type {w : World} {base sz : Nat} {ty : TypeId} {v : Value} {n : Nat} {xs : List Value} (h : w.ownsRow base ty sz v n xs) {g : Nat} (hg : v.ownBlock = some g) : ∃ c, w.heap[g]? = some (.cells c ty (0, 0)) := by
  rcases h.2 with ⟨e, _⟩ | ⟨g', cap, cur, e, _, h2, _⟩
  · rw [e] at hg; cases hg
  · rw [e] at hg; cases hg; exact ⟨cur, h2⟩
theorem owns_base {w : World} {base base' sz : Nat} {ty : TypeId} {v : Value} {n : Nat} {xs : List Value} (h : w.ownsRow base ty sz v n xs) (hb : base' ≤ base) : w.ownsRow base' ty sz v n xs := by
  refine ⟨h.1, ?_⟩
  rcases h.2 with h1 | ⟨g, cap, cur, e, h1, h2⟩
  · exact .inl h1
  · exact .inr ⟨g, cap, cur, e, Nat.le_trans hb h1, h2⟩
/-- How it stands behind the first lists: copies of them in a row, and texts in another. -/
def LSt (w0 w : World) (B i : Nat) (ls : Nat → List ByteArray) (mv fv : Value) (es : List ByteArray) (f : Nat → Value) : Prop :=
  w.ownsRow B 23 1 mv i (vls i f) ∧ (∀ j, j < i → OwnT w B (f j) (ls j) ∧ ∀ g, (f j).ownBlock = some g → fv.ownBlock ≠ some g) ∧ OwnT w B fv es ∧ Below B w0 w ∧ B ≤ w0.heap.size
theorem lst_start (w : World) (ls : Nat → List ByteArray) : LSt w w w.heap.size 0 ls (.slice none 0 0) (.slice none 0 0) (cat ls 0) (fun _ => .nilIface) :=
  ⟨World.ownsRow_nil _ _ _ _, fun j hj => by omega, World.ownsRow_nil _ _ _ _, Below.refl _ _, Nat.le_refl _⟩
/-- One list is copied; the copy is laid into the row. -/
theorem lst_copy {w0 w w1 w2 : World} {B i : Nat} {ls : Nat → List ByteArray} {mv fv mv2 m : Value} {es : List ByteArray} {f : Nat → Value} {o : Obj} (h : LSt w0 w B i ls mv fv es f) (hm : OwnT w1 w.heap.size m (ls i)) (hb1 : Below w.heap.size w w1)
    (h2 : w2.ownsRow B 23 1 mv2 (i + 1) (vls i f ++ [m])) (hg : (w1.alloc o).grownBy w2 mv.ownBlock) : LSt w0 w2 B (i + 1) ls mv2 fv es (updF f i m) := by
  obtain ⟨k1, k2, k3, k4, k5⟩ := h
  have hBs : B ≤ w.heap.size := Nat.le_trans k5 k4.size
  have K := keep_grown (owns_on2 k1 hb1) hg
  have keep : ∀ {v : Value} {l : List ByteArray}, OwnT w1 B v l → OwnT w2 B v l := fun hv => owns_keep hv (fun g c _ hg' => K g c 9 _ hg' (by decide))
  refine ⟨by rw [← vls_snoc]; exact h2, fun j hj => ?_, keep (k3.on hb1), ?_, k5⟩
  · by_cases hji : j = i
    · subst hji
      rw [updF_at]
      refine ⟨keep (owns_base hm hBs), fun g hg1 hg2 => ?_⟩
      have h1 := (World.ownsRow.lt hm g hg1).1
      have h3 := (World.ownsRow.lt k3 g hg2).2
      omega
    · rw [updF_old hji]
      obtain ⟨q1, q2⟩ := k2 j (by omega)
      exact ⟨keep (q1.on hb1), q2⟩
  · refine (k4.trans (hb1.mono hBs)).trans ?_
    have ha : Below B w1 (w1.alloc o) := (Below.refl _ _).alloc (Nat.le_trans hBs hb1.size) _
    exact ha.grown hg (Nat.le_trans hBs (Nat.le_trans hb1.size ha.size)) (fun k hk => (World.ownsRow.lt k1 k hk).1)
/-- Texts are laid behind the others. -/
theorem lst_first {w0 w w' : World} {B i : Nat} {ls : Nat → List ByteArray} {mv fv fv' : Value} {es es' : List ByteArray} {f : Nat → Value} (h : LSt w0 w B i ls mv fv es f) (hf : OwnT w' B fv' es') (hg : w.grownBy w' fv.ownBlock)
    (hw : fv'.ownBlock = fv.ownBlock ∨ fv'.ownBlock = some w.heap.size) : LSt w0 w' B i ls mv fv' es' f := by
  obtain ⟨k1, k2, k3, k4, k5⟩ := h
  refine ⟨k1.kept hg ?_, fun j hj => ?_, hf, k4.grown hg (Nat.le_trans k5 k4.size) (fun k hk => (World.ownsRow.lt k3 k hk).1), k5⟩
  · cases e : mv.ownBlock with
    | none => exact .inl rfl
    | some g =>
      refine .inr fun e2 => ?_
      obtain ⟨c1, h1⟩ := owns_type k1 e
      obtain ⟨c2, h2⟩ := owns_type k3 e2.symm
      rw [h1] at h2
      simp only [Option.some.injEq, Obj.cells.injEq] at h2
      exact absurd h2.2.1 (by decide)
  · obtain ⟨q1, q2⟩ := k2 j hj
    refine ⟨q1.kept hg ?_, fun g hgj hgf => ?_⟩
    · cases e : (f j).ownBlock with
      | none => exact .inl rfl
      | some g => exact .inr fun e2 => q2 g e e2.symm
    · rcases hw with e | e
      · exact q2 g hgj (e ▸ hgf)
      · rw [e] at hgf
        cases hgf
        exact absurd (World.ownsRow.lt q1 _ hgj).2 (Nat.lt_irrefl _)
theorem LSt.on {w0 w w' : World} {B i : Nat} {ls : Nat → List ByteArray} {mv fv : Value} {es : List ByteArray} {f : Nat → Value} (h : LSt w0 w B i ls mv fv es f) (hb : Below w.heap.size w w') : LSt w0 w' B i ls mv fv es f := by
  obtain ⟨k1, k2, k3, k4, k5⟩ := h
  exact ⟨owns_on2 k1 hb, fun j hj => ⟨(k2 j hj).1.on hb, (k2 j hj).2⟩, k3.on hb, k4.trans (hb.mono (Nat.le_trans k5 k4.size)), k5⟩
/-- The row, as it is read. -/
theorem LSt.row {w0 w : World} {B i : Nat} {ls : Nat → List ByteArray} {mv fv : Value} {es : List ByteArray} {f : Nat → Value} (h : LSt w0 w B i ls mv fv es f) (hi : 0 < i) : ∃ g cap, mv = .slice (some ⟨g, 0, none⟩) i cap ∧ ∀ j, j < i → w.cell? ⟨g, 0 + j, none⟩ = some (f j) := by
  rcases h.1.2 with ⟨_, e⟩ | ⟨g, cap, cur, e, _, h2, h3, h4, h5, h6⟩
  · omega
  · refine ⟨g, cap, e, fun j hj => ?_⟩
    have := vls_get (f := f) hj
    rw [← h6, List.getElem?_take_of_lt (by omega), Array.getElem?_toList] at this
    rw [Nat.zero_add]; exact cell_of h2 this
/-- Numbers behind a slice. -/
def Nx (w : World) (a : Option Addr) (l : List Int) : Prop := ∀ i, i < l.length → ∃ b o, a = some ⟨b, o, none⟩ ∧ w.cell? ⟨b, o + i, none⟩ = some (.int .i64 (l.getD i 0))
theorem Nx.on {w w' : World} {a : Option Addr} {l : List Int} (h : Nx w a l) (hb : Below w.heap.size w w') : Nx w' a l := by
  intro i hi
  obtain ⟨b, o, e, h1⟩ := h i hi
  exact ⟨b, o, e, (hb.cell (block_lt_of_cell h1)).trans h1⟩
theorem OwnN.nx {w : World} {base : Nat} {v : Value} {l : List Int} (h : OwnN w base v l) : ∃ a c, v = .slice a l.length c ∧ Nx w a l := by
  obtain ⟨a, c, e, h1, _⟩ := h.shape
  refine ⟨a, c, e, fun i hi => ?_⟩
  obtain ⟨g, e2, h2⟩ := h1 i hi
  exact ⟨g, 0, e2, by rw [Nat.zero_add]; exact h2⟩
set_option maxHeartbeats 1000000 in
/-- Two slices of the same numbers. -/
theorem ints_ (a a' : Option Addr) (L c c' : Nat) (l : List Int) (w : World) (hL : L = l.length) (h : Nx w a l) (h' : Nx w a' l) (hl : l.length ≤ 4000000) :
    Calls Try.prog 10 #[.slice a L c, .slice a' L c'] w fun e w' => e = .returned (.bool true) ∧ Below w.heap.size w w' := by
  have HI := Lib.hid h
  have HI' := Lib.hid h'
  have HL := Lib.hid hL
  rw [← hL] at hl
  clear h h' hL
  go_enter Try.func10, Try.ntmps10
  go_wp2_with fail
  go_loopw [5] (fun iv wr => ∃ i : Nat, i ≤ L ∧ iv = .int .i64 i ∧ Hid (Below w.heap.size w wr)) (fun iv _ => L - (intOf iv).toNat)
  case atStart => exact ⟨0, Nat.zero_le _, rfl, Below.refl _ _⟩
  case round =>
    obtain ⟨i, hi, rfl, HB⟩ := hrel
    by_cases hlt : i < L
    · have hlt2 : (i : Int) < (L : Int) := by omega
      have hi2 : i < l.length := by rw [← HL.out]; exact hlt
      obtain ⟨b, o, rfl, q0⟩ := (HI.out.on HB.out) i hi2
      obtain ⟨b', o', rfl, q2⟩ := (HI'.out.on HB.out) i hi2
      generalize l.getD i 0 = xi at *
      go_wp2_with fail
      go_quiet (fail)
      have HB1 := Lib.hid (below_drewN HB.out nq)
      go_wp2_with fail
      go_roundw
      case rel => exact ⟨i + 1, by omega, by go_num, HB1⟩
      case measure => simp [intOf]; omega
    · obtain rfl : i = L := by omega
      go_wp2_with fail
      go_ret
      exact ⟨rfl, HB.out⟩
theorem clones_nil (w : World) : Calls Try.prog 16 #[.slice none 0 0] w fun e w' => e = .returned (.slice none 0 0) ∧ w' = w := by
  have q1 : ∀ (w : World) (a : Option Addr) (n c n' c' : Nat), (binOp .eql 22 (.slice a n c) (.slice none n' c')).run Try.prog w = .ok (.bool a.isNone) w := fun w a n c n' c' => Lib.run_eql_slice_nil w _ _ a n c n' c' Try.underlying22
  go_enter Try.func16, Try.ntmps16
  go_wp2_with fail
  go_ret
  exact ⟨rfl, rfl⟩
/-- None are merged. -/
theorem merge_nil (w : World) : Calls Try.prog 6 #[.slice none 0 0] w fun e w' => e = .returned (.slice none 0 0) ∧ Below w.heap.size w w' := by
  have HC := Lib.hid (clones_nil w)
  go_enter Try.func6, Try.ntmps6
  go_wp2_with fail
  refine HC.out.mono ?_
  rintro e w1 ⟨rfl, rfl⟩
  obtain ⟨hb, hhb⟩ : ∃ hb, hb = w1.heap.size := ⟨_, rfl⟩
  obtain ⟨W0, hW0⟩ : ∃ W0, W0 = w1.alloc (.cells #[.slice none 0 0] 45) := ⟨_, rfl⟩
  have HBA : Hid (Below w1.heap.size w1 W0) := by rw [hW0]; exact (Below.refl _ _).alloc (Nat.le_refl _) _
  have hcell : W0.cell? ⟨hb, 0, none⟩ = some (.slice none 0 0) := by rw [hW0, hhb]; exact cell_of (heap_alloc_new _ _) rfl
  have HW0 := Lib.hid hW0
  have HHB := Lib.hid hhb
  clear hW0 HC hhb
  go_wp2_with fail
  rw [← HW0.out, ← HHB.out]
  go_loopw [13] (fun iv wr => iv = .int .i64 0 ∧ Hid (wr = W0)) (fun iv _ => 0)
  case atStart => exact ⟨rfl, rfl⟩
  case round =>
    obtain ⟨rfl, HW⟩ := hrel
    obtain rfl : wr = W0 := HW.out
    clear HW HW0 HHB
    go_wp2_with fail
    go_loopg [7] 1 (fun g ov wq => ov = .slice none 0 0 ∧ Hid (wq = wr))
    case atStart => exact ⟨rfl, rfl⟩
    case round =>
      obtain ⟨rfl, HW⟩ := hrel
      obtain rfl := HW.out
      clear HW
      go_wp2_with fail
      go_ret
      exact ⟨rfl, HBA.out⟩
end Go.Proofs.Ytnkdhipeklphaaa
