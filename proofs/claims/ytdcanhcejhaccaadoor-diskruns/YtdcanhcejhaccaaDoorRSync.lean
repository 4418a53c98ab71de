/- The walks of the document's Sync and Pending, and of the law's ints. -/
import Derived.Test.YtdcanhcejhaccaaDoorRRead
namespace Go.Proofs.YtdcanhcejhaccaaDoor
open Go.RowKit Go.Sort Go.Maps

set_option maxRecDepth 100000 in
set_option maxHeartbeats 4000000 in
theorem ints_ (a a' : Option Addr) (L c c' : Nat) (zs : List Int) (w : World) (hL : L = zs.length) (h : IntsIn w a zs) (h' : IntsIn w a' zs) (hl : L ≤ 1000000) :
    Calls Tryd.prog 12 #[.slice a L c, .slice a' L c'] w fun e w' => e = .returned (.bool true) ∧ Below w.heap.size w w' := by
  have HI := Lib.hid h
  have HI' := Lib.hid h'
  have HL := Lib.hid hL
  clear h h' hL
  go_enter Tryd.func12, Tryd.ntmps12
  go_wp2_with fail
  go_loopw [5] (fun iv wr => ∃ i : Nat, i ≤ L ∧ iv = .int .i64 i ∧ Hid (Below w.heap.size w wr)) (fun iv _ => L - (intOf iv).toNat)
  case atStart => exact ⟨0, Nat.zero_le _, rfl, Below.refl _ _⟩
  case round =>
    obtain ⟨i, hi, rfl, HB⟩ := hrel
    by_cases hlt : i < L
    · have hlt2 : (i : Int) < (L : Int) := by omega
      have hi2 : i < zs.length := by rw [← HL.out]; exact hlt
      obtain ⟨b, o, rfl, q0⟩ := (HI.out.on HB.out) i hi2
      obtain ⟨b', o', rfl, q1⟩ := (HI'.out.on HB.out) i hi2
      generalize zs[i] = z at *
      go_wp2_with fail
      go_quiet (fail)
      have HB1 := Lib.hid (below_drewN HB.out nq)
      go_wp2_with fail
      go_roundw
      case rel => exact ⟨i + 1, by omega, by go_num, HB1⟩
      case measure => simp [intOf]; omega
    · obtain rfl : i = L := by omega
      go_wp2_with fail
      go_ret
      exact ⟨rfl, HB.out⟩
/-- A row of numbers that the call has made. -/
def OwnZ (w : World) (base : Nat) (v : Value) (zs : List Int) : Prop := w.ownsRow base 3 1 v zs.length (zs.map (Value.int .i64))
theorem infoI : (Tryd.prog.info? 3).map (fun i => (i.zero, i.size, i.bytes)) = some (some (.int .i64 0), 1, 8) := by kernel_rfl
theorem ownZ_nil (w : World) (base : Nat) : OwnZ w base (.slice none 0 0) [] := World.ownsRow_nil w base 3 1
theorem OwnZ.on {w w' : World} {base : Nat} {v : Value} {l : List Int} (h : OwnZ w base v l) (hb : Below w.heap.size w w') : OwnZ w' base v l := by
  refine ⟨h.1, ?_⟩
  rcases h.2 with h1 | ⟨g, cap, cur, e, h1, h2, h3, h4, h5, h6⟩
  · exact .inl h1
  · exact .inr ⟨g, cap, cur, e, h1, (hb.block g (blk_lt h2)).trans h2, h3, h4, h5, h6⟩
theorem OwnZ.kept {w w' : World} {base : Nat} {v : Value} {l : List Int} {row : Option Nat} (h : OwnZ w base v l) (hg : w.grownBy w' row) (hr : ∀ k, row = some k → k < base) : OwnZ w' base v l := by
  refine ⟨h.1, ?_⟩
  rcases h.2 with h1 | ⟨g, cap, cur, e, h1, h2, h3, h4, h5, h6⟩
  · exact .inl h1
  · exact .inr ⟨g, cap, cur, e, h1, (hg.block g (blk_lt h2) (fun e => by have := hr g e.symm; omega)).trans h2, h3, h4, h5, h6⟩
/-- append(row, n). -/
theorem wpList_append_z (N : Nat) (w : World) {ops : Array Oper} {rest : List Oper} {o : Oper} {act : Act} {Q : Exit → Act → World → Prop} (hgd : o.guard = none) (s x : Operand)
    (ho : o.op = .call { callee := .builtin .append, args := #[s, x], argTypes := #[40, 40] }) (v : Value) (es : List Int) (z : Int) (hs : act.eval s = v) (hown : OwnZ w N v es)
    (g : Nat) (hx : act.eval x = .slice (some ⟨g, 0, none⟩) 1 1) (hg : w.cell? ⟨g, 0, none⟩ = some (.int .i64 z)) (hlen : es.length ≤ 1000000) (hN : N ≤ w.heap.size)
    (hK : ∀ v' w', OwnZ w' N v' (es ++ [z]) → w.grownBy w' v.ownBlock → wpList Tryd.prog ops Q rest (act.put o.dst v') w') : wpList Tryd.prog ops Q (o :: rest) act w := by
  obtain ⟨i0, hi, hz0, hz1, hz2⟩ := info_parts infoI
  refine wpList_plain hgd fun K hKK => ?_
  obtain ⟨v', w', hr, h2, h3, _⟩ := run_append_own_at (P := Tryd.prog) w N 40 o.type 3 i0 (.int .i64 0) 1 8 Tryd.underlying40 hi hz0 hz1 hz2 rfl (by decide) v es.length _ hown ⟨g, 0, none⟩ 1 1 [.int .i64 z] rfl
    (fun j u hj => by
      cases j with
      | zero => simp at hj; subst hj; exact hg
      | succ j => simp at hj) (by intro u hu; simp at hu; subst hu; rfl) (by unfold maxLen; omega) (by omega) hN
  unfold Oper.wp execOp
  simp only [ho, resolve, invoke, builtin, Sem.run_bind, Sem.run_pure, Result.andThen_ok, List.map_toArray, List.map_cons, List.map_nil, hs, hx, hr]
  refine hKK _ _ (hK v' w' ?_ h3)
  unfold OwnZ
  rw [List.length_append, List.map_append]
  exact h2
theorem OwnZ.ints {w : World} {base : Nat} {v : Value} {zs : List Int} (h : OwnZ w base v zs) : ∃ a c, v = .slice a zs.length c ∧ IntsIn w a zs := by
  rcases h.2 with ⟨rfl, e⟩ | ⟨g, cap, cur, rfl, _, hg, h3, h4, _, ht⟩
  · have : zs = [] := List.eq_nil_of_length_eq_zero e
    subst this
    exact ⟨none, 0, rfl, intsIn_nil _ _⟩
  · refine ⟨_, _, rfl, fun i hi => ⟨g, 0, rfl, ?_⟩⟩
    have e : (zs.map (Value.int .i64))[i]? = some (.int .i64 zs[i]) := by simp [hi]
    rw [← ht, List.getElem?_take_of_lt (by omega), Array.getElem?_toList] at e
    rw [Nat.zero_add]
    exact cell_of hg e
def pendS8 (g : Int) (l : List RS) : List Int := (l.filter (fun y => decide (y.key.1 = g) && y.pend)).map (·.key.2)
theorem pendS8_take {g : Int} {l : List RS} {i : Nat} (h : i < l.length) : pendS8 g (l.take (i + 1)) = if l[i].key.1 = g ∧ l[i].pend = true then pendS8 g (l.take i) ++ [l[i].key.2] else pendS8 g (l.take i) := by
  unfold pendS8
  rw [List.take_succ_eq_append_getElem h, List.filter_append, List.map_append]
  by_cases h1 : l[i].key.1 = g <;> by_cases h2 : l[i].pend = true <;> simp [h1, h2]
theorem pendS8_len (g : Int) (l : List RS) : (pendS8 g l).length ≤ l.length := by
  unfold pendS8
  rw [List.length_map]
  exact List.length_filter_le _ _
set_option maxRecDepth 100000 in
set_option maxHeartbeats 4000000 in
theorem rpend_ (r s lf : Int) (cr ar : Bool) (a : Option Addr) (L c : Nat) (l : List RS) (g : Int) (w : World) (hL : L = l.length) (h : SecsIn w a l) (hl : L ≤ 1000) :
    Calls Tryd.prog 14 #[.agg #[.int .i64 r, .int .i64 s, .slice a L c, .bool cr, .bool ar, .int .i64 lf], .int .i64 g] w fun e w' => (∃ a' c', e = .returned (.slice a' (pendS8 g l).length c') ∧ IntsIn w' a' (pendS8 g l)) ∧ Below w.heap.size w w' := by
  obtain ⟨W, hW⟩ : ∃ W, W = w.alloc (.cells #[.int .i64 r, .int .i64 s, .slice a L c, .bool cr, .bool ar, .int .i64 lf] 32) := ⟨_, rfl⟩
  have hB : Below w.heap.size w W := by rw [hW]; exact below_alloc w _
  have hg : W.heap[w.heap.size]? = some (.cells #[.int .i64 r, .int .i64 s, .slice a L c, .bool cr, .bool ar, .int .i64 lf] 32 (0, 0)) := by rw [hW]; exact alloc_at w _
  have HG := Lib.hid hg
  have HI := Lib.hid (h.on hB)
  have HL := Lib.hid hL
  have HB := Lib.hid hB
  have HW := Lib.hid hW
  clear h hL hB hg hW
  go_enter Tryd.func14, Tryd.ntmps14
  go_wp2_with fail
  rw [← HW.out]
  clear HW
  go_loopw [5, 6] (fun sv iv wr => ∃ (ov : Value) (i : Nat), ov = sv ∧ i ≤ L ∧ iv = .int .i64 i ∧ Hid (OwnZ wr W.heap.size ov (pendS8 g (l.take i))) ∧ Hid (Below W.heap.size W wr)) (fun _ iv _ => L - (intOf iv).toNat)
  case atStart => exact ⟨_, 0, rfl, Nat.zero_le _, rfl, ownZ_nil _ _, Below.refl _ _⟩
  case round =>
    obtain ⟨ov, i, rfl, hi, rfl, HO, HBr⟩ := hrel
    obtain ⟨_, _, c2, _, _, _⟩ := rd_cells ((HBr.out.block _ (blk_lt HG.out)).trans HG.out)
    by_cases hlt : i < L
    · have hlt2 : (i : Int) < (L : Int) := by omega
      have hi2 : i < l.length := by rw [← HL.out]; exact hlt
      obtain ⟨b, o, rfl, hs⟩ := (HI.out.on HBr.out) i hi2
      obtain ⟨q0, q1, _, _, q4⟩ := hs.cells
      have HQ1 : Hid (∀ o', (wr.alloc o').cell? ⟨b, o + i * 5 + 1, none⟩ = some (.int .i64 (l[i]).key.2)) := fun o' => ((below_alloc wr o').cell (block_lt_of_cell q1)).trans q1
      clear hs
      have HP := Lib.hid (pendS8_take (g := g) hi2)
      have hlen : (pendS8 g (l.take i)).length ≤ 1000000 := by have := pendS8_len g (l.take i); rw [List.length_take] at this; omega
      have hsz := HBr.out.size
      generalize (l[i]).key = kk at *
      generalize (l[i]).pend = pe at *
      obtain ⟨x1, x2⟩ := kk
      simp only at q0 q1 HP HQ1
      by_cases h1 : x1 = g
      · have k1 : (x1 == g) = true := by simpa using h1
        cases pe
        · have HO1 : Hid (OwnZ wr W.heap.size ov (pendS8 g (l.take (i + 1)))) := by rw [HP.out, if_neg (by simp)]; exact HO.out
          clear HP HQ1 h1
          go_wp2_with fail
          go_roundw
          case rel => exact ⟨_, i + 1, rfl, by omega, by go_num, HO1, HBr⟩
          case measure => simp [intOf]; omega
        · rw [if_pos ⟨h1, rfl⟩] at HP
          clear h1
          go_wp2_with (first
            | (at_builtin; refine wpList_append_z W.heap.size _ rfl _ _ rfl ov (pendS8 g (l.take i)) x2 rfl (HO.out.on (below_alloc _ _)) wr.heap.size rfl (cell_of (alloc_at wr _) rfl) hlen (by simp; omega) ?_
               intro v1 w3 hown1 hg3
               have HO1 : Hid (OwnZ w3 W.heap.size v1 (pendS8 g (l.take (i + 1)))) := by rw [HP.out]; exact hown1
               have HB3 : Hid (Below W.heap.size W w3) := (HBr.out.alloc hsz _).grown hg3 (by simp; omega) (fun k hk => (World.ownsRow.lt HO.out k hk).1)
               clear hown1 hg3)
            | fail)
          go_roundw
          case rel => exact ⟨_, i + 1, rfl, by omega, by go_num, HO1, HB3⟩
          case measure => simp [intOf]; omega
      · have k1 : (x1 == g) = false := by simpa using h1
        have HO1 : Hid (OwnZ wr W.heap.size ov (pendS8 g (l.take (i + 1)))) := by rw [HP.out, if_neg (fun e => h1 e.1)]; exact HO.out
        clear HP HQ1 h1
        go_wp2_with fail
        go_roundw
        case rel => exact ⟨_, i + 1, rfl, by omega, by go_num, HO1, HBr⟩
        case measure => simp [intOf]; omega
    · obtain rfl : i = L := by omega
      have hO := HO.out
      rw [List.take_of_length_le (by rw [HL.out]; exact Nat.le_refl _)] at hO
      obtain ⟨a', c', rfl, hin⟩ := hO.ints
      have HE := Lib.hid (And.intro hin (below_step HB.out HBr.out))
      clear hin hO HO
      go_wp2_with fail
      go_ret
      exact ⟨⟨a', c', rfl, HE.out.1⟩, HE.out.2⟩
end Go.Proofs.YtdcanhcejhaccaaDoor
