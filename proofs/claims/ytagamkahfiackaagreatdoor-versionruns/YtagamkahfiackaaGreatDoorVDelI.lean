/- slices.Delete and slices.Clone at items. -/
import Derived.Test.YtagamkahfiackaaGreatDoorVRow
import Derived.Deep.RegionLaw
namespace Go.Proofs.YtagamkahfiackaaGreatDoor
open Go.RowKit Go.Sort

/-- What Delete leaves. -/
def DelToI (w : World) (v : Value) (n : Nat) (zs : List Value) (e : Ending) (w' : World) : Prop :=
  ∃ g c, v.ownBlock = some g ∧ e = .returned (.slice (some ⟨g, 0, none⟩) n c) ∧ w'.ownsRow 0 99 2 (.slice (some ⟨g, 0, none⟩) n c) n zs ∧ w.grownBy w' v.ownBlock
theorem zerosI (w : World) : (zeroValue 99).run Tryz.prog w = .ok (.agg #[.string ⟨#[]⟩, .slice none 0 0]) w := by
  obtain ⟨i0, hi0, hz0, hz1, hz2⟩ := info_parts infoVI
  simp [zeroValue, typeInfo, hi0, hz0]
theorem zerosI_one (n : Nat) : ∀ u ∈ (Builtin.zeroCells (Value.cells (.agg #[.string ⟨#[]⟩, .slice none 0 0])) n).toList, u.oneCell' = true := by
  intro u hu
  simp only [Builtin.zeroCells, Array.toList_map, List.mem_map] at hu
  obtain ⟨k, _, rfl⟩ := hu
  have hk : k % (Value.cells (.agg #[.string ⟨#[]⟩, .slice none 0 0])).size < 2 := Nat.mod_lt _ (by decide)
  generalize k % (Value.cells (.agg #[.string ⟨#[]⟩, .slice none 0 0])).size = m at hk
  match m, hk with
  | 0, _ => rfl
  | 1, _ => rfl
set_option maxRecDepth 100000 in
set_option maxHeartbeats 2000000 in
theorem delI_ {w : World} {v : Value} {n i j : Nat} {xs : List Value} (h : w.ownsRow 0 99 2 v n xs) (hij : i < j) (hj : j ≤ n) (hn : n ≤ 1000) (hx1 : ∀ u ∈ xs, u.oneCell' = true) :
    Calls Tryz.prog 71 #[v, .int .i64 i, .int .i64 j] w (DelToI w v (i + (n - j)) (xs.take (i * 2) ++ xs.drop (j * 2))) := by
  obtain ⟨i0, hi0, hz0, hz1, hz2⟩ := info_parts infoVI
  obtain ⟨g, c, cur, rfl, hg, hnc, hcm, hcs, hx⟩ := row_open h (by omega)
  have hxl : xs.length = n * 2 := h.1
  have hcm' : c ≤ 9223372036854775807 := by unfold maxLen at hcm; omega
  have hdl : (xs.drop (j * 2)).length = (n - j) * 2 := by rw [List.length_drop, hxl]; omega
  obtain ⟨A1, hA1⟩ : ∃ A1, A1 = cur.toList.take (i * 2) ++ xs.drop (j * 2) ++ cur.toList.drop (i * 2 + (xs.drop (j * 2)).length) := ⟨_, rfl⟩
  obtain ⟨zs, hzs⟩ : ∃ zs, zs = (Builtin.zeroCells (Value.cells (.agg #[.string ⟨#[]⟩, .slice none 0 0])) (n - (i + (n - j)))).toList := ⟨_, rfl⟩
  have hzl : zs.length = (j - i) * 2 := by
    rw [hzs, Array.length_toList, size_zeroCells, show (Value.cells (.agg #[.string ⟨#[]⟩, .slice none 0 0])).size = 2 from rfl]; congr 1; omega
  obtain ⟨A2, hA2⟩ : ∃ A2, A2 = A1.take ((i + (n - j)) * 2) ++ zs ++ A1.drop ((i + (n - j)) * 2 + zs.length) := ⟨_, rfl⟩
  have l1 : A1.length = c * 2 := by
    rw [hA1]; simp only [List.length_append, List.length_take, List.length_drop, hdl, Array.length_toList, hcs]; omega
  have l2 : A2.length = c * 2 := by
    rw [hA2]; simp only [List.length_append, List.length_take, List.length_drop, l1, hzl]; omega
  have l3 : A2.take ((i + (n - j)) * 2) = xs.take (i * 2) ++ xs.drop (j * 2) := by
    rw [hA2, List.append_assoc, List.take_append_of_le_length (by rw [List.length_take, l1]; omega), List.take_take, Nat.min_self, hA1]
    have e : cur.toList.take (i * 2) = xs.take (i * 2) := by rw [← hx, List.take_take, Nat.min_eq_left (by omega)]
    rw [e]
    exact List.take_left' (by rw [List.length_append, List.length_take, hxl, hdl]; omega)
  obtain ⟨A, hA, hsrc⟩ : ∃ A : Addr, (if c = j then some (⟨g, 0, none⟩ : Addr) else some ⟨g, j * 2, none⟩) = some A ∧ Hid (∀ t u, (xs.drop (j * 2))[t]? = some u → w.drew.cell? (A.add t) = some u) := by
    by_cases hcj : c = j
    · refine ⟨⟨g, 0, none⟩, by simp [hcj], fun t u hu => ?_⟩
      have h0 : (xs.drop (j * 2)).length = 0 := by rw [hdl]; omega
      rw [List.length_eq_zero_iff.1 h0] at hu
      simp at hu
    · refine ⟨⟨g, j * 2, none⟩, by simp [hcj], fun t u hu => ?_⟩
      rw [Addr.add_lit]
      rw [List.getElem?_drop, ← hx, List.getElem?_take] at hu
      split at hu
      · refine cell_of (show w.drew.heap[g]? = _ from hg) ?_
        simpa using hu
      · cases hu
  obtain ⟨W1, hW1⟩ : ∃ W1, W1 = w.drew.setRow g A1.toArray := ⟨_, rfl⟩
  obtain ⟨W2, hW2⟩ : ∃ W2, W2 = W1.setRow g A2.toArray := ⟨_, rfl⟩
  have b1 : W1.heap[g]? = some (.cells A1.toArray 99 (0, 0)) := by rw [hW1]; exact setRow_heap _ _ _ _ _ _ (show w.drew.heap[g]? = _ from hg)
  have b2 : W2.heap[g]? = some (.cells A2.toArray 99 (0, 0)) := by rw [hW2]; exact setRow_heap _ _ _ _ _ _ b1
  have hap : ∀ ty sc, (Builtin.append_ #[100, 100] ty #[.slice (some ⟨g, 0, none⟩) i c, .slice (some A) (n - j) sc]).run Tryz.prog w.drew = .ok (.slice (some ⟨g, 0, none⟩) (i + (n - j)) c) W1 := fun ty sc => by
    have := run_append_room (P := Tryz.prog) w.drew 100 ty 99 i0 Tryz.underlying100 hi0 g i c cur (show w.drew.heap[g]? = _ from hg) A (n - j) sc (xs.drop (j * 2)) (by rw [hdl, hz1]) hsrc.out (fun u hu => hx1 u (List.mem_of_mem_drop hu)) (by omega) (by rw [hz1, hdl, hcs]; omega)
    rw [this, hW1, hA1, hz1]
  have hclr : ∀ ty sc, (Builtin.clear_ #[100] ty #[.slice (some ⟨g, (i + (n - j)) * 2, none⟩) (n - (i + (n - j))) sc]).run Tryz.prog W1 = .ok (.tuple #[]) W2 := fun ty sc => by
    have := run_clear_sz (P := Tryz.prog) W1 100 99 ty (.agg #[.string ⟨#[]⟩, .slice none 0 0]) Tryz.underlying100 (zerosI W1) g ((i + (n - j)) * 2) (n - (i + (n - j))) sc (by omega) A1.toArray 99 b1 zs hzs.symm (by rw [hzl, List.size_toArray, l1]; omega) (by rw [hzs]; exact zerosI_one _)
    rw [this, hW2, hA2]
    try simp only [Nat.mul_one]
  have HZ : Hid (DelToI w (.slice (some ⟨g, 0, none⟩) n c) (i + (n - j)) (xs.take (i * 2) ++ xs.drop (j * 2)) (.returned (.slice (some ⟨g, 0, none⟩) (i + (n - j)) c)) W2) :=
    ⟨g, c, rfl, rfl, row_mk b2 (by omega) hcm (by rw [List.size_toArray, l2]) (by rw [List.toList_toArray, l3]), by rw [hW2, hW1]; exact grown_trans (grown_drew w _) (grown_trans (grown_setRow _ g _) (grown_setRow _ g _))⟩
  have hz2' : ¬ ((i : Int) = (j : Int)) := by omega
  have hic : i ≤ c := by omega
  have hjc : j ≤ c := by omega
  have hin : i ≤ n := by omega
  have hij' : i ≤ j := by omega
  have hk1 : i + (n - j) ≤ n := by omega
  have hk2 : ¬ (c = i + (n - j)) := by omega
  clear hA1 hA2 l1 l2 l3 hdl hzl hzs hg hxl hx hcs hx1 hcm hW1 hW2 b1 b2 h hsrc
  go_enter Tryz.func71, Tryz.ntmps71
  go_wp2_with fail
  go_region_law (refine step_append_run rfl _ _ 100 100 rfl (.slice (some ⟨g, 0, none⟩) i c) (.slice (some A) (n - j) (c - j)) (by simp [Act.eval, Act.put]) (by simp [Act.eval, Act.put]) (hap _ _) ?_)
  go_wp2_with (at_builtin; refine wpList_clear_run _ rfl _ 100 rfl _ rfl (hclr _ _) ?_)
  go_ret
  exact HZ.out
/-- slices.Clone of a piece. -/
def CloToI (w : World) (n : Nat) (zs : List Value) (e : Ending) (w' : World) : Prop :=
  ∃ g c, w.heap.size ≤ g ∧ e = .returned (.slice (some ⟨g, 0, none⟩) n c) ∧ w'.ownsRow 0 99 2 (.slice (some ⟨g, 0, none⟩) n c) n zs ∧ Below w.heap.size w w'
set_option maxRecDepth 100000 in
set_option maxHeartbeats 1000000 in
theorem cloI_ {w : World} (b off n c : Nat) (news : List Value) (hn0 : 0 < n) (hn : n ≤ 1000) (hl : news.length = n * 2) (hc : ∀ j u, news[j]? = some u → w.cell? ⟨b, off + j, none⟩ = some u) (h1 : ∀ u ∈ news, u.oneCell' = true) :
    Calls Tryz.prog 67 #[.slice (some ⟨b, off, none⟩) n c] w (CloToI w n news) := by
  obtain ⟨i0, hi0, hz0, hz1, hz2⟩ := info_parts infoVI
  have q22 : ∀ (w : World) (a : Option Addr) (n c n' c' : Nat), (binOp .eql 100 (.slice a n c) (.slice none n' c')).run Tryz.prog w = .ok (.bool a.isNone) w := fun w a n c n' c' => Lib.run_eql_slice_nil w _ _ a n c n' c' Tryz.underlying100
  have A : Aside (∀ j u, news[j]? = some u → w.cell? ⟨b, off + j, none⟩ = some u) := hc
  clear hc
  go_enter Tryz.func67, Tryz.ntmps67
  go_wp2_with (at_builtin; refine wpList_append_own _ rfl _ _ 100 rfl w.heap.size 99 i0 _ 2 40 Tryz.underlying100 hi0 hz0 hz1 hz2 rfl (by decide) _ _ _ rfl (World.ownsRow_made w #[] 0 (Nat.le_refl _) (Nat.zero_le _) (by simp)) ⟨b, off, none⟩ n c news rfl ?qc1 ?qc2 ?qc3 ?qc4 ?qc5 ?qc6 ?_)
  case qc1 => exact hl
  case qc2 =>
    intro j u hj
    rw [Addr.add_lit]
    exact Lib.cell?_alloc_some _ (A.out j u hj)
  case qc3 => exact h1
  case qc4 => rw [Nat.zero_add]; unfold maxLen; omega
  case qc5 => rw [Nat.zero_add]; omega
  case qc6 => simp
  intro v' w1 hown hgrow hnil
  have hb : Below w.heap.size w w1 := ((Below.refl _ w).alloc (Nat.le_refl _) _).grown hgrow (by simp) (by intro k hk; simp [Value.ownBlock] at hk; omega)
  obtain ⟨g, cap, cur, rfl, h2⟩ : ∃ g cap cur, v' = .slice (some ⟨g, 0, none⟩) n cap ∧ w.heap.size ≤ g ∧ w1.heap[g]? = some (.cells cur 99 (0, 0)) ∧ n ≤ cap ∧ cap ≤ maxLen ∧ cur.size = cap * 2 ∧ cur.toList.take (n * 2) = news := by
    rcases hown.2 with ⟨_, e⟩ | ⟨g, cap, cur, e1, h1, h2⟩
    · omega
    · exact ⟨g, cap, cur, e1, h1, h2⟩
  obtain ⟨h3, h4, h5, h6, h7, h8⟩ := h2
  have HZ : Hid (CloToI w n news (.returned (.slice (some ⟨g, 0, none⟩) n cap)) w1) := ⟨g, cap, h3, rfl, row_mk h4 h5 h6 h7 h8, hb⟩
  clear hb hown hgrow hnil h3 h4 h5 h6 h7 h8 h1 hl
  go_wp2
  go_ret
  exact HZ.out
end Go.Proofs.YtagamkahfiackaaGreatDoor
