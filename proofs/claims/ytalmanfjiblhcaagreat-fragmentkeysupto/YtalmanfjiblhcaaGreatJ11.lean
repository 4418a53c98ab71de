/- slices.Delete and slices.Clone at items; slices.Delete and slices.Clone at children; tree.takeAt: an element taken out of a node's items, of its children; node.find: a key among a node's items, by halves; A node's small calls: find, child, hasTooMany, hasTooFew, canSpare. -/
import Derived.Test.YtalmanfjiblhcaaGreatJ10
import Derived.Deep.RegionLaw
namespace Go.Proofs.YtalmanfjiblhcaaGreat
open Go.RowKit Go.Sort
def DelToI (w : World) (v : Value) (n : Nat) (zs : List Value) (e : Ending) (w' : World) : Prop :=
 ∃ g c, v.ownBlock = some g ∧ e = .returned (.slice (some ⟨g, 0, none⟩) n c) ∧ w'.ownsRow 0 200 2 (.slice (some ⟨g, 0, none⟩) n c) n zs ∧ w.grownBy w' v.ownBlock
theorem zerosI (w : World) : (zeroValue 200).run Tryz.prog w = .ok (.agg #[.string ⟨#[]⟩, .slice none 0 0]) w := by
 obtain ⟨i0, hi0, hz0, hz1, hz2⟩ := info_parts infoVI
 simp [zeroValue, typeInfo, hi0, hz0]
theorem zerosI_one (n : Nat) : ∀ u ∈ (Builtin.zeroCells (Value.cells (.agg #[.string ⟨#[]⟩, .slice none 0 0])) n).toList, u.oneCell' = true := by
 intro u hu
 simp only [Builtin.zeroCells, Array.toList_map, List.mem_map] at hu
 obtain ⟨k, _, rfl⟩ := hu
 have hk : k % (Value.cells (.agg #[.string ⟨#[]⟩, .slice none 0 0])).size < 2 := Nat.mod_lt _ (by decide)
 generalize k % (Value.cells (.agg #[.string ⟨#[]⟩, .slice none 0 0])).size = m at hk
 match m, hk with
 | 0, _ => rfl
 | 1, _ => rfl
set_option maxRecDepth 100000 in
set_option maxHeartbeats 2000000 in
theorem delI_ {w : World} {v : Value} {n i j : Nat} {xs : List Value} (h : w.ownsRow 0 200 2 v n xs) (hij : i < j) (hj : j ≤ n) (hn : n ≤ 1000) (hx1 : ∀ u ∈ xs, u.oneCell' = true) :
 Calls Tryz.prog 145 #[v, .int .i64 i, .int .i64 j] w (DelToI w v (i + (n - j)) (xs.take (i * 2) ++ xs.drop (j * 2))) := by
 obtain ⟨i0, hi0, hz0, hz1, hz2⟩ := info_parts infoVI
 obtain ⟨g, c, cur, rfl, hg, hnc, hcm, hcs, hx⟩ := row_open h (by omega)
 have hxl : xs.length = n * 2 := h.1
 have hcm' : c ≤ 9223372036854775807 := by unfold maxLen at hcm; omega
 have hdl : (xs.drop (j * 2)).length = (n - j) * 2 := by rw [List.length_drop, hxl]; omega
 obtain ⟨A1, hA1⟩ : ∃ A1, A1 = cur.toList.take (i * 2) ++ xs.drop (j * 2) ++ cur.toList.drop (i * 2 + (xs.drop (j * 2)).length) := ⟨_, rfl⟩
 obtain ⟨zs, hzs⟩ : ∃ zs, zs = (Builtin.zeroCells (Value.cells (.agg #[.string ⟨#[]⟩, .slice none 0 0])) (n - (i + (n - j)))).toList := ⟨_, rfl⟩
 have hzl : zs.length = (j - i) * 2 := by
  rw [hzs, Array.length_toList, size_zeroCells, show (Value.cells (.agg #[.string ⟨#[]⟩, .slice none 0 0])).size = 2 from rfl]; congr 1; omega
 obtain ⟨A2, hA2⟩ : ∃ A2, A2 = A1.take ((i + (n - j)) * 2) ++ zs ++ A1.drop ((i + (n - j)) * 2 + zs.length) := ⟨_, rfl⟩
 have l1 : A1.length = c * 2 := by
  rw [hA1]; simp only [List.length_append, List.length_take, List.length_drop, hdl, Array.length_toList, hcs]; omega
 have l2 : A2.length = c * 2 := by
  rw [hA2]; simp only [List.length_append, List.length_take, List.length_drop, l1, hzl]; omega
 have l3 : A2.take ((i + (n - j)) * 2) = xs.take (i * 2) ++ xs.drop (j * 2) := by
  rw [hA2, List.append_assoc, List.take_append_of_le_length (by rw [List.length_take, l1]; omega), List.take_take, Nat.min_self, hA1]
  have e : cur.toList.take (i * 2) = xs.take (i * 2) := by rw [← hx, List.take_take, Nat.min_eq_left (by omega)]
  rw [e]
  exact List.take_left' (by rw [List.length_append, List.length_take, hxl, hdl]; omega)
 obtain ⟨A, hA, hsrc⟩ : ∃ A : Addr, (if c = j then some (⟨g, 0, none⟩ : Addr) else some ⟨g, j * 2, none⟩) = some A ∧ Hid (∀ t u, (xs.drop (j * 2))[t]? = some u → w.drew.cell? (A.add t) = some u) := by
  by_cases hcj : c = j
  · refine ⟨⟨g, 0, none⟩, by simp [hcj], fun t u hu => ?_⟩
    have h0 : (xs.drop (j * 2)).length = 0 := by rw [hdl]; omega
    rw [List.length_eq_zero_iff.1 h0] at hu
    simp at hu
  · refine ⟨⟨g, j * 2, none⟩, by simp [hcj], fun t u hu => ?_⟩
    rw [Addr.add_lit]
    rw [List.getElem?_drop, ← hx, List.getElem?_take] at hu
    split at hu
    · refine cell_of (show w.drew.heap[g]? = _ from hg) ?_
      simpa using hu
    · cases hu
 obtain ⟨W1, hW1⟩ : ∃ W1, W1 = w.drew.setRow g A1.toArray := ⟨_, rfl⟩
 obtain ⟨W2, hW2⟩ : ∃ W2, W2 = W1.setRow g A2.toArray := ⟨_, rfl⟩
 have b1 : W1.heap[g]? = some (.cells A1.toArray 200 (0, 0)) := by rw [hW1]; exact setRow_heap _ _ _ _ _ _ (show w.drew.heap[g]? = _ from hg)
 have b2 : W2.heap[g]? = some (.cells A2.toArray 200 (0, 0)) := by rw [hW2]; exact setRow_heap _ _ _ _ _ _ b1
 have hap : ∀ ty sc, (Builtin.append_ #[201, 201] ty #[.slice (some ⟨g, 0, none⟩) i c, .slice (some A) (n - j) sc]).run Tryz.prog w.drew = .ok (.slice (some ⟨g, 0, none⟩) (i + (n - j)) c) W1 := fun ty sc => by
  have := run_append_room (P := Tryz.prog) w.drew 201 ty 200 i0 Tryz.underlying201 hi0 g i c cur (show w.drew.heap[g]? = _ from hg) A (n - j) sc (xs.drop (j * 2)) (by rw [hdl, hz1]) hsrc.out (fun u hu => hx1 u (List.mem_of_mem_drop hu)) (by omega) (by rw [hz1, hdl, hcs]; omega)
  rw [this, hW1, hA1, hz1]
 have hclr : ∀ ty sc, (Builtin.clear_ #[201] ty #[.slice (some ⟨g, (i + (n - j)) * 2, none⟩) (n - (i + (n - j))) sc]).run Tryz.prog W1 = .ok (.tuple #[]) W2 := fun ty sc => by
  have := run_clear_sz (P := Tryz.prog) W1 201 200 ty (.agg #[.string ⟨#[]⟩, .slice none 0 0]) Tryz.underlying201 (zerosI W1) g ((i + (n - j)) * 2) (n - (i + (n - j))) sc (by omega) A1.toArray 200 b1 zs hzs.symm (by rw [hzl, List.size_toArray, l1]; omega) (by rw [hzs]; exact zerosI_one _)
  rw [this, hW2, hA2]
  try simp only [Nat.mul_one]
 have HZ : Hid (DelToI w (.slice (some ⟨g, 0, none⟩) n c) (i + (n - j)) (xs.take (i * 2) ++ xs.drop (j * 2)) (.returned (.slice (some ⟨g, 0, none⟩) (i + (n - j)) c)) W2) :=
  ⟨g, c, rfl, rfl, row_mk b2 (by omega) hcm (by rw [List.size_toArray, l2]) (by rw [List.toList_toArray, l3]), by rw [hW2, hW1]; exact grown_trans (grown_drew w _) (grown_trans (grown_setRow _ g _) (grown_setRow _ g _))⟩
 have hz2' : ¬ ((i : Int) = (j : Int)) := by omega
 have hic : i ≤ c := by omega
 have hjc : j ≤ c := by omega
 have hin : i ≤ n := by omega
 have hij' : i ≤ j := by omega
 have hk1 : i + (n - j) ≤ n := by omega
 have hk2 : ¬ (c = i + (n - j)) := by omega
 clear hA1 hA2 l1 l2 l3 hdl hzl hzs hg hxl hx hcs hx1 hcm hW1 hW2 b1 b2 h hsrc
 go_enter Tryz.func145, Tryz.ntmps145
 go_wp2_with fail
 go_region_law (refine step_append_run rfl _ _ 201 201 rfl (.slice (some ⟨g, 0, none⟩) i c) (.slice (some A) (n - j) (c - j)) (by simp [Act.eval, Act.put]) (by simp [Act.eval, Act.put]) (hap _ _) ?_)
 go_wp2_with (at_builtin; refine wpList_clear_run _ rfl _ 201 rfl _ rfl (hclr _ _) ?_)
 go_ret
 exact HZ.out
def CloToI (w : World) (n : Nat) (zs : List Value) (e : Ending) (w' : World) : Prop :=
 ∃ g c, w.heap.size ≤ g ∧ e = .returned (.slice (some ⟨g, 0, none⟩) n c) ∧ w'.ownsRow 0 200 2 (.slice (some ⟨g, 0, none⟩) n c) n zs ∧ Below w.heap.size w w'
set_option maxRecDepth 100000 in
set_option maxHeartbeats 1000000 in
theorem cloI_ {w : World} (b off n c : Nat) (news : List Value) (hn0 : 0 < n) (hn : n ≤ 1000) (hl : news.length = n * 2) (hc : ∀ j u, news[j]? = some u → w.cell? ⟨b, off + j, none⟩ = some u) (h1 : ∀ u ∈ news, u.oneCell' = true) :
 Calls Tryz.prog 141 #[.slice (some ⟨b, off, none⟩) n c] w (CloToI w n news) := by
 obtain ⟨i0, hi0, hz0, hz1, hz2⟩ := info_parts infoVI
 have q22 : ∀ (w : World) (a : Option Addr) (n c n' c' : Nat), (binOp .eql 201 (.slice a n c) (.slice none n' c')).run Tryz.prog w = .ok (.bool a.isNone) w := fun w a n c n' c' => Lib.run_eql_slice_nil w _ _ a n c n' c' Tryz.underlying201
 have A : Aside (∀ j u, news[j]? = some u → w.cell? ⟨b, off + j, none⟩ = some u) := hc
 clear hc
 go_enter Tryz.func141, Tryz.ntmps141
 go_wp2_with (at_builtin; refine wpList_append_own _ rfl _ _ 201 rfl w.heap.size 200 i0 _ 2 40 Tryz.underlying201 hi0 hz0 hz1 hz2 rfl (by decide) _ _ _ rfl (World.ownsRow_made w #[] 0 (Nat.le_refl _) (Nat.zero_le _) (by simp)) ⟨b, off, none⟩ n c news rfl ?qc1 ?qc2 ?qc3 ?qc4 ?qc5 ?qc6 ?_)
 case qc1 => exact hl
 case qc2 =>
  intro j u hj
  rw [Addr.add_lit]
  exact Lib.cell?_alloc_some _ (A.out j u hj)
 case qc3 => exact h1
 case qc4 => rw [Nat.zero_add]; unfold maxLen; omega
 case qc5 => rw [Nat.zero_add]; omega
 case qc6 => simp
 intro v' w1 hown hgrow hnil
 have hb : Below w.heap.size w w1 := ((Below.refl _ w).alloc (Nat.le_refl _) _).grown hgrow (by simp) (by intro k hk; simp [Value.ownBlock] at hk; omega)
 obtain ⟨g, cap, cur, rfl, h2⟩ : ∃ g cap cur, v' = .slice (some ⟨g, 0, none⟩) n cap ∧ w.heap.size ≤ g ∧ w1.heap[g]? = some (.cells cur 200 (0, 0)) ∧ n ≤ cap ∧ cap ≤ maxLen ∧ cur.size = cap * 2 ∧ cur.toList.take (n * 2) = news := by
  rcases hown.2 with ⟨_, e⟩ | ⟨g, cap, cur, e1, h1, h2⟩
  · omega
  · exact ⟨g, cap, cur, e1, h1, h2⟩
 obtain ⟨h3, h4, h5, h6, h7, h8⟩ := h2
 have HZ : Hid (CloToI w n news (.returned (.slice (some ⟨g, 0, none⟩) n cap)) w1) := ⟨g, cap, h3, rfl, row_mk h4 h5 h6 h7 h8, hb⟩
 clear hb hown hgrow hnil h3 h4 h5 h6 h7 h8 h1 hl
 go_wp2
 go_ret
 exact HZ.out
end Go.Proofs.YtalmanfjiblhcaaGreat
namespace Go.Proofs.YtalmanfjiblhcaaGreat
open Go.RowKit Go.Sort
def DelToP (w : World) (v : Value) (n : Nat) (zs : List Value) (e : Ending) (w' : World) : Prop :=
 ∃ g c, v.ownBlock = some g ∧ e = .returned (.slice (some ⟨g, 0, none⟩) n c) ∧ w'.ownsRow 0 196 1 (.slice (some ⟨g, 0, none⟩) n c) n zs ∧ w.grownBy w' v.ownBlock
theorem zerosP (w : World) : (zeroValue 196).run Tryz.prog w = .ok (.pointer none) w := by
 obtain ⟨i0, hi0, hz0, hz1, hz2⟩ := info_parts infoVP
 simp [zeroValue, typeInfo, hi0, hz0]
theorem zerosP_one (n : Nat) : ∀ u ∈ (Builtin.zeroCells (Value.cells (.pointer none)) n).toList, u.oneCell' = true := by
 intro u hu
 simp only [Builtin.zeroCells, Array.toList_map, List.mem_map] at hu
 obtain ⟨k, _, rfl⟩ := hu
 have hk : k % (Value.cells (.pointer none)).size < 1 := Nat.mod_lt _ (by decide)
 generalize k % (Value.cells (.pointer none)).size = m at hk
 match m, hk with
 | 0, _ => rfl
set_option maxRecDepth 100000 in
set_option maxHeartbeats 2000000 in
theorem delP_ {w : World} {v : Value} {n i j : Nat} {xs : List Value} (h : w.ownsRow 0 196 1 v n xs) (hij : i < j) (hj : j ≤ n) (hn : n ≤ 1000) (hx1 : ∀ u ∈ xs, u.oneCell' = true) :
 Calls Tryz.prog 143 #[v, .int .i64 i, .int .i64 j] w (DelToP w v (i + (n - j)) (xs.take (i * 1) ++ xs.drop (j * 1))) := by
 obtain ⟨i0, hi0, hz0, hz1, hz2⟩ := info_parts infoVP
 obtain ⟨g, c, cur, rfl, hg, hnc, hcm, hcs, hx⟩ := row_open h (by omega)
 have hxl : xs.length = n * 1 := h.1
 have hcm' : c ≤ 9223372036854775807 := by unfold maxLen at hcm; omega
 have hdl : (xs.drop (j * 1)).length = (n - j) * 1 := by rw [List.length_drop, hxl]; omega
 obtain ⟨A1, hA1⟩ : ∃ A1, A1 = cur.toList.take (i * 1) ++ xs.drop (j * 1) ++ cur.toList.drop (i * 1 + (xs.drop (j * 1)).length) := ⟨_, rfl⟩
 obtain ⟨zs, hzs⟩ : ∃ zs, zs = (Builtin.zeroCells (Value.cells (.pointer none)) (n - (i + (n - j)))).toList := ⟨_, rfl⟩
 have hzl : zs.length = (j - i) * 1 := by
  rw [hzs, Array.length_toList, size_zeroCells, show (Value.cells (.pointer none)).size = 1 from rfl]; congr 1; omega
 obtain ⟨A2, hA2⟩ : ∃ A2, A2 = A1.take ((i + (n - j)) * 1) ++ zs ++ A1.drop ((i + (n - j)) * 1 + zs.length) := ⟨_, rfl⟩
 have l1 : A1.length = c * 1 := by
  rw [hA1]; simp only [List.length_append, List.length_take, List.length_drop, hdl, Array.length_toList, hcs]; omega
 have l2 : A2.length = c * 1 := by
  rw [hA2]; simp only [List.length_append, List.length_take, List.length_drop, l1, hzl]; omega
 have l3 : A2.take ((i + (n - j)) * 1) = xs.take (i * 1) ++ xs.drop (j * 1) := by
  rw [hA2, List.append_assoc, List.take_append_of_le_length (by rw [List.length_take, l1]; omega), List.take_take, Nat.min_self, hA1]
  have e : cur.toList.take (i * 1) = xs.take (i * 1) := by rw [← hx, List.take_take, Nat.min_eq_left (by omega)]
  rw [e]
  exact List.take_left' (by rw [List.length_append, List.length_take, hxl, hdl]; omega)
 obtain ⟨A, hA, hsrc⟩ : ∃ A : Addr, (if c = j then some (⟨g, 0, none⟩ : Addr) else some ⟨g, j, none⟩) = some A ∧ Hid (∀ t u, (xs.drop (j * 1))[t]? = some u → w.drew.cell? (A.add t) = some u) := by
  by_cases hcj : c = j
  · refine ⟨⟨g, 0, none⟩, by simp [hcj], fun t u hu => ?_⟩
    have h0 : (xs.drop (j * 1)).length = 0 := by rw [hdl]; omega
    rw [List.length_eq_zero_iff.1 h0] at hu
    simp at hu
  · refine ⟨⟨g, j, none⟩, by simp [hcj], fun t u hu => ?_⟩
    rw [Addr.add_lit]
    rw [List.getElem?_drop, ← hx, List.getElem?_take] at hu
    split at hu
    · refine cell_of (show w.drew.heap[g]? = _ from hg) ?_
      simpa using hu
    · cases hu
 obtain ⟨W1, hW1⟩ : ∃ W1, W1 = w.drew.setRow g A1.toArray := ⟨_, rfl⟩
 obtain ⟨W2, hW2⟩ : ∃ W2, W2 = W1.setRow g A2.toArray := ⟨_, rfl⟩
 have b1 : W1.heap[g]? = some (.cells A1.toArray 196 (0, 0)) := by rw [hW1]; exact setRow_heap _ _ _ _ _ _ (show w.drew.heap[g]? = _ from hg)
 have b2 : W2.heap[g]? = some (.cells A2.toArray 196 (0, 0)) := by rw [hW2]; exact setRow_heap _ _ _ _ _ _ b1
 have hap : ∀ ty sc, (Builtin.append_ #[202, 202] ty #[.slice (some ⟨g, 0, none⟩) i c, .slice (some A) (n - j) sc]).run Tryz.prog w.drew = .ok (.slice (some ⟨g, 0, none⟩) (i + (n - j)) c) W1 := fun ty sc => by
  have := run_append_room (P := Tryz.prog) w.drew 202 ty 196 i0 Tryz.underlying202 hi0 g i c cur (show w.drew.heap[g]? = _ from hg) A (n - j) sc (xs.drop (j * 1)) (by rw [hdl, hz1]) hsrc.out (fun u hu => hx1 u (List.mem_of_mem_drop hu)) (by omega) (by rw [hz1, hdl, hcs]; omega)
  rw [this, hW1, hA1, hz1]
 have hclr : ∀ ty sc, (Builtin.clear_ #[202] ty #[.slice (some ⟨g, (i + (n - j)), none⟩) (n - (i + (n - j))) sc]).run Tryz.prog W1 = .ok (.tuple #[]) W2 := fun ty sc => by
  have := run_clear_sz (P := Tryz.prog) W1 202 196 ty (.pointer none) Tryz.underlying202 (zerosP W1) g ((i + (n - j))) (n - (i + (n - j))) sc (by omega) A1.toArray 196 b1 zs hzs.symm (by rw [hzl, List.size_toArray, l1]; omega) (by rw [hzs]; exact zerosP_one _)
  rw [this, hW2, hA2]
  try simp only [Nat.mul_one]
 have HZ : Hid (DelToP w (.slice (some ⟨g, 0, none⟩) n c) (i + (n - j)) (xs.take (i * 1) ++ xs.drop (j * 1)) (.returned (.slice (some ⟨g, 0, none⟩) (i + (n - j)) c)) W2) :=
  ⟨g, c, rfl, rfl, row_mk b2 (by omega) hcm (by rw [List.size_toArray, l2]) (by rw [List.toList_toArray, l3]), by rw [hW2, hW1]; exact grown_trans (grown_drew w _) (grown_trans (grown_setRow _ g _) (grown_setRow _ g _))⟩
 have hz2' : ¬ ((i : Int) = (j : Int)) := by omega
 have hic : i ≤ c := by omega
 have hjc : j ≤ c := by omega
 have hin : i ≤ n := by omega
 have hij' : i ≤ j := by omega
 have hk1 : i + (n - j) ≤ n := by omega
 have hk2 : ¬ (c = i + (n - j)) := by omega
 clear hA1 hA2 l1 l2 l3 hdl hzl hzs hg hxl hx hcs hx1 hcm hW1 hW2 b1 b2 h hsrc
 go_enter Tryz.func143, Tryz.ntmps143
 go_wp2_with fail
 go_region_law (refine step_append_run rfl _ _ 202 202 rfl (.slice (some ⟨g, 0, none⟩) i c) (.slice (some A) (n - j) (c - j)) (by simp [Act.eval, Act.put]) (by simp [Act.eval, Act.put]) (hap _ _) ?_)
 go_wp2_with (at_builtin; refine wpList_clear_run _ rfl _ 202 rfl _ rfl (hclr _ _) ?_)
 go_ret
 exact HZ.out
def CloToP (w : World) (n : Nat) (zs : List Value) (e : Ending) (w' : World) : Prop :=
 ∃ g c, w.heap.size ≤ g ∧ e = .returned (.slice (some ⟨g, 0, none⟩) n c) ∧ w'.ownsRow 0 196 1 (.slice (some ⟨g, 0, none⟩) n c) n zs ∧ Below w.heap.size w w'
set_option maxRecDepth 100000 in
set_option maxHeartbeats 1000000 in
theorem cloP_ {w : World} (b off n c : Nat) (news : List Value) (hn0 : 0 < n) (hn : n ≤ 1000) (hl : news.length = n * 1) (hc : ∀ j u, news[j]? = some u → w.cell? ⟨b, off + j, none⟩ = some u) (h1 : ∀ u ∈ news, u.oneCell' = true) :
 Calls Tryz.prog 142 #[.slice (some ⟨b, off, none⟩) n c] w (CloToP w n news) := by
 obtain ⟨i0, hi0, hz0, hz1, hz2⟩ := info_parts infoVP
 have q22 : ∀ (w : World) (a : Option Addr) (n c n' c' : Nat), (binOp .eql 202 (.slice a n c) (.slice none n' c')).run Tryz.prog w = .ok (.bool a.isNone) w := fun w a n c n' c' => Lib.run_eql_slice_nil w _ _ a n c n' c' Tryz.underlying202
 have A : Aside (∀ j u, news[j]? = some u → w.cell? ⟨b, off + j, none⟩ = some u) := hc
 clear hc
 go_enter Tryz.func142, Tryz.ntmps142
 go_wp2_with (at_builtin; refine wpList_append_own _ rfl _ _ 202 rfl w.heap.size 196 i0 _ 1 8 Tryz.underlying202 hi0 hz0 hz1 hz2 rfl (by decide) _ _ _ rfl (World.ownsRow_made w #[] 0 (Nat.le_refl _) (Nat.zero_le _) (by simp)) ⟨b, off, none⟩ n c news rfl ?qc1 ?qc2 ?qc3 ?qc4 ?qc5 ?qc6 ?_)
 case qc1 => exact hl
 case qc2 =>
  intro j u hj
  rw [Addr.add_lit]
  exact Lib.cell?_alloc_some _ (A.out j u hj)
 case qc3 => exact h1
 case qc4 => rw [Nat.zero_add]; unfold maxLen; omega
 case qc5 => rw [Nat.zero_add]; omega
 case qc6 => simp
 intro v' w1 hown hgrow hnil
 have hb : Below w.heap.size w w1 := ((Below.refl _ w).alloc (Nat.le_refl _) _).grown hgrow (by simp) (by intro k hk; simp [Value.ownBlock] at hk; omega)
 obtain ⟨g, cap, cur, rfl, h2⟩ : ∃ g cap cur, v' = .slice (some ⟨g, 0, none⟩) n cap ∧ w.heap.size ≤ g ∧ w1.heap[g]? = some (.cells cur 196 (0, 0)) ∧ n ≤ cap ∧ cap ≤ maxLen ∧ cur.size = cap * 1 ∧ cur.toList.take (n * 1) = news := by
  rcases hown.2 with ⟨_, e⟩ | ⟨g, cap, cur, e1, h1, h2⟩
  · omega
  · exact ⟨g, cap, cur, e1, h1, h2⟩
 obtain ⟨h3, h4, h5, h6, h7, h8⟩ := h2
 have HZ : Hid (CloToP w n news (.returned (.slice (some ⟨g, 0, none⟩) n cap)) w1) := ⟨g, cap, h3, rfl, row_mk h4 h5 h6 h7 h8, hb⟩
 clear hb hown hgrow hnil h3 h4 h5 h6 h7 h8 h1 hl
 go_wp2
 go_ret
 exact HZ.out
end Go.Proofs.YtalmanfjiblhcaaGreat
namespace Go.Proofs.YtalmanfjiblhcaaGreat
open Go.RowKit Go.Sort
def itV (x : It) : Value := .agg #[.string x.1, .slice x.2.a x.2.n x.2.c]
theorem Store.item {w : World} {M : Nat → Option Nd} {q : Nat} {n : Nd} {I1 I2 : List It} {x : It} (h : Store w M) (hq : M q = some n) (hI : n.its = I1 ++ x :: I2) : ∃ g c, n.iv = .slice (some ⟨g, 0, none⟩) (I1.length + I2.length + 1) c ∧ g < w.heap.size ∧ w.cell? ⟨g, I1.length * 2, none⟩ = some (.string x.1) ∧ w.cell? ⟨g, I1.length * 2 + 1, none⟩ = some (.slice x.2.a x.2.n x.2.c) ∧ w.frozen? ⟨g, I1.length * 2, none⟩ = false ∧ w.frozen? ⟨g, I1.length * 2 + 1, none⟩ = false ∧ c ≤ 9223372036854775807 := by
 have hr := h.its q n hq
 have hl : n.its.length = I1.length + I2.length + 1 := by rw [hI]; simp; omega
 obtain ⟨g, c, cur, e, hg, hnc, hcm, hcs, hx⟩ := row_open hr (by omega)
 rw [hl] at e
 obtain ⟨c1, c2⟩ := cI_get n.its I1.length x (by rw [hI]; simp)
 have get : ∀ j u, (cI n.its)[j]? = some u → w.cell? ⟨g, j, none⟩ = some u := fun j u hj => by
  refine cell_of hg ?_
  rw [← hx, List.getElem?_take] at hj
  split at hj
  · simpa using hj
  · cases hj
 exact ⟨g, c, e, blk_lt hg, get _ _ c1, get _ _ c2, frozen_of hg, frozen_of hg, by unfold maxLen at hcm; omega⟩
theorem Store.kid {w : World} {M : Nat → Option Nd} {q : Nat} {n : Nd} {K1 K2 : List Nat} {p : Nat} (h : Store w M) (hq : M q = some n) (hK : n.ks = K1 ++ p :: K2) : ∃ g c, n.cv = .slice (some ⟨g, 0, none⟩) (K1.length + K2.length + 1) c ∧ g < w.heap.size ∧ w.cell? ⟨g, K1.length, none⟩ = some (pt p) ∧ w.frozen? ⟨g, K1.length, none⟩ = false ∧ c ≤ 9223372036854775807 := by
 have hr := h.ks q n hq
 have hl : n.ks.length = K1.length + K2.length + 1 := by rw [hK]; simp; omega
 obtain ⟨g, c, cur, e, hg, hnc, hcm, hcs, hx⟩ := row_open hr (by omega)
 rw [hl] at e
 have c1 := cP_get n.ks K1.length p (by rw [hK]; simp)
 refine ⟨g, c, e, blk_lt hg, ?_, frozen_of hg, by unfold maxLen at hcm; omega⟩
 refine cell_of hg ?_
 rw [← hx, List.getElem?_take] at c1
 split at c1
 · simpa using c1
 · cases c1
theorem store_sl {w : World} {q o : Nat} {v : Value} {t : TypeId} {a : Option Addr} {n c : Nat} (hc : w.cell? ⟨q, o, none⟩ = some v) (hf : w.frozen? ⟨q, o, none⟩ = false) (hs : (sizeOf t).run Tryz.prog w = .ok 1 w) : (Instr.storeAt t (.pointer (some ⟨q, o, none⟩)) (.slice a n c)).run Tryz.prog w = .ok () (w.setCell ⟨q, o, none⟩ (.slice a n c)) := by
 simp only [Instr.storeAt, Instr.sureAddr, Sem.run_bind, Sem.run_pure, Result.andThen]
 simp [storeVar, hs, Value.cells, Result.andThen, storeCells, hc, hf, go_sem]
theorem Ext.mine {M M' : Nat → Option Nd} {w V V' : World} (h : Store w M) (hx : Ext (Own M) (Own M') V V') {k : Nat} {o : Obj} (hk : w.heap.size ≤ k) (ho : V.heap[k]? = some o) : V'.heap[k]? = some o ∧ ¬ Own M' k := hx.stays ho (h.not_own hk)
theorem Store.far {w : World} {M : Nat → Option Nd} (h : Store w M) {k o : Nat} {v : Value} (hk : ¬ Own M k) : Store (w.setCell ⟨k, o, none⟩ v) M := h.keep fun _ hj => heap_far _ fun e => hk (e ▸ hj)
theorem Ext.far {O O' : Nat → Prop} {w0 w : World} (h : Ext O O' w0 w) {k o : Nat} {v : Value} (hk : w0.heap.size ≤ k) : Ext O O' w0 (w.setCell ⟨k, o, none⟩ v) :=
 ⟨h.os, h.tape, h.output, by rw [size_set]; exact h.size, fun i hi hn => (heap_far _ (by omega)).trans (h.block i hi hn), h.new⟩
theorem box2 (w : World) (A B : Obj) : ((w.alloc A).alloc B).heap[w.heap.size]? = some A ∧ ((w.alloc A).alloc B).heap[w.heap.size + 1]? = some B := by
 have hs : (w.alloc A).heap.size = w.heap.size + 1 := by simp
 refine ⟨?_, ?_⟩
 · rw [Below.heap_alloc _ _ _ (by rw [hs]; omega)]
   exact new_blk w A
 · rw [← hs]; exact new_blk _ _
end Go.Proofs.YtalmanfjiblhcaaGreat
namespace Go.Proofs.YtalmanfjiblhcaaGreat
open Go.RowKit Go.Sort
set_option maxRecDepth 100000 in
theorem cmpString_ (a b : ByteArray) (w : World) : Calls Tryz.prog 94 #[.string a, .string b] w fun e w' => e = .returned (.int .i64 (Lib.compareBytes a.data.toList b.data.toList)) ∧ w' = w := by
 go_enter Tryz.func94, Tryz.ntmps94
 go_wp2
 rw [run_callFunc_extern Tryz.func128 (by kernel_rfl) (by kernel_rfl) (by kernel_rfl) (e := Extern.BytealgCompare.compare) (by kernel_rfl), Lib.run_compareString]
 simp only [Result.andThen]
 rw [Oper.upon_value]
 go_wp2
 go_ret
 exact ⟨rfl, rfl⟩
theorem sCompare_ (a b : ByteArray) (w : World) : Calls Tryz.prog 56 #[.string a, .string b] w fun e w' => e = .returned (.int .i64 (Lib.compareBytes a.data.toList b.data.toList)) ∧ w' = w := by
 go_enter Tryz.func56, Tryz.ntmps56
 go_wp2_with (first | (go_at_call 94; refine (cmpString_ _ _ _).mono ?_; rintro e w' ⟨rfl, rfl⟩) | fail)
 go_ret
 exact ⟨rfl, rfl⟩
theorem itcompare_ (x1 : ByteArray) (x2 : Vl) (k : ByteArray) (w : World) : Calls Tryz.prog 130 #[.agg #[.string x1, .slice x2.a x2.n x2.c], .string k] w fun e w' => e = .returned (.int .i64 (Lib.compareBytes x1.data.toList k.data.toList)) ∧ Below w.heap.size w w' := by
 have HB := Lib.hid (below_alloc w (.cells #[.string x1, .slice x2.a x2.n x2.c] 200))
 go_enter Tryz.func130, Tryz.ntmps130
 go_wp2_with (first | (go_at_call 56; refine (sCompare_ _ _ _).mono ?_; rintro e w' ⟨rfl, rfl⟩) | fail)
 go_ret
 exact ⟨rfl, HB.out⟩
def ItsIn (w : World) (v : Value) (its : List It) : Prop := ∃ a c, v = .slice a its.length c ∧ c ≤ 9223372036854775807 ∧ ∀ i x, its[i]? = some x → ∃ g, a = some ⟨g, 0, none⟩ ∧ g < w.heap.size ∧ w.cell? ⟨g, i * 2, none⟩ = some (.string x.1) ∧ w.cell? ⟨g, i * 2 + 1, none⟩ = some (.slice x.2.a x.2.n x.2.c)
theorem RowI.items {w : World} {v : Value} {its : List It} (h : RowI w v its) : ItsIn w v its := by
 obtain ⟨a, c, rfl, _, ha1, _, hcm⟩ := row_shape h
 refine ⟨a, c, rfl, by unfold maxLen at hcm; omega, fun i x hi => ?_⟩
 have hl : i < its.length := (List.getElem?_eq_some_iff.1 hi).1
 obtain ⟨g, c', cur, e, hg, _, _, _, hx⟩ := row_open h (by omega)
 cases e
 obtain ⟨c1, c2⟩ := cI_get its i x hi
 have get : ∀ j u, (cI its)[j]? = some u → w.cell? ⟨g, j, none⟩ = some u := fun j u hj => by
  refine cell_of hg ?_
  rw [← hx, List.getElem?_take] at hj
  split at hj
  · simpa using hj
  · cases hj
 exact ⟨g, rfl, blk_lt hg, get _ _ c1, get _ _ c2⟩
theorem ItsIn.on {w w' : World} {v : Value} {its : List It} (h : ItsIn w v its) (hb : Below w.heap.size w w') : ItsIn w' v its := by
 obtain ⟨a, c, e, hc, h1⟩ := h
 refine ⟨a, c, e, hc, fun i x hi => ?_⟩
 obtain ⟨g, e1, h2, h3, h4⟩ := h1 i x hi
 exact ⟨g, e1, Nat.lt_of_lt_of_le h2 hb.size, (hb.cell (p := ⟨g, i * 2, none⟩) h2).trans h3, (hb.cell (p := ⟨g, i * 2 + 1, none⟩) h2).trans h4⟩
def FindTo (w : World) (its : List It) (k : ByteArray) (e : Ending) (w' : World) : Prop := ∃ (i : Nat) (b : Bool), e = .returned (.tuple #[.int .i64 i, .bool b]) ∧ Found its k i b ∧ Below w.heap.size w w'
theorem getElem?_of_lt {α : Type} {l : List α} {i : Nat} (h : i < l.length) : ∃ x, l[i]? = some x := ⟨l[i], List.getElem?_eq_getElem h⟩
set_option maxRecDepth 100000 in
set_option maxHeartbeats 1000000 in
theorem bin_ {w : World} {v : Value} {its : List It} (h : ItsIn w v its) (hs : Srt its) (hn : its.length ≤ 1000) (k : ByteArray) :
 Calls Tryz.prog 129 #[v, .string k, .func (.func 130) #[] #[]] w (FindTo w its k) := by
 obtain ⟨a, c, rfl, hc63, hat⟩ := id h
 have HI : Hid (∀ V, Below w.heap.size w V → ∀ i x, its[i]? = some x → ∃ g, a = some ⟨g, 0, none⟩ ∧ V.cell? ⟨g, i * 2, none⟩ = some (.string x.1) ∧ V.cell? ⟨g, i * 2 + 1, none⟩ = some (.slice x.2.a x.2.n x.2.c)) := fun V hV i x hi => by
  obtain ⟨g, e1, h2, h3, h4⟩ := hat i x hi
  exact ⟨g, e1, (hV.cell (p := ⟨g, i * 2, none⟩) h2).trans h3, (hV.cell (p := ⟨g, i * 2 + 1, none⟩) h2).trans h4⟩
 have HM : Hid (∀ (i j : Nat) (x y : It), i < j → its[i]? = some x → its[j]? = some y → ltb x.1 y.1 = true) := fun i j x y hij hi hj => by
  have := List.pairwise_iff_getElem.1 hs
  obtain ⟨h1, e1⟩ := List.getElem?_eq_some_iff.1 hi
  obtain ⟨h2, e2⟩ := List.getElem?_eq_some_iff.1 hj
  have := this i j h1 h2 hij
  rw [e1, e2] at this
  exact this
 have HF : Hid (∀ i, i ≤ its.length → (∀ j x, j < i → its[j]? = some x → ltb x.1 k = true) → (∀ x, its[i]? = some x → ltb x.1 k = false) → Found its k i (its[i]?.any fun x => !(ltb k x.1))) := fun i hi h1 h2 => found_of hs k i hi h1 h2
 have HN : Hid (∀ i, i < its.length → ∃ x, its[i]? = some x) := fun i hi => getElem?_of_lt hi
 have B0 := Lib.hid (Below.refl w.heap.size w)
 have HX : Hid (∀ i, its.length ≤ i → its[i]? = none) := fun i hi => List.getElem?_eq_none hi
 clear h hs hat
 generalize hnn : its.length = n at *
 clear hnn
 go_enter Tryz.func129, Tryz.ntmps129
 go_wp2_with fail
 go_loopg [9, 10] n (fun kx s9 s10 wr => ∃ lo hi : Nat, s9 = .int .i64 lo ∧ s10 = .int .i64 hi ∧ lo ≤ hi ∧ hi ≤ n ∧ hi - lo ≤ kx ∧ Hid (Below w.heap.size w wr) ∧
  Hid ((∀ j x, j < lo → its[j]? = some x → ltb x.1 k = true) ∧ (∀ j x, hi ≤ j → its[j]? = some x → ltb x.1 k = false)))
 case atStart => exact ⟨0, n, rfl, rfl, Nat.zero_le _, Nat.le_refl _, by omega, B0, ⟨fun j x hj => absurd hj (Nat.not_lt_zero _), fun j x hj e => by rw [HX.out j hj] at e; cases e⟩⟩
 case round =>
  clear B0
  obtain ⟨lo, hi, rfl, rfl, hlh, hin, hg, S1, I⟩ := hrel
  by_cases hlt : lo < hi
  · obtain ⟨y, hy⟩ := HN.out ((lo + hi) / 2) (by omega)
    obtain ⟨g, rfl, c1, c2⟩ := HI.out wr S1.out _ y hy
    have HY := Lib.hid hy
    clear hy
    by_cases hyx : ltb y.1 k = true
    · have hcmp : Lib.compareBytes y.1.data.toList k.data.toList < 0 := (compare_ltb y.1 k).1.2 hyx
      go_wp2_with (first | (go_at_call 130; refine (itcompare_ _ _ _ _).mono ?_; rintro e w' ⟨rfl, hb⟩; have HB := Lib.hid hb; clear hb) | fail)
      go_roundg (hi - ((lo + hi) / 2 + 1))
      case measure => omega
      case rel =>
       refine ⟨(lo + hi) / 2 + 1, hi, by rw [show ((lo : Int) + (hi : Int)) / 2 + 1 = (((lo + hi) / 2 + 1 : Nat) : Int) by omega], rfl, by omega, hin, Nat.le_refl _, below_step S1.out HB.out, fun j x hj e => ?_, I.out.2⟩
       rcases Nat.lt_or_ge j ((lo + hi) / 2) with q | q
       · exact ltb_trans (HM.out j _ x y q e HY.out) hyx
       · obtain rfl : j = (lo + hi) / 2 := by omega
         rw [HY.out] at e; cases e; exact hyx
    · have hcmp : ¬ Lib.compareBytes y.1.data.toList k.data.toList < 0 := fun e => hyx ((compare_ltb y.1 k).1.1 e)
      go_wp2_with (first | (go_at_call 130; refine (itcompare_ _ _ _ _).mono ?_; rintro e w' ⟨rfl, hb⟩; have HB := Lib.hid hb; clear hb) | fail)
      go_roundg ((lo + hi) / 2 - lo)
      case measure => omega
      case rel =>
       refine ⟨lo, (lo + hi) / 2, rfl, by rw [show ((lo : Int) + (hi : Int)) / 2 = (((lo + hi) / 2 : Nat) : Int) by omega], by omega, by omega, Nat.le_refl _, below_step S1.out HB.out, I.out.1, fun j x hj e => ?_⟩
       rcases Nat.lt_or_ge ((lo + hi) / 2) j with q | q
       · have hm := HM.out _ j y x q HY.out e
         by_cases hx : ltb x.1 k = true
         · exact absurd (ltb_trans hm hx) hyx
         · simpa using hx
       · obtain rfl : j = (lo + hi) / 2 := by omega
         rw [HY.out] at e; cases e; simpa using hyx
  · obtain rfl : hi = lo := by omega
    have HFo := Lib.hid (HF.out hi hin I.out.1 (fun x e => I.out.2 hi x (Nat.le_refl _) e))
    by_cases hn2 : hi < n
    · obtain ⟨y, hy⟩ := HN.out hi hn2
      obtain ⟨g, rfl, c1, c2⟩ := HI.out wr S1.out _ y hy
      rw [hy] at HFo
      have hge := I.out.2 hi y (Nat.le_refl _) hy
      clear hy
      by_cases hyx : ltb k y.1 = true
      · have hcmp : ¬ Lib.compareBytes y.1.data.toList k.data.toList = 0 := fun e => by
         have := (compare_ltb y.1 k).2.1 e
         rw [this, ltb_irrefl] at hyx; cases hyx
        have HFp : Hid (Found its k hi false) := by have := HFo.out; show Found _ _ _ _; simpa [hyx] using this
        go_wp2_with (first | (go_at_call 130; refine (itcompare_ _ _ _ _).mono ?_; rintro e w' ⟨rfl, hb⟩; have HB := Lib.hid hb; clear hb) | fail)
        go_ret2
        exact ⟨hi, false, by simp [hcmp], HFp.out, below_step S1.out HB.out⟩
      · have hye : y.1 = k := ltb_total hge (by simpa using hyx)
        have hcmp : Lib.compareBytes y.1.data.toList k.data.toList = 0 := (compare_ltb y.1 k).2.2 hye
        have HFp : Hid (Found its k hi true) := by have := HFo.out; show Found _ _ _ _; simpa [hyx] using this
        clear hye
        go_wp2_with (first | (go_at_call 130; refine (itcompare_ _ _ _ _).mono ?_; rintro e w' ⟨rfl, hb⟩; have HB := Lib.hid hb; clear hb) | fail)
        go_ret2
        exact ⟨hi, true, by first | rfl | simp, HFp.out, below_step S1.out HB.out⟩
    · have HFp : Hid (Found its k hi false) := by have := HFo.out; rw [HX.out hi (by omega)] at this; exact this
      go_wp2_with fail
      go_ret2
      exact ⟨hi, false, rfl, HFp.out, S1.out⟩
end Go.Proofs.YtalmanfjiblhcaaGreat
namespace Go.Proofs.YtalmanfjiblhcaaGreat
open Go.RowKit Go.Sort
set_option maxRecDepth 100000 in
theorem find_ {w : World} {M : Nat → Option Nd} {q : Nat} {n : Nd} (h : Store w M) (hq : M q = some n) (hs : Srt n.its) (hn : n.its.length ≤ 1000) (k : ByteArray) :
 Calls Tryz.prog 97 #[.pointer (some ⟨q, 0, none⟩), .string k] w (FindTo w n.its k) := by
 obtain ⟨c1, _, _, _⟩ := h.cells hq
 have HB := Lib.hid (bin_ (h.its q n hq).items hs hn k)
 clear h hq hs hn
 generalize n.iv = v at *
 go_enter Tryz.func97, Tryz.ntmps97
 go_wp2_with (first | (go_at_call 129; refine HB.out.mono ?_; rintro e w' ⟨i, b, rfl, hf, hb⟩; have HF := Lib.hid hf; have HW := Lib.hid hb; clear hf hb) | fail)
 go_ret2
 exact ⟨i, b, rfl, HF.out, HW.out⟩
set_option maxRecDepth 100000 in
theorem child_none {w : World} {M : Nat → Option Nd} {q : Nat} {n : Nd} (h : Store w M) (hq : M q = some n) (hk : n.ks = []) (i : Int) :
 Calls Tryz.prog 98 #[.pointer (some ⟨q, 0, none⟩), .int .i64 i] w fun e w' => e = .returned (.pointer none) ∧ w' = w := by
 obtain ⟨_, c1, _, _⟩ := h.cells hq
 obtain ⟨a, c, hv, _⟩ := row_shape (h.ks q n hq)
 rw [hk] at hv
 rw [hv] at c1
 clear h hq hk hv
 go_enter Tryz.func98, Tryz.ntmps98
 go_wp2_with fail
 go_ret
 exact ⟨rfl, rfl⟩
set_option maxRecDepth 100000 in
theorem child_at {w : World} {M : Nat → Option Nd} {q : Nat} {n : Nd} {K1 K2 : List Nat} {p : Nat} (h : Store w M) (hq : M q = some n) (hK : n.ks = K1 ++ p :: K2) :
 Calls Tryz.prog 98 #[.pointer (some ⟨q, 0, none⟩), .int .i64 K1.length] w fun e w' => e = .returned (pt p) ∧ w' = w := by
 obtain ⟨_, c1, _, _⟩ := h.cells hq
 obtain ⟨g, c, hcv, hgl, hp, hpf, hc63⟩ := h.kid hq hK
 rw [hcv] at c1
 clear h hq hK hcv
 unfold pt at *
 generalize K1.length = k1 at *
 generalize K2.length = k2 at *
 have hne : ¬ ((k1 : Int) + (k2 : Int) + 1 = 0) := by omega
 go_enter Tryz.func98, Tryz.ntmps98
 go_wp2_with fail
 go_ret
 exact ⟨rfl, rfl⟩
theorem items_cell {w : World} {M : Nat → Option Nd} {q : Nat} {n : Nd} (h : Store w M) (hq : M q = some n) : ∃ a c, w.cell? ⟨q, 0, none⟩ = some (.slice a n.its.length c) := by
 obtain ⟨c1, _, _, _⟩ := h.cells hq
 obtain ⟨a, c, hv, _⟩ := row_shape (h.its q n hq)
 exact ⟨a, c, by rw [c1, hv]⟩
theorem hasTooMany_ {w : World} {M : Nat → Option Nd} {q : Nat} {n : Nd} (h : Store w M) (hq : M q = some n) :
 Calls Tryz.prog 115 #[.pointer (some ⟨q, 0, none⟩)] w fun e w' => e = .returned (.bool (decide (7 < n.its.length))) ∧ w' = w := by
 obtain ⟨a, c, c1⟩ := items_cell h hq
 generalize n.its.length = l at *
 clear h hq
 go_enter Tryz.func115, Tryz.ntmps115
 go_wp2_with fail
 go_ret
 exact ⟨by simp; omega, rfl⟩
end Go.Proofs.YtalmanfjiblhcaaGreat
