/- slices.Insert at items; slices.Insert at children. -/
import Derived.Test.YtalmanfjiblhcaaGreatJ10
import Derived.Deep.RegionLaw
namespace Go.Proofs.YtalmanfjiblhcaaGreat
open Go.RowKit Go.Sort
def InsToI (w : World) (v : Value) (n : Nat) (zs : List Value) (e : Ending) (w' : World) : Prop :=
 ∃ g c, e = .returned (.slice (some ⟨g, 0, none⟩) n c) ∧ w'.ownsRow 0 200 2 (.slice (some ⟨g, 0, none⟩) n c) n zs ∧ w.grownBy w' v.ownBlock ∧ (v.ownBlock = some g ∨ w.heap.size ≤ g)
theorem insToI_of {w w' : World} {v v' : Value} {n : Nat} {zs : List Value} (hn : 0 < n) (h : w'.ownsRow 0 200 2 v' n zs) (hg : w.grownBy w' v.ownBlock) (hb : v'.ownBlock = v.ownBlock ∨ v'.ownBlock = some w.heap.size) : InsToI w v n zs (.returned v') w' := by
 obtain ⟨g, c, cur, rfl, _⟩ := row_open h hn
 refine ⟨g, c, rfl, h, hg, ?_⟩
 rcases hb with e | e
 · exact .inl e.symm
 · simp only [Value.ownBlock, Option.some.injEq] at e
   exact .inr (Nat.le_of_eq e.symm)
set_option maxRecDepth 100000 in
set_option maxHeartbeats 2000000 in
theorem insI_end {w : World} {v : Value} {n : Nat} {xs ys : List Value} (h : w.ownsRow 0 200 2 v n xs) (hn : n ≤ 1000) (b : Nat) (hy : w.heap[b]? = some (.cells ys.toArray 200 (0, 0))) (hyl : ys.length = 1 * 2) (hy1 : ∀ u ∈ ys, u.oneCell' = true) :
 Calls Tryz.prog 140 #[v, .int .i64 n, .slice (some ⟨b, 0, none⟩) 1 1] w (InsToI w v (n + 1) (xs ++ ys)) := by
 obtain ⟨i0, hi0, hz0, hz1, hz2⟩ := info_parts infoVI
 obtain ⟨a, c, rfl, ha0, ha1, hnc, hcm⟩ := row_shape h
 have HR := Lib.hid (run_append_own_at (P := Tryz.prog) w 0 201 201 200 i0 _ 2 40 Tryz.underlying201 hi0 hz0 hz1 hz2 rfl (by decide) _ n xs h ⟨b, 0, none⟩ 1 1 ys hyl (row_news hy) hy1 (by unfold maxLen; omega) (by omega) (Nat.zero_le _))
 have hcm' : c ≤ 9223372036854775807 := by unfold maxLen at hcm; omega
 clear h hy
 cases a with
 | none =>
   obtain ⟨rfl, rfl⟩ := ha0 rfl
   obtain ⟨v', w', hr, h2, h3, _, h5⟩ := HR.out
   have HZ := Lib.hid (insToI_of (Nat.succ_pos _) h2 h3 h5)
   clear h2 h3 h5 HR
   go_enter Tryz.func140, Tryz.ntmps140
   go_wp2_with (at_builtin; refine Lib.wpList_append_run _ rfl _ _ _ _ rfl _ _ rfl rfl _ _ hr ?_)
   go_ret
   exact HZ.out
 | some ad =>
   obtain ⟨g, rfl⟩ := ha1 ad rfl
   obtain ⟨v', w', hr, h2, h3, _, h5⟩ := HR.out
   have HZ := Lib.hid (insToI_of (Nat.succ_pos _) h2 h3 h5)
   clear h2 h3 h5 HR ha0 ha1
   go_enter Tryz.func140, Tryz.ntmps140
   go_wp2_with (at_builtin; refine Lib.wpList_append_run _ rfl _ _ _ _ rfl _ _ rfl rfl _ _ hr ?_)
   all_goals (go_ret; exact HZ.out)
set_option maxRecDepth 100000 in
set_option maxHeartbeats 2000000 in
theorem insI_shift {w : World} {g n c i : Nat} {cur : Array Value} {xs ys : List Value} (hg : w.heap[g]? = some (.cells cur 200 (0, 0))) (hcs : cur.size = c * 2) (hx : cur.toList.take (n * 2) = xs) (hn : n ≤ 1000) (hi : i < n) (hroom : n + 1 ≤ c) (hcm : c ≤ maxLen) (b : Nat) (hy : w.heap[b]? = some (.cells ys.toArray 200 (0, 0))) (hyl : ys.length = 1 * 2) (hy1 : ∀ u ∈ ys, u.oneCell' = true) (hx1 : ∀ u ∈ xs, u.oneCell' = true) (hbg : b ≠ g) :
 Calls Tryz.prog 140 #[.slice (some ⟨g, 0, none⟩) n c, .int .i64 i, .slice (some ⟨b, 0, none⟩) 1 1] w (InsToI w (.slice (some ⟨g, 0, none⟩) n c) (n + 1) (xs.take (i * 2) ++ (ys ++ xs.drop (i * 2)))) := by
 obtain ⟨i0, hi0, hz0, hz1, hz2⟩ := info_parts infoVI
 have hcm' : c ≤ 9223372036854775807 := by unfold maxLen at hcm; omega
 have hxl : xs.length = n * 2 := by rw [← hx, List.length_take, Array.length_toList, hcs]; omega
 obtain ⟨A1, hA1⟩ : ∃ A1, A1 = cur.toList.take (i * 2 + 2) ++ xs.drop (i * 2) ++ cur.toList.drop (i * 2 + 2 + (xs.drop (i * 2)).length) := ⟨_, rfl⟩
 obtain ⟨A2, hA2⟩ : ∃ A2, A2 = A1.take (i * 2) ++ ys ++ A1.drop (i * 2 + ys.length) := ⟨_, rfl⟩
 obtain ⟨l1, l2, l3⟩ := shift_list hx hxl (by omega) (by omega) (by rw [Array.length_toList, hcs]; omega) hA1 hA2
 have hdl : (xs.drop (i * 2)).length = (n - i) * 2 := by rw [List.length_drop, hxl]; omega
 have hov : ∀ lb cb, (callFunc 154 #[.slice (some ⟨b, 0, none⟩) 1 1, .slice (some ⟨g, (i + 1) * 2, none⟩) lb cb]).run Tryz.prog w = .ok (.value (.bool false)) w := fun lb cb => by
  rw [run_callFunc_extern Tryz.func154 (by kernel_rfl) (by kernel_rfl) (by kernel_rfl) (e := Extern.SlicesOverlaps.overlaps #[201, 201] #[4]) (by kernel_rfl),
   Lib.run_overlaps_apart w 201 4 200 Tryz.underlying201 2 (fun w => by kernel_rfl) ⟨b, 0, none⟩ ⟨g, (i + 1) * 2, none⟩ 1 1 lb cb hbg 200 200 ys.length cur.size (by simp [World.shape?, hy]) (by simp [World.shape?, hg]) (by rw [hcs]; omega) (frozen_of hy) (frozen_of hy)]
  rfl
 have hgd : w.drew.heap[g]? = some (.cells cur 200 (0, 0)) := hg
 have hcp1 : ∀ ty dc sc, (Builtin.copy_ #[201, 201] ty #[.slice (some ⟨g, (i + 1) * 2, none⟩) (n - i) dc, .slice (some ⟨g, i * 2, none⟩) (n + 1 - i) sc]).run Tryz.prog w.drew = .ok (goInt (Nat.min (n + 1 - i) (n - i))) (w.drew.setRow g A1.toArray) := fun ty dc sc => by
  have := run_copy_sz w.drew 201 201 ty 200 i0 g ((i + 1) * 2) (n - i) dc ⟨g, i * 2, none⟩ (n + 1 - i) sc cur 200 (xs.drop (i * 2)) Tryz.underlying201 hi0 hgd (by rw [hdl, hz1]; congr 1; simp only [Nat.min_def]; split <;> omega)
   (fun j u hj => by
     rw [Addr.add_lit]
     rw [List.getElem?_drop] at hj
     refine cell_of hgd ?_
     rw [← hx, List.getElem?_take] at hj
     split at hj
     · simpa using hj
     · cases hj) (by rw [hdl, hcs]; omega) (fun u hu => hx1 u (List.mem_of_mem_drop hu))
  rw [this, hA1, show i * 2 + 2 = (i + 1) * 2 by omega]
 have hgd2 : (w.drew.setRow g A1.toArray).heap[g]? = some (.cells A1.toArray 200 (0, 0)) := setRow_heap _ _ _ _ _ _ hgd
 have hyd2 : (w.drew.setRow g A1.toArray).heap[b]? = some (.cells ys.toArray 200 (0, 0)) := (setRow_other _ _ _ _ hbg).trans hy
 have hcp2 : ∀ ty dc, (Builtin.copy_ #[201, 201] ty #[.slice (some ⟨g, i * 2, none⟩) (n + 1 - i) dc, .slice (some ⟨b, 0, none⟩) 1 1]).run Tryz.prog (w.drew.setRow g A1.toArray) = .ok (goInt (Nat.min 1 (n + 1 - i))) ((w.drew.setRow g A1.toArray).setRow g A2.toArray) := fun ty dc => by
  have := run_copy_sz (w.drew.setRow g A1.toArray) 201 201 ty 200 i0 g (i * 2) (n + 1 - i) dc ⟨b, 0, none⟩ 1 1 A1.toArray 200 ys Tryz.underlying201 hi0 hgd2 (by rw [hyl, hz1]; congr 1; simp only [Nat.min_def]; split <;> omega)
   (row_news hyd2) (by rw [hyl, List.size_toArray, l1, Array.length_toList, hcs]; omega) hy1
  rw [this, hA2]
  try simp only [Nat.mul_one]
 have HZ : Hid (InsToI w (.slice (some ⟨g, 0, none⟩) n c) (n + 1) (xs.take (i * 2) ++ (ys ++ xs.drop (i * 2))) (.returned (.slice (some ⟨g, 0, none⟩) (n + 1) c)) ((w.drew.setRow g A1.toArray).setRow g A2.toArray)) :=
  ⟨g, c, rfl, row_mk (setRow_heap _ _ _ _ _ _ hgd2) hroom hcm (by rw [List.size_toArray, l2, Array.length_toList, hcs]) (by rw [List.toList_toArray, ← l3, show (n + 1) * 2 = n * 2 + 2 by omega]), grown_trans (grown_drew w _) (grown_trans (grown_setRow _ g _) (grown_setRow _ g _)), .inl rfl⟩
 have hz2' : ¬ ((i : Int) = (n : Int)) := by omega
 have hw1 : IntKind.i64.wrap ((i : Int) + 1) = (i : Int) + 1 := by rw [IntKind.wrap_i64]; omega
 have hw2 : IntKind.i64.wrap ((n : Int) + 1) = (n : Int) + 1 := by rw [IntKind.wrap_i64]; omega
 have hb2 : ¬ (c = i + 1) := by omega
 have hb4 : ¬ (c = i) := by omega
 have hlt : ¬ ((c : Int) < (n : Int) + 1) := by omega
 have htn : ((i : Int) + 1).toNat = i + 1 := by omega
 have hb1 : (0 : Int) ≤ (i : Int) + 1 := by omega
 have hin : i ≤ n := by omega
 have hb3 : (i : Int) ≤ (n : Int) + 1 := by omega
 have hb5 : (i : Int) + 1 ≤ (n : Int) + 1 := by omega
 have htn2 : ((n : Int) + 1).toNat = n + 1 := by omega
 clear hA1 hA2 l1 l2 l3 hdl hgd hgd2 hyd2 hg hy hyl hxl hx hcs hy1 hx1 hcm
 generalize w.drew.setRow g A1.toArray = W1 at *
 generalize W1.setRow g A2.toArray = W2 at *
 go_enter Tryz.func140, Tryz.ntmps140
 go_wp2_with (simp only [hov])
 go_region_law (refine step_copy_run rfl _ _ 201 201 rfl (.slice (some ⟨g, (i + 1) * 2, none⟩) (n - i) (c - (i + 1))) (.slice (some ⟨g, i * 2, none⟩) (n + 1 - i) (c - i)) (by simp [Act.eval, Act.put]) (by simp [Act.eval, Act.put]) (hcp1 _ _ _) ?_)
 go_wp2_with (at_builtin; refine wpList_copy_run _ rfl _ _ 201 201 rfl _ _ rfl rfl (hcp2 _ _) ?_)
 go_ret
 exact HZ.out
set_option maxRecDepth 100000 in
set_option maxHeartbeats 2000000 in
theorem insI_grow {w : World} {g n c i : Nat} {cur : Array Value} {xs ys : List Value} (hg : w.heap[g]? = some (.cells cur 200 (0, 0))) (hcs : cur.size = c * 2) (hx : cur.toList.take (n * 2) = xs) (hn : n ≤ 1000) (hi : i < n) (hnc : n ≤ c) (hroom : c < n + 1) (b : Nat) (hy : w.heap[b]? = some (.cells ys.toArray 200 (0, 0))) (hyl : ys.length = 1 * 2) (hy1 : ∀ u ∈ ys, u.oneCell' = true) (hx1 : ∀ u ∈ xs, u.oneCell' = true) :
 Calls Tryz.prog 140 #[.slice (some ⟨g, 0, none⟩) n c, .int .i64 i, .slice (some ⟨b, 0, none⟩) 1 1] w (InsToI w (.slice (some ⟨g, 0, none⟩) n c) (n + 1) (xs.take (i * 2) ++ (ys ++ xs.drop (i * 2)))) := by
 obtain ⟨i0, hi0, hz0, hz1, hz2⟩ := info_parts infoVI
 have hxl : xs.length = n * 2 := by rw [← hx, List.length_take, Array.length_toList, hcs]; omega
 have hgl := blk_lt hg
 have hbl := blk_lt hy
 have hsrc : ∀ V : World, (∀ k, k < w.heap.size → V.heap[k]? = w.heap[k]?) → ∀ j u, xs[j]? = some u → V.cell? ⟨g, j, none⟩ = some u := fun V hV j u hj => by
  refine cell_of ((hV g hgl).trans hg) ?_
  rw [← hx, List.getElem?_take] at hj
  split at hj
  · simpa using hj
  · cases hj
 have hold : (Builtin.firstCells i0.size i (.slice (some ⟨g, 0, none⟩) i c)).run Tryz.prog w.drew = .ok (xs.take (i * 2)).toArray w.drew := by
  rw [hz1]
  exact run_firstCells_some w.drew 2 i ⟨g, 0, none⟩ i c (xs.take (i * 2)) (by rw [List.length_take]; omega) (fun j u hj => by
   rw [Addr.add_lit, Nat.zero_add]
   rw [List.getElem?_take] at hj
   split at hj
   · exact hsrc w.drew (fun _ _ => rfl) j u hj
   · cases hj)
 have hkk : (n : Int) + 1 - (i : Int) = ((n + 1 - i : Nat) : Int) := by omega
 have hik : i + (n + 1 - i) = n + 1 := by omega
 obtain ⟨G, hG⟩ : ∃ G, G = grownCap w (n + 1) c 200 := ⟨_, rfl⟩
 obtain ⟨ROW, hROW⟩ : ∃ ROW : Array Value, ROW = (xs.take (i * 2)).toArray ++ Builtin.zeroCells (Value.cells (.agg #[.string ⟨#[]⟩, .slice none 0 0])) (n + 1 - i) ++ Builtin.zeroCells (Value.cells (.agg #[.string ⟨#[]⟩, .slice none 0 0])) (G - (n + 1)) := ⟨_, rfl⟩
 have hGn : n + 1 ≤ G := by rw [hG]; exact grownCap_ge w _ _ _
 have hGm : G ≤ maxLen := by rw [hG]; exact grownCap_le_maxLen w (n + 1) c 200 (by unfold maxLen; omega)
 have hzs : (Value.cells (.agg #[.string ⟨#[]⟩, .slice none 0 0])).size = 2 := rfl
 have hRl : ROW.size = G * 2 := by
  rw [hROW, Array.size_append, Array.size_append, size_zeroCells, size_zeroCells, List.size_toArray, List.length_take, hxl, hzs]
  omega
 have hRt : ROW.toList.take (i * 2) = xs.take (i * 2) := by
  rw [hROW, Array.toList_append, Array.toList_append, List.toList_toArray, List.append_assoc]
  exact List.take_left' (by rw [List.length_take]; omega)
 obtain ⟨R1, hR1⟩ : ∃ R1, R1 = ROW.toList.take (i * 2) ++ ys ++ ROW.toList.drop (i * 2 + ys.length) := ⟨_, rfl⟩
 obtain ⟨R2, hR2⟩ : ∃ R2, R2 = R1.take (i * 2 + 2) ++ xs.drop (i * 2) ++ R1.drop (i * 2 + 2 + (xs.drop (i * 2)).length) := ⟨_, rfl⟩
 obtain ⟨l1, l2, l3⟩ := grow_list hxl (by omega) (by omega) hRt (by rw [Array.length_toList, hRl]; omega) hR1 hR2
 have hdl : (xs.drop (i * 2)).length = (n - i) * 2 := by rw [List.length_drop, hxl]; omega
 obtain ⟨N, hN⟩ : ∃ N, N = w.heap.size := ⟨_, rfl⟩
 obtain ⟨W1, hW1⟩ : ∃ W1, W1 = w.drew.alloc (.cells ROW 200) := ⟨_, rfl⟩
 obtain ⟨W2, hW2⟩ : ∃ W2, W2 = W1.setRow N R1.toArray := ⟨_, rfl⟩
 obtain ⟨W3, hW3⟩ : ∃ W3, W3 = W2.drew.setRow N R2.toArray := ⟨_, rfl⟩
 have b1 : W1.heap[N]? = some (.cells ROW 200 (0, 0)) := by rw [hW1, hN]; exact new_blk w.drew _
 have o1 : Below w.heap.size w W1 := by rw [hW1]; exact below_step (below_drew w) (below_alloc w.drew _)
 have b2 : W2.heap[N]? = some (.cells R1.toArray 200 (0, 0)) := by rw [hW2]; exact setRow_heap _ _ _ _ _ _ b1
 have o2 : Below w.heap.size w W2 := by rw [hW2]; exact below_setRow o1 (by omega) _
 have b3 : W3.heap[N]? = some (.cells R2.toArray 200 (0, 0)) := by rw [hW3]; exact setRow_heap _ _ _ _ _ _ (show W2.drew.heap[N]? = _ from b2)
 have o3 : Below w.heap.size w W3 := by rw [hW3]; exact below_setRow o2.drew (by omega) _
 have hrz : ∀ ty, (Builtin.append_ #[201, 3] ty #[.slice (some ⟨g, 0, none⟩) i c, .int .i64 ((n : Int) + 1 - (i : Int))]).run Tryz.prog w = .ok (.slice (some ⟨N, 0, none⟩) (n + 1) G) W1 := fun ty => by
  have h := Lib.run_append_grow_zeros w 201 3 ty 200 i0 _ .i64 .i64 Tryz.underlying201 Tryz.underlying3 hi0 hz0 (some ⟨g, 0, none⟩) i c (xs.take (i * 2)) hold (n + 1 - i) (by omega) (by omega) (by omega) (by omega) (by rw [hz2]; omega) (by rw [hz2, hik]; exact growslice_fits hroom (by omega))
  rw [hik, ← hG, ← hROW, ← hN, ← hW1] at h
  rw [hkk]
  exact h
 have hcpA : ∀ ty dc, (Builtin.copy_ #[201, 201] ty #[.slice (some ⟨N, i * 2, none⟩) (n + 1 - i) dc, .slice (some ⟨b, 0, none⟩) 1 1]).run Tryz.prog W1 = .ok (goInt (Nat.min 1 (n + 1 - i))) W2 := fun ty dc => by
  have := run_copy_sz W1 201 201 ty 200 i0 N (i * 2) (n + 1 - i) dc ⟨b, 0, none⟩ 1 1 ROW 200 ys Tryz.underlying201 hi0 b1 (by rw [hyl, hz1]; congr 1; simp only [Nat.min_def]; split <;> omega)
   (row_news ((o1.block b hbl).trans hy)) (by rw [hyl, hRl]; omega) hy1
  rw [this, hW2, hR1]
  try simp only [Nat.mul_one]
 have hcpB : ∀ ty dc sc, (Builtin.copy_ #[201, 201] ty #[.slice (some ⟨N, (i + 1) * 2, none⟩) (n - i) dc, .slice (some ⟨g, i * 2, none⟩) (n - i) sc]).run Tryz.prog W2.drew = .ok (goInt (Nat.min (n - i) (n - i))) W3 := fun ty dc sc => by
  have := run_copy_sz W2.drew 201 201 ty 200 i0 N ((i + 1) * 2) (n - i) dc ⟨g, i * 2, none⟩ (n - i) sc R1.toArray 200 (xs.drop (i * 2)) Tryz.underlying201 hi0 b2 (by rw [hdl, hz1]; congr 1; simp only [Nat.min_def]; split <;> omega)
   (fun j u hj => by
     rw [Addr.add_lit]
     rw [List.getElem?_drop] at hj
     have := hsrc W2.drew (fun k hk => o2.block k hk) (i * 2 + j) u hj
     simpa using this) (by rw [hdl, List.size_toArray, l1, Array.length_toList, hRl]; omega) (fun u hu => hx1 u (List.mem_of_mem_drop hu))
  rw [this, hW3, hR2, show i * 2 + 2 = (i + 1) * 2 by omega]
 have HZ : Hid (InsToI w (.slice (some ⟨g, 0, none⟩) n c) (n + 1) (xs.take (i * 2) ++ (ys ++ xs.drop (i * 2))) (.returned (.slice (some ⟨N, 0, none⟩) (n + 1) G)) W3) :=
  ⟨N, G, rfl, row_mk b3 hGn hGm (by rw [List.size_toArray, l2, Array.length_toList, hRl]) (by rw [List.toList_toArray, ← l3, show (n + 1) * 2 = n * 2 + 2 by omega]), grown_below _ o3, .inr (by omega)⟩
 have hz2' : ¬ ((i : Int) = (n : Int)) := by omega
 have hw1 : IntKind.i64.wrap ((i : Int) + 1) = (i : Int) + 1 := by rw [IntKind.wrap_i64]; omega
 have hw2 : IntKind.i64.wrap ((n : Int) + 1) = (n : Int) + 1 := by rw [IntKind.wrap_i64]; omega
 have hw3 : IntKind.i64.wrap ((n : Int) + 1 - (i : Int)) = (n : Int) + 1 - (i : Int) := by rw [IntKind.wrap_i64]; omega
 have hb2 : ¬ (G = i + 1) := by omega
 have hb6 : ¬ (G = i) := by omega
 have hb4 : ¬ (c = i) := by omega
 have hlt : ((c : Int) < (n : Int) + 1) := by omega
 have htn : ((i : Int) + 1).toNat = i + 1 := by omega
 have hb1 : (0 : Int) ≤ (i : Int) + 1 := by omega
 have hin : i ≤ n := by omega
 have hb3 : (i : Int) ≤ (n : Int) + 1 := by omega
 have hb5 : (i : Int) + 1 ≤ (n : Int) + 1 := by omega
 have hG6 : G ≤ 9223372036854775807 := by unfold maxLen at hGm; omega
 clear hN hR1 hR2 l1 l2 l3 hdl hg hy hyl hxl hx hcs hy1 hx1 hRl hRt hROW hG hold hsrc hkk hik hW1 hW2 hW3 b1 b2 b3 o1 o2 o3 hGm hzs
 go_enter Tryz.func140, Tryz.ntmps140
 go_wp2_with (first
  | (at_builtin; refine Lib.wpList_append_run _ rfl _ _ _ _ rfl _ _ rfl rfl _ _ (hrz _) ?_)
  | (at_builtin; refine wpList_copy_run _ rfl _ _ 201 201 rfl _ _ rfl rfl (hcpA _ _) ?_))
 go_region_law (refine step_copy_run rfl _ _ 201 201 rfl (.slice (some ⟨N, (i + 1) * 2, none⟩) (n - i) (G - (i + 1))) (.slice (some ⟨g, i * 2, none⟩) (n - i) (c - i)) (by simp [Act.eval, Act.put]) (by simp [Act.eval, Act.put]) (hcpB _ _ _) ?_)
 go_wp2
 go_ret
 exact HZ.out
theorem insI_ {w : World} {v : Value} {n i : Nat} {xs ys : List Value} (h : w.ownsRow 0 200 2 v n xs) (hi : i ≤ n) (hn : n ≤ 1000) (b : Nat) (hy : w.heap[b]? = some (.cells ys.toArray 200 (0, 0))) (hyl : ys.length = 1 * 2) (hy1 : ∀ u ∈ ys, u.oneCell' = true) (hx1 : ∀ u ∈ xs, u.oneCell' = true) (hb : v.ownBlock ≠ some b) :
 Calls Tryz.prog 140 #[v, .int .i64 i, .slice (some ⟨b, 0, none⟩) 1 1] w (InsToI w v (n + 1) (xs.take (i * 2) ++ (ys ++ xs.drop (i * 2)))) := by
 by_cases he : i = n
 · subst he
   have := insI_end h hn b hy hyl hy1
   have hl := h.1
   rw [List.take_of_length_le (by omega), List.drop_of_length_le (by omega), List.append_nil]
   exact this
 · obtain ⟨g, c, cur, rfl, hg, hnc, hcm, hcs, hx⟩ := row_open h (by omega)
   by_cases hr : n + 1 ≤ c
   · exact insI_shift hg hcs hx hn (by omega) hr hcm b hy hyl hy1 hx1 fun e => hb (by rw [e]; rfl)
   · exact insI_grow hg hcs hx hn (by omega) hnc (by omega) b hy hyl hy1 hx1
end Go.Proofs.YtalmanfjiblhcaaGreat
namespace Go.Proofs.YtalmanfjiblhcaaGreat
open Go.RowKit Go.Sort
def InsToP (w : World) (v : Value) (n : Nat) (zs : List Value) (e : Ending) (w' : World) : Prop :=
 ∃ g c, e = .returned (.slice (some ⟨g, 0, none⟩) n c) ∧ w'.ownsRow 0 196 1 (.slice (some ⟨g, 0, none⟩) n c) n zs ∧ w.grownBy w' v.ownBlock ∧ (v.ownBlock = some g ∨ w.heap.size ≤ g)
theorem insToP_of {w w' : World} {v v' : Value} {n : Nat} {zs : List Value} (hn : 0 < n) (h : w'.ownsRow 0 196 1 v' n zs) (hg : w.grownBy w' v.ownBlock) (hb : v'.ownBlock = v.ownBlock ∨ v'.ownBlock = some w.heap.size) : InsToP w v n zs (.returned v') w' := by
 obtain ⟨g, c, cur, rfl, _⟩ := row_open h hn
 refine ⟨g, c, rfl, h, hg, ?_⟩
 rcases hb with e | e
 · exact .inl e.symm
 · simp only [Value.ownBlock, Option.some.injEq] at e
   exact .inr (Nat.le_of_eq e.symm)
set_option maxRecDepth 100000 in
set_option maxHeartbeats 2000000 in
theorem insP_end {w : World} {v : Value} {n : Nat} {xs ys : List Value} (h : w.ownsRow 0 196 1 v n xs) (hn : n ≤ 1000) (b : Nat) (hy : w.heap[b]? = some (.cells ys.toArray 196 (0, 0))) (hyl : ys.length = 1 * 1) (hy1 : ∀ u ∈ ys, u.oneCell' = true) :
 Calls Tryz.prog 144 #[v, .int .i64 n, .slice (some ⟨b, 0, none⟩) 1 1] w (InsToP w v (n + 1) (xs ++ ys)) := by
 obtain ⟨i0, hi0, hz0, hz1, hz2⟩ := info_parts infoVP
 obtain ⟨a, c, rfl, ha0, ha1, hnc, hcm⟩ := row_shape h
 have HR := Lib.hid (run_append_own_at (P := Tryz.prog) w 0 202 202 196 i0 _ 1 8 Tryz.underlying202 hi0 hz0 hz1 hz2 rfl (by decide) _ n xs h ⟨b, 0, none⟩ 1 1 ys hyl (row_news hy) hy1 (by unfold maxLen; omega) (by omega) (Nat.zero_le _))
 have hcm' : c ≤ 9223372036854775807 := by unfold maxLen at hcm; omega
 clear h hy
 cases a with
 | none =>
   obtain ⟨rfl, rfl⟩ := ha0 rfl
   obtain ⟨v', w', hr, h2, h3, _, h5⟩ := HR.out
   have HZ := Lib.hid (insToP_of (Nat.succ_pos _) h2 h3 h5)
   clear h2 h3 h5 HR
   go_enter Tryz.func144, Tryz.ntmps144
   go_wp2_with (at_builtin; refine Lib.wpList_append_run _ rfl _ _ _ _ rfl _ _ rfl rfl _ _ hr ?_)
   go_ret
   exact HZ.out
 | some ad =>
   obtain ⟨g, rfl⟩ := ha1 ad rfl
   obtain ⟨v', w', hr, h2, h3, _, h5⟩ := HR.out
   have HZ := Lib.hid (insToP_of (Nat.succ_pos _) h2 h3 h5)
   clear h2 h3 h5 HR ha0 ha1
   go_enter Tryz.func144, Tryz.ntmps144
   go_wp2_with (at_builtin; refine Lib.wpList_append_run _ rfl _ _ _ _ rfl _ _ rfl rfl _ _ hr ?_)
   all_goals (go_ret; exact HZ.out)
set_option maxRecDepth 100000 in
set_option maxHeartbeats 2000000 in
theorem insP_shift {w : World} {g n c i : Nat} {cur : Array Value} {xs ys : List Value} (hg : w.heap[g]? = some (.cells cur 196 (0, 0))) (hcs : cur.size = c * 1) (hx : cur.toList.take (n * 1) = xs) (hn : n ≤ 1000) (hi : i < n) (hroom : n + 1 ≤ c) (hcm : c ≤ maxLen) (b : Nat) (hy : w.heap[b]? = some (.cells ys.toArray 196 (0, 0))) (hyl : ys.length = 1 * 1) (hy1 : ∀ u ∈ ys, u.oneCell' = true) (hx1 : ∀ u ∈ xs, u.oneCell' = true) (hbg : b ≠ g) :
 Calls Tryz.prog 144 #[.slice (some ⟨g, 0, none⟩) n c, .int .i64 i, .slice (some ⟨b, 0, none⟩) 1 1] w (InsToP w (.slice (some ⟨g, 0, none⟩) n c) (n + 1) (xs.take (i * 1) ++ (ys ++ xs.drop (i * 1)))) := by
 obtain ⟨i0, hi0, hz0, hz1, hz2⟩ := info_parts infoVP
 have hcm' : c ≤ 9223372036854775807 := by unfold maxLen at hcm; omega
 have hxl : xs.length = n * 1 := by rw [← hx, List.length_take, Array.length_toList, hcs]; omega
 obtain ⟨A1, hA1⟩ : ∃ A1, A1 = cur.toList.take (i * 1 + 1) ++ xs.drop (i * 1) ++ cur.toList.drop (i * 1 + 1 + (xs.drop (i * 1)).length) := ⟨_, rfl⟩
 obtain ⟨A2, hA2⟩ : ∃ A2, A2 = A1.take (i * 1) ++ ys ++ A1.drop (i * 1 + ys.length) := ⟨_, rfl⟩
 obtain ⟨l1, l2, l3⟩ := shift_list hx hxl (by omega) (by omega) (by rw [Array.length_toList, hcs]; omega) hA1 hA2
 have hdl : (xs.drop (i * 1)).length = (n - i) * 1 := by rw [List.length_drop, hxl]; omega
 have hov : ∀ lb cb, (callFunc 156 #[.slice (some ⟨b, 0, none⟩) 1 1, .slice (some ⟨g, (i + 1), none⟩) lb cb]).run Tryz.prog w = .ok (.value (.bool false)) w := fun lb cb => by
  rw [run_callFunc_extern Tryz.func156 (by kernel_rfl) (by kernel_rfl) (by kernel_rfl) (e := Extern.SlicesOverlaps.overlaps #[202, 202] #[4]) (by kernel_rfl),
   Lib.run_overlaps_apart w 202 4 196 Tryz.underlying202 1 (fun w => by kernel_rfl) ⟨b, 0, none⟩ ⟨g, (i + 1), none⟩ 1 1 lb cb hbg 196 196 ys.length cur.size (by simp [World.shape?, hy]) (by simp [World.shape?, hg]) (by rw [hcs]; omega) (frozen_of hy) (frozen_of hy)]
  rfl
 have hgd : w.drew.heap[g]? = some (.cells cur 196 (0, 0)) := hg
 have hcp1 : ∀ ty dc sc, (Builtin.copy_ #[202, 202] ty #[.slice (some ⟨g, (i + 1), none⟩) (n - i) dc, .slice (some ⟨g, i, none⟩) (n + 1 - i) sc]).run Tryz.prog w.drew = .ok (goInt (Nat.min (n + 1 - i) (n - i))) (w.drew.setRow g A1.toArray) := fun ty dc sc => by
  have := run_copy_sz w.drew 202 202 ty 196 i0 g ((i + 1)) (n - i) dc ⟨g, i, none⟩ (n + 1 - i) sc cur 196 (xs.drop (i * 1)) Tryz.underlying202 hi0 hgd (by rw [hdl, hz1]; congr 1; simp only [Nat.min_def]; split <;> omega)
   (fun j u hj => by
     rw [Addr.add_lit]
     rw [List.getElem?_drop] at hj
     refine cell_of hgd ?_
     rw [← hx, List.getElem?_take] at hj
     split at hj
     · simpa using hj
     · cases hj) (by rw [hdl, hcs]; omega) (fun u hu => hx1 u (List.mem_of_mem_drop hu))
  rw [this, hA1, show i * 1 + 1 = (i + 1) by omega]
 have hgd2 : (w.drew.setRow g A1.toArray).heap[g]? = some (.cells A1.toArray 196 (0, 0)) := setRow_heap _ _ _ _ _ _ hgd
 have hyd2 : (w.drew.setRow g A1.toArray).heap[b]? = some (.cells ys.toArray 196 (0, 0)) := (setRow_other _ _ _ _ hbg).trans hy
 have hcp2 : ∀ ty dc, (Builtin.copy_ #[202, 202] ty #[.slice (some ⟨g, i, none⟩) (n + 1 - i) dc, .slice (some ⟨b, 0, none⟩) 1 1]).run Tryz.prog (w.drew.setRow g A1.toArray) = .ok (goInt (Nat.min 1 (n + 1 - i))) ((w.drew.setRow g A1.toArray).setRow g A2.toArray) := fun ty dc => by
  have := run_copy_sz (w.drew.setRow g A1.toArray) 202 202 ty 196 i0 g (i) (n + 1 - i) dc ⟨b, 0, none⟩ 1 1 A1.toArray 196 ys Tryz.underlying202 hi0 hgd2 (by rw [hyl, hz1]; congr 1; simp only [Nat.min_def]; split <;> omega)
   (row_news hyd2) (by rw [hyl, List.size_toArray, l1, Array.length_toList, hcs]; omega) hy1
  rw [this, hA2]
  try simp only [Nat.mul_one]
 have HZ : Hid (InsToP w (.slice (some ⟨g, 0, none⟩) n c) (n + 1) (xs.take (i * 1) ++ (ys ++ xs.drop (i * 1))) (.returned (.slice (some ⟨g, 0, none⟩) (n + 1) c)) ((w.drew.setRow g A1.toArray).setRow g A2.toArray)) :=
  ⟨g, c, rfl, row_mk (setRow_heap _ _ _ _ _ _ hgd2) hroom hcm (by rw [List.size_toArray, l2, Array.length_toList, hcs]) (by rw [List.toList_toArray, ← l3, show (n + 1) * 1 = n * 1 + 1 by omega]), grown_trans (grown_drew w _) (grown_trans (grown_setRow _ g _) (grown_setRow _ g _)), .inl rfl⟩
 have hz2' : ¬ ((i : Int) = (n : Int)) := by omega
 have hw1 : IntKind.i64.wrap ((i : Int) + 1) = (i : Int) + 1 := by rw [IntKind.wrap_i64]; omega
 have hw2 : IntKind.i64.wrap ((n : Int) + 1) = (n : Int) + 1 := by rw [IntKind.wrap_i64]; omega
 have hb2 : ¬ (c = i + 1) := by omega
 have hb4 : ¬ (c = i) := by omega
 have hlt : ¬ ((c : Int) < (n : Int) + 1) := by omega
 have htn : ((i : Int) + 1).toNat = i + 1 := by omega
 have hb1 : (0 : Int) ≤ (i : Int) + 1 := by omega
 have hin : i ≤ n := by omega
 have hb3 : (i : Int) ≤ (n : Int) + 1 := by omega
 have hb5 : (i : Int) + 1 ≤ (n : Int) + 1 := by omega
 have htn2 : ((n : Int) + 1).toNat = n + 1 := by omega
 clear hA1 hA2 l1 l2 l3 hdl hgd hgd2 hyd2 hg hy hyl hxl hx hcs hy1 hx1 hcm
 generalize w.drew.setRow g A1.toArray = W1 at *
 generalize W1.setRow g A2.toArray = W2 at *
 go_enter Tryz.func144, Tryz.ntmps144
 go_wp2_with (simp only [hov])
 go_region_law (refine step_copy_run rfl _ _ 202 202 rfl (.slice (some ⟨g, (i + 1), none⟩) (n - i) (c - (i + 1))) (.slice (some ⟨g, i, none⟩) (n + 1 - i) (c - i)) (by simp [Act.eval, Act.put]) (by simp [Act.eval, Act.put]) (hcp1 _ _ _) ?_)
 go_wp2_with (at_builtin; refine wpList_copy_run _ rfl _ _ 202 202 rfl _ _ rfl rfl (hcp2 _ _) ?_)
 go_ret
 exact HZ.out
set_option maxRecDepth 100000 in
set_option maxHeartbeats 2000000 in
theorem insP_grow {w : World} {g n c i : Nat} {cur : Array Value} {xs ys : List Value} (hg : w.heap[g]? = some (.cells cur 196 (0, 0))) (hcs : cur.size = c * 1) (hx : cur.toList.take (n * 1) = xs) (hn : n ≤ 1000) (hi : i < n) (hnc : n ≤ c) (hroom : c < n + 1) (b : Nat) (hy : w.heap[b]? = some (.cells ys.toArray 196 (0, 0))) (hyl : ys.length = 1 * 1) (hy1 : ∀ u ∈ ys, u.oneCell' = true) (hx1 : ∀ u ∈ xs, u.oneCell' = true) :
 Calls Tryz.prog 144 #[.slice (some ⟨g, 0, none⟩) n c, .int .i64 i, .slice (some ⟨b, 0, none⟩) 1 1] w (InsToP w (.slice (some ⟨g, 0, none⟩) n c) (n + 1) (xs.take (i * 1) ++ (ys ++ xs.drop (i * 1)))) := by
 obtain ⟨i0, hi0, hz0, hz1, hz2⟩ := info_parts infoVP
 have hxl : xs.length = n * 1 := by rw [← hx, List.length_take, Array.length_toList, hcs]; omega
 have hgl := blk_lt hg
 have hbl := blk_lt hy
 have hsrc : ∀ V : World, (∀ k, k < w.heap.size → V.heap[k]? = w.heap[k]?) → ∀ j u, xs[j]? = some u → V.cell? ⟨g, j, none⟩ = some u := fun V hV j u hj => by
  refine cell_of ((hV g hgl).trans hg) ?_
  rw [← hx, List.getElem?_take] at hj
  split at hj
  · simpa using hj
  · cases hj
 have hold : (Builtin.firstCells i0.size i (.slice (some ⟨g, 0, none⟩) i c)).run Tryz.prog w.drew = .ok (xs.take (i * 1)).toArray w.drew := by
  rw [hz1]
  exact run_firstCells_some w.drew 1 i ⟨g, 0, none⟩ i c (xs.take (i * 1)) (by rw [List.length_take]; omega) (fun j u hj => by
   rw [Addr.add_lit, Nat.zero_add]
   rw [List.getElem?_take] at hj
   split at hj
   · exact hsrc w.drew (fun _ _ => rfl) j u hj
   · cases hj)
 have hkk : (n : Int) + 1 - (i : Int) = ((n + 1 - i : Nat) : Int) := by omega
 have hik : i + (n + 1 - i) = n + 1 := by omega
 obtain ⟨G, hG⟩ : ∃ G, G = grownCap w (n + 1) c 196 := ⟨_, rfl⟩
 obtain ⟨ROW, hROW⟩ : ∃ ROW : Array Value, ROW = (xs.take (i * 1)).toArray ++ Builtin.zeroCells (Value.cells (.pointer none)) (n + 1 - i) ++ Builtin.zeroCells (Value.cells (.pointer none)) (G - (n + 1)) := ⟨_, rfl⟩
 have hGn : n + 1 ≤ G := by rw [hG]; exact grownCap_ge w _ _ _
 have hGm : G ≤ maxLen := by rw [hG]; exact grownCap_le_maxLen w (n + 1) c 196 (by unfold maxLen; omega)
 have hzs : (Value.cells (.pointer none)).size = 1 := rfl
 have hRl : ROW.size = G * 1 := by
  rw [hROW, Array.size_append, Array.size_append, size_zeroCells, size_zeroCells, List.size_toArray, List.length_take, hxl, hzs]
  omega
 have hRt : ROW.toList.take (i * 1) = xs.take (i * 1) := by
  rw [hROW, Array.toList_append, Array.toList_append, List.toList_toArray, List.append_assoc]
  exact List.take_left' (by rw [List.length_take]; omega)
 obtain ⟨R1, hR1⟩ : ∃ R1, R1 = ROW.toList.take (i * 1) ++ ys ++ ROW.toList.drop (i * 1 + ys.length) := ⟨_, rfl⟩
 obtain ⟨R2, hR2⟩ : ∃ R2, R2 = R1.take (i * 1 + 1) ++ xs.drop (i * 1) ++ R1.drop (i * 1 + 1 + (xs.drop (i * 1)).length) := ⟨_, rfl⟩
 obtain ⟨l1, l2, l3⟩ := grow_list hxl (by omega) (by omega) hRt (by rw [Array.length_toList, hRl]; omega) hR1 hR2
 have hdl : (xs.drop (i * 1)).length = (n - i) * 1 := by rw [List.length_drop, hxl]; omega
 obtain ⟨N, hN⟩ : ∃ N, N = w.heap.size := ⟨_, rfl⟩
 obtain ⟨W1, hW1⟩ : ∃ W1, W1 = w.drew.alloc (.cells ROW 196) := ⟨_, rfl⟩
 obtain ⟨W2, hW2⟩ : ∃ W2, W2 = W1.setRow N R1.toArray := ⟨_, rfl⟩
 obtain ⟨W3, hW3⟩ : ∃ W3, W3 = W2.drew.setRow N R2.toArray := ⟨_, rfl⟩
 have b1 : W1.heap[N]? = some (.cells ROW 196 (0, 0)) := by rw [hW1, hN]; exact new_blk w.drew _
 have o1 : Below w.heap.size w W1 := by rw [hW1]; exact below_step (below_drew w) (below_alloc w.drew _)
 have b2 : W2.heap[N]? = some (.cells R1.toArray 196 (0, 0)) := by rw [hW2]; exact setRow_heap _ _ _ _ _ _ b1
 have o2 : Below w.heap.size w W2 := by rw [hW2]; exact below_setRow o1 (by omega) _
 have b3 : W3.heap[N]? = some (.cells R2.toArray 196 (0, 0)) := by rw [hW3]; exact setRow_heap _ _ _ _ _ _ (show W2.drew.heap[N]? = _ from b2)
 have o3 : Below w.heap.size w W3 := by rw [hW3]; exact below_setRow o2.drew (by omega) _
 have hrz : ∀ ty, (Builtin.append_ #[202, 3] ty #[.slice (some ⟨g, 0, none⟩) i c, .int .i64 ((n : Int) + 1 - (i : Int))]).run Tryz.prog w = .ok (.slice (some ⟨N, 0, none⟩) (n + 1) G) W1 := fun ty => by
  have h := Lib.run_append_grow_zeros w 202 3 ty 196 i0 _ .i64 .i64 Tryz.underlying202 Tryz.underlying3 hi0 hz0 (some ⟨g, 0, none⟩) i c (xs.take (i * 1)) hold (n + 1 - i) (by omega) (by omega) (by omega) (by omega) (by rw [hz2]; omega) (by rw [hz2, hik]; exact growslice_fits hroom (by omega))
  rw [hik, ← hG, ← hROW, ← hN, ← hW1] at h
  rw [hkk]
  exact h
 have hcpA : ∀ ty dc, (Builtin.copy_ #[202, 202] ty #[.slice (some ⟨N, i, none⟩) (n + 1 - i) dc, .slice (some ⟨b, 0, none⟩) 1 1]).run Tryz.prog W1 = .ok (goInt (Nat.min 1 (n + 1 - i))) W2 := fun ty dc => by
  have := run_copy_sz W1 202 202 ty 196 i0 N (i) (n + 1 - i) dc ⟨b, 0, none⟩ 1 1 ROW 196 ys Tryz.underlying202 hi0 b1 (by rw [hyl, hz1]; congr 1; simp only [Nat.min_def]; split <;> omega)
   (row_news ((o1.block b hbl).trans hy)) (by rw [hyl, hRl]; omega) hy1
  rw [this, hW2, hR1]
  try simp only [Nat.mul_one]
 have hcpB : ∀ ty dc sc, (Builtin.copy_ #[202, 202] ty #[.slice (some ⟨N, (i + 1), none⟩) (n - i) dc, .slice (some ⟨g, i, none⟩) (n - i) sc]).run Tryz.prog W2.drew = .ok (goInt (Nat.min (n - i) (n - i))) W3 := fun ty dc sc => by
  have := run_copy_sz W2.drew 202 202 ty 196 i0 N ((i + 1)) (n - i) dc ⟨g, i, none⟩ (n - i) sc R1.toArray 196 (xs.drop (i * 1)) Tryz.underlying202 hi0 b2 (by rw [hdl, hz1]; congr 1; simp only [Nat.min_def]; split <;> omega)
   (fun j u hj => by
     rw [Addr.add_lit]
     rw [List.getElem?_drop] at hj
     have := hsrc W2.drew (fun k hk => o2.block k hk) (i * 1 + j) u hj
     simpa using this) (by rw [hdl, List.size_toArray, l1, Array.length_toList, hRl]; omega) (fun u hu => hx1 u (List.mem_of_mem_drop hu))
  rw [this, hW3, hR2, show i * 1 + 1 = (i + 1) by omega]
 have HZ : Hid (InsToP w (.slice (some ⟨g, 0, none⟩) n c) (n + 1) (xs.take (i * 1) ++ (ys ++ xs.drop (i * 1))) (.returned (.slice (some ⟨N, 0, none⟩) (n + 1) G)) W3) :=
  ⟨N, G, rfl, row_mk b3 hGn hGm (by rw [List.size_toArray, l2, Array.length_toList, hRl]) (by rw [List.toList_toArray, ← l3, show (n + 1) * 1 = n * 1 + 1 by omega]), grown_below _ o3, .inr (by omega)⟩
 have hz2' : ¬ ((i : Int) = (n : Int)) := by omega
 have hw1 : IntKind.i64.wrap ((i : Int) + 1) = (i : Int) + 1 := by rw [IntKind.wrap_i64]; omega
 have hw2 : IntKind.i64.wrap ((n : Int) + 1) = (n : Int) + 1 := by rw [IntKind.wrap_i64]; omega
 have hw3 : IntKind.i64.wrap ((n : Int) + 1 - (i : Int)) = (n : Int) + 1 - (i : Int) := by rw [IntKind.wrap_i64]; omega
 have hb2 : ¬ (G = i + 1) := by omega
 have hb6 : ¬ (G = i) := by omega
 have hb4 : ¬ (c = i) := by omega
 have hlt : ((c : Int) < (n : Int) + 1) := by omega
 have htn : ((i : Int) + 1).toNat = i + 1 := by omega
 have hb1 : (0 : Int) ≤ (i : Int) + 1 := by omega
 have hin : i ≤ n := by omega
 have hb3 : (i : Int) ≤ (n : Int) + 1 := by omega
 have hb5 : (i : Int) + 1 ≤ (n : Int) + 1 := by omega
 have hG6 : G ≤ 9223372036854775807 := by unfold maxLen at hGm; omega
 clear hN hR1 hR2 l1 l2 l3 hdl hg hy hyl hxl hx hcs hy1 hx1 hRl hRt hROW hG hold hsrc hkk hik hW1 hW2 hW3 b1 b2 b3 o1 o2 o3 hGm hzs
 go_enter Tryz.func144, Tryz.ntmps144
 go_wp2_with (first
  | (at_builtin; refine Lib.wpList_append_run _ rfl _ _ _ _ rfl _ _ rfl rfl _ _ (hrz _) ?_)
  | (at_builtin; refine wpList_copy_run _ rfl _ _ 202 202 rfl _ _ rfl rfl (hcpA _ _) ?_))
 go_region_law (refine step_copy_run rfl _ _ 202 202 rfl (.slice (some ⟨N, (i + 1), none⟩) (n - i) (G - (i + 1))) (.slice (some ⟨g, i, none⟩) (n - i) (c - i)) (by simp [Act.eval, Act.put]) (by simp [Act.eval, Act.put]) (hcpB _ _ _) ?_)
 go_wp2
 go_ret
 exact HZ.out
theorem insP_ {w : World} {v : Value} {n i : Nat} {xs ys : List Value} (h : w.ownsRow 0 196 1 v n xs) (hi : i ≤ n) (hn : n ≤ 1000) (b : Nat) (hy : w.heap[b]? = some (.cells ys.toArray 196 (0, 0))) (hyl : ys.length = 1 * 1) (hy1 : ∀ u ∈ ys, u.oneCell' = true) (hx1 : ∀ u ∈ xs, u.oneCell' = true) (hb : v.ownBlock ≠ some b) :
 Calls Tryz.prog 144 #[v, .int .i64 i, .slice (some ⟨b, 0, none⟩) 1 1] w (InsToP w v (n + 1) (xs.take (i * 1) ++ (ys ++ xs.drop (i * 1)))) := by
 by_cases he : i = n
 · subst he
   have := insP_end h hn b hy hyl hy1
   have hl := h.1
   rw [List.take_of_length_le (by omega), List.drop_of_length_le (by omega), List.append_nil]
   exact this
 · obtain ⟨g, c, cur, rfl, hg, hnc, hcm, hcs, hx⟩ := row_open h (by omega)
   by_cases hr : n + 1 ≤ c
   · exact insP_shift hg hcs hx hn (by omega) hr hcm b hy hyl hy1 hx1 fun e => hb (by rw [e]; rfl)
   · exact insP_grow hg hcs hx hn (by omega) hnc (by omega) b hy hyl hy1 hx1
end Go.Proofs.YtalmanfjiblhcaaGreat
