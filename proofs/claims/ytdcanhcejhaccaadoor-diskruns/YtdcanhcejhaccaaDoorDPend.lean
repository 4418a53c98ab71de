/- The walks of Pending and Size. -/
import Derived.Test.YtdcanhcejhaccaaDoorDSortI
import Derived.Test.YtdcanhcejhaccaaDoorDKeys
import Derived.Test.YtdcanhcejhaccaaDoorRSync
import Derived.Sort.OwnSortedInts
namespace Go.Proofs.YtdcanhcejhaccaaDoor
open Go.RowKit Go.Sort Go.Maps Go.Shelf

/-- The sectors of a region among places. -/
def secsOf (g : Int) (ss : List Pl) : List Int := (ss.filter (fun x => decide (x.1 = g))).map (·.2)
theorem secsOf_add (g : Int) (ss : List Pl) (x : Pl) : secsOf g (ss ++ [x]) = if x.1 = g then secsOf g ss ++ [x.2] else secsOf g ss := by
  unfold secsOf
  by_cases h : x.1 = g <;> simp [h]
theorem secsOf_len (g : Int) (ss : List Pl) : (secsOf g ss).length ≤ ss.length := by
  unfold secsOf; rw [List.length_map]; exact List.length_filter_le _ _
theorem secsOf_pend (d : Dev) (g : Int) : secsOf g (d.pend.map (·.1)) = pendD d g := by
  unfold secsOf pendD
  rw [List.filter_map, List.map_map]
  rfl
theorem pendD_lt {d : Dev} (h : SrtP d.pend) (g : Int) : (pendD d g).Pairwise (· < ·) := by
  unfold pendD
  rw [List.pairwise_map]
  refine List.Pairwise.imp_of_mem ?_ (List.Pairwise.filter _ h)
  intro a b ha hb hab
  have h1 := (List.mem_filter.1 ha).2
  have h2 := (List.mem_filter.1 hb).2
  simp only [decide_eq_true_eq] at h1 h2
  rcases hab with h | h <;> omega
theorem eq_of_lt : ∀ {a b : List Int}, a.Pairwise (· ≤ ·) → b.Pairwise (· < ·) → a.Perm b → a = b
  | [], b, _, _, h => (List.nil_perm.1 h).symm
  | x :: a, [], _, _, h => absurd (List.perm_nil.1 h) (by simp)
  | x :: a, y :: b, ha, hb, h => by
    obtain ⟨a1, a2⟩ := List.pairwise_cons.1 ha
    obtain ⟨b1, b2⟩ := List.pairwise_cons.1 hb
    have e : x = y := by
      have hx : x ∈ y :: b := h.mem_iff.1 List.mem_cons_self
      have hy : y ∈ x :: a := h.mem_iff.2 List.mem_cons_self
      rcases List.mem_cons.1 hx with e | hx
      · exact e
      · rcases List.mem_cons.1 hy with e | hy
        · exact e.symm
        · have := b1 x hx; have := a1 y hy; omega
    subst e
    rw [eq_of_lt a2 b2 h.cons_inv]
theorem sort_eq {zs ks : List Int} (hp : zs.Perm ks) (hk : ks.Pairwise (· < ·)) : (zs.mergeSort fun x y => decide (x ≤ y)) = ks := by
  refine eq_of_lt ?_ hk ((List.mergeSort_perm zs _).trans hp)
  have := List.pairwise_mergeSort (le := fun x y : Int => decide (x ≤ y)) (fun a b c h1 h2 => by simp at *; omega) (fun a b => by simp; omega) zs
  exact List.Pairwise.imp (fun h => by simpa using h) this
/-- slices.Sort of a row of one's own. -/
theorem sortZ_ {w : World} {base : Nat} {v : Value} {zs ks : List Int} (h : OwnZ w base v zs) (hl : zs.length ≤ 1000000) (hp : zs.Perm ks) (hk : ks.Pairwise (· < ·)) :
    Calls Tryd.prog 28 #[v] w fun e w' => e = .returned (.tuple #[]) ∧ (∃ a c, v = .slice a ks.length c ∧ IntsIn w' a ks) ∧ (∃ g, base ≤ g ∧ w.grownBy w' (some g)) := by
  have hkl := hp.length_eq
  have none_case : ∀ p cap, v = .slice p 0 cap → zs = [] → Calls Tryd.prog 28 #[v] w fun e w' => e = .returned (.tuple #[]) ∧ (∃ a c, v = .slice a ks.length c ∧ IntsIn w' a ks) ∧ (∃ g, base ≤ g ∧ w.grownBy w' (some g)) := by
    intro p cap hv hz
    subst hz
    have hks : ks = [] := List.nil_perm.1 hp
    subst hks hv
    exact (Any.slices_Sort_int_none Tryd.sortI p cap w).mono fun e w' ⟨he, hw⟩ => by
      subst hw
      exact ⟨he, ⟨p, cap, rfl, intsIn_nil _ _⟩, ⟨base, Nat.le_refl _, rfl, rfl, rfl, Nat.le_refl _, fun _ _ _ => rfl⟩⟩
  rcases h.2 with ⟨hv, e⟩ | ⟨g, cap, cur, hv, h1, h2, h3, h4, h5, h6⟩
  · exact none_case _ _ hv (List.eq_nil_of_length_eq_zero e)
  · rw [Nat.mul_one] at h6
    have hH := holds_of_blockI h2 h6
    subst hv
    refine (Any.slices_Sort_int Tryd.sortI g 0 cap zs w hH (blk_lt h2) (by omega)).mono fun e w' ⟨he, n, os, hw⟩ => ?_
    rw [sort_eq hp hk] at hw
    subst hw
    have ho := ownsRow_sortedI (n := n) (os := os) (ss := zs) (ts := ks) hkl.symm h1 h2 h3 h4 h5
    refine ⟨he, ?_, g, h1, grownBy_sortedI _⟩
    have ho' : OwnZ (grow (putRow (Value.int .i64) (Sort.ahead w n) g 0 ks.toArray) os) base (.slice (some ⟨g, 0, none⟩) zs.length cap) ks := by
      unfold OwnZ; rw [← hkl]; exact ho
    obtain ⟨a, c, e1, e2⟩ := ho'.ints
    exact ⟨a, c, e1, e2⟩
set_option maxRecDepth 100000 in
set_option maxHeartbeats 4000000 in
theorem dpend_ {w : World} {p aa bb : Nat} {d : Dev} {K : Nat} (h : DevIn w p aa bb d K) (g : Int) :
    Calls Tryd.prog 13 #[.pointer (some ⟨p, 0, none⟩), .int .i64 g] w fun e w' => (∃ a' c', e = .returned (.slice a' (pendD d g).length c') ∧ IntsIn w' a' (pendD d g)) ∧ Below w.heap.size w w' := by
  obtain ⟨_, _, _, c3, _, _, _⟩ := h.cells
  have HD := Lib.hid h
  have HI := Lib.hid (inP_pend h)
  obtain ⟨np, D0, hown, hpend, hnp⟩ := h.pend
  have HP := Lib.hid hpend
  have HKs := Lib.hid (Nat.le_trans hown.size_le (Nat.le_trans hnp h.kl))
  have HOb := Lib.hid hown.lt
  clear h hpend hnp
  go_enter Tryd.func13, Tryd.ntmps13
  go_wp2_with (first | (at_range; refine wpList_range_own _ rfl _ 63 rfl 73 76 keyed Tryd.underlying63 _ bb np D0 rfl hown ?_; intro w0 hrg0 hg0 hs0) | fail)
  go_frame
  have HRG := Lib.hid (And.intro hrg0 (And.intro hg0 hs0))
  clear hrg0 hg0 hs0 hown c3
  go_loopw [5, 6] (fun sv _ wr => ∃ (ov : Value) (left : Lit → Bool) (cnt : Nat) (ss : List Pl), ov = sv ∧ Hid (wr.ranges Tryd.prog 73 ctE bb w.heap.size np D0 left cnt ∧ ss.length + cnt ≤ Maps.size D0 ∧ CollP D0 left ss ∧ OwnZ wr (w.heap.size + 1) ov (secsOf g ss) ∧ Below w.heap.size w wr)) (fun _ _ wr => wr.rangeLeft bb w.heap.size)
  case atStart =>
    obtain ⟨hrg0, hg0, hs0⟩ := HRG.out
    exact ⟨_, _, _, [], rfl, hrg0, by simp, CollP.start D0, ownZ_nil _ _, below_grown_none hg0⟩
  case round =>
    obtain ⟨ov, left, cnt, ss, rfl, HS⟩ := hrel
    have hrg := HS.out.1
    go_wp2_with (first
      | (at_next; refine wpList_next_ranges _ rfl _ rfl 73 keyed ctE plV ctV (fun key kl hk => by obtain ⟨k, hk, _⟩ := key_inv hk; exact ⟨k, hk⟩) (fun v y hv => ctE_form hv) bb w.heap.size np _ _ _ rfl hrg ?_ ?_)
      | fail)
    · intro hc0 hl0
      have hperm := HS.out.2.2.1.perm hl0 HP.out HD.out.ok.srt HI.out
      have hzp : (secsOf g ss).Perm (pendD d g) := by
        rw [← secsOf_pend]
        unfold secsOf
        exact (hperm.filter _).map _
      have hlen : (secsOf g ss).length ≤ 1000000 := Nat.le_trans (secsOf_len g ss) (Nat.le_trans (Nat.le_trans (Nat.le_add_right _ _) HS.out.2.1) HKs.out)
      have HZ := Lib.hid (sortZ_ HS.out.2.2.2.1 hlen hzp (pendD_lt HD.out.ok.srt g))
      have HBr := Lib.hid HS.out.2.2.2.2
      clear hrg HS hperm hzp hlen hc0 hl0
      generalize hks : pendD d g = ks at *
      have HKS := Lib.hid hks
      clear hks
      go_wp2_with fail
      refine HZ.out.mono ?_
      rintro e w3 ⟨rfl, ⟨a', c', rfl, hin⟩, g3, hg3, hgr⟩
      have HE : Hid (IntsIn w3 a' ks ∧ Below w.heap.size w w3) := ⟨hin, HBr.out.grown hgr HBr.out.size (fun k hk => by cases hk; omega)⟩
      clear hin hgr HZ HBr
      go_wp2_with fail
      go_ret
      rw [HKS.out]
      exact ⟨⟨a', c', rfl, HE.out.1⟩, HE.out.2⟩
    · intro g' j' cc kl yd yp w2 cnt2 hkey hlk hv hat hrg2 hlt hg2 hs2 hen
      obtain ⟨x, hx⟩ : ∃ x : Pl, x = (g', j') := ⟨_, rfl⟩
      rw [← hx] at hkey hen
      obtain ⟨x', hx', hin, rfl⟩ := key_inv hkey
      obtain rfl := plV_inj hx'
      have hC := HS.out.2.2.1.step hin (has_true_of_atKey hat) hlk
      have hO2 := HS.out.2.2.2.1.kept hg2 (fun k hk => by cases hk; omega)
      have hB2 := HS.out.2.2.2.2.grown hg2 HS.out.2.2.2.2.size (fun k hk => by cases hk; exact Nat.le_refl _)
      have hsum := HS.out.2.1
      have hrl := hrg.left_eq
      subst hx
      have hadd := secsOf_add g ss (g', j')
      have hlen : (secsOf g ss).length ≤ 1000000 := Nat.le_trans (secsOf_len g ss) (Nat.le_trans (Nat.le_trans (Nat.le_add_right _ _) hsum) HKs.out)
      have hsz2 := hB2.size
      have hlt0 := hrg2.lt
      have HN := Lib.hid (And.intro hrg2 (And.intro hlt (And.intro hC (And.intro hO2 (And.intro hB2 (And.intro hsum (And.intro hrl hlt0)))))))
      unfold plV at hen
      dsimp only at hadd
      clear HS hrg hkey hlk hv hat hrg2 hlt hg2 hs2 hx' hC hO2 hB2 hsum hrl hin
      by_cases hgg : g' = g
      · rw [if_pos hgg] at hadd
        have HA := Lib.hid hadd
        have kgg : (g' == g) = true := by simpa using hgg
        clear hgg hadd
        go_wp2_with (first
          | (at_builtin; refine wpList_append_z (w.heap.size + 1) _ rfl _ _ rfl ov (secsOf g ss) j' rfl (HN.out.2.2.2.1.on (below_two w2 _ _)) (w2.heap.size + 1) rfl (cell_of (heap_two w2 _ _).1 rfl) hlen (by simp; omega) ?_
             intro v1 w3 hown1 hg3
             have HR3 : Hid (w3.ranges Tryd.prog 73 ctE bb w.heap.size np D0 _ cnt2) := (((HN.out.1).alloc _).alloc _).kept hg3 (fun e => by have := (World.ownsRow.lt HN.out.2.2.2.1 bb e.symm).1; have := HOb.out; omega) (fun e => by have := (World.ownsRow.lt HN.out.2.2.2.1 _ e.symm).1; omega)
             have HB3 : Hid (Below w.heap.size w w3) := (HN.out.2.2.2.2.1.trans ((below_two w2 _ _).mono hsz2)).grown hg3 (by simp; omega) (fun k hk => by have := (World.ownsRow.lt HN.out.2.2.2.1 k hk).1; omega)
             have HO3 : Hid (OwnZ w3 (w.heap.size + 1) v1 (secsOf g (ss ++ [(g', j')]))) := by rw [HA.out]; exact hown1
             clear hown1 hg3)
          | fail)
        go_roundw
        case rel => exact ⟨_, _, cnt2, ss ++ [(g', j')], rfl, HR3.out, by have := HN.out.2.2.2.2.2.1; have := HN.out.2.1; simp; omega, HN.out.2.2.1, HO3.out, HB3.out⟩
        case measure => rw [HR3.out.left_eq, HN.out.2.2.2.2.2.2.1]; exact HN.out.2.1
      · rw [if_neg hgg] at hadd
        have HA := Lib.hid hadd
        have kgg : (g' == g) = false := by simpa using hgg
        clear hgg hadd
        go_wp2_with fail
        go_roundw
        case rel => exact ⟨_, _, cnt2, ss ++ [(g', j')], rfl, HN.out.1.alloc _, by have := HN.out.2.2.2.2.2.1; have := HN.out.2.1; simp; omega, HN.out.2.2.1, by rw [HA.out]; exact HN.out.2.2.2.1.on (below_alloc w2 _), HN.out.2.2.2.2.1.alloc hsz2 _⟩
        case measure => rw [(HN.out.1.alloc _).left_eq, HN.out.2.2.2.2.2.2.1]; exact HN.out.2.1
set_option maxHeartbeats 1000000 in
theorem dsize_ {w : World} {p aa bb : Nat} {d : Dev} {K : Nat} (h : DevIn w p aa bb d K) :
    Calls Tryd.prog 20 #[.pointer (some ⟨p, 0, none⟩)] w fun e w' => e = .returned (.tuple #[.int .i64 d.r, .int .i64 d.s]) ∧ Below w.heap.size w w' := by
  obtain ⟨c0, c1, _, _, _, _, _⟩ := h.cells
  clear h
  generalize d.r = r at *
  generalize d.s = s at *
  go_enter Tryd.func20, Tryd.ntmps20
  go_wp2_with fail
  go_quiet (fail)
  have HB := Lib.hid (below_drewN (Below.refl w.heap.size w) nq)
  go_wp2_with fail
  go_ret2
  exact ⟨rfl, HB.out⟩
end Go.Proofs.YtdcanhcejhaccaaDoor
