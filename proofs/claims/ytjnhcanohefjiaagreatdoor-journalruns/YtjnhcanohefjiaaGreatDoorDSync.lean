/- The walk of Sync. -/
import Derived.Test.YtjnhcanohefjiaaGreatDoorDRead
namespace Go.Proofs.YtjnhcanohefjiaaGreatDoor
open Go.RowKit Go.Sort Go.Maps

/-- What is pending, and what is safe, while the sectors of a region are synced: 'left' tells of which nothing was done yet. -/
def pendS (d : Dev) (g : Int) (left : Lit → Bool) : List (Pl × Ct) := d.pend.filter (fun x => decide (x.1.1 ≠ g) || left (keyL x.1))
def safeS (d : Dev) (g : Int) (left : Lit → Bool) : Pl → Ct := fun k => if k.1 = g ∧ left (keyL k) = false then (getP d.pend k).getD (d.safe k) else d.safe k
theorem SafeIs.congr {D : DataW Unit} {f f' : Pl → Ct} (h : SafeIs D f) (e : ∀ k, inP k → f' k = f k) : SafeIs D f' := fun k hk => by rw [e k hk]; exact h k hk
theorem get_pendS (d : Dev) (g : Int) (left : Lit → Bool) (k : Pl) : getP (pendS d g left) k = if (decide (k.1 ≠ g) || left (keyL k)) = true then getP d.pend k else none :=
  getP_filter (fun p => decide (p.1 ≠ g) || left (keyL p)) d.pend k
theorem len_filter_ne {l : List (Pl × Ct)} {k : Pl} {c : Ct} (h : getP l k = some c) : (l.filter (fun x => decide (x.1 ≠ k))).length + 1 ≤ l.length := by
  induction l with
  | nil => cases h
  | cons x r ih =>
    rw [getP_cons] at h
    rw [List.filter_cons]
    split at h
    · rename_i e
      rw [if_neg (by simp [e])]
      have := List.length_filter_le (fun x : Pl × Ct => decide (x.1 ≠ k)) r
      simp only [List.length_cons]; omega
    · rename_i e
      rw [if_pos (by simp [e])]
      have := ih h
      simp only [List.length_cons]; omega
theorem inP_pend {w : World} {p a b : Nat} {d : Dev} {K : Nat} (h : DevIn w p a b d K) : ∀ x ∈ d.pend, inP x.1 := fun x hx => inP_of (h.ok.wid x hx) h.lim
/-- One of another region. -/
theorem pendS_other {d : Dev} (hp : ∀ x ∈ d.pend, inP x.1) {g : Int} {left : Lit → Bool} {k : Pl} (hk : inP k) (hg : k.1 ≠ g) : pendS d g (fun z => left z && !z.sameKey (keyL k)) = pendS d g left := by
  unfold pendS
  refine List.filter_congr fun x hx => ?_
  by_cases e : x.1.1 = g
  · dsimp only
    rw [sameKey_iff (hp x hx) hk, decide_eq_false (show ¬ x.1 = k from fun e' => hg (e' ▸ e))]
    simp
  · simp [e]
theorem safeS_other {d : Dev} {g : Int} {left : Lit → Bool} {k : Pl} (hk : inP k) (hg : k.1 ≠ g) (j : Pl) (hj : inP j) : safeS d g (fun z => left z && !z.sameKey (keyL k)) j = safeS d g left j := by
  unfold safeS
  by_cases e : j.1 = g
  · have e0 : ¬ j = k := fun e' => hg (e' ▸ e)
    simp [sameKey_iff hj hk, e0]
  · simp [e]
/-- One of this region. -/
theorem pendS_this {d : Dev} (hp : ∀ x ∈ d.pend, inP x.1) {g : Int} {left : Lit → Bool} {k : Pl} (hk : inP k) (hg : k.1 = g) : pendS d g (fun z => left z && !z.sameKey (keyL k)) = (pendS d g left).filter (fun x => decide (x.1 ≠ k)) := by
  unfold pendS
  rw [List.filter_filter]
  refine List.filter_congr fun x hx => ?_
  dsimp only
  rw [sameKey_iff (hp x hx) hk]
  by_cases e : x.1 = k
  · simp [e, hg]
  · simp [e]
theorem safeS_this {d : Dev} {g : Int} {left : Lit → Bool} {k : Pl} {c : Ct} (hk : inP k) (hg : k.1 = g) (hc : getP d.pend k = some c) (j : Pl) (hj : inP j) : safeS d g (fun z => left z && !z.sameKey (keyL k)) j = updC (safeS d g left) k c j := by
  unfold safeS updC
  by_cases e : j = k
  · subst e; simp [sameKey_iff hj hk, hg, hc]
  · simp [sameKey_iff hj hk, e]
/-- The loop of Sync under way. -/
structure SyIn (W : World) (p aa bb r : Nat) (d : Dev) (g : Int) (K : Nat) (left : Lit → Bool) (cnt np : Nat) (D : DataW Unit) (wr : World) : Prop where
  rg : wr.ranges Tryz.prog 132 ctE bb r np D left cnt
  pend : PendIs D (pendS d g left)
  safe : ∃ n E, wr.ownsMap Tryz.prog 132 ctE aa n E ∧ SafeIs E (safeS d g left) ∧ n + (pendS d g left).length ≤ K
  np : np ≤ K
  blk : wr.heap[p]? = W.heap[p]?
  fd : Fd p aa bb W wr
theorem syIn_end {W : World} {p aa bb r : Nat} {d : Dev} {g : Int} {K cnt np : Nat} {left : Lit → Bool} {D : DataW Unit} {wr : World} (h : SyIn W p aa bb r d g K left cnt np D wr) (hd : DevIn W p aa bb d K) (hl : ∀ kl, left kl = false) : DevIn wr p aa bb (syncedD d g) K := by
  have e1 : pendS d g left = (syncedD d g).pend := by
    unfold pendS syncedD
    refine List.filter_congr fun x _ => ?_
    rw [hl]; simp
  have e2 : ∀ k, (syncedD d g).safe k = safeS d g left k := by
    intro k
    unfold safeS syncedD
    rw [hl]; simp
  obtain ⟨n, E, h1, h2, h3⟩ := h.safe
  exact ⟨h.blk.trans hd.blk, hd.ne, ⟨n, E, h1, h2.congr (fun k _ => e2 k), by rw [← e1]; exact h3⟩, ⟨np, D, h.rg.owns, by rw [← e1]; exact h.pend, h.np⟩, okD_synced hd.ok g, hd.lim, hd.lft, hd.kl⟩
theorem below_grown {w w' : World} (h : Below w.heap.size w w') (row : Option Nat) : w.grownBy w' row := ⟨h.os, h.tape, h.output, h.size, fun k hk _ => h.block k hk⟩
/-- Behind an entry that came out and was laid into blocks of its own. -/
structure SyAt (W : World) (p aa bb r : Nat) (d : Dev) (g : Int) (K : Nat) (left left' : Lit → Bool) (cnt np : Nat) (D : DataW Unit) (V : World) : Prop where
  rg : V.ranges Tryz.prog 132 ctE bb r np D left' cnt
  pend : PendIs D (pendS d g left)
  safe : ∃ n E, V.ownsMap Tryz.prog 132 ctE aa n E ∧ SafeIs E (safeS d g left) ∧ n + (pendS d g left).length ≤ K
  np : np ≤ K
  blk : V.heap[p]? = W.heap[p]?
  fd : Fd p aa bb W V
theorem syAt_of {W wr w2 W4 : World} {p aa bb : Nat} {d : Dev} {g : Int} {K cnt cnt2 np : Nat} {left left' : Lit → Bool} {D : DataW Unit} (hd : DevIn W p aa bb d K) (h : SyIn W p aa bb W.heap.size d g K left cnt np D wr) (hrg : w2.ranges Tryz.prog 132 ctE bb W.heap.size np D left' cnt2) (hg : wr.grownBy w2 (some W.heap.size)) (hb : Below w2.heap.size w2 W4) :
    SyAt W p aa bb W.heap.size d g K left left' cnt2 np D W4 := by
  obtain ⟨l1, l2, l3⟩ := hd.lts
  have hlt := h.rg.lt
  have hk : ∀ k, k < W.heap.size → W4.heap[k]? = wr.heap[k]? := fun k hk => (hb.block k (Nat.lt_of_lt_of_le (Nat.lt_trans hk hlt) hg.size)).trans (hg.block k (Nat.lt_trans hk hlt) (fun e => by simp only [Option.some.injEq] at e; omega))
  obtain ⟨n, E, h1, h2⟩ := h.safe
  refine ⟨hrg.kept (below_grown hb none) (by simp) (by simp), h.pend, ⟨n, E, owns_keep h1 (hk aa l2), h2⟩, h.np, (hk p l1).trans h.blk, ⟨?_, ?_, ?_, ?_, ?_⟩⟩
  · exact hb.os.trans (hg.os.trans h.fd.os)
  · exact hb.tape.trans (hg.tape.trans h.fd.tape)
  · exact hb.output.trans (hg.output.trans h.fd.output)
  · exact Nat.le_trans h.fd.size (Nat.le_trans hg.size hb.size)
  · exact fun k hk' h1 h2 h3 => (hk k hk').trans (h.fd.block k hk' h1 h2 h3)
set_option maxHeartbeats 1000000 in
theorem sync_no (v : Option Addr) (g : Int) (w : World) (H : Calls Tryz.prog 77 #[.pointer v, .int .i64 g] w fun e w' => e = .returned (.bool false) ∧ w' = w) :
    Calls Tryz.prog 54 #[.pointer v, .int .i64 g] w fun e w' => e = .returned (errV 1) ∧ w' = w := by
  have HH := Lib.hid H
  clear H
  unfold errV
  go_enter Tryz.func54, Tryz.ntmps54
  go_wp2_with fail
  refine HH.out.mono ?_
  rintro e w1 ⟨rfl, rfl⟩
  go_wp2_with fail
  go_ret
  exact ⟨rfl, rfl⟩
set_option maxHeartbeats 1000000 in
theorem sync_crashed {w : World} {p aa bb : Nat} {d : Dev} {K : Nat} (h : DevIn w p aa bb d K) (g : Int) (hg : 0 ≤ g ∧ g < d.r) (hc : d.crashed = true) :
    Calls Tryz.prog 54 #[.pointer (some ⟨p, 0, none⟩), .int .i64 g] w fun e w' => e = .returned (errV 60) ∧ w' = w := by
  have H := hasRegion_ h g
  rw [decide_eq_true hg] at H
  have HH := Lib.hid H
  obtain ⟨_, _, _, _, _, _, c6⟩ := h.cells
  rw [hc] at c6
  clear H h hg
  unfold errV
  go_enter Tryz.func54, Tryz.ntmps54
  go_wp2_with fail
  refine HH.out.mono ?_
  rintro e w1 ⟨rfl, rfl⟩
  go_wp2_with fail
  go_ret
  exact ⟨rfl, rfl⟩
set_option maxRecDepth 100000 in
set_option maxHeartbeats 4000000 in
theorem sync_ok {w : World} {p aa bb : Nat} {d : Dev} {K : Nat} (h : DevIn w p aa bb d K) (g : Int) (hg : 0 ≤ g ∧ g < d.r) (hc : d.crashed = false) :
    Calls Tryz.prog 54 #[.pointer (some ⟨p, 0, none⟩), .int .i64 g] w fun e w' => e = .returned .nilIface ∧ DevIn w' p aa bb (syncedD d g) K ∧ Fd p aa bb w w' := by
  have H := hasRegion_ h g
  rw [decide_eq_true hg] at H
  have HH := Lib.hid H
  obtain ⟨_, _, c2, c3, _, _, c6⟩ := h.cells
  rw [hc] at c6
  have HD := Lib.hid h
  have HI := Lib.hid (inP_pend h)
  obtain ⟨np, D0, hown, hpend, hnp⟩ := h.pend
  have HP := Lib.hid (And.intro hpend hnp)
  clear H h hg hpend hnp
  go_enter Tryz.func54, Tryz.ntmps54
  go_wp2_with fail
  refine HH.out.mono ?_
  rintro e w1 ⟨rfl, rfl⟩
  clear HH
  go_wp2_with (first | (at_range; refine wpList_range_own _ rfl _ 69 rfl 132 137 keyed Tryz.underlying69 _ bb np D0 rfl hown ?_; intro w0 hrg0 hg0 hs0) | fail)
  go_frame
  have HRG := Lib.hid (And.intro hrg0 hg0)
  clear hrg0 hg0 hs0 hown
  go_loopw [5, 6] (fun _ _ wr => ∃ left cnt D, SyIn w1 p aa bb w1.heap.size d g K left cnt np D wr) (fun _ _ wr => wr.rangeLeft bb w1.heap.size)
  case atStart =>
    obtain ⟨hrg0, hg0⟩ := HRG.out
    have hB0 : Below w1.heap.size w1 w0 := below_grown_none hg0
    refine ⟨_, _, _, hrg0, ?_, ?_, HP.out.2, hg0.block p HD.out.lts.1 (by simp), below_fd hB0 p aa bb⟩
    · have e : pendS d g (has D0) = d.pend := by
        unfold pendS
        refine List.filter_eq_self.2 fun x hx => ?_
        rw [(HP.out.1 x.1 (HI.out x hx)).1, getP_of_mem HD.out.ok.srt (show (x.1, x.2) ∈ d.pend from hx)]
        simp
      rw [e]; exact HP.out.1
    · obtain ⟨n, E, h1, h2, h3⟩ := HD.out.safe
      refine ⟨n, E, owns_keep h1 (hg0.block aa HD.out.lts.2.1 (by simp)), h2.congr fun k hk => ?_, ?_⟩
      · unfold safeS
        rw [(HP.out.1 k hk).1]
        cases hq : getP d.pend k <;> simp
      · have := List.length_filter_le (fun x : Pl × Ct => decide (x.1.1 ≠ g) || has D0 (keyL x.1)) d.pend
        unfold pendS
        omega
  case round =>
    obtain ⟨left, cnt, D, HS⟩ := hrel
    have hrg := HS.rg
    go_wp2_with (first
      | (at_next; refine wpList_next_ranges _ rfl _ rfl 132 keyed ctE plV ctV (fun key kl hk => by obtain ⟨k, hk, _⟩ := key_inv hk; exact ⟨k, hk⟩) (fun v y hv => ctE_form hv) bb w1.heap.size np _ _ _ rfl hrg ?_ ?_)
      | fail)
    · intro hc0 hl0
      have HE := Lib.hid (And.intro (syIn_end HS HD.out hl0) HS.fd)
      clear HS hrg
      go_wp2_with fail
      go_ret
      exact ⟨rfl, HE.out⟩
    · intro g' j' cc kl yd yp w2 cnt2 hkey hlk hv hat hrg2 hlt hg2 hs2 hen
      obtain ⟨x, hx⟩ : ∃ x : Pl, x = (g', j') := ⟨_, rfl⟩
      rw [← hx] at hkey hen
      obtain ⟨x', hx', hin, rfl⟩ := key_inv hkey
      obtain rfl := plV_inj hx'
      have hyd : yd = ctD cc := by rw [ctE_ct] at hv; simp only [Option.some.injEq, Prod.mk.injEq] at hv; exact hv.1.symm
      have hget : getP (pendS d g left) x = some cc := by
        obtain ⟨q1, q2⟩ := HS.pend x hin
        rw [has_true_of_atKey hat] at q1
        obtain ⟨c', hc'⟩ := Option.isSome_iff_exists.1 q1.symm
        rw [hc', ctD_inj ((q2 c' hc' (ctD zeroC)).symm.trans ((hat _).trans hyd))]
      have hgd : getP d.pend x = some cc := by
        rw [get_pendS] at hget
        split at hget
        · exact hget
        · cases hget
      have hlen : cc.length = 64 := (HD.out.ok.pend _ (getP_mem hgd)).1
      have HN := Lib.hid (And.intro hrg2 (And.intro hlt (And.intro hg2 (And.intro hget (And.intro hgd (And.intro hin hlen))))))
      have HS' := Lib.hid HS
      clear HS hrg hkey hlk hv hat hrg2 hlt hg2 hs2 hyd hget hx' hlen hgd
      subst hx
      unfold plV at hen
      obtain ⟨W3, hW3⟩ : ∃ W3, W3 = (w2.alloc (.cells #[.int .i64 g', .int .i64 j'] 132)).alloc (.cells (vals zeroC).toArray 137) := ⟨_, rfl⟩
      have hz3 : CtAt W3 (w2.heap.size + 1) zeroC := by rw [hW3]; exact (heap_two w2 _ _).1
      have hp3 : W3.heap[w2.heap.size]? = some (.cells #[.int .i64 g', .int .i64 j'] 132 (0, 0)) := by rw [hW3]; exact (heap_two w2 _ _).2
      have hB3 : Below w2.heap.size w2 W3 := by rw [hW3]; exact below_two w2 _ _
      have hst := store_ct hz3 zero_len HN.out.2.2.2.2.2.2
      have hc4 := Lib.hid (hz3.set cc)
      have hp4 : (W3.setRow (w2.heap.size + 1) (vals cc).toArray).heap[w2.heap.size]? = some (.cells #[.int .i64 g', .int .i64 j'] 132 (0, 0)) := (setRow_other W3 _ _ _ (by omega)).trans hp3
      have hB4 := Lib.hid (below_setRow hB3 (Nat.le_succ _) (vals cc).toArray)
      have cp0 : (W3.setRow (w2.heap.size + 1) (vals cc).toArray).cell? ⟨w2.heap.size, 0, none⟩ = some (.int .i64 g') := cell_of hp4 rfl
      have HP4 := Lib.hid hp4
      clear hz3 hp3 hB3 hp4
      by_cases hgg : g' = g
      · obtain ⟨W4, hW4⟩ : ∃ W4, W4 = W3.setRow (w2.heap.size + 1) (vals cc).toArray := ⟨_, rfl⟩
        rw [← hW4] at hst hc4 hB4 cp0 HP4
        have HW3 := Lib.hid hW3
        clear hW4 hW3
        have HGG := Lib.hid hgg
        have kgg : (g' == g) = true := by simpa using hgg
        clear hgg
        go_wp2_with (first | (refine wpList_alloc_ct rfl rfl ?_) | (rw [← HW3.out]; refine wpList_store_at rfl 137 _ _ rfl _ _ rfl rfl hst ?_) | fail)
        have hA := syAt_of HD.out HS'.out HN.out.1 HN.out.2.2.1 hB4.out
        have hin := HN.out.2.2.2.2.2.1
        have hpb : W4.heap[p]? = some (.cells (devC d aa bb) 71 (0, 0)) := hA.blk.trans HD.out.blk
        obtain ⟨n, E, s1, s2, s3⟩ := hA.safe
        have hmE := Lib.hid s1.isMap
        have l2 := HD.out.lts
        have hw2 : w1.heap.size < w2.heap.size := HN.out.1.lt
        have G2 : Hid (∀ V, W4.grownBy V (some aa) → V.cell? ⟨p, 2, none⟩ = some (.map (some aa))) := fun V hV => grown_cell hV (cell_of hpb rfl) HD.out.pa
        have G0 : Hid (∀ V, W4.grownBy V (some aa) → V.cell? ⟨w2.heap.size, 0, none⟩ = some (.int .i64 g')) := fun V hV => grown_cell hV (cell_of HP4.out rfl) (by omega)
        have G1 : Hid (∀ V, W4.grownBy V (some aa) → V.cell? ⟨w2.heap.size, 1, none⟩ = some (.int .i64 j')) := fun V hV => grown_cell hV (cell_of HP4.out rfl) (by omega)
        have GC : Hid (∀ V, W4.grownBy V (some aa) → (Instr.loadAt 137 (.pointer (some ⟨w2.heap.size + 1, 0, none⟩))).run Tryz.prog V = .ok (ctV cc) V) := fun V hV => load_ct ((hV.block _ (blk_lt hc4.out) (fun e => by simp only [Option.some.injEq] at e; omega)).trans hc4.out) HN.out.2.2.2.2.2.2
        have s1' : W4.drew.ownsMap Tryz.prog 132 ctE aa n E := s1.drew
        have hKl := HD.out.kl
        obtain ⟨V5, hrun5, hown5, hturn5⟩ := s1'.store (t := 69) keyed Tryz.underlying69 (by unfold maxLen; omega) (key_ (g', j') hin) (ctE_ct cc)
        have hg5 : W4.grownBy V5 (some aa) := grown_turned (grown_drew W4 _) hturn5
        have HA := Lib.hid hA
        have H5 := Lib.hid (And.intro hg5 (And.intro hown5 (And.intro hturn5 (And.intro hpb (And.intro s2 s3)))))
        clear hA hpb s1 s2 s3 s1' hown5 hturn5
        unfold plV at hrun5
        refine wp_region_noPanic ?_
        refine wp_region_held_drew (S := fun V => W4.grownBy V (some aa)) (by kernel_rfl) (grown_drew _ _) (fun hHeld => ?_)
        refine take_at 0 (.pointer (some ⟨p, 0, none⟩)) rfl (by kernel_rfl) (by kernel_rfl) (by kernel_rfl) (fun _ _ _ h => h) (Or.inl ⟨by rfl, ?_⟩) (by assumption) ?_
        · intro V hSV; go_simp
        simp only [Act.put, List.setIfInBounds_toArray, List.set_cons_zero, List.set_cons_succ]
        refine take_at 1 (.pointer (some ⟨p, 0, none⟩)) rfl (by kernel_rfl) (by kernel_rfl) (by kernel_rfl) (fun _ _ _ h => h) (Or.inl ⟨by rfl, ?_⟩) (by assumption) ?_
        · intro V hSV; go_simp
        simp only [Act.put, List.setIfInBounds_toArray, List.set_cons_zero, List.set_cons_succ]
        refine take_at 2 (.pointer (some ⟨p, 2, none⟩)) rfl (by kernel_rfl) (by kernel_rfl) (by kernel_rfl) (fun _ _ _ h => h) (Or.inl ⟨by rfl, ?_⟩) (by assumption) ?_
        · intro V hSV; go_simp
        simp only [Act.put, List.setIfInBounds_toArray, List.set_cons_zero, List.set_cons_succ]
        refine take_at 3 (.map (some aa)) rfl (by kernel_rfl) (by kernel_rfl) (by kernel_rfl) (fun _ _ _ h => h) (Or.inl ⟨by rfl, ?_⟩) (by assumption) ?_
        · intro V hSV; have e0 := G2.out V hSV; go_simp
        simp only [Act.put, List.setIfInBounds_toArray, List.set_cons_zero, List.set_cons_succ]
        refine take_at 4 (.agg #[.int .i64 g', .int .i64 j']) rfl (by kernel_rfl) (by kernel_rfl) (by kernel_rfl) (fun _ _ _ h => h) (Or.inl ⟨by rfl, ?_⟩) (by assumption) ?_
        · intro V hSV; have e0 := G0.out V hSV; have e1 := G1.out V hSV; go_simp
        simp only [Act.put, List.setIfInBounds_toArray, List.set_cons_zero, List.set_cons_succ]
        refine take_at 5 (ctV cc) rfl (by kernel_rfl) (by kernel_rfl) (by kernel_rfl) (fun _ _ _ h => h) (yields_load (by rfl) 137 _ (by rfl) _ _ (by rfl) (GC.out)) (by assumption) ?_
        simp only [Act.put, List.setIfInBounds_toArray, List.set_cons_zero, List.set_cons_succ]
        refine ready_update 6 rfl (by kernel_rfl) (by rfl) 69 _ _ _ rfl _ _ _ rfl rfl rfl hrun5 hg5 ?_
        refine wpAnyH_done (by kernel_rfl) ?_ _
        refine NoPanic.normal ?_
        have hne : aa ≠ bb := HD.out.ne
        have hr5 : V5.ranges Tryz.prog 132 ctE bb w1.heap.size np D (fun z => left z && !z.sameKey (keyL (g', j'))) cnt2 := HA.out.rg.kept H5.out.1 (fun e => hne (by cases e; rfl)) (fun e => by simp only [Option.some.injEq] at e; omega)
        have hr5' : V5.drew.ranges Tryz.prog 132 ctE bb w1.heap.size np D (fun z => left z && !z.sameKey (keyL (g', j'))) cnt2 := hr5.kept (grown_drew V5 none) (by simp) (by simp)
        obtain ⟨V6, cnt6, hrun6, hrg6, hle6, hturn6⟩ := hr5'.drop (t := 69) keyed Tryz.underlying69 (key_ (g', j') hin) 0
        rw [strike_twice] at hrg6
        have hpb5 : V5.heap[p]? = some (.cells (devC d aa bb) 71 (0, 0)) := (H5.out.1.block p (blk_lt H5.out.2.2.2.1) (fun e => HD.out.pa (by cases e; rfl))).trans H5.out.2.2.2.1
        have hp5 : V5.heap[w2.heap.size]? = some (.cells #[.int .i64 g', .int .i64 j'] 132 (0, 0)) := (H5.out.1.block _ (blk_lt HP4.out) (fun e => by simp only [Option.some.injEq] at e; omega)).trans HP4.out
        have K3 : Hid (∀ V, V5.grownBy V (some bb) → V.cell? ⟨p, 3, none⟩ = some (.map (some bb))) := fun V hV => grown_cell hV (cell_of hpb5 rfl) HD.out.pb
        have K0 : Hid (∀ V, V5.grownBy V (some bb) → V.cell? ⟨w2.heap.size, 0, none⟩ = some (.int .i64 g')) := fun V hV => grown_cell hV (cell_of hp5 rfl) (by omega)
        have K1 : Hid (∀ V, V5.grownBy V (some bb) → V.cell? ⟨w2.heap.size, 1, none⟩ = some (.int .i64 j')) := fun V hV => grown_cell hV (cell_of hp5 rfl) (by omega)
        have hg6 : V5.grownBy V6 (some bb) := grown_turned (grown_drew V5 _) hturn6
        have H6 : Hid (SyIn w1 p aa bb w1.heap.size d g K (fun z => left z && !z.sameKey (keyL (g', j'))) cnt6 np (D.del (keyL (g', j'))) V6 ∧ cnt6 < cnt) := by
          have hgd := HN.out.2.2.2.2.1
          have hlen := len_filter_ne HN.out.2.2.2.1
          rw [← pendS_this HI.out hin HGG.out] at hlen
          refine ⟨⟨hrg6, ?_, ⟨n + 1, _, owns_keep H5.out.2.1 (hg6.block aa (by have := H5.out.1.size; have := blk_lt H5.out.2.2.2.1; have := H5.out.2.1.lt; omega) (fun e => hne (by cases e; rfl))), ?_, ?_⟩, HA.out.np, ?_, ?_⟩, ?_⟩
          · rw [pendS_this HI.out hin HGG.out]; exact HA.out.pend.del hin
          · exact (H5.out.2.2.2.2.1.put hmE.out hin cc).congr (safeS_this hin HGG.out hgd)
          · have := H5.out.2.2.2.2.2; omega
          · exact ((hg6.block p (blk_lt hpb5) (fun e => HD.out.pb (by cases e; rfl))).trans hpb5).trans HD.out.blk.symm
          · exact (HA.out.fd.trans ((below_fd (below_drew W4) p aa bb).trans (turned_fd H5.out.2.2.1 (.inl rfl)))).trans ((below_fd (below_drew V5) p aa bb).trans (turned_fd hturn6 (.inr rfl)))
          · have := HN.out.2.1; omega
        clear hr5 hr5' hrg6 hle6 hturn6 hpb5 hp5 G2 G0 G1 GC HA hHeld H5 hst hg5 hrun5
        unfold plV at hrun6
        go_wp2_with fail
        refine wp_region_noPanic ?_
        refine wp_region_held_drew (S := fun V => V5.grownBy V (some bb)) (by kernel_rfl) (grown_drew _ _) (fun hHeld => ?_)
        refine take_at 0 (.pointer (some ⟨p, 0, none⟩)) rfl (by kernel_rfl) (by kernel_rfl) (by kernel_rfl) (fun _ _ _ h => h) (Or.inl ⟨by rfl, ?_⟩) (by assumption) ?_
        · intro V hSV; go_simp
        simp only [Act.put, List.setIfInBounds_toArray, List.set_cons_zero, List.set_cons_succ]
        refine take_at 1 (.pointer (some ⟨p, 0, none⟩)) rfl (by kernel_rfl) (by kernel_rfl) (by kernel_rfl) (fun _ _ _ h => h) (Or.inl ⟨by rfl, ?_⟩) (by assumption) ?_
        · intro V hSV; go_simp
        simp only [Act.put, List.setIfInBounds_toArray, List.set_cons_zero, List.set_cons_succ]
        refine take_at 2 (.pointer (some ⟨p, 3, none⟩)) rfl (by kernel_rfl) (by kernel_rfl) (by kernel_rfl) (fun _ _ _ h => h) (Or.inl ⟨by rfl, ?_⟩) (by assumption) ?_
        · intro V hSV; go_simp
        simp only [Act.put, List.setIfInBounds_toArray, List.set_cons_zero, List.set_cons_succ]
        refine take_at 3 (.map (some bb)) rfl (by kernel_rfl) (by kernel_rfl) (by kernel_rfl) (fun _ _ _ h => h) (Or.inl ⟨by rfl, ?_⟩) (by assumption) ?_
        · intro V hSV; have e0 := K3.out V hSV; go_simp
        simp only [Act.put, List.setIfInBounds_toArray, List.set_cons_zero, List.set_cons_succ]
        refine take_at 4 (.agg #[.int .i64 g', .int .i64 j']) rfl (by kernel_rfl) (by kernel_rfl) (by kernel_rfl) (fun _ _ _ h => h) (Or.inl ⟨by rfl, ?_⟩) (by assumption) ?_
        · intro V hSV; have e0 := K0.out V hSV; have e1 := K1.out V hSV; go_simp
        simp only [Act.put, List.setIfInBounds_toArray, List.set_cons_zero, List.set_cons_succ]
        refine ready_delete 5 rfl (by kernel_rfl) (by rfl) 69 132 _ _ rfl _ _ rfl rfl hrun6 hg6 ?_
        refine wpAnyH_done (by kernel_rfl) ?_ _
        refine NoPanic.normal ?_
        clear K3 K0 K1 hHeld hg6 hrun6
        simp only [Act.put]
        go_wp2_with fail
        go_roundw
        case rel => exact ⟨_, _, _, H6.out.1⟩
        case measure => rw [H6.out.1.rg.left_eq, HS'.out.rg.left_eq]; exact H6.out.2
      · obtain ⟨W4, hW4⟩ : ∃ W4, W4 = W3.setRow (w2.heap.size + 1) (vals cc).toArray := ⟨_, rfl⟩
        rw [← hW4] at hst hc4 hB4 cp0 HP4
        have HW3 := Lib.hid hW3
        clear hW4 hW3
        have HGG := Lib.hid hgg
        have kgg : (g' == g) = false := by simpa using hgg
        clear hgg
        go_wp2_with (first | (refine wpList_alloc_ct rfl rfl ?_) | (rw [← HW3.out]; refine wpList_store_at rfl 137 _ _ rfl _ _ rfl rfl hst ?_) | fail)
        have hA := syAt_of HD.out HS'.out HN.out.1 HN.out.2.2.1 hB4.out
        have hin := HN.out.2.2.2.2.2.1
        have H6 : Hid (SyIn w1 p aa bb w1.heap.size d g K (fun z => left z && !z.sameKey (keyL (g', j'))) cnt2 np D W4) := by
          obtain ⟨n, E, s1, s2, s3⟩ := hA.safe
          have e := pendS_other (left := left) HI.out hin HGG.out
          exact ⟨hA.rg, by rw [e]; exact hA.pend, ⟨n, E, s1, s2.congr (safeS_other hin HGG.out), by rw [e]; exact s3⟩, hA.np, hA.blk, hA.fd⟩
        clear hA
        go_roundw
        case rel => exact ⟨_, _, _, H6.out⟩
        case measure => rw [H6.out.rg.left_eq, HS'.out.rg.left_eq]; exact HN.out.2.1
/-- Sync, of whatever region. -/
theorem sync_ {w : World} {p aa bb : Nat} {d : Dev} {K : Nat} (h : DevIn w p aa bb d K) (g : Int) :
    Calls Tryz.prog 54 #[.pointer (some ⟨p, 0, none⟩), .int .i64 g] w fun e w' => e = .returned (errV (sErr d g)) ∧ DevIn w' p aa bb (syncD d g) K ∧ Fd p aa bb w w' := by
  unfold syncD sErr
  by_cases h1 : 0 ≤ g ∧ g < d.r
  · by_cases h2 : d.crashed = true
    · rw [if_neg (fun e => e h1), if_pos h2, if_neg (by omega)]
      exact (sync_crashed h g h1 h2).mono fun e w' ⟨he, hw⟩ => ⟨he, by rw [hw]; exact h, by rw [hw]; exact Fd.refl _ _ _ _⟩
    · rw [if_neg (fun e => e h1), if_neg h2, if_pos rfl]
      exact (sync_ok h g h1 (by simpa using h2)).mono fun e w' ⟨he, hw⟩ => ⟨he.trans (by simp [errV]), hw⟩
  · rw [if_pos h1, if_neg (by omega)]
    have H := hasRegion_ h g
    rw [decide_eq_false h1] at H
    exact (sync_no _ g w H).mono fun e w' ⟨he, hw⟩ => ⟨he, by rw [hw]; exact h, by rw [hw]; exact Fd.refl _ _ _ _⟩
end Go.Proofs.YtjnhcanohefjiaaGreatDoor
