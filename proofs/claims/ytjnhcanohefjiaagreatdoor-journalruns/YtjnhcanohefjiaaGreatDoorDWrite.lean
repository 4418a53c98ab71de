/- The walk of Write. -/
import Derived.Test.YtjnhcanohefjiaaGreatDoorJDA
namespace Go.Proofs.YtjnhcanohefjiaaGreatDoor
open Go.RowKit Go.Sort Go.Maps

/-- The world with a place in a block of its own. -/
def plW (w : World) (k : Pl) : World := w.alloc (.cells #[.int .i64 k.1, .int .i64 k.2] 132)
theorem plW_below (w : World) (k : Pl) : Below w.heap.size w (plW w k) := (Below.refl _ _).alloc (Nat.le_refl _) _
theorem plW_at (w : World) (k : Pl) : (plW w k).heap[w.heap.size]? = some (.cells #[.int .i64 k.1, .int .i64 k.2] 132 (0, 0)) := World.alloc_heap_new' _ _
set_option maxHeartbeats 1000000 in
theorem write_no (v : Option Addr) (k : Pl) (a : Option Addr) (n c : Nat) (w : World) (H : Calls Tryz.prog 73 #[.pointer v, plV k] (plW w k) fun e w' => e = .returned (.bool false) ∧ Below (plW w k).heap.size (plW w k) w') :
    Calls Tryz.prog 76 #[.pointer v, .int .i64 k.1, .int .i64 k.2, .slice a n c] w fun e w' => e = .returned (errV 1) ∧ Below w.heap.size w w' := by
  have HH := Lib.hid H
  have HB := Lib.hid (plW_below w k)
  clear H
  obtain ⟨g, j⟩ := k
  unfold errV
  go_enter Tryz.func76, Tryz.ntmps76
  go_wp2_with fail
  refine HH.out.mono ?_
  rintro e w1 ⟨rfl, hb⟩
  have HE := Lib.hid (below_step HB.out hb)
  clear hb HH HB
  go_wp2_with fail
  go_ret
  exact ⟨rfl, HE.out⟩
set_option maxHeartbeats 1000000 in
theorem write_long {w : World} {p aa bb : Nat} {d : Dev} {K : Nat} (h : DevIn w p aa bb d K) (k : Pl) (hk : hasD d k) (a : Option Addr) (n c : Nat) (hn : 64 < n) :
    Calls Tryz.prog 76 #[.pointer (some ⟨p, 0, none⟩), .int .i64 k.1, .int .i64 k.2, .slice a n c] w fun e w' => e = .returned (errV 2) ∧ Below w.heap.size w w' := by
  have H := has_ (h.on (plW_below w k)) k
  rw [decide_eq_true hk] at H
  have HH := Lib.hid H
  have HB := Lib.hid (plW_below w k)
  have hn' : decide ((n : Int) > 64) = true := decide_eq_true (by omega)
  clear H h hk
  obtain ⟨g, j⟩ := k
  unfold errV
  go_enter Tryz.func76, Tryz.ntmps76
  go_wp2_with fail
  refine HH.out.mono ?_
  rintro e w1 ⟨rfl, hb⟩
  have HE := Lib.hid (below_step HB.out hb)
  clear hb HH HB
  go_wp2_with fail
  go_ret
  exact ⟨rfl, HE.out⟩
set_option maxHeartbeats 1000000 in
theorem write_crashed {w : World} {p aa bb : Nat} {d : Dev} {K : Nat} (h : DevIn w p aa bb d K) (k : Pl) (hk : hasD d k) (a : Option Addr) (n c : Nat) (hn : n ≤ 64) (hc : d.crashed = true) :
    Calls Tryz.prog 76 #[.pointer (some ⟨p, 0, none⟩), .int .i64 k.1, .int .i64 k.2, .slice a n c] w fun e w' => e = .returned (errV 60) ∧ Below w.heap.size w w' := by
  have H := has_ (h.on (plW_below w k)) k
  rw [decide_eq_true hk] at H
  have HH := Lib.hid H
  have HB := Lib.hid (plW_below w k)
  have hn' : decide ((n : Int) > 64) = false := decide_eq_false (by omega)
  have hd := Lib.hid (h.on (plW_below w k))
  clear H h hk
  obtain ⟨g, j⟩ := k
  unfold errV
  go_enter Tryz.func76, Tryz.ntmps76
  go_wp2_with fail
  refine HH.out.mono ?_
  rintro e w1 ⟨rfl, hb⟩
  have HE := Lib.hid (below_step HB.out hb)
  obtain ⟨_, _, _, _, _, _, c6⟩ := (hd.out.on hb).cells
  rw [hc] at c6
  clear hb HH HB hd
  go_wp2_with fail
  go_ret
  exact ⟨rfl, HE.out⟩
set_option maxRecDepth 100000 in
set_option maxHeartbeats 2000000 in
theorem write_ok {w : World} {p aa bb : Nat} {d : Dev} {K : Nat} (h : DevIn w p aa bb d K) (k : Pl) (hk : hasD d k) (a : Option Addr) (xs : List Nat) (n c : Nat) (hb : BytesIn w a xs) (hx : xs.length = n) (hn : n ≤ 64) (hc : d.crashed = false) (h8 : ∀ x ∈ xs, x < 256) (hK : K < 1000000) :
    Calls Tryz.prog 76 #[.pointer (some ⟨p, 0, none⟩), .int .i64 k.1, .int .i64 k.2, .slice a n c] w fun e w' => e = .returned (errV (if d.armed = true ∧ d.left = 0 then 60 else 0)) ∧ DevIn w' p aa bb (doneD d k (fillC xs)) (K + 1) ∧ Fd p aa bb w w' := by
  have H := has_ (h.on (plW_below w k)) k
  rw [decide_eq_true hk] at H
  have HH := Lib.hid H
  have HB := Lib.hid (plW_below w k)
  have hn' : decide ((n : Int) > 64) = false := decide_eq_false (by omega)
  have hd := Lib.hid (h.on (plW_below w k))
  have Hk := Lib.hid (And.intro hk (And.intro h8 (inP_of hk h.lim)))
  have HX := Lib.hid (And.intro hb hx)
  have HP := Lib.hid (plW_at w k)
  obtain ⟨ev, hev⟩ : ∃ x, errV (if d.armed = true ∧ d.left = 0 then 60 else 0) = x := ⟨_, rfl⟩
  rw [hev]
  have HV := Lib.hid hev
  clear H h hk hb hx h8 hev
  obtain ⟨g, j⟩ := k
  go_enter Tryz.func76, Tryz.ntmps76
  go_wp2_with fail
  refine HH.out.mono ?_
  rintro e W ⟨rfl, hb⟩
  have HE := Lib.hid (below_step HB.out hb)
  have hD := hd.out.on hb
  obtain ⟨_, _, _, c3, _, _, c6⟩ := hD.cells
  rw [hc] at c6
  have hp : W.heap[w.heap.size]? = some (.cells #[.int .i64 g, .int .i64 j] 132 (0, 0)) := (hb.block _ (blk_lt HP.out)).trans HP.out
  have HF : Hid (∀ V, Below W.heap.size W V → Calls Tryz.prog 93 #[.slice a n c] V fun e w' => e = .returned (ctV (fillC xs)) ∧ Below V.heap.size V w') := fun V hV => filled_ a xs n c V ((HX.out.1.on HE.out).on hV) HX.out.2 hn
  have hwb : w.heap.size ≠ bb := fun e => by obtain ⟨es, cl, hm⟩ := hD.mapB; rw [← e, hp] at hm; cases hm
  have F3 : Hid (∀ V, W.grownBy V (some bb) → V.cell? ⟨p, 3, none⟩ = some (.map (some bb))) := fun V hV => grown_cell hV c3 hD.pb
  have F0 : Hid (∀ V, W.grownBy V (some bb) → V.cell? ⟨w.heap.size, 0, none⟩ = some (.int .i64 g)) := fun V hV => grown_cell hV (cell_of hp rfl) hwb
  have F1 : Hid (∀ V, W.grownBy V (some bb) → V.cell? ⟨w.heap.size, 1, none⟩ = some (.int .i64 j)) := fun V hV => grown_cell hV (cell_of hp rfl) hwb
  have HD := Lib.hid hD
  have hlen : (fillC xs).length = 64 := fill_len (by rw [HX.out.2]; exact hn)
  have HG : Hid (∀ V, W.grownBy V (some bb) → Below W.heap.size W V → ∃ V', (Instr.mapUpdate 69 (.map (some bb)) (plV (g, j)) (ctV (fillC xs))).run Tryz.prog V = .ok () V' ∧ W.grownBy V' (some bb) ∧ DevIn V' p aa bb { d with pend := putP d.pend (g, j) (fillC xs) } (K + 1) ∧ Fd p aa bb W V') := by
    intro V hV hBV
    have hD2 := HD.out.on hBV
    obtain ⟨m, E, h4, h5, h6⟩ := hD2.pend
    obtain ⟨V', hrun, hown, hturn⟩ := h4.store (t := 69) keyed Tryz.underlying69 (by unfold maxLen; omega) (key_ (g, j) Hk.out.2.2) (ctE_ct (fillC xs))
    refine ⟨V', hrun, grown_turned hV hturn, ?_, (below_fd hBV p aa bb).trans (turned_fd hturn (.inr rfl))⟩
    obtain ⟨n', D', h1, h2, h3⟩ := hD2.safe
    have hfar : ∀ k, k < V.heap.size → k ≠ bb → V'.heap[k]? = V.heap[k]? := fun k hk hne => hturn.grown.block k hk (fun e => hne (by cases e; rfl))
    refine ⟨(hfar p hD2.lts.1 hD2.pb).trans hD2.blk, hD2.ne, ⟨n', D', owns_keep h1 (hfar aa hD2.lts.2.1 hD2.ne), h2, ?_⟩, ⟨m + 1, _, hown, h5.put h4.isMap Hk.out.2.2 _, by omega⟩, ?_, hD2.lim, hD2.lft, by omega⟩
    · have := length_put d.pend (g, j) (fillC xs)
      show n' + (putP d.pend (g, j) (fillC xs)).length ≤ K + 1
      omega
    · have := okD_done hD2.ok Hk.out.1 (okC_fill (by rw [HX.out.2]; exact hn) Hk.out.2.1)
      exact ⟨this.srt, this.pend, this.safe, this.wid⟩
  unfold plV at HG
  clear hb HH HB hd hD c3 hp HP hwb
  go_wp2_with fail
  refine wp_region_noPanic ?_
  refine wp_region_held_drew (S := fun V => W.grownBy V (some bb)) (by kernel_rfl) (grown_drew _ _) (fun hHeld => ?_)
  refine take_at 0 (.pointer (some ⟨p, 0, none⟩)) rfl (by kernel_rfl) (by kernel_rfl) (by kernel_rfl) (fun _ _ _ h => h) (Or.inl ⟨by rfl, ?_⟩) (by assumption) ?_
  · intro V hSV; go_simp
  simp only [Act.put, List.setIfInBounds_toArray, List.set_cons_zero, List.set_cons_succ]
  refine take_at 1 (.pointer (some ⟨p, 0, none⟩)) rfl (by kernel_rfl) (by kernel_rfl) (by kernel_rfl) (fun _ _ _ h => h) (Or.inl ⟨by rfl, ?_⟩) (by assumption) ?_
  · intro V hSV; go_simp
  simp only [Act.put, List.setIfInBounds_toArray, List.set_cons_zero, List.set_cons_succ]
  refine take_at 2 (.pointer (some ⟨p, 3, none⟩)) rfl (by kernel_rfl) (by kernel_rfl) (by kernel_rfl) (fun _ _ _ h => h) (Or.inl ⟨by rfl, ?_⟩) (by assumption) ?_
  · intro V hSV; go_simp
  simp only [Act.put, List.setIfInBounds_toArray, List.set_cons_zero, List.set_cons_succ]
  refine take_at 3 (.map (some bb)) rfl (by kernel_rfl) (by kernel_rfl) (by kernel_rfl) (fun _ _ _ h => h) (Or.inl ⟨by rfl, ?_⟩) (by assumption) ?_
  · intro V hSV; have e0 := F3.out V hSV; go_simp
  simp only [Act.put, List.setIfInBounds_toArray, List.set_cons_zero, List.set_cons_succ]
  refine take_at 4 (.agg #[.int .i64 g, .int .i64 j]) rfl (by kernel_rfl) (by kernel_rfl) (by kernel_rfl) (fun _ _ _ h => h) (Or.inl ⟨by rfl, ?_⟩) (by assumption) ?_
  · intro V hSV; have e0 := F0.out V hSV; have e1 := F1.out V hSV; go_simp
  simp only [Act.put, List.setIfInBounds_toArray, List.set_cons_zero, List.set_cons_succ]
  refine take_at 5 (.slice a n c) rfl (by kernel_rfl) (by kernel_rfl) (by kernel_rfl) (fun _ _ _ h => h) (Or.inl ⟨by rfl, ?_⟩) (by assumption) ?_
  · intro V hSV; go_simp
  simp only [Act.put, List.setIfInBounds_toArray, List.set_cons_zero, List.set_cons_succ]
  refine wpAnyH_ready (rs := [6]) (by kernel_rfl) (by simp) ?_
  refine AllReadyH.cons rfl (fun KK hK => ?_) AllReadyH.nil
  go_simp
  go_wp2_with (first | (go_at_call 93; refine (HF.out _ (below_drew _)).mono ?_; rintro e w2 ⟨rfl, hb2⟩))
  refine hK.out _ _ ?_ (fun hHeld6 => ?_)
  · exact grown_below (by assumption) hb2
  clear hK KK
  have hB2 : Below W.heap.size W w2 := below_step (below_drew _) hb2
  obtain ⟨V', hrun, hg', hD', hF'⟩ := HG.out w2 hHeld6 hB2
  refine ready_update 7 rfl (by kernel_rfl) (by rfl) 69 _ _ _ rfl _ _ _ rfl rfl rfl hrun hg' ?_
  refine wpAnyH_done (by kernel_rfl) ?_ _
  refine NoPanic.normal ?_
  have HS : Hid (Calls Tryz.prog 94 #[.pointer (some ⟨p, 0, none⟩)] V' fun e w' => e = .returned ev ∧ DevIn w' p aa bb (doneD d (g, j) (fillC xs)) (K + 1) ∧ Fd p aa bb V' w') := (spend_ hD').mono fun e w' ⟨h1, h2, h3⟩ => ⟨h1.trans (congrArg Ending.returned HV.out), h2, h3⟩
  have HF2 := Lib.hid ((below_fd HE.out p aa bb).trans hF')
  clear hrun hg' hD' hF' hB2 hb2 HG HF F3 F0 F1 HD hHeld6 hHeld
  go_wp2_with fail
  refine HS.out.mono ?_
  rintro e w3 ⟨rfl, hD3, hF3⟩
  have HR := Lib.hid (And.intro hD3 (HF2.out.trans hF3))
  clear hD3 hF3 HS HF2
  go_wp2_with fail
  go_ret
  exact ⟨rfl, HR.out⟩
/-- Write, at whatever place, of whatever bytes. -/
theorem write_ {w : World} {p aa bb : Nat} {d : Dev} {K : Nat} (h : DevIn w p aa bb d K) (k : Pl) (a : Option Addr) (xs : List Nat) (n c : Nat) (hb : BytesIn w a xs) (hx : xs.length = n) (h8 : ∀ x ∈ xs, x < 256) (hK : K < 1000000) :
    Calls Tryz.prog 76 #[.pointer (some ⟨p, 0, none⟩), .int .i64 k.1, .int .i64 k.2, .slice a n c] w fun e w' => e = .returned (errV (wErr d k n)) ∧ DevIn w' p aa bb (writeD d k xs) (K + 1) ∧ Fd p aa bb w w' := by
  unfold wErr writeD
  by_cases h1 : hasD d k
  · rw [if_neg (fun e => e h1)]
    by_cases h2 : 64 < n
    · rw [if_pos h2, if_pos (.inr (.inl (by omega)))]
      exact (write_long h k h1 a n c h2).mono fun e w' ⟨he, hb⟩ => ⟨he, (h.on hb).mono (by omega) (by omega), below_fd hb _ _ _⟩
    · rw [if_neg h2]
      by_cases h3' : d.crashed = true
      · rw [if_pos h3', if_pos (.inr (.inr h3'))]
        exact (write_crashed h k h1 a n c (by omega) h3').mono fun e w' ⟨he, hb⟩ => ⟨he, (h.on hb).mono (by omega) (by omega), below_fd hb _ _ _⟩
      · have h3 : d.crashed = false := by simpa using h3'
        have hno : ¬ (¬ hasD d k ∨ 64 < xs.length ∨ d.crashed = true) := by
          rintro (e | e | e)
          · exact e h1
          · omega
          · exact h3' e
        rw [if_neg h3', if_neg hno]
        exact write_ok h k h1 a xs n c hb hx (by omega) h3 h8 hK
  · rw [if_pos h1, if_pos (.inl h1)]
    have H := has_ (h.on (plW_below w k)) k
    rw [decide_eq_false h1] at H
    exact (write_no (some ⟨p, 0, none⟩) k a n c w H).mono fun e w' ⟨he, hb⟩ => ⟨he, (h.on hb).mono (by omega) (by omega), below_fd hb _ _ _⟩
end Go.Proofs.YtjnhcanohefjiaaGreatDoor
