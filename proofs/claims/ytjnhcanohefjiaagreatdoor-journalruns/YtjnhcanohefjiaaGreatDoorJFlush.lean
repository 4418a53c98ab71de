/- journal.Flush and Rewind. -/
import Derived.Test.YtjnhcanohefjiaaGreatDoorJAppend
namespace Go.Proofs.YtjnhcanohefjiaaGreatDoor
open Go.RowKit Go.Sort Go.Maps

/-- What Flush answers, and what is left of the device and the journal. -/
def flushE (d : Dev) (J : Jr) : Nat := if J.dead ≠ 0 then J.dead else if J.sf = J.pss.length then 0 else wrtE J.a J.row (J.upto J.sf) d
def flushD (d : Dev) (J : Jr) : Dev := if J.dead ≠ 0 then d else if J.sf = J.pss.length then d else wrtD J.a J.row (J.upto J.sf) d
def flushJ (d : Dev) (J : Jr) : Jr := if J.dead ≠ 0 then J else if J.sf = J.pss.length then J else if wrtE J.a J.row (J.upto J.sf) d = 0 then { J with sf := J.pss.length } else { J with dead := wrtE J.a J.row (J.upto J.sf) d }
/-- What Rewind answers, and what is left. -/
def rewE (d : Dev) (J : Jr) : Nat := if J.dead ≠ 0 then J.dead else cleanE J.a [] d
def rewD (d : Dev) (J : Jr) : Dev := if J.dead ≠ 0 then d else cleanD J.a [] d
def rewJ (d : Dev) (J : Jr) (ep : Nat) : Jr := if J.dead ≠ 0 then J else ⟨J.a, ep, [], 0, cleanE J.a [] d⟩
theorem Jn.mono {w : World} {base p aa bb q : Nat} {d : Dev} {K K' : Nat} {J : Jr} {rv ev : Value} (h : Jn w base p aa bb q d K J rv ev) (hk : K ≤ K') (hl : K' ≤ 1000000) : Jn w base p aa bb q d K' J rv ev := ⟨h.dev.mono hk hl, h.jr, h.lo⟩
theorem okJ.all {J : Jr} (h : okJ J) : okJ { J with sf := J.pss.length } := ⟨h.pays, h.ep, Nat.le_refl _, h.len, h.g, h.f, h.s⟩
theorem okJ.none {J : Jr} (h : okJ J) {ep : Nat} (he : ep < 18446744073709551616) (k : Nat) : okJ ⟨J.a, ep, [], 0, k⟩ := ⟨fun p hp => (by cases hp), he, Nat.le_refl _, Nat.zero_le _, h.g, h.f, h.s⟩
set_option maxRecDepth 100000 in
set_option maxHeartbeats 2000000 in
theorem jflush_ {w : World} {base p aa bb q : Nat} {d : Dev} {K : Nat} {J : Jr} {rv ev : Value} (h : Jn w base p aa bb q d K J rv ev) (hK : K + J.a.s.toNat < 1000000) :
    Calls Tryz.prog 19 #[.pointer (some ⟨q, 0, none⟩)] w fun e w' => e = .returned (errV (flushE d J)) ∧ JnTo w base p aa bb q rv ev (flushD d J) (K + J.a.s.toNat) (flushJ d J) w' := by
  have HRf := Lib.hid (jrefuse_ h.jr)
  by_cases hd : J.dead ≠ 0
  · have e1 : flushE d J = J.dead := if_pos hd
    have e2 : flushD d J = d := if_pos hd
    have e3 : flushJ d J = J := if_pos hd
    have HE := Lib.hid (JnTo.same (h.mono (K' := K + J.a.s.toNat) (by omega) (by omega)) (Below.refl _ _))
    rw [e1, e2, e3]
    rw [errV_not hd] at HRf ⊢
    clear h e1 e2 e3
    go_enter Tryz.func19, Tryz.ntmps19
    go_wp2_with (first | (go_at_call 41; refine HRf.out.mono ?_; rintro e w1 ⟨rfl, rfl⟩) | fail)
    go_ret
    exact ⟨rfl, HE.out⟩
  have e0 : errV J.dead = .nilIface := by rw [show J.dead = 0 by simpa using hd]; rfl
  have e00 : errV 0 = .nilIface := rfl
  rw [e0] at HRf
  have HWt := Lib.hid (jwaits_ h.jr)
  have hsf := h.jr.ok.sf
  by_cases hs : J.sf = J.pss.length
  · have e1 : flushE d J = 0 := by unfold flushE; rw [if_neg hd, if_pos hs]
    have e2 : flushD d J = d := by unfold flushD; rw [if_neg hd, if_pos hs]
    have e3 : flushJ d J = J := by unfold flushJ; rw [if_neg hd, if_pos hs]
    have HE : Hid (∀ w', Below w.heap.size w w' → JnTo w base p aa bb q rv ev d (K + J.a.s.toNat) J w') := fun w' hb => JnTo.same (h.mono (K' := K + J.a.s.toNat) (by omega) (by omega)) hb
    rw [e1, e2, e3, e00]
    rw [show J.pss.length - J.sf = 0 by omega] at HWt
    clear h e1 e2 e3
    go_enter Tryz.func19, Tryz.ntmps19
    go_wp2_with (first
      | (go_at_call 41; refine HRf.out.mono ?_; rintro e w1 ⟨rfl, rfl⟩)
      | (go_at_call 16; refine HWt.out.mono ?_; rintro e w2 ⟨rfl, hb2⟩; have HB2 := Lib.hid hb2; clear hb2)
      | fail)
    go_ret
    exact ⟨rfl, HE.out _ HB2.out⟩
  have HWr : Hid (∀ V, Below w.heap.size w V → Calls Tryz.prog 43 #[.pointer (some ⟨q, 0, none⟩)] V fun e w' => e = .returned (errV (wrtE J.a J.row (J.upto J.sf) d)) ∧ Jn w' base p aa bb q (wrtD J.a J.row (J.upto J.sf) d) (K + J.a.s.toNat) J rv ev ∧ Ext (Mine p aa bb q rv ev) (Mine p aa bb q rv ev) w w') := fun V hV => (jwrite_ (h.jr.on hV) (h.dev.on hV) (by omega) hK).mono fun e w' ⟨q1, q2, q3⟩ => ⟨q1, (h.on hV).fd q2 q3, (Ext.of_below _ hV).trans (Ext.of_fd q rv ev q3)⟩
  obtain ⟨ea, ec, hev, _⟩ := h.jr.ends.shape
  rw [ends_len] at hev
  have hcn := h.jr.ok.count
  obtain ⟨k, hk⟩ : ∃ k, k = wrtE J.a J.row (J.upto J.sf) d := ⟨_, rfl⟩
  have e1 : flushE d J = k := by unfold flushE; rw [if_neg hd, if_neg hs, hk]
  have e2 : flushD d J = wrtD J.a J.row (J.upto J.sf) d := by unfold flushD; rw [if_neg hd, if_neg hs]
  have e3 : flushJ d J = if k = 0 then { J with sf := J.pss.length } else { J with dead := k } := by unfold flushJ; rw [if_neg hd, if_neg hs, hk]
  obtain ⟨wt, hwt⟩ : ∃ wt, wt = J.pss.length - J.sf := ⟨_, rfl⟩
  have hw0 : ((wt : Int) == 0) = false := by simpa using (by omega : ¬ (wt : Int) = 0)
  rw [e1, e2, e3]
  rw [← hk] at HWr
  rw [← hwt] at HWt
  generalize wrtD J.a J.row (J.upto J.sf) d = d1 at *
  generalize hK1 : K + J.a.s.toNat = K1 at *
  clear h e1 e2 e3 hk hwt hd hs hK1
  by_cases hk0 : k = 0
  · rw [if_pos hk0]
    subst hk0
    rw [e00] at HWr ⊢
    have HOk : Hid (∀ w2, Jn w2 base p aa bb q d1 K1 J rv ev → Ext (Mine p aa bb q rv ev) (Mine p aa bb q rv ev) w w2 → JnTo w base p aa bb q rv ev d1 K1 { J with sf := J.pss.length } (w2.setCell ⟨q, 7, none⟩ (.int .i64 (J.pss.length : Nat)))) := fun w2 hj hx => by
      have hb : (w2.setCell ⟨q, 7, none⟩ (.int .i64 (J.pss.length : Nat))).heap[q]? = some (.cells (jrC p { J with sf := J.pss.length } rv ev) 80 (0, 0)) := heap_set _ hj.jr.blk
      have hf : ∀ i, i ≠ q → (w2.setCell ⟨q, 7, none⟩ (.int .i64 (J.pss.length : Nat))).heap[i]? = w2.heap[i]? := fun i hi => heap_far _ hi
      exact ⟨rv, ev, hj.setq hb hf hj.jr.row hj.jr.ends hj.jr.ok.all, hx.trans (Ext.setq rfl rfl rfl (by simp [World.setCell]) hf (fun _ h => h) (fun _ h => h))⟩
    subst hev
    generalize hn : J.pss.length = n at *
    go_enter Tryz.func19, Tryz.ntmps19
    go_wp2_with (first
      | (go_at_call 41; refine HRf.out.mono ?_; rintro e w1 ⟨rfl, rfl⟩)
      | (go_at_call 16; refine HWt.out.mono ?_; rintro e w2 ⟨rfl, hb2⟩; have HB2 := Lib.hid hb2; clear hb2)
      | (go_at_call 43; refine (HWr.out _ HB2.out).mono ?_; rintro e w3 ⟨rfl, hj3, hx3⟩
         have HZ := Lib.hid (HOk.out _ hj3 hx3)
         have q6 : w3.cell? ⟨q, 6, none⟩ = some (.slice ea n ec) := hj3.jr.cells.2.2.2.2.2.2.1
         have q7 : w3.cell? ⟨q, 7, none⟩ = some (.int .i64 J.sf) := hj3.jr.cells.2.2.2.2.2.2.2.1
         have f7 : w3.frozen? ⟨q, 7, none⟩ = false := frozen_of hj3.jr.blk
         clear hj3 hx3)
      | fail)
    go_ret
    exact ⟨rfl, HZ.out⟩
  · rw [if_neg hk0]
    have HFl : Hid (∀ w2, Jn w2 base p aa bb q d1 K1 J rv ev → Ext (Mine p aa bb q rv ev) (Mine p aa bb q rv ev) w w2 → Calls Tryz.prog 44 #[.pointer (some ⟨q, 0, none⟩), errV k] w2 fun e w' => e = .returned (errV k) ∧ JnTo w base p aa bb q rv ev d1 K1 { J with dead := k } w') := fun w2 hj hx => (jfail_ hj k).mono fun e w' ⟨q1, q2, q3⟩ => ⟨q1, rv, ev, q2, hx.trans q3⟩
    rw [errV_not hk0] at HWr ⊢
    simp only [errV_not hk0] at HFl
    clear hev
    go_enter Tryz.func19, Tryz.ntmps19
    go_wp2_with (first
      | (go_at_call 41; refine HRf.out.mono ?_; rintro e w1 ⟨rfl, rfl⟩)
      | (go_at_call 16; refine HWt.out.mono ?_; rintro e w2 ⟨rfl, hb2⟩; have HB2 := Lib.hid hb2; clear hb2)
      | (go_at_call 43; refine (HWr.out _ HB2.out).mono ?_; rintro e w3 ⟨rfl, hj3, hx3⟩
         have HF3 := Lib.hid (HFl.out _ hj3 hx3)
         clear hj3 hx3)
      | (go_at_call 44; refine HF3.out.mono ?_; rintro e w4 ⟨rfl, hz⟩; have HZ := Lib.hid hz; clear hz)
      | fail)
    go_ret
    exact ⟨rfl, HZ.out⟩
set_option maxRecDepth 100000 in
set_option maxHeartbeats 2000000 in
theorem jrewind_ {w : World} {base p aa bb q : Nat} {d : Dev} {K : Nat} {J : Jr} {rv ev : Value} (h : Jn w base p aa bb q d K J rv ev) (hK : K + J.a.s.toNat < 1000000) (ep : Nat) (he : ep < 18446744073709551616) (hcr : J.dead = 0 → d.crashed = false) (hin : inJ d J.a) :
    Calls Tryz.prog 20 #[.pointer (some ⟨q, 0, none⟩), .int .u64 ep] w fun e w' => e = .returned (errV (rewE d J)) ∧ JnTo w base p aa bb q rv ev (rewD d J) (K + J.a.s.toNat) (rewJ d J ep) w' := by
  have HRf := Lib.hid (jrefuse_ h.jr)
  by_cases hd : J.dead ≠ 0
  · have e1 : rewE d J = J.dead := if_pos hd
    have e2 : rewD d J = d := if_pos hd
    have e3 : rewJ d J ep = J := if_pos hd
    have HE := Lib.hid (JnTo.same (h.mono (K' := K + J.a.s.toNat) (by omega) (by omega)) (Below.refl _ _))
    rw [e1, e2, e3]
    rw [errV_not hd] at HRf ⊢
    clear h e1 e2 e3
    go_enter Tryz.func20, Tryz.ntmps20
    go_wp2_with (first | (go_at_call 41; refine HRf.out.mono ?_; rintro e w1 ⟨rfl, rfl⟩) | fail)
    go_ret
    exact ⟨rfl, HE.out⟩
  have hd0 : J.dead = 0 := by simpa using hd
  have e0 : errV J.dead = .nilIface := by rw [hd0]; rfl
  rw [e0] at HRf
  have hc := hcr hd0
  have e1 : rewE d J = cleanE J.a [] d := if_neg hd
  have e2 : rewD d J = cleanD J.a [] d := if_neg hd
  have e3 : rewJ d J ep = ⟨J.a, ep, [], 0, cleanE J.a [] d⟩ := if_neg hd
  rw [e1, e2, e3]
  obtain ⟨_, _, _, _, q4, q5, q6, q7, _⟩ := h.jr.cells
  have f4 : w.frozen? ⟨q, 4, none⟩ = false := frozen_of h.jr.blk
  have b1 := heap_set (o := 4) (.int .u64 (ep : Int)) h.jr.blk
  have b2 := heap_set (o := 5) (.slice none 0 0) b1
  have b3 := heap_set (o := 6) (.slice none 0 0) b2
  have b4 := heap_set (o := 7) (.int .i64 0) b3
  have k5 : (w.setCell ⟨q, 4, none⟩ (.int .u64 (ep : Int))).cell? ⟨q, 5, none⟩ = some rv := cell_of b1 rfl
  have g5 : (w.setCell ⟨q, 4, none⟩ (.int .u64 (ep : Int))).frozen? ⟨q, 5, none⟩ = false := frozen_of b1
  have k6 : ((w.setCell ⟨q, 4, none⟩ (.int .u64 (ep : Int))).setCell ⟨q, 5, none⟩ (.slice none 0 0)).cell? ⟨q, 6, none⟩ = some ev := cell_of b2 rfl
  have g6 : ((w.setCell ⟨q, 4, none⟩ (.int .u64 (ep : Int))).setCell ⟨q, 5, none⟩ (.slice none 0 0)).frozen? ⟨q, 6, none⟩ = false := frozen_of b2
  have k7 : (((w.setCell ⟨q, 4, none⟩ (.int .u64 (ep : Int))).setCell ⟨q, 5, none⟩ (.slice none 0 0)).setCell ⟨q, 6, none⟩ (.slice none 0 0)).cell? ⟨q, 7, none⟩ = some (.int .i64 J.sf) := cell_of b3 rfl
  have g7 : (((w.setCell ⟨q, 4, none⟩ (.int .u64 (ep : Int))).setCell ⟨q, 5, none⟩ (.slice none 0 0)).setCell ⟨q, 6, none⟩ (.slice none 0 0)).frozen? ⟨q, 7, none⟩ = false := frozen_of b3
  obtain ⟨W, hW⟩ : ∃ W, W = (((w.setCell ⟨q, 4, none⟩ (.int .u64 (ep : Int))).setCell ⟨q, 5, none⟩ (.slice none 0 0)).setCell ⟨q, 6, none⟩ (.slice none 0 0)).setCell ⟨q, 7, none⟩ (.int .i64 0) := ⟨_, rfl⟩
  have hbW : W.heap[q]? = some (.cells (jrC p ⟨J.a, ep, [], 0, 0⟩ (.slice none 0 0) (.slice none 0 0)) 80 (0, 0)) := by
    rw [hW, b4]
    simp only [jrC, hd0]
    rfl
  have hfW : ∀ i, i ≠ q → W.heap[i]? = w.heap[i]? := fun i hi => by rw [hW, heap_far _ hi, heap_far _ hi, heap_far _ hi, heap_far _ hi]
  have hjW : Jn W base p aa bb q d K ⟨J.a, ep, [], 0, 0⟩ (.slice none 0 0) (.slice none 0 0) := h.setq hbW hfW (own_nil _ _) (ownI_nil _ _) (h.jr.ok.none he 0)
  have hxW : Ext (Mine p aa bb q rv ev) (Mine p aa bb q (.slice none 0 0) (.slice none 0 0)) w W := Ext.setq (by rw [hW]; rfl) (by rw [hW]; rfl) (by rw [hW]; rfl) (by rw [hW]; simp [World.setCell]) hfW (fun k e => by cases e) (fun k e => by cases e)
  have HCl : Hid (Calls Tryz.prog 28 #[.pointer (some ⟨q, 0, none⟩)] W fun e w' => e = .returned (errV (cleanE J.a [] d)) ∧ Jn w' base p aa bb q (cleanD J.a [] d) (K + J.a.s.toNat) ⟨J.a, ep, [], 0, 0⟩ (.slice none 0 0) (.slice none 0 0) ∧ Ext (Mine p aa bb q rv ev) (Mine p aa bb q (.slice none 0 0) (.slice none 0 0)) w w') :=
    (jclean_ hjW.jr hjW.dev hc hin hK).mono fun e w' ⟨q1, q2, q3⟩ => ⟨q1, hjW.fd q2 q3, hxW.trans (Ext.of_fd q _ _ q3)⟩
  have HFl : Hid (∀ w2, Jn w2 base p aa bb q (cleanD J.a [] d) (K + J.a.s.toNat) ⟨J.a, ep, [], 0, 0⟩ (.slice none 0 0) (.slice none 0 0) → Ext (Mine p aa bb q rv ev) (Mine p aa bb q (.slice none 0 0) (.slice none 0 0)) w w2 → Calls Tryz.prog 44 #[.pointer (some ⟨q, 0, none⟩), errV (cleanE J.a [] d)] w2 fun e w' => e = .returned (errV (cleanE J.a [] d)) ∧ JnTo w base p aa bb q rv ev (cleanD J.a [] d) (K + J.a.s.toNat) ⟨J.a, ep, [], 0, cleanE J.a [] d⟩ w') := fun w2 hj hx => (jfail_ hj _).mono fun e w' ⟨q1, q2, q3⟩ => ⟨q1, _, _, q2, hx.trans q3⟩
  have HW := Lib.hid hW
  generalize (⟨J.a, ep, [], 0, cleanE J.a [] d⟩ : Jr) = J2 at *
  generalize cleanE J.a [] d = k at *
  generalize cleanD J.a [] d = d1 at *
  generalize hKK : K + J.a.s.toNat = K1 at *
  clear h e1 e2 e3 hd hW hbW hfW hjW hxW b1 b2 b3 b4 hKK
  obtain ⟨kv, hkv⟩ : ∃ kv, kv = errV k := ⟨_, rfl⟩
  rw [← hkv] at HCl HFl ⊢
  clear hkv
  go_enter Tryz.func20, Tryz.ntmps20
  go_wp2_with (first
    | (go_at_call 41; refine HRf.out.mono ?_; rintro e w1 ⟨rfl, rfl⟩)
    | (go_at_call 28; rw [← HW.out]; refine HCl.out.mono ?_; rintro e w3 ⟨rfl, hj3, hx3⟩
       have HF3 := Lib.hid (HFl.out _ hj3 hx3)
       clear hj3 hx3)
    | (go_at_call 44; refine HF3.out.mono ?_; rintro e w4 ⟨rfl, hz⟩; have HZ := Lib.hid hz; clear hz)
    | fail)
  go_ret
  exact ⟨rfl, HZ.out⟩
end Go.Proofs.YtjnhcanohefjiaaGreatDoor
