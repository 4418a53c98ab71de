/- journal.Append, walked. -/
import Derived.Test.YtjnhcanohefjiaaGreatDoorJApp
namespace Go.Proofs.YtjnhcanohefjiaaGreatDoor
open Go.RowKit Go.Sort Go.Maps

/-- The journal with one record more. -/
theorem app_row (J : Jr) (xs : List Nat) : ({ J with pss := J.pss ++ [xs] } : Jr).row = J.row ++ recB J.ep xs := by
  show allB J.ep (J.pss ++ [xs]) = _
  rw [allB_append, allB_one]; rfl
theorem app_ends (J : Jr) (xs : List Nat) : ({ J with pss := J.pss ++ [xs] } : Jr).ends = J.ends ++ [(J.row ++ recB J.ep xs).length] := by
  show endsL J.ep (J.pss ++ [xs]) = _
  rw [endsL_snoc, allB_append, allB_one]; rfl
theorem app_ok {J : Jr} {xs : List Nat} (h : okJ J) (hx : ∀ x ∈ xs, x < 256) (hr : refu xs.length = 0) (hl : ¬ 64 * J.a.s.toNat < J.row.length + (recB J.ep xs).length) : okJ { J with pss := J.pss ++ [xs] } := by
  have hb := refu_zero hr
  refine ⟨fun p hp => ?_, h.ep, ?_, ?_, h.g, h.f, h.s⟩
  · rcases List.mem_append.1 hp with hp | hp
    · exact h.pays p hp
    · simp only [List.mem_singleton] at hp
      subst hp
      exact ⟨fun e => by rw [e] at hb; simp at hb, by omega, hx⟩
  · show J.sf ≤ (J.pss ++ [xs]).length
    rw [List.length_append]
    have := h.sf
    omega
  · rw [app_row, List.length_append]
    show _ ≤ 64 * J.a.s.toNat
    omega
theorem JnTo.same {w w' : World} {base p aa bb q : Nat} {d : Dev} {K : Nat} {J : Jr} {rv ev : Value} (h : Jn w base p aa bb q d K J rv ev) (hb : Below w.heap.size w w') : JnTo w base p aa bb q rv ev d K J w' := ⟨rv, ev, h.on hb, Ext.of_below _ hb⟩
set_option maxHeartbeats 1000000 in
theorem jappend_dead {w : World} {base p aa bb q : Nat} {d : Dev} {K : Nat} {J : Jr} {rv ev : Value} (h : Jn w base p aa bb q d K J rv ev) (a : Option Addr) (xs : List Nat) (l c : Nat) (hd : J.dead ≠ 0) :
    Calls Tryz.prog 18 #[.pointer (some ⟨q, 0, none⟩), .slice a l c] w fun e w' => e = .returned (errV (appE J xs)) ∧ JnTo w base p aa bb q rv ev d K (appJ J xs) w' := by
  have e1 : appE J xs = J.dead := if_pos hd
  have e2 : appJ J xs = J := if_neg (by rw [e1]; exact hd)
  have HE := Lib.hid (JnTo.same h (Below.refl _ _))
  have HRf := Lib.hid (jrefuse_ h.jr)
  rw [e1, e2]
  rw [errV_not hd] at HRf ⊢
  clear h e1 e2
  go_enter Tryz.func18, Tryz.ntmps18
  go_wp2_with (first | (go_at_call 41; refine HRf.out.mono ?_; rintro e w1 ⟨rfl, rfl⟩) | fail)
  go_ret
  exact ⟨rfl, HE.out⟩
set_option maxHeartbeats 1000000 in
theorem jappend_bad {w : World} {base p aa bb q : Nat} {d : Dev} {K : Nat} {J : Jr} {rv ev : Value} (h : Jn w base p aa bb q d K J rv ev) (a : Option Addr) (xs : List Nat) (l c : Nat) (hl : xs.length = l) (hby : BytesIn w a xs) (hx : ∀ x ∈ xs, x < 256) (hc : a = none → c = 0) (hlim : l ≤ 9223372036854775807) (hd : J.dead = 0) (hr : refu xs.length ≠ 0) :
    Calls Tryz.prog 18 #[.pointer (some ⟨q, 0, none⟩), .slice a l c] w fun e w' => e = .returned (errV (appE J xs)) ∧ JnTo w base p aa bb q rv ev d K (appJ J xs) w' := by
  have e1 : appE J xs = refu xs.length := by unfold appE; rw [if_neg (by simpa using hd), if_pos hr]
  have e2 : appJ J xs = J := if_neg (by rw [e1]; exact hr)
  have HE : Hid (∀ w', Below w.heap.size w w' → JnTo w base p aa bb q rv ev d K J w') := fun w' hb => JnTo.same h hb
  have HRf := Lib.hid (jrefuse_ h.jr)
  have e0 : errV J.dead = .nilIface := by rw [hd]; rfl
  rw [e0] at HRf
  subst hl
  have HFr := Lib.hid (frame_ J.ep a xs c w hby hx hc h.jr.ok.ep hlim)
  obtain ⟨_, _, _, _, c4, _⟩ := h.jr.cells
  have ef : frm J.ep xs = ([], refu xs.length) := if_neg hr
  rw [ef] at HFr
  unfold Opened at HFr
  simp only [errV_not hr] at HFr
  rw [e1, e2, errV_not hr]
  generalize refu xs.length = k at *
  generalize J.ep = ep at *
  generalize xs.length = l at *
  clear h e1 e2 hby hx hc hd ef
  go_enter Tryz.func18, Tryz.ntmps18
  go_wp2_with (first
    | (go_at_call 41; refine HRf.out.mono ?_; rintro e w1 ⟨rfl, rfl⟩)
    | (go_at_call 42; refine HFr.out.mono ?_; rintro e w2 ⟨fa, fc, rfl, _, _, _, hb2⟩; have HB2 := Lib.hid hb2; clear hb2)
    | fail)
  go_ret
  exact ⟨rfl, HE.out _ HB2.out⟩
set_option maxRecDepth 100000 in
set_option maxHeartbeats 2000000 in
theorem jappend_full {w : World} {base p aa bb q : Nat} {d : Dev} {K : Nat} {J : Jr} {rv ev : Value} (h : Jn w base p aa bb q d K J rv ev) (a : Option Addr) (xs : List Nat) (l c : Nat) (hl : xs.length = l) (hby : BytesIn w a xs) (hx : ∀ x ∈ xs, x < 256) (hc : a = none → c = 0) (hlim : l ≤ 9223372036854775807) (hd : J.dead = 0) (hr : refu xs.length = 0) (hfull : 64 * J.a.s.toNat < J.row.length + (recB J.ep xs).length) :
    Calls Tryz.prog 18 #[.pointer (some ⟨q, 0, none⟩), .slice a l c] w fun e w' => e = .returned (errV (appE J xs)) ∧ JnTo w base p aa bb q rv ev d K (appJ J xs) w' := by
  have e1 : appE J xs = 10 := by unfold appE; rw [if_neg (by simpa using hd), if_neg (by simpa using hr), if_pos hfull]
  have e2 : appJ J xs = J := if_neg (by rw [e1]; decide)
  have HE : Hid (∀ w', Below w.heap.size w w' → JnTo w base p aa bb q rv ev d K J w') := fun w' hb => JnTo.same h hb
  have HRf := Lib.hid (jrefuse_ h.jr)
  have HRm := Lib.hid (fun V (hV : Below w.heap.size w V) => jroom_ (h.jr.on hV))
  have e0 : errV J.dead = .nilIface := by rw [hd]; rfl
  rw [e0] at HRf
  subst hl
  have HFr := Lib.hid (frame_ J.ep a xs c w hby hx hc h.jr.ok.ep hlim)
  obtain ⟨_, _, _, _, c4, _⟩ := h.jr.cells
  have ef : frm J.ep xs = (recB J.ep xs, 0) := if_pos hr
  rw [ef] at HFr
  unfold Opened at HFr
  have e00 : errV 0 = .nilIface := rfl
  simp only [e00] at HFr
  have e10 : errV 10 = .iface 68 (.int .i64 10) := rfl
  have hs := h.jr.ok.s
  have hgt : ((recB J.ep xs).length : Int) > 64 * J.a.s - (J.row.length : Nat) := by omega
  rw [e1, e2, e10]
  generalize (recB J.ep xs).length = bl at *
  generalize recB J.ep xs = bx at *
  generalize J.ep = ep at *
  generalize xs.length = l at *
  generalize 64 * J.a.s - (J.row.length : Nat) = rm at *
  clear h e1 e2 hby hx hc hd ef hfull
  go_enter Tryz.func18, Tryz.ntmps18
  go_wp2_with (first
    | (go_at_call 41; refine HRf.out.mono ?_; rintro e w1 ⟨rfl, rfl⟩)
    | (go_at_call 42; refine HFr.out.mono ?_; rintro e w2 ⟨fa, fc, rfl, _, _, _, hb2⟩; have HB2 := Lib.hid hb2; clear hb2)
    | (go_at_call 14; refine (HRm.out _ HB2.out).mono ?_; rintro e w3 ⟨rfl, hb3⟩; have HB3 := Lib.hid (below_step HB2.out hb3); clear hb3)
    | fail)
  go_ret
  exact ⟨rfl, HE.out _ HB3.out⟩
set_option maxRecDepth 100000 in
set_option maxHeartbeats 4000000 in
theorem jappend_ok {w : World} {base p aa bb q : Nat} {d : Dev} {K : Nat} {J : Jr} {rv ev : Value} (h : Jn w base p aa bb q d K J rv ev) (a : Option Addr) (xs : List Nat) (l c : Nat) (hl : xs.length = l) (hby : BytesIn w a xs) (hx : ∀ x ∈ xs, x < 256) (hc : a = none → c = 0) (hlim : l ≤ 9223372036854775807) (hd : J.dead = 0) (hr : refu xs.length = 0) (hfull : ¬ 64 * J.a.s.toNat < J.row.length + (recB J.ep xs).length) :
    Calls Tryz.prog 18 #[.pointer (some ⟨q, 0, none⟩), .slice a l c] w fun e w' => e = .returned (errV (appE J xs)) ∧ JnTo w base p aa bb q rv ev d K (appJ J xs) w' := by
  have e1 : appE J xs = 0 := by unfold appE; rw [if_neg (by simpa using hd), if_neg (by simpa using hr), if_neg hfull]
  have e2 : appJ J xs = { J with pss := J.pss ++ [xs] } := if_pos e1
  have hok := app_ok h.jr.ok hx hr hfull
  have HRf := Lib.hid (jrefuse_ h.jr)
  have HRm := Lib.hid (fun V (hV : Below w.heap.size w V) => jroom_ (h.jr.on hV))
  have e0 : errV J.dead = .nilIface := by rw [hd]; rfl
  rw [e0] at HRf
  subst hl
  have HFr := Lib.hid (frame_ J.ep a xs c w hby hx hc h.jr.ok.ep hlim)
  obtain ⟨_, _, _, _, c4, _⟩ := h.jr.cells
  have ef : frm J.ep xs = (recB J.ep xs, 0) := if_pos hr
  rw [ef] at HFr
  unfold Opened at HFr
  have e00 : errV 0 = .nilIface := rfl
  simp only [e00] at HFr
  have hs := h.jr.ok.s
  have hle : ¬ ((recB J.ep xs).length : Int) > 64 * J.a.s - (J.row.length : Nat) := by omega
  have hrl := h.jr.ok.row_le
  have hcn := h.jr.ok.count
  have hbl : (recB J.ep xs).length ≤ 1048576 := by omega
  have hbp : 0 < (recB J.ep xs).length := by rw [recB_length]; omega
  have hel : Hid (J.ends.length ≤ 10000000) := Lib.hid (by rw [ends_len]; omega)
  obtain ⟨ra, rc, hrv, _, _⟩ := h.jr.row.bytes
  obtain ⟨ea, ec, hev, _⟩ := h.jr.ends.shape
  have HJm := Lib.hid h.jm
  have HEnd : Hid (∀ (a3 a6 : Option Addr) (n3 c3 l6 c6 : Nat) (w7 : World), n3 = J.row.length + (recB J.ep xs).length → Jm w7 base p aa bb q d K #[.pointer (some ⟨p, 0, none⟩), .int .i64 J.a.g, .int .i64 J.a.f, .int .i64 J.a.s, .int .u64 J.ep, .slice a3 n3 c3, .slice a6 l6 c6, .int .i64 J.sf, .nilIface] (.slice a3 n3 c3) (.slice a6 l6 c6) (J.row ++ recB J.ep xs) (J.ends ++ [n3]) → Ext (Mine p aa bb q rv ev) (Mine p aa bb q (.slice a3 n3 c3) (.slice a6 l6 c6)) w w7 → JnTo w base p aa bb q rv ev d K { J with pss := J.pss ++ [xs] } w7) := fun a3 a6 n3 c3 l6 c6 w7 hn hm hx => by
    refine ⟨_, _, ⟨hm.dev, ⟨?_, ?_, ?_, hok⟩, hm.lo⟩, hx⟩
    · rw [hm.blk]
      unfold jrC
      simp only [e0]
    · rw [app_row]; exact hm.row
    · rw [app_ends, List.length_append, ← hn]; exact hm.ends
  rw [e1, e2, e00]
  subst hrv hev
  unfold jrC at HJm
  simp only [e0] at HJm
  generalize ({ J with pss := J.pss ++ [xs] } : Jr) = J2 at *
  generalize hrb : recB J.ep xs = bx at *
  generalize J.ep = ep at *
  generalize J.a.g = ag at *
  generalize J.a.f = af at *
  generalize J.a.s = as' at *
  generalize J.sf = sf at *
  generalize J.row = row at *
  generalize J.ends = ends at *
  generalize hbxl : bx.length = bl at *
  generalize xs.length = l at *
  generalize hrm : 64 * as' - (row.length : Nat) = rm at *
  have HBX := Lib.hid hbxl
  clear h e1 e2 hby hx hc hd ef hfull hok hrb hbxl hrm hs
  generalize hrlen : row.length = rl at *
  have HRL := Lib.hid hrlen
  clear hrlen
  go_enter Tryz.func18, Tryz.ntmps18
  go_wp2_with (first
    | (go_at_call 41; refine HRf.out.mono ?_; rintro e w1 ⟨rfl, rfl⟩)
    | (go_at_call 42; refine HFr.out.mono ?_; rintro e w2 ⟨fa, fc, rfl, hfo, hfb, _, hb2⟩
       have HFB := Lib.hid hfb
       obtain ⟨fg, rfl⟩ := own_at hfo (by rw [HBX.out]; exact hbp)
       have HB2 := Lib.hid hb2
       clear hb2 hfo hfb)
    | (go_at_call 14; refine (HRm.out _ HB2.out).mono ?_; rintro e w3 ⟨rfl, hb3⟩
       have HB3 := Lib.hid (below_step HB2.out hb3)
       have HFB3 := Lib.hid (HFB.out.on hb3)
       have HJ3 := Lib.hid (HJm.out.on HB3.out)
       have q5 : w3.cell? ⟨q, 5, none⟩ = some (.slice ra rl rc) := cell_of HJ3.out.blk rfl
       clear hb3 HFB HB2)
    | (at_builtin; refine wpList_append_bytesB _ rfl _ _ rfl base _ row bx rfl HJ3.out.row fg bl fc rfl HBX.out HFB3.out (by rw [HBX.out, HRL.out]; omega) HJ3.out.base ?_
       intro a4 n4 c4' w4 hown4 hgrow4 hblk4 hn4
       rw [HRL.out] at hn4
       obtain ⟨hm4, hx4⟩ := HJ3.out.growRow hown4 hgrow4 hblk4
       have HM4 := Lib.hid hm4
       have HX4 := Lib.hid ((Ext.of_below (Mine p aa bb q (.slice ra rl rc) (.slice ea ends.length ec)) HB3.out).trans hx4)
       have HN4 := Lib.hid hn4
       have q5' : w4.cell? ⟨q, 5, none⟩ = some (.slice ra rl rc) := cell_of hm4.blk rfl
       have f5' : w4.frozen? ⟨q, 5, none⟩ = false := frozen_of hm4.blk
       clear hown4 hgrow4 hblk4 hn4 hm4 hx4 q5 HFB3 HB3 HJ3)
    | fail)
  obtain ⟨hm5, hx5⟩ := HM4.out.set 5 (.slice a4 n4 c4')
  have HM3 : Hid (Jm (w4.setCell ⟨q, 5, none⟩ (.slice a4 n4 c4')) base p aa bb q d K #[.pointer (some ⟨p, 0, none⟩), .int .i64 ag, .int .i64 af, .int .i64 as', .int .u64 ep, .slice a4 n4 c4', .slice ea ends.length ec, .int .i64 sf, .nilIface] (.slice a4 n4 c4') (.slice ea ends.length ec) (row ++ bx) ends) := hm5
  have HFin : Hid (∀ (a6 : Option Addr) (l6 c6 : Nat) (w7 : World), Jm w7 base p aa bb q d K #[.pointer (some ⟨p, 0, none⟩), .int .i64 ag, .int .i64 af, .int .i64 as', .int .u64 ep, .slice a4 n4 c4', .slice a6 l6 c6, .int .i64 sf, .nilIface] (.slice a4 n4 c4') (.slice a6 l6 c6) (row ++ bx) (ends ++ [n4]) → Ext (Mine p aa bb q (.slice a4 n4 c4') (.slice ea ends.length ec)) (Mine p aa bb q (.slice a4 n4 c4') (.slice a6 l6 c6)) (w4.setCell ⟨q, 5, none⟩ (.slice a4 n4 c4')) w7 → JnTo w1 base p aa bb q (.slice ra rl rc) (.slice ea ends.length ec) d K J2 w7) := fun a6 l6 c6 w7 hm hx => HEnd.out a4 a6 n4 c4' l6 c6 w7 HN4.out hm ((HX4.out.trans hx5).trans hx)
  clear hm5 hx5 HM4 HX4 q5' f5' HEnd HRf HRm HFr HJm
  generalize w4.setCell ⟨q, 5, none⟩ (.slice a4 n4 c4') = W3 at *
  have D5 : Hid (W3.drew.cell? ⟨q, 5, none⟩ = some (.slice a4 n4 c4')) := cell_of (w := W3) HM3.out.blk rfl
  have D6 : Hid (W3.drew.cell? ⟨q, 6, none⟩ = some (.slice ea ends.length ec)) := cell_of (w := W3) HM3.out.blk rfl
  have hV : Hid (Below W3.heap.size W3 (W3.drew.alloc (.cells #[.int .i64 (n4 : Int)] 3))) := below_step (below_drew W3) (below_alloc _ _)
  have D6b : Hid ((W3.alloc (.cells #[.int .i64 (n4 : Int)] 3)).cell? ⟨q, 6, none⟩ = some (.slice ea ends.length ec)) := cell_of (HM3.out.on (below_alloc _ _)).blk rfl
  refine wp_region_noPanic ?_
  refine wp_region_held_drew (S := fun _ => True) (by kernel_rfl) trivial (fun hHeld => ?_)
  refine take_at 0 (.pointer (some ⟨q, 0, none⟩)) rfl (by kernel_rfl) (by kernel_rfl) (by kernel_rfl) (fun _ _ _ h => h) (Or.inl ⟨by rfl, ?_⟩) trivial ?_
  · intro V hSV; go_simp
  simp only [Act.put, List.setIfInBounds_toArray, List.set_cons_zero, List.set_cons_succ]
  refine take_at 1 (.pointer (some ⟨q, 0, none⟩)) rfl (by kernel_rfl) (by kernel_rfl) (by kernel_rfl) (fun _ _ _ h => h) (Or.inl ⟨by rfl, ?_⟩) trivial ?_
  · intro V hSV; go_simp
  simp only [Act.put, List.setIfInBounds_toArray, List.set_cons_zero, List.set_cons_succ]
  refine take_at 2 (.pointer (some ⟨q, 0, none⟩)) rfl (by kernel_rfl) (by kernel_rfl) (by kernel_rfl) (fun _ _ _ h => h) (Or.inl ⟨by rfl, ?_⟩) trivial ?_
  · intro V hSV; go_simp
  simp only [Act.put, List.setIfInBounds_toArray, List.set_cons_zero, List.set_cons_succ]
  refine take_at 3 (.pointer (some ⟨q, 6, none⟩)) rfl (by kernel_rfl) (by kernel_rfl) (by kernel_rfl) (fun _ _ _ h => h) (Or.inl ⟨by rfl, ?_⟩) trivial ?_
  · intro V hSV; go_simp
  simp only [Act.put, List.setIfInBounds_toArray, List.set_cons_zero, List.set_cons_succ]
  refine take_at 5 (.pointer (some ⟨q, 0, none⟩)) rfl (by kernel_rfl) (by kernel_rfl) (by kernel_rfl) (fun _ _ _ h => h) (Or.inl ⟨by rfl, ?_⟩) trivial ?_
  · intro V hSV; go_simp
  simp only [Act.put, List.setIfInBounds_toArray, List.set_cons_zero, List.set_cons_succ]
  refine take_at 6 (.pointer (some ⟨q, 0, none⟩)) rfl (by kernel_rfl) (by kernel_rfl) (by kernel_rfl) (fun _ _ _ h => h) (Or.inl ⟨by rfl, ?_⟩) trivial ?_
  · intro V hSV; go_simp
  simp only [Act.put, List.setIfInBounds_toArray, List.set_cons_zero, List.set_cons_succ]
  refine take_at 7 (.pointer (some ⟨q, 5, none⟩)) rfl (by kernel_rfl) (by kernel_rfl) (by kernel_rfl) (fun _ _ _ h => h) (Or.inl ⟨by rfl, ?_⟩) trivial ?_
  · intro V hSV; go_simp
  simp only [Act.put, List.setIfInBounds_toArray, List.set_cons_zero, List.set_cons_succ]
  refine wpAnyH_ready (rs := [4, 8]) (by kernel_rfl) (by simp) (cons_at 4 (v := .slice ea ends.length ec) (w' := W3.drew) rfl (by rfl) (by have e0 := D6.out; go_simp) trivial ?nA (cons_at 8 (v := .slice a4 n4 c4') (w' := W3.drew) rfl (by rfl) (by have e0 := D5.out; go_simp) trivial ?nB AllReadyH.nil))
  case nA =>
    simp only [Act.put, List.setIfInBounds_toArray, List.set_cons_zero, List.set_cons_succ]
    refine wpAnyH_ready (rs := [8]) (by kernel_rfl) (by simp) (cons_at 8 (v := .slice a4 n4 c4') (w' := W3.drew) rfl (by rfl) (by have e0 := D5.out; go_simp) trivial ?_ AllReadyH.nil)
    simp only [Act.put, List.setIfInBounds_toArray, List.set_cons_zero, List.set_cons_succ]
    refine take_at 9 (.int .i64 n4) rfl (by kernel_rfl) (by kernel_rfl) (by kernel_rfl) (fun _ _ _ h => h) (Or.inl ⟨by rfl, ?_⟩) trivial ?_
    · intro V hSV; go_simp
    simp only [Act.put, List.setIfInBounds_toArray, List.set_cons_zero, List.set_cons_succ]
    refine wpAnyH_ready (rs := [10]) (by kernel_rfl) (by simp) (cons_at 10 rfl (by rfl) (run_buildI _ _ _ _ _ rfl rfl) trivial ?_ AllReadyH.nil)
    simp only [Act.put, List.setIfInBounds_toArray, List.set_cons_zero, List.set_cons_succ]
    refine wpAnyH_ready (rs := [11]) (by kernel_rfl) (by simp) ?_
    refine cons_op 11 rfl (fun KK hK => ?_) AllReadyH.nil
    refine step_append_intB _ rfl _ _ rfl base _ ends n4 rfl (HM3.out.ends.on (hV.out)) W3.heap.size rfl (cell_of (World.alloc_heap_new' _ _) rfl) hel.out (Nat.le_trans HM3.out.base (hV.out).size) ?_
    intro a6 l6 c6 w6 hown6 hgrow6 hblk6
    refine hK.out _ _ trivial (fun hHeld11 => ?_)
    obtain ⟨hm6, hx6⟩ := (HM3.out.on (hV.out)).growEnds hown6 hgrow6 hblk6
    have HM6 := Lib.hid hm6
    have HX6 := Lib.hid ((Ext.of_below _ (hV.out)).trans hx6)
    clear hK KK hown6 hgrow6 hblk6 hm6 hx6
    simp only [Act.put, List.setIfInBounds_toArray, List.set_cons_zero, List.set_cons_succ]
    refine take_at 12 (.pointer (some ⟨q, 0, none⟩)) rfl (by kernel_rfl) (by kernel_rfl) (by kernel_rfl) (fun _ _ _ h => h) (Or.inl ⟨by rfl, ?_⟩) trivial ?_
    · intro V hSV; go_simp
    simp only [Act.put, List.setIfInBounds_toArray, List.set_cons_zero, List.set_cons_succ]
    refine take_at 13 (.pointer (some ⟨q, 6, none⟩)) rfl (by kernel_rfl) (by kernel_rfl) (by kernel_rfl) (fun _ _ _ h => h) (Or.inl ⟨by rfl, ?_⟩) trivial ?_
    · intro V hSV; go_simp
    simp only [Act.put, List.setIfInBounds_toArray, List.set_cons_zero, List.set_cons_succ]
    refine ready_store 14 rfl (by kernel_rfl) (by rfl) 41 _ _ rfl _ _ rfl rfl (store_ints (cell_of HM6.out.blk rfl) (frozen_of HM6.out.blk)) trivial ?_
    simp only [Act.put]
    obtain ⟨hm7, hx7⟩ := HM6.out.set 6 (.slice a6 l6 c6)
    have HE := Lib.hid (HFin.out _ _ _ _ hm7 (HX6.out.trans hx7))
    clear hm7 hx7 HM6 HX6
    refine wpAnyH_done (by kernel_rfl) ?_ _
    refine NoPanic.normal ?_
    clear HM3 HFin hV hel
    go_wp2_with fail
    go_ret
    exact ⟨rfl, HE.out⟩
  case nB =>
    simp only [Act.put, List.setIfInBounds_toArray, List.set_cons_zero, List.set_cons_succ]
    refine take_at 9 (.int .i64 n4) rfl (by kernel_rfl) (by kernel_rfl) (by kernel_rfl) (fun _ _ _ h => h) (Or.inl ⟨by rfl, ?_⟩) trivial ?_
    · intro V hSV; go_simp
    simp only [Act.put, List.setIfInBounds_toArray, List.set_cons_zero, List.set_cons_succ]
    refine wpAnyH_ready (rs := [4, 10]) (by kernel_rfl) (by simp) (cons_at 4 (v := .slice ea ends.length ec) (w' := W3.drew) rfl (by rfl) (by have e0 := D6.out; go_simp) trivial ?nC (cons_at 10 rfl (by rfl) (run_buildI _ _ _ _ _ rfl rfl) trivial ?nD AllReadyH.nil))
    case nC =>
      simp only [Act.put, List.setIfInBounds_toArray, List.set_cons_zero, List.set_cons_succ]
      refine wpAnyH_ready (rs := [10]) (by kernel_rfl) (by simp) (cons_at 10 rfl (by rfl) (run_buildI _ _ _ _ _ rfl rfl) trivial ?_ AllReadyH.nil)
      simp only [Act.put, List.setIfInBounds_toArray, List.set_cons_zero, List.set_cons_succ]
      refine wpAnyH_ready (rs := [11]) (by kernel_rfl) (by simp) ?_
      refine cons_op 11 rfl (fun KK hK => ?_) AllReadyH.nil
      refine step_append_intB _ rfl _ _ rfl base _ ends n4 rfl (HM3.out.ends.on (hV.out)) W3.heap.size rfl (cell_of (World.alloc_heap_new' _ _) rfl) hel.out (Nat.le_trans HM3.out.base (hV.out).size) ?_
      intro a6 l6 c6 w6 hown6 hgrow6 hblk6
      refine hK.out _ _ trivial (fun hHeld11 => ?_)
      obtain ⟨hm6, hx6⟩ := (HM3.out.on (hV.out)).growEnds hown6 hgrow6 hblk6
      have HM6 := Lib.hid hm6
      have HX6 := Lib.hid ((Ext.of_below _ (hV.out)).trans hx6)
      clear hK KK hown6 hgrow6 hblk6 hm6 hx6
      simp only [Act.put, List.setIfInBounds_toArray, List.set_cons_zero, List.set_cons_succ]
      refine take_at 12 (.pointer (some ⟨q, 0, none⟩)) rfl (by kernel_rfl) (by kernel_rfl) (by kernel_rfl) (fun _ _ _ h => h) (Or.inl ⟨by rfl, ?_⟩) trivial ?_
      · intro V hSV; go_simp
      simp only [Act.put, List.setIfInBounds_toArray, List.set_cons_zero, List.set_cons_succ]
      refine take_at 13 (.pointer (some ⟨q, 6, none⟩)) rfl (by kernel_rfl) (by kernel_rfl) (by kernel_rfl) (fun _ _ _ h => h) (Or.inl ⟨by rfl, ?_⟩) trivial ?_
      · intro V hSV; go_simp
      simp only [Act.put, List.setIfInBounds_toArray, List.set_cons_zero, List.set_cons_succ]
      refine ready_store 14 rfl (by kernel_rfl) (by rfl) 41 _ _ rfl _ _ rfl rfl (store_ints (cell_of HM6.out.blk rfl) (frozen_of HM6.out.blk)) trivial ?_
      simp only [Act.put]
      obtain ⟨hm7, hx7⟩ := HM6.out.set 6 (.slice a6 l6 c6)
      have HE := Lib.hid (HFin.out _ _ _ _ hm7 (HX6.out.trans hx7))
      clear hm7 hx7 HM6 HX6
      refine wpAnyH_done (by kernel_rfl) ?_ _
      refine NoPanic.normal ?_
      clear HM3 HFin hV hel
      go_wp2_with fail
      go_ret
      exact ⟨rfl, HE.out⟩
    case nD =>
      simp only [Act.put, List.setIfInBounds_toArray, List.set_cons_zero, List.set_cons_succ]
      refine wpAnyH_ready (rs := [4]) (by kernel_rfl) (by simp) (cons_at 4 (v := .slice ea ends.length ec) (w' := W3.drew.alloc (.cells #[.int .i64 (n4 : Int)] 3)) rfl (by rfl) (by have e0 := D6b.out; go_simp) trivial ?_ AllReadyH.nil)
      simp only [Act.put, List.setIfInBounds_toArray, List.set_cons_zero, List.set_cons_succ]
      refine wpAnyH_ready (rs := [11]) (by kernel_rfl) (by simp) ?_
      refine cons_op 11 rfl (fun KK hK => ?_) AllReadyH.nil
      refine step_append_intB _ rfl _ _ rfl base _ ends n4 rfl (HM3.out.ends.on (hV.out)) W3.heap.size rfl (cell_of (World.alloc_heap_new' _ _) rfl) hel.out (Nat.le_trans HM3.out.base (hV.out).size) ?_
      intro a6 l6 c6 w6 hown6 hgrow6 hblk6
      refine hK.out _ _ trivial (fun hHeld11 => ?_)
      obtain ⟨hm6, hx6⟩ := (HM3.out.on (hV.out)).growEnds hown6 hgrow6 hblk6
      have HM6 := Lib.hid hm6
      have HX6 := Lib.hid ((Ext.of_below _ (hV.out)).trans hx6)
      clear hK KK hown6 hgrow6 hblk6 hm6 hx6
      simp only [Act.put, List.setIfInBounds_toArray, List.set_cons_zero, List.set_cons_succ]
      refine take_at 12 (.pointer (some ⟨q, 0, none⟩)) rfl (by kernel_rfl) (by kernel_rfl) (by kernel_rfl) (fun _ _ _ h => h) (Or.inl ⟨by rfl, ?_⟩) trivial ?_
      · intro V hSV; go_simp
      simp only [Act.put, List.setIfInBounds_toArray, List.set_cons_zero, List.set_cons_succ]
      refine take_at 13 (.pointer (some ⟨q, 6, none⟩)) rfl (by kernel_rfl) (by kernel_rfl) (by kernel_rfl) (fun _ _ _ h => h) (Or.inl ⟨by rfl, ?_⟩) trivial ?_
      · intro V hSV; go_simp
      simp only [Act.put, List.setIfInBounds_toArray, List.set_cons_zero, List.set_cons_succ]
      refine ready_store 14 rfl (by kernel_rfl) (by rfl) 41 _ _ rfl _ _ rfl rfl (store_ints (cell_of HM6.out.blk rfl) (frozen_of HM6.out.blk)) trivial ?_
      simp only [Act.put]
      obtain ⟨hm7, hx7⟩ := HM6.out.set 6 (.slice a6 l6 c6)
      have HE := Lib.hid (HFin.out _ _ _ _ hm7 (HX6.out.trans hx7))
      clear hm7 hx7 HM6 HX6
      refine wpAnyH_done (by kernel_rfl) ?_ _
      refine NoPanic.normal ?_
      clear HM3 HFin hV hel
      go_wp2_with fail
      go_ret
      exact ⟨rfl, HE.out⟩
/-- Append, whatever is laid behind. -/
theorem jappend_ {w : World} {base p aa bb q : Nat} {d : Dev} {K : Nat} {J : Jr} {rv ev : Value} (h : Jn w base p aa bb q d K J rv ev) (a : Option Addr) (xs : List Nat) (l c : Nat) (hl : xs.length = l) (hby : BytesIn w a xs) (hx : ∀ x ∈ xs, x < 256) (hc : a = none → c = 0) (hlim : l ≤ 9223372036854775807) :
    Calls Tryz.prog 18 #[.pointer (some ⟨q, 0, none⟩), .slice a l c] w fun e w' => e = .returned (errV (appE J xs)) ∧ JnTo w base p aa bb q rv ev d K (appJ J xs) w' := by
  by_cases hd : J.dead = 0
  · by_cases hr : refu xs.length = 0
    · by_cases hf : 64 * J.a.s.toNat < J.row.length + (recB J.ep xs).length
      · exact jappend_full h a xs l c hl hby hx hc hlim hd hr hf
      · exact jappend_ok h a xs l c hl hby hx hc hlim hd hr hf
    · exact jappend_bad h a xs l c hl hby hx hc hlim hd hr
  · exact jappend_dead h a xs l c hd
end Go.Proofs.YtjnhcanohefjiaaGreatDoor
