/- The law JournalEpochs, walked. -/
import Derived.Test.YtjnhcanohefjiaaJLaw
import Derived.Test.YtjnhcanohefjiaaJRow
namespace Go.Proofs.Ytjnhcanohefjiaa
open Go.RowKit Go.Sort Go.Maps

/-- The older records laid behind so far. -/
def Ep1 (d : Dev) (i : Nat) (J : Jr) : Prop := J.a = arN 40 ∧ J.ep = 1 ∧ J.row.length ≤ 84 * i ∧ Calm d J
def Ep1At (w : World) (bx q : Nat) (d : Dev) (i : Nat) (wr : World) : Prop := ∃ J rv ev, LI w bx q 40 d 40 J rv ev wr ∧ Ep1 d i J
/-- The newer ones, each flushed. -/
def Ep2 (i : Nat) (d : Dev) (K : Nat) (J : Jr) : Prop := J.a = arN 40 ∧ J.ep = 2 ∧ J.row.length ≤ 84 * i ∧ Calm d J ∧ J.sf = J.pss.length ∧ d.armed = false ∧ K ≤ 200 + 40 * i ∧ J.pss.length ≤ i ∧ d.r = 1 ∧ d.s = 40
/-- Slices of old bytes. -/
def OldIn (w : World) (vs : List Value) (yss : List (List Nat)) : Prop := vs.length = yss.length ∧ ∀ k, k < yss.length → ∃ a c, vs.getD k undef = .slice a (yss.getD k []).length c ∧ BytesIn w a (yss.getD k [])
theorem OldIn.snoc {w : World} {vs : List Value} {yss : List (List Nat)} {a : Option Addr} {c : Nat} {ys : List Nat} (h : OldIn w vs yss) (hb : BytesIn w a ys) : OldIn w (vs ++ [.slice a ys.length c]) (yss ++ [ys]) := by
  refine ⟨by simp [h.1], fun k hk => ?_⟩
  rw [List.length_append, List.length_singleton] at hk
  rcases Nat.lt_or_ge k yss.length with h1 | h1
  · have e1 : (vs ++ [Value.slice a ys.length c]).getD k undef = vs.getD k undef := by rw [List.getD_eq_getElem?_getD, List.getD_eq_getElem?_getD, List.getElem?_append_left (by rw [h.1]; exact h1)]
    have e2 : (yss ++ [ys]).getD k [] = yss.getD k [] := by rw [List.getD_eq_getElem?_getD, List.getD_eq_getElem?_getD, List.getElem?_append_left h1]
    rw [e1, e2]
    exact h.2 k h1
  · obtain rfl : k = yss.length := by omega
    have e1 : (vs ++ [Value.slice a ys.length c]).getD yss.length undef = .slice a ys.length c := by rw [← h.1]; simp
    have e2 : (yss ++ [ys]).getD yss.length [] = ys := by simp
    rw [e1, e2]
    exact ⟨a, c, rfl, hb⟩
def Ep2At (w : World) (bx q : Nat) (lv : Value) (i : Nat) (wr : World) : Prop := ∃ d K J rv ev vs, LI w bx q 40 d K J rv ev wr ∧ Ep2 i d K J ∧ OwnR wr w.heap.size lv vs ∧ OldIn w vs J.pss
theorem ep1_step {w wr V : World} {bx q i : Nat} {d : Dev} {J : Jr} {rv ev : Value} (h : LI w bx q 40 d 40 J rv ev wr) (h1 : Ep1 d i J) {xs : List Nat} (hx : xs.length ≤ 60) (hj : JnTo wr w.heap.size (w.heap.size + 2) w.heap.size (w.heap.size + 1) q rv ev d 40 (appJ J xs) V) : Ep1At w bx q d (i + 1) V ∧ Below w.heap.size w V := by
  obtain ⟨rv', ev', k1, _⟩ := h.to hj
  obtain ⟨a1, a2, a3, a4⟩ := h1
  obtain ⟨b1, b2, _, _, _⟩ := app_keeps J xs
  have hb := app_bound J xs h.jn.jr.ok.ep
  exact ⟨⟨_, _, _, k1, b1.trans a1, b2.trans a2, by omega, a4.append h.jn.jr.ok.sf xs⟩, k1.bw⟩
theorem flush_dims {d : Dev} {J : Jr} (h : Calm d J) (hj : okJ J) (he : flushE d J = 0) : (flushD d J).r = d.r ∧ (flushD d J).s = d.s := by
  by_cases hs : J.sf = J.pss.length
  · obtain ⟨f1, _, _⟩ := flush_none (d := d) hs
    rw [f1]; exact ⟨rfl, rfl⟩
  · obtain ⟨f1, f2, _⟩ := flush_some (d := d) h.alive hs
    rw [f2] at he
    rw [f1]
    have hlt := upto_lt (J := J) (n := J.sf) (by have := hj.sf; omega)
    obtain ⟨_, _, _, _, g5, g6⟩ := wrt_good h.ok h.pend h.cr h.inn hj.byte hlt hj.len h.row he
    exact ⟨g5, g6⟩
/-- The older ones flushed, and begun anew. -/
theorem ep_turn {w wr : World} {bx q i : Nat} {d1 : Dev} (hc : d1.armed = false ∧ d1.r = 1 ∧ d1.s = 40) (h : Ep1At w bx q d1 i wr) :
    Calls Try.prog 11 #[.pointer (some ⟨q, 0, none⟩)] wr fun e w' => e = .returned .nilIface ∧ ∃ d2 K J rv ev, LI w bx q 40 d2 K J rv ev w' ∧ K ≤ 80 ∧ J.a = arN 40 ∧ Calm d2 J ∧ d2.armed = false ∧ d2.r = 1 ∧ d2.s = 40 := by
  obtain ⟨J, rv, ev, hL, e1, e2, e3, e4⟩ := h
  have hok := hL.jn.jr.ok
  obtain ⟨f1, f2⟩ := e4.flush_calm hok hc.1
  obtain ⟨g1, g2⟩ := e4.flush hok f1
  obtain ⟨r1, r2⟩ := flush_dims e4 hok f1
  have hs : J.a.s.toNat = 40 := by rw [e1]; rfl
  refine (jflush_ hL.jn (by rw [hs]; decide)).mono fun e w' ⟨q1, q2⟩ => ⟨by rw [q1, f1]; rfl, ?_⟩
  obtain ⟨rv', ev', k1, _⟩ := hL.to q2
  exact ⟨_, _, _, _, _, k1, by rw [hs]; decide, by rw [g2]; exact e1, g1, f2, r1.trans hc.2.1, r2.trans hc.2.2⟩
theorem ep_anew {w wr : World} {bx q : Nat} {d2 : Dev} {K : Nat} {J : Jr} {rv ev : Value} (hL : LI w bx q 40 d2 K J rv ev wr) (hK : K ≤ 80) (ha : J.a = arN 40) (hc : Calm d2 J) (hm : d2.armed = false) (hr : d2.r = 1) (hs2 : d2.s = 40) :
    Calls Try.prog 15 #[.pointer (some ⟨q, 0, none⟩), .int .u64 2] wr fun e w' => e = .returned .nilIface ∧ ∃ d3 K3 rv ev, LI w bx q 40 d3 K3 ⟨arN 40, 2, [], 0, 0⟩ rv ev w' ∧ Ep2 0 d3 K3 ⟨arN 40, 2, [], 0, 0⟩ := by
  obtain ⟨f1, f2⟩ := hc.rewind_calm hm
  obtain ⟨g1, g2⟩ := hc.rewind 2 f1
  have hs : J.a.s.toNat = 40 := by rw [ha]; rfl
  have hd' : ¬ J.dead ≠ 0 := fun e => e hc.alive
  have he : cleanE J.a [] d2 = 0 := by unfold rewE at f1; rw [if_neg hd'] at f1; exact f1
  obtain ⟨_, _, _, _, c5, c6⟩ := clean_good hc.ok hc.pend hc.cr hc.inn (fun x hx => by cases hx) (begins_nil _ _) he
  have hrd : rewD d2 J = cleanD J.a [] d2 := if_neg hd'
  refine (jrewind_ hL.jn (by rw [hs]; omega) 2 (by decide) (fun _ => hc.cr) hc.inn).mono fun e w' ⟨q1, q2⟩ => ⟨by rw [q1, f1]; rfl, ?_⟩
  obtain ⟨rv', ev', k1, _⟩ := hL.to q2
  rw [g2, ha] at k1 g1
  exact ⟨_, _, _, _, k1, rfl, rfl, Nat.le_refl _, g1, rfl, f2, (by show K + 40 ≤ _; omega), Nat.le_refl _, by rw [hrd]; exact c5.trans hr, by rw [hrd]; exact c6.trans hs2⟩
/-- A newer record laid behind. -/
theorem ep2_app {w wr : World} {bx q i : Nat} {d : Dev} {K : Nat} {J : Jr} {rv ev lv : Value} {vs : List Value} (hL : LI w bx q 40 d K J rv ev wr) (hE : Ep2 i d K J) (hi : i < 20) (hO : OwnR wr w.heap.size lv vs) (a : Option Addr) (xs : List Nat) (l c : Nat) (hl : xs.length = l) (h60 : l ≤ 60) (hby : BytesIn w a xs) (hx : ∀ x ∈ xs, x < 256) (hc : a = none → c = 0) :
    Calls Try.prog 10 #[.pointer (some ⟨q, 0, none⟩), .slice a l c] wr fun e w' => e = .returned (errV (if xs = [] then 1 else 0)) ∧ ∃ rv ev, LI w bx q 40 d K (if xs = [] then J else { J with pss := J.pss ++ [xs] }) rv ev w' ∧ OwnR w' w.heap.size lv vs := by
  obtain ⟨e1, e2, e3, e4, e5, e6, e7, e8, _⟩ := hE
  have hs : J.a.s.toNat = 40 := by rw [e1]; rfl
  have hE0 := app_iff (J := J) (xs := xs) e4.alive (by omega) hL.jn.jr.ok.ep (by rw [hs]; omega)
  refine (jappend_ hL.jn a xs l c hl (hby.on hL.bw) hx hc (by omega)).mono fun e w' ⟨q1, q2⟩ => ⟨by rw [q1, hE0], ?_⟩
  obtain ⟨rv', ev', k1, k2⟩ := hL.to q2
  have hJ : appJ J xs = if xs = [] then J else { J with pss := J.pss ++ [xs] } := by
    unfold appJ
    rw [hE0]
    by_cases h0 : xs = []
    · rw [if_pos h0, if_pos h0]; rfl
    · rw [if_neg h0, if_neg h0]; rfl
  rw [hJ] at k1
  exact ⟨_, _, k1, hO.ext hL.jn k2⟩
/-- And flushed. -/
theorem ep2_flush {w wr : World} {bx q i : Nat} {d : Dev} {K : Nat} {J J' : Jr} {rv ev lv : Value} {vs' : List Value} (hL : LI w bx q 40 d K J' rv ev wr) (hE : Ep2 i d K J) (hi : i < 20) {xs : List Nat} (h60 : xs.length ≤ 60) (hJ : J' = if xs = [] then J else { J with pss := J.pss ++ [xs] }) (hO : OwnR wr w.heap.size lv vs') (hold : OldIn w vs' J'.pss) :
    Calls Try.prog 11 #[.pointer (some ⟨q, 0, none⟩)] wr fun e w' => e = .returned .nilIface ∧ Ep2At w bx q lv (i + 1) w' := by
  obtain ⟨e1, e2, e3, e4, e5, e6, e7, e8, e9, e10⟩ := hE
  have hok := hL.jn.jr.ok
  have hc' : Calm d J' := by
    rw [hJ]
    split
    · exact e4
    · refine ⟨e4.ok, e4.pend, e4.cr, e4.inn, ?_, e4.alive⟩
      show Lies d J.a (allB J.ep ((J.pss ++ [xs]).take J.sf))
      rw [List.take_append_of_le_length (by omega)]
      exact e4.lies
  have ha : J'.a = arN 40 ∧ J'.ep = 2 := by rw [hJ]; split <;> exact ⟨e1, e2⟩
  have hs : J'.a.s.toNat = 40 := by rw [ha.1]; rfl
  have hrow : J'.row.length ≤ 84 * (i + 1) ∧ J'.pss.length ≤ i + 1 := by
    rw [hJ]
    split
    · exact ⟨by omega, by omega⟩
    · have := rec_le J.ep (by rw [e2]; decide) xs (by omega)
      rw [app_row, List.length_append]
      refine ⟨by omega, ?_⟩
      show (J.pss ++ [xs]).length ≤ _
      rw [List.length_append, List.length_singleton]
      omega
  obtain ⟨f1, f2⟩ := hc'.flush_calm hok e6
  obtain ⟨g1, g2⟩ := hc'.flush hok f1
  obtain ⟨r1, r2⟩ := flush_dims hc' hok f1
  refine (jflush_ hL.jn (by rw [hs]; omega)).mono fun e w' ⟨q1, q2⟩ => ⟨by rw [q1, f1]; rfl, ?_⟩
  obtain ⟨rv', ev', k1, k2⟩ := hL.to q2
  refine ⟨_, _, _, _, _, vs', k1, ?_, hO.ext hL.jn k2, by rw [g2]; exact hold⟩
  rw [g2] at g1 ⊢
  exact ⟨ha.1, ha.2, hrow.1, g1, rfl, f2, by rw [hs]; omega, hrow.2, r1.trans e9, r2.trans e10⟩
set_option maxRecDepth 100000 in
set_option maxHeartbeats 8000000 in
theorem epochs_law (a1 : Option Addr) (n1 c1 : Nat) (f1 : Nat → TxV) (a2 : Option Addr) (n2 c2 : Nat) (f2 : Nat → TxV) (w : World) (hin1 : TxsAt w a1 n1 f1) (hin2 : TxsAt w a2 n2 f2) :
    Calls Try.prog 4 #[.slice a1 n1 c1, .slice a2 n2 c2] w fun e w' => e = .returned (.bool true) ∧ Below w.heap.size w w' := by
  have HN := Lib.hid (new_ 1 40 w (by omega))
  have HT1 := Lib.hid hin1
  have HT2 := Lib.hid hin2
  have HSu := Lib.hid (fun W => sure_ W)
  obtain ⟨o1, o2, o3⟩ := opened_new 40 (by decide) (by decide) 1 (by decide)
  obtain ⟨_, _, _, _, o5, o6⟩ := clean_good (okD_new 1 (40 : Nat)) rfl rfl (inJ_n 40 (by decide)) (fun x hx => by cases hx) (begins_nil _ _) o1
  obtain ⟨d1, hd1⟩ : ∃ d1, d1 = cleanD (arN 40) [] (newD 1 (40 : Nat)) := ⟨_, rfl⟩
  have HO1 : Hid (∀ W, DevIn W (w.heap.size + 2) w.heap.size (w.heap.size + 1) (newD 1 40) 0 → w.heap.size ≤ W.heap.size → Calls Try.prog 7 #[.pointer (some ⟨w.heap.size + 2, 0, none⟩), .agg #[.int .i64 0, .int .i64 0, .int .i64 40], .int .u64 1] W fun e w' => ∃ q la lc, e = .returned (.tuple #[.pointer (some ⟨q, 0, none⟩), .slice la 0 lc, .nilIface]) ∧ ∃ rv ev, Jn w' w.heap.size (w.heap.size + 2) w.heap.size (w.heap.size + 1) q d1 40 ⟨arN 40, 1, [], 0, 0⟩ rv ev ∧ Ext (fun k => k = w.heap.size + 2 ∨ k = w.heap.size ∨ k = w.heap.size + 1) (MineL w q rv ev) W w') := fun W hd hw => by
    rw [hd1]
    exact open_first 40 (by decide) (by decide) 1 (by decide) hd ⟨by omega, by omega, by omega⟩ hw
  rw [← hd1] at o2 o3 o5 o6
  have HC1 := Lib.hid (And.intro o2 (And.intro o3 (And.intro o5 o6)))
  clear hin1 hin2 o1 o2 o3 o5 o6 hd1
  go_enter Try.func4, Try.ntmps4
  go_wp2_with fail
  refine HN.out.mono ?_
  rintro e w1 ⟨rfl, hb1, hd1'⟩
  unfold pt
  obtain ⟨W, hW⟩ : ∃ W, W = w1.alloc (.cells #[.int .i64 0, .int .i64 0, .int .i64 40] 32) := ⟨_, rfl⟩
  have hbW : Below w1.heap.size w1 W := by rw [hW]; exact below_alloc _ _
  have HA : Hid (ArAt W w1.heap.size (arN 40)) := by rw [hW]; exact World.alloc_heap_new' _ _
  have HD := Lib.hid (hd1'.on hbW)
  have HB := Lib.hid (below_step hb1 hbW)
  have HW := Lib.hid hW
  obtain ⟨x0, x1, x2⟩ := HA.out.cells
  have hbx : w.heap.size + 3 ≤ w1.heap.size := by have := hd1'.lts.1; omega
  clear hW hbW hb1 hd1' HN
  go_wp2_with fail
  rw [← HW.out]
  refine (HO1.out W HD.out HB.out.size).mono ?_
  rintro e w2 ⟨q, la, lc, rfl, rv, ev, hj2, hx2⟩
  have HI0 : Hid (Ep1At w w1.heap.size q d1 0 w2) := ⟨_, rv, ev, ⟨HB.out.trans (hx2.below HB.out.size (fun k hk => by rcases hk with e | e | e <;> omega)), hj2, HA.out.ext hx2 (by rintro (e | e | e) <;> omega)⟩, rfl, rfl, Nat.le_refl _, HC1.out.1⟩
  generalize w1.heap.size = bx at *
  clear hj2 hx2 HB HA HD HW x0 x1 x2 HO1 hbx
  go_wp2_with fail
  go_loopw [11] (fun iv wr => ∃ i : Nat, iv = .int .i64 i ∧ i ≤ n1 ∧ i ≤ 20 ∧ Hid (Ep1At w bx q d1 i wr)) (fun iv _ => 20 - (intOf iv).toNat)
  case atStart => exact ⟨0, rfl, Nat.zero_le _, by omega, HI0⟩
  case round =>
    obtain ⟨i, rfl, hin, hi20, HI⟩ := hrel
    clear HI0
    by_cases hlt : i < n1 ∧ i < 20
    · obtain ⟨hl1, hl2⟩ := hlt
      have hlt1 : (i : Int) < (n1 : Int) := by omega
      have hlt2 : (i : Int) < 20 := by omega
      have hi0 : (0 : Int) ≤ (i : Int) := by omega
      obtain ⟨b, o, rfl, hcl0, hby, hbt, hnl, hcp⟩ := HT1.out i hl1
      have FC : Hid (∀ V, Below w.heap.size w V → V.cell? ⟨b, o + i, none⟩ = some (.slice (f1 i).a (f1 i).xs.length (f1 i).c)) := fun V hV => (hV.cell (block_lt_of_cell hcl0)).trans hcl0
      obtain ⟨J, rv, ev, hLI, hE⟩ := HI.out
      have hBw := hLI.bw
      have HAp : Hid (Calls Try.prog 10 #[.pointer (some ⟨q, 0, none⟩), .slice (f1 i).a (min (f1 i).xs.length 60) (f1 i).c] wr.drew fun e w' => ∃ ev, e = .returned ev ∧ Hid (Ep1At w bx q d1 (i + 1) w') ∧ Below w.heap.size w w') := by
        have hL1 := hLI.on (below_drew wr)
        refine (jappend_ hL1.jn (f1 i).a (cutP 60 (f1 i).xs) _ (f1 i).c (cutP_len 60 _) ((hby.take _).on hL1.bw) (fun x hx => hbt x (List.mem_of_mem_take hx)) hnl (by omega)).mono fun e w' ⟨q1, q2⟩ => ?_
        obtain ⟨s1, s2⟩ := ep1_step hL1 hE (by rw [cutP_len]; omega) q2
        exact ⟨_, q1, s1, s2⟩
      obtain ⟨m, hm⟩ : ∃ m, m = min (f1 i).xs.length 60 := ⟨_, rfl⟩
      rw [← hm] at HAp
      have hmm : min ((f1 i).xs.length : Int) 60 = (m : Int) := by omega
      have hmc : (m : Int) ≤ ((f1 i).c : Int) := by omega
      have hm0 : (0 : Int) ≤ (m : Int) := by omega
      clear hcl0 hby hbt hnl hcp hLI hE hm HI
      generalize (f1 i).a = ta at *
      generalize (f1 i).xs.length = l at *
      generalize (f1 i).c = tc at *
      have HBw := Lib.hid hBw
      go_wp2_with fail
      refine wp_region_noPanic ?_
      refine wp_region_held_drew (S := fun V => Below w.heap.size w V) (by kernel_rfl) (below_step hBw (below_drew _)) (fun hHeld => ?_)
      refine take_at 0 (.pointer (some ⟨q, 0, none⟩)) rfl (by kernel_rfl) (by kernel_rfl) (by kernel_rfl) (fun _ _ _ h => h) (Or.inl ⟨by rfl, ?_⟩) (by assumption) ?_
      · intro V hSV; go_simp
      simp only [Act.put, List.setIfInBounds_toArray, List.set_cons_zero, List.set_cons_succ]
      refine take_at 1 (.slice (some ⟨b, o, none⟩) n1 c1) rfl (by kernel_rfl) (by kernel_rfl) (by kernel_rfl) (fun _ _ _ h => h) (Or.inl ⟨by rfl, ?_⟩) (by assumption) ?_
      · intro V hSV; go_simp
      simp only [Act.put, List.setIfInBounds_toArray, List.set_cons_zero, List.set_cons_succ]
      refine take_at 2 (.int .i64 i) rfl (by kernel_rfl) (by kernel_rfl) (by kernel_rfl) (fun _ _ _ h => h) (Or.inl ⟨by rfl, ?_⟩) (by assumption) ?_
      · intro V hSV; go_simp
      simp only [Act.put, List.setIfInBounds_toArray, List.set_cons_zero, List.set_cons_succ]
      refine take_at 3 (.pointer (some ⟨b, o + i, none⟩)) rfl (by kernel_rfl) (by kernel_rfl) (by kernel_rfl) (fun _ _ _ h => h) (Or.inl ⟨by rfl, ?_⟩) (by assumption) ?_
      · intro V hSV; go_simp
      simp only [Act.put, List.setIfInBounds_toArray, List.set_cons_zero, List.set_cons_succ]
      refine take_at 4 (.slice ta l tc) rfl (by kernel_rfl) (by kernel_rfl) (by kernel_rfl) (fun _ _ _ h => h) (Or.inl ⟨by rfl, ?_⟩) (by assumption) ?_
      · intro V hSV; have e0 := FC.out V hSV; go_simp
      simp only [Act.put, List.setIfInBounds_toArray, List.set_cons_zero, List.set_cons_succ]
      refine take_at 5 (.slice (some ⟨b, o, none⟩) n1 c1) rfl (by kernel_rfl) (by kernel_rfl) (by kernel_rfl) (fun _ _ _ h => h) (Or.inl ⟨by rfl, ?_⟩) (by assumption) ?_
      · intro V hSV; go_simp
      simp only [Act.put, List.setIfInBounds_toArray, List.set_cons_zero, List.set_cons_succ]
      refine take_at 6 (.int .i64 i) rfl (by kernel_rfl) (by kernel_rfl) (by kernel_rfl) (fun _ _ _ h => h) (Or.inl ⟨by rfl, ?_⟩) (by assumption) ?_
      · intro V hSV; go_simp
      simp only [Act.put, List.setIfInBounds_toArray, List.set_cons_zero, List.set_cons_succ]
      refine take_at 7 (.pointer (some ⟨b, o + i, none⟩)) rfl (by kernel_rfl) (by kernel_rfl) (by kernel_rfl) (fun _ _ _ h => h) (Or.inl ⟨by rfl, ?_⟩) (by assumption) ?_
      · intro V hSV; go_simp
      simp only [Act.put, List.setIfInBounds_toArray, List.set_cons_zero, List.set_cons_succ]
      refine take_at 8 (.slice ta l tc) rfl (by kernel_rfl) (by kernel_rfl) (by kernel_rfl) (fun _ _ _ h => h) (Or.inl ⟨by rfl, ?_⟩) (by assumption) ?_
      · intro V hSV; have e0 := FC.out V hSV; go_simp
      simp only [Act.put, List.setIfInBounds_toArray, List.set_cons_zero, List.set_cons_succ]
      refine take_at 9 (.int .i64 l) rfl (by kernel_rfl) (by kernel_rfl) (by kernel_rfl) (fun _ _ _ h => h) (Or.inl ⟨by rfl, ?_⟩) (by assumption) ?_
      · intro V hSV; go_simp
      simp only [Act.put, List.setIfInBounds_toArray, List.set_cons_zero, List.set_cons_succ]
      refine take_at 10 (.int .i64 m) rfl (by kernel_rfl) (by kernel_rfl) (by kernel_rfl) (fun _ _ _ h => h) (Or.inl ⟨by rfl, ?_⟩) (by assumption) ?_
      · intro V hSV; go_simp
      simp only [Act.put, List.setIfInBounds_toArray, List.set_cons_zero, List.set_cons_succ]
      refine take_at 11 (.slice ta m tc) rfl (by kernel_rfl) (by kernel_rfl) (by kernel_rfl) (fun _ _ _ h => h) (Or.inl ⟨by rfl, ?_⟩) (by assumption) ?_
      · intro V hSV; go_simp
      simp only [Act.put, List.setIfInBounds_toArray, List.set_cons_zero, List.set_cons_succ]
      refine wpAnyH_ready (rs := [12]) (by kernel_rfl) (by simp) ?_
      refine AllReadyH.cons rfl (fun KK hK => ?_) AllReadyH.nil
      go_simp
      go_wp2_with (first | (go_at_call 10; refine (HAp.out).mono ?_; rintro e V1 ⟨ev1, rfl, HI1, hb1⟩))
      refine hK.out _ _ ?_ (fun hHeld12 => ?_)
      · exact hb1
      clear hK KK
      refine wpAnyH_done (by kernel_rfl) ?_ _
      refine NoPanic.normal ?_
      clear hHeld hHeld12 hb1 HAp FC HBw hBw
      go_wp2_with fail
      go_roundw
      case rel => exact ⟨i + 1, by go_num, by omega, by omega, HI1⟩
      case measure => simp [intOf]; omega
    · have hwh : (¬ (i : Int) < (n1 : Int)) ∨ ((i : Int) < (n1 : Int) ∧ ¬ (i : Int) < 20) := by omega
      have HF := Lib.hid (ep_turn HC1.out.2 HI.out)
      clear hlt hin HI HC1 HT1
      rcases hwh with hlt1 | ⟨hlt1, hlt20⟩
      all_goals
        go_wp2_with fail
        refine HF.out.mono ?_
        rintro e w3 ⟨rfl, d2, K2, J2, rv2, ev2, hL2, h21, h22, h23, h24, h25, h26⟩
        have HRw := Lib.hid (ep_anew hL2 h21 h22 h23 h24 h25 h26)
        clear hL2 h21 h22 h23 h24 h25 h26
        go_wp2_with fail
        refine HRw.out.mono ?_
        rintro e w4 ⟨rfl, d3, K3, rv3, ev3, hL3, hE3⟩
        have HLn : Hid (Calls Try.prog 16 #[.pointer (some ⟨q, 0, none⟩)] w4 fun e w' => e = .returned (.int .i64 0) ∧ w' = w4) := jlen_ hL3.jn.jr
        have HEp : Hid (Calls Try.prog 17 #[.pointer (some ⟨q, 0, none⟩)] w4 fun e w' => e = .returned (.int .u64 2) ∧ w' = w4) := jepoch_ hL3.jn.jr
        have HI0 : Hid (Ep2At w bx q (.slice none 0 0) 0 w4) := ⟨_, _, _, _, _, [], hL3, hE3, ownR_nil _ _, rfl, fun k hk => by simp at hk⟩
        clear hL3 hE3 HRw HF
        go_wp2_with (first
          | (go_at_call 16; refine HLn.out.mono ?_; rintro e w5 ⟨rfl, rfl⟩)
          | (go_at_call 17; refine HEp.out.mono ?_; rintro e w5 ⟨rfl, rfl⟩)
          | fail)
        clear HLn HEp
        go_loopw [12, 13] (fun sv iv wr => ∃ (lv : Value) (i : Nat), lv = sv ∧ iv = .int .i64 i ∧ i ≤ n2 ∧ i ≤ 20 ∧ Hid (Ep2At w bx q lv i wr)) (fun _ iv _ => 20 - (intOf iv).toNat)
        case atStart => exact ⟨_, 0, rfl, rfl, Nat.zero_le _, by omega, HI0⟩
        case round =>
          obtain ⟨lv, k, rfl, rfl, hkn, hk20, HI2⟩ := hrel
          clear HI0
          by_cases hlk : k < n2 ∧ k < 20
          · obtain ⟨hl1, hl2⟩ := hlk
            have hk1 : (k : Int) < (n2 : Int) := by omega
            have hk2 : (k : Int) < 20 := by omega
            have hk0 : (0 : Int) ≤ (k : Int) := by omega
            obtain ⟨b, o, rfl, hcl0, hby, hbt, hnl, hcp⟩ := HT2.out k hl1
            obtain ⟨d, K, J, rv, ev, vs, hLI, hE, hO, hOld⟩ := HI2.out
            have hBw := hLI.bw
            have FC : Hid (∀ V, Below wr.heap.size wr V → V.cell? ⟨b, o + k, none⟩ = some (.slice (f2 k).a (f2 k).xs.length (f2 k).c)) := fun V hV => ((below_step hBw hV).cell (block_lt_of_cell hcl0)).trans hcl0
            obtain ⟨m, hm⟩ : ∃ m, m = min (f2 k).xs.length 60 := ⟨_, rfl⟩
            have hxl : (cutP 60 (f2 k).xs).length = m := by rw [hm]; exact cutP_len 60 _
            have HAp : Hid (∀ V, Below wr.heap.size wr V → Calls Try.prog 10 #[.pointer (some ⟨q, 0, none⟩), .slice (f2 k).a m (f2 k).c] V fun e w' => e = .returned (errV (if cutP 60 (f2 k).xs = [] then 1 else 0)) ∧ ∃ rv ev, LI w bx q 40 d K (if cutP 60 (f2 k).xs = [] then J else { J with pss := J.pss ++ [cutP 60 (f2 k).xs] }) rv ev w' ∧ OwnR w' w.heap.size lv vs) := fun V hV =>
              ep2_app (hLI.on hV) hE hl2 (hO.on hV) (f2 k).a _ m (f2 k).c hxl (by omega) (hby.take _) (fun x hx => hbt x (List.mem_of_mem_take hx)) hnl
            have HFl : Hid (∀ V rv ev lv' vs', LI w bx q 40 d K (if cutP 60 (f2 k).xs = [] then J else { J with pss := J.pss ++ [cutP 60 (f2 k).xs] }) rv ev V → OwnR V w.heap.size lv' vs' → OldIn w vs' (if cutP 60 (f2 k).xs = [] then J else { J with pss := J.pss ++ [cutP 60 (f2 k).xs] }).pss → Calls Try.prog 11 #[.pointer (some ⟨q, 0, none⟩)] V fun e w' => e = .returned .nilIface ∧ Ep2At w bx q lv' (k + 1) w') := fun V rv ev lv' vs' g1 g2 g3 => ep2_flush g1 hE hl2 (xs := cutP 60 (f2 k).xs) (by omega) rfl g2 g3
            have HSn : Hid (OldIn w (vs ++ [.slice (f2 k).a m (f2 k).c]) (J.pss ++ [cutP 60 (f2 k).xs])) := by
              have q := hOld.snoc (a := (f2 k).a) (c := (f2 k).c) (ys := cutP 60 (f2 k).xs) (hby.take _)
              rw [hxl] at q
              exact q
            have hvl : vs.length ≤ 10000000 := by rw [hOld.1]; have := hE.2.2.2.2.2.2.2.1; omega
            have HOld := Lib.hid hOld
            have hmm : min ((f2 k).xs.length : Int) 60 = (m : Int) := by omega
            have hmc : (m : Int) ≤ ((f2 k).c : Int) := by omega
            have hm0 : (0 : Int) ≤ (m : Int) := by omega
            clear hcl0 hby hbt hnl hcp hLI hE hm HI2 hO hOld hxl
            generalize cutP 60 (f2 k).xs = xs at *
            generalize (f2 k).a = ta at *
            generalize (f2 k).xs.length = l at *
            generalize (f2 k).c = tc at *
            go_wp2_with fail
            refine wp_region_noPanic ?_
            refine wp_region_held_drew (S := fun V => Below wr.heap.size wr V) (by kernel_rfl) (below_drew _) (fun hHeld => ?_)
            refine take_at 0 (.slice (some ⟨b, o, none⟩) n2 c2) rfl (by kernel_rfl) (by kernel_rfl) (by kernel_rfl) (fun _ _ _ h => h) (Or.inl ⟨by rfl, ?_⟩) (by assumption) ?_
            · intro V hSV; go_simp
            simp only [Act.put, List.setIfInBounds_toArray, List.set_cons_zero, List.set_cons_succ]
            refine take_at 1 (.int .i64 k) rfl (by kernel_rfl) (by kernel_rfl) (by kernel_rfl) (fun _ _ _ h => h) (Or.inl ⟨by rfl, ?_⟩) (by assumption) ?_
            · intro V hSV; go_simp
            simp only [Act.put, List.setIfInBounds_toArray, List.set_cons_zero, List.set_cons_succ]
            refine take_at 2 (.pointer (some ⟨b, o + k, none⟩)) rfl (by kernel_rfl) (by kernel_rfl) (by kernel_rfl) (fun _ _ _ h => h) (Or.inl ⟨by rfl, ?_⟩) (by assumption) ?_
            · intro V hSV; go_simp
            simp only [Act.put, List.setIfInBounds_toArray, List.set_cons_zero, List.set_cons_succ]
            refine take_at 3 (.slice ta l tc) rfl (by kernel_rfl) (by kernel_rfl) (by kernel_rfl) (fun _ _ _ h => h) (Or.inl ⟨by rfl, ?_⟩) (by assumption) ?_
            · intro V hSV; have e0 := FC.out V hSV; go_simp
            simp only [Act.put, List.setIfInBounds_toArray, List.set_cons_zero, List.set_cons_succ]
            refine take_at 4 (.slice (some ⟨b, o, none⟩) n2 c2) rfl (by kernel_rfl) (by kernel_rfl) (by kernel_rfl) (fun _ _ _ h => h) (Or.inl ⟨by rfl, ?_⟩) (by assumption) ?_
            · intro V hSV; go_simp
            simp only [Act.put, List.setIfInBounds_toArray, List.set_cons_zero, List.set_cons_succ]
            refine take_at 5 (.int .i64 k) rfl (by kernel_rfl) (by kernel_rfl) (by kernel_rfl) (fun _ _ _ h => h) (Or.inl ⟨by rfl, ?_⟩) (by assumption) ?_
            · intro V hSV; go_simp
            simp only [Act.put, List.setIfInBounds_toArray, List.set_cons_zero, List.set_cons_succ]
            refine take_at 6 (.pointer (some ⟨b, o + k, none⟩)) rfl (by kernel_rfl) (by kernel_rfl) (by kernel_rfl) (fun _ _ _ h => h) (Or.inl ⟨by rfl, ?_⟩) (by assumption) ?_
            · intro V hSV; go_simp
            simp only [Act.put, List.setIfInBounds_toArray, List.set_cons_zero, List.set_cons_succ]
            refine take_at 7 (.slice ta l tc) rfl (by kernel_rfl) (by kernel_rfl) (by kernel_rfl) (fun _ _ _ h => h) (Or.inl ⟨by rfl, ?_⟩) (by assumption) ?_
            · intro V hSV; have e0 := FC.out V hSV; go_simp
            simp only [Act.put, List.setIfInBounds_toArray, List.set_cons_zero, List.set_cons_succ]
            refine take_at 8 (.int .i64 l) rfl (by kernel_rfl) (by kernel_rfl) (by kernel_rfl) (fun _ _ _ h => h) (Or.inl ⟨by rfl, ?_⟩) (by assumption) ?_
            · intro V hSV; go_simp
            simp only [Act.put, List.setIfInBounds_toArray, List.set_cons_zero, List.set_cons_succ]
            refine take_at 9 (.int .i64 m) rfl (by kernel_rfl) (by kernel_rfl) (by kernel_rfl) (fun _ _ _ h => h) (Or.inl ⟨by rfl, ?_⟩) (by assumption) ?_
            · intro V hSV; go_simp
            simp only [Act.put, List.setIfInBounds_toArray, List.set_cons_zero, List.set_cons_succ]
            refine take_at 10 (.slice ta m tc) rfl (by kernel_rfl) (by kernel_rfl) (by kernel_rfl) (fun _ _ _ h => h) (Or.inl ⟨by rfl, ?_⟩) (by assumption) ?_
            · intro V hSV; go_simp
            simp only [Act.put, List.setIfInBounds_toArray, List.set_cons_zero, List.set_cons_succ]
            refine take_at 11 (.slice ta m tc) rfl (by kernel_rfl) (by kernel_rfl) (by kernel_rfl) (fun _ _ _ h => h) (Or.inl ⟨by rfl, ?_⟩) (by assumption) ?_
            · intro V hSV; go_simp
            simp only [Act.put, List.setIfInBounds_toArray, List.set_cons_zero, List.set_cons_succ]
            refine wpAnyH_done (by kernel_rfl) ?_ _
            refine NoPanic.normal ?_
            have HAp1 := Lib.hid (HAp.out _ hHeld)
            clear hHeld FC HAp hBw
            by_cases hx0 : xs = []
            · simp only [if_pos hx0] at HAp1 HFl
              have e1 : errV 1 = .iface 51 (.int .i64 1) := rfl
              rw [e1] at HAp1
              go_wp2_with (first
                | (go_at_call 10; refine HAp1.out.mono ?_; rintro e w6 ⟨rfl, rv6, ev6, hL6, hO6⟩
                   have HFl1 := Lib.hid (HFl.out _ _ _ _ _ hL6 hO6 HOld.out)
                   clear hL6 hO6)
                | (go_at_call 11; refine HFl1.out.mono ?_; rintro e w7 ⟨rfl, hz⟩; have HZ := Lib.hid hz; clear hz)
                | fail)
              go_roundw
              case rel => exact ⟨_, k + 1, rfl, by go_num, by omega, by omega, HZ⟩
              case measure => simp [intOf]; omega
            · simp only [if_neg hx0] at HAp1 HFl
              have e1 : errV 0 = .nilIface := rfl
              rw [e1] at HAp1
              go_wp2_with (first
                | (go_at_call 10; refine HAp1.out.mono ?_; rintro e w6 ⟨rfl, rv6, ev6, hL6, hO6⟩
                   have HL6 := Lib.hid (hL6.on (below_alloc w6 (.cells #[.slice ta m tc] 40)))
                   have HO6 := Lib.hid (hO6.on (below_alloc w6 (.cells #[.slice ta m tc] 40)))
                   clear hL6 hO6)
                | (at_builtin; refine wpList_append_row _ rfl _ _ rfl w.heap.size _ vs (.slice ta m tc) rfl HO6.out w6.heap.size rfl (cell_of (World.alloc_heap_new' _ _) rfl) rfl hvl HL6.out.bw.size ?_
                   intro v8 w8 hown8 hgrow8
                   have HFl1 := Lib.hid (HFl.out _ _ _ _ _ (HL6.out.grow HO6.out hgrow8) hown8 HSn.out)
                   clear hown8 hgrow8)
                | (go_at_call 11; refine HFl1.out.mono ?_; rintro e w7 ⟨rfl, hz⟩; have HZ := Lib.hid hz; clear hz)
                | fail)
              go_roundw
              case rel => exact ⟨_, k + 1, rfl, by go_num, by omega, by omega, HZ⟩
              case measure => simp [intOf]; omega
          · have hwk : (¬ (k : Int) < (n2 : Int)) ∨ ((k : Int) < (n2 : Int) ∧ ¬ (k : Int) < 20) := by omega
            obtain ⟨d, K, J, rv, ev, vs, hLI, hE, hO, hOld⟩ := HI2.out
            obtain ⟨e1, e2, e3, e4, e5, e6, e7, e8, e9, e10⟩ := hE
            have hrest : Rest d (arN 40) := ⟨e4.ok, e4.pend, e4.cr, e6, by rw [← e1]; exact e4.inn, by rw [e9, e10]; decide⟩
            have hseen : (openJ d (arN 40) 2).pss = J.pss := by
              have := e4.seen hLI.jn.jr.ok
              rw [e1, e2, e5, List.take_length] at this
              exact this
            obtain ⟨lla, llc, hlv, hli, _⟩ := ownR_list hO hLI.bw hOld.1 hOld.2
            have HOp : Hid (Calls Try.prog 7 #[.pointer (some ⟨w.heap.size + 2, 0, none⟩), .agg #[.int .i64 0, .int .i64 0, .int .i64 40], .int .u64 2] wr fun e w' => ∃ q2 la2 lc2, e = .returned (.tuple #[.pointer (some ⟨q2, 0, none⟩), .slice la2 J.pss.length lc2, .nilIface]) ∧ ListIn w' la2 J.pss ∧ ListIn w' lla J.pss ∧ Below w.heap.size w w') := by
              refine (open_rest 40 (by decide) 2 (by decide) hLI.jn.dev hrest ⟨by omega, by omega, by omega⟩ hLI.bw.size (by omega)).mono fun e w' ⟨q2, rv2, ev2, la2, lc2, g1, g2, g3, g4, g5⟩ => ?_
              rw [hseen] at g1 g3
              have hM : ∀ k, (k = w.heap.size + 2 ∨ k = w.heap.size ∨ k = w.heap.size + 1) → k = w.heap.size + 2 ∨ k = w.heap.size ∨ k = w.heap.size + 1 ∨ wr.heap.size ≤ k := fun k hk => by rcases hk with h | h | h <;> simp [h]
              exact ⟨q2, la2, lc2, g1, g3.list, ((hli.free hLI.jn.dev (M := fun k => k = w.heap.size + 2 ∨ k = w.heap.size ∨ k = w.heap.size + 1) hM).ext g5).list, hLI.bw.trans (g5.below hLI.bw.size (fun k hk => by rcases hk with e | e | e <;> omega))⟩
            have hcn : J.pss.length ≤ 10000000 := by omega
            obtain ⟨x0, x1, x2⟩ := hLI.ar.cells
            have HLs : Hid (∀ V la2 lc2, ListIn V la2 J.pss → ListIn V lla J.pss → Calls Try.prog 18 #[.slice la2 J.pss.length lc2, .slice lla J.pss.length llc] V fun e w' => e = .returned (.bool true) ∧ Below V.heap.size V w') := fun V la2 lc2 g1 g2 => lists_ la2 lla J.pss _ lc2 llc V rfl hcn g1 g2
            subst hlv
            clear hLI hO hOld hli hrest hseen e1 e2 e3 e4 e5 e6 e7 e8 e9 e10 hlk HI2 hkn
            generalize J.pss = yss at *
            generalize yss.length = yl at *
            rcases hwk with hk1 | ⟨hk1, hk2⟩
            all_goals
              go_wp2_with (first
                | (go_at_call 7; refine HOp.out.mono ?_; rintro e w6 ⟨q2, la2, lc2, rfl, g1, g2, g3⟩
                   have HL2 := Lib.hid (HLs.out _ la2 lc2 g1 g2)
                   have HB6 := Lib.hid g3
                   clear g1 g2 g3)
                | (go_at_call 18; refine HL2.out.mono ?_; rintro e w7 ⟨rfl, hb7⟩; have HB7 := Lib.hid (HB6.out.trans (hb7.mono HB6.out.size)); clear hb7)
                | (go_at_call 14; refine (HSu.out _).mono ?_; rintro e w8 ⟨rfl, hb8⟩; have HB8 := Lib.hid (below_step HB7.out hb8); clear hb8)
                | fail)
              go_ret
              exact ⟨rfl, HB8.out⟩
end Go.Proofs.Ytjnhcanohefjiaa
