/- The walks of table's holdable, checkColumn and Check. -/
import Derived.Test.YtlgnllnjhpihdaaDoorTbIdx
namespace Go.Proofs.YtlgnllnjhpihdaaDoor
open Go.RowKit Go.Sort

def holdB (k : Int) : Bool := decide (k = 1 ∨ k = 2 ∨ k = 3)
set_option maxHeartbeats 1000000 in
theorem holdable_ (k : Int) (w : World) : Calls Tryd.prog 53 #[.int .i64 k] w fun e w' => e = .returned (.bool (holdB k)) ∧ w' = w := by
  by_cases h1 : k = 1
  · subst h1
    go_enter Tryd.func53, Tryd.ntmps53
    go_wp2_with fail
    go_ret
    exact ⟨rfl, rfl⟩
  by_cases h2 : k = 2
  · subst h2
    go_enter Tryd.func53, Tryd.ntmps53
    go_wp2_with fail
    go_ret
    exact ⟨rfl, rfl⟩
  have e1 : (k == 1) = false := by simpa using h1
  have e2 : (k == 2) = false := by simpa using h2
  have HE : Hid (holdB k = (k == 3)) := by
    show _ = _
    by_cases h3 : k = 3
    · subst h3; rfl
    · simp [holdB, h1, h2, h3]
  clear h1 h2
  go_enter Tryd.func53, Tryd.ntmps53
  go_wp2_with fail
  go_ret
  exact ⟨by rw [HE.out]; rfl, rfl⟩
theorem colE_name {x : Col} {ah : List Col} (h : nameL (lst x.nm) = false) : colE x ah = 30 := by rw [colE, if_pos h]
theorem colE_twice {x : Col} {ah : List Col} (h : nameL (lst x.nm) = true) (h1 : ah.any (isN x.nm) = true) : colE x ah = 9 := by rw [colE, if_neg (by simp [h]), if_pos (show ah.any (fun d => lst d.nm == lst x.nm) = true from h1)]
theorem colE_kind {x : Col} {ah : List Col} (h : nameL (lst x.nm) = true) (h1 : ah.any (isN x.nm) = false) (h2 : holdB x.k = false) : colE x ah = 7 := by
  rw [colE, if_neg (by simp [h]), if_neg (by rw [show ah.any (fun d => lst d.nm == lst x.nm) = false from h1]; decide), if_pos (of_decide_eq_false h2)]
theorem colE_end {x : Col} {ah : List Col} (h : nameL (lst x.nm) = true) (h1 : ah.any (isN x.nm) = false) (h2 : holdB x.k = true) : colE x ah = if (x.key && x.nul) = true then 33 else 0 := by
  rw [colE, if_neg (by simp [h]), if_neg (by rw [show ah.any (fun d => lst d.nm == lst x.nm) = false from h1]; decide), if_neg (by rw [Classical.not_not]; exact of_decide_eq_true h2)]
set_option maxHeartbeats 1000000 in
theorem checkColumn_ (nm : ByteArray) (k : Int) (y nl : Bool) (a : Option Addr) (c : Nat) (ah : List Col) (w : World) (h : ColsIn w a ah) (hl : ah.length ≤ 140737488355328) :
    Calls Tryd.prog 36 #[.agg #[.string nm, .int .i64 k, .bool y, .bool nl], .slice a ah.length c] w fun e w' => e = .returned (errV 63 (colE ⟨nm, k, y, nl⟩ ah)) ∧ Below w.heap.size w w' := by
  have hB : Below w.heap.size w (w.alloc (.cells #[.string nm, .int .i64 k, .bool y, .bool nl] 55)) := below_alloc1 _ _
  have HB := Lib.hid hB
  have hC := inC_new w ⟨nm, k, y, nl⟩ 55
  have HN : Hid (∀ W, Calls Tryd.prog 12 #[.string nm] W fun e w' => e = .returned (.bool (nameL (lst nm))) ∧ w' = W) := fun W => name_ nm W
  have HP := Lib.hid (placeOf_ nm a c ah (w.alloc (.cells #[.string nm, .int .i64 k, .bool y, .bool nl] 55)) (h.on hB) hl)
  have HH : Hid (∀ W, Calls Tryd.prog 53 #[.int .i64 k] W fun e w' => e = .returned (.bool (holdB k)) ∧ w' = W) := fun W => holdable_ k W
  have hany := idxP_any (isN nm) ah
  have E1 := Lib.hid (@colE_name ⟨nm, k, y, nl⟩ ah)
  have E2 := Lib.hid (@colE_twice ⟨nm, k, y, nl⟩ ah)
  have E3 := Lib.hid (@colE_kind ⟨nm, k, y, nl⟩ ah)
  have E4 := Lib.hid (@colE_end ⟨nm, k, y, nl⟩ ah)
  obtain ⟨E, hE⟩ : ∃ E, colE ⟨nm, k, y, nl⟩ ah = E := ⟨_, rfl⟩
  rw [hE] at E1 E2 E3 E4 ⊢
  generalize ah.any (isN nm) = A at *
  generalize idxP (isN nm) ah = I at *
  generalize ah.length = L at *
  obtain ⟨q0, q1, q2, q3⟩ := hC
  have HC1 := Lib.hid (inC_new w ⟨nm, k, y, nl⟩ 55)
  generalize hV : w.alloc (.cells #[.string nm, .int .i64 k, .bool y, .bool nl] 55) = V at *
  have HVe := Lib.hid hV
  clear h hB hE hl hV
  cases hn : nameL (lst nm) with
  | false =>
    rw [hn] at HN
    have HF : Hid (errV 63 E = .iface 63 (.int .i64 30)) := by show _ = _; rw [E1.out hn]; rfl
    clear E1 E2 E3 E4 hn
    go_enter Tryd.func36, Tryd.ntmps36
    go_wp2_with fail
    rw [HVe.out]
    go_wp2_with (first | (go_at_call 12; refine (HN.out _).mono ?_; rintro e w1 ⟨rfl, rfl⟩) | fail)
    go_ret
    exact ⟨by rw [HF.out]; rfl, HB.out⟩
  | true =>
    rw [hn] at HN
    rcases hany with ⟨rfl, i, rfl, _⟩ | ⟨rfl, rfl⟩
    · have HF : Hid (errV 63 E = .iface 63 (.int .i64 9)) := by show _ = _; rw [E2.out hn rfl]; rfl
      have h0 : (0 : Int) ≤ (i : Int) := by omega
      clear E1 E2 E3 E4 hn
      go_enter Tryd.func36, Tryd.ntmps36
      go_wp2_with fail
      rw [HVe.out]
      go_wp2_with (first | (go_at_call 12; refine (HN.out _).mono ?_; rintro e w1 ⟨rfl, rfl⟩) | fail)
      refine HP.out.mono ?_
      rintro e w2 ⟨rfl, hb2⟩
      have HB2 := Lib.hid (below_step HB.out hb2)
      clear hb2 HP q0 q1 q2 q3
      go_wp2_with fail
      go_ret
      exact ⟨by rw [HF.out]; rfl, HB2.out⟩
    · cases hk : holdB k with
      | false =>
        rw [hk] at HH
        have HF : Hid (errV 63 E = .iface 63 (.int .i64 7)) := by show _ = _; rw [E3.out hn rfl hk]; rfl
        clear E1 E2 E3 E4 hn hk
        go_enter Tryd.func36, Tryd.ntmps36
        go_wp2_with fail
        rw [HVe.out]
        go_wp2_with (first | (go_at_call 12; refine (HN.out _).mono ?_; rintro e w1 ⟨rfl, rfl⟩) | fail)
        refine HP.out.mono ?_
        rintro e w2 ⟨rfl, hb2⟩
        have HB2 := Lib.hid (below_step HB.out hb2)
        obtain ⟨r0, r1, r2, r3⟩ := HC1.out.on hb2
        clear hb2 HP q0 q1 q2 q3 HC1
        go_wp2_with (first | (go_at_call 53; refine (HH.out _).mono ?_; rintro e w3 ⟨rfl, rfl⟩) | fail)
        go_ret
        exact ⟨by rw [HF.out]; rfl, HB2.out⟩
      | true =>
        rw [hk] at HH
        have HF : Hid (errV 63 E = if (y && nl) = true then .iface 63 (.int .i64 33) else .nilIface) := by
          show _ = _
          rw [E4.out hn rfl hk]
          cases y <;> cases nl <;> rfl
        clear E1 E2 E3 E4 hn hk
        cases y <;> cases nl
        all_goals
          simp only [Bool.false_and, Bool.and_false, Bool.true_and, Bool.false_eq_true, if_true, if_false] at HF
          go_enter Tryd.func36, Tryd.ntmps36
          go_wp2_with fail
          rw [HVe.out]
          go_wp2_with (first | (go_at_call 12; refine (HN.out _).mono ?_; rintro e w1 ⟨rfl, rfl⟩) | fail)
          refine HP.out.mono ?_
          rintro e w2 ⟨rfl, hb2⟩
          have HB2 := Lib.hid (below_step HB.out hb2)
          obtain ⟨r0, r1, r2, r3⟩ := HC1.out.on hb2
          clear hb2 HP q0 q1 q2 q3 HC1
          go_wp2_with (first | (go_at_call 53; refine (HH.out _).mono ?_; rintro e w3 ⟨rfl, rfl⟩) | fail)
          go_ret
          exact ⟨by rw [HF.out]; rfl, HB2.out⟩
theorem chkT_name {t : Tab} (h : nameL (lst t.nm) = false) : chkT t = 30 := by rw [chkT, if_pos h]
theorem chkT_none {t : Tab} (h : nameL (lst t.nm) = true) (h1 : t.cs.length = 0) : chkT t = 1 := by rw [chkT, if_neg (by simp [h]), if_pos h1]
theorem chkT_long {t : Tab} (h : nameL (lst t.nm) = true) (h1 : 16 < t.cs.length) : chkT t = 2 := by rw [chkT, if_neg (by simp [h]), if_neg (by omega), if_pos h1]
theorem chkT_col {t : Tab} (h : nameL (lst t.nm) = true) (h1 : t.cs.length ≠ 0) (h2 : t.cs.length ≤ 16) {i : Nat} (hi : i < t.cs.length) (hv : ∀ j (h : j < t.cs.length), j < i → colE t.cs[j] (t.cs.take j) = 0) {E : Int} (hE : colE t.cs[i] (t.cs.take i) = E) (h0 : E ≠ 0) : chkT t = E := by
  have := colsE_bad hi hv hE h0
  rw [chkT, if_neg (by simp [h]), if_neg h1, if_neg (by omega), this, if_pos h0]
theorem chkT_end {t : Tab} (h : nameL (lst t.nm) = true) (h1 : t.cs.length ≠ 0) (h2 : t.cs.length ≤ 16) (hv : ∀ j (h : j < t.cs.length), colE t.cs[j] (t.cs.take j) = 0) : chkT t = if t.cs.any (·.key) = true then 0 else 8 := by
  have := colsE_ok hv
  rw [chkT, if_neg (by simp [h]), if_neg h1, if_neg (by omega), this, if_neg (by simp)]
set_option maxRecDepth 100000 in
set_option maxHeartbeats 1000000 in
theorem tcheck_ (nm : ByteArray) (at_ : Option Addr) (ct : Nat) (cs : List Col) (w : World) (hc : ColsIn w at_ cs) (hcap : cs.length ≤ ct) (hcl : cs.length ≤ 140737488355328) :
    Calls Tryd.prog 17 #[.agg #[.string nm, .slice at_ cs.length ct]] w fun e w' => e = .returned (errV 63 (chkT ⟨nm, cs⟩)) ∧ Below w.heap.size w w' := by
  obtain ⟨C, hC⟩ : ∃ C, cs.length = C := ⟨_, rfl⟩
  have HC := Lib.hid hC
  have HJ := Lib.hid hc
  have HN : Hid (∀ W, Calls Tryd.prog 12 #[.string nm] W fun e w' => e = .returned (.bool (nameL (lst nm))) ∧ w' = W) := fun W => name_ nm W
  have HK : Hid (∀ W, Below w.heap.size w W → Calls Tryd.prog 37 #[.slice at_ cs.length ct, .func (.func 38) #[] #[]] W fun e w' => e = .returned (.bool (cs.any (·.key))) ∧ Below W.heap.size W w') := fun W hb => containsKey_ at_ ct cs W (hc.on hb) (by omega)
  have HCC : Hid (∀ W i nm' k y nl, Below w.heap.size w W → i ≤ cs.length → Calls Tryd.prog 36 #[.agg #[.string nm', .int .i64 k, .bool y, .bool nl], .slice at_ i ct] W fun e w' => e = .returned (errV 63 (colE ⟨nm', k, y, nl⟩ (cs.take i))) ∧ Below W.heap.size W w') := fun W i nm' k y nl hb hi => by
    have := checkColumn_ nm' k y nl at_ ct (cs.take i) W ((hc.on hb).take i) (by rw [List.length_take]; omega)
    rwa [List.length_take, Nat.min_eq_left hi] at this
  obtain ⟨R, hR⟩ : ∃ R, R = errV 63 (chkT ⟨nm, cs⟩) := ⟨_, rfl⟩
  have HR : Hid (R = errV 63 (chkT ⟨nm, cs⟩)) := hR
  rw [← hR]
  rw [hC] at hcap HK HCC ⊢
  clear hc hC hR hcl
  obtain ⟨t0, t1⟩ := inT_new w nm at_ C ct 24
  have HT := Lib.hid (inT_new w nm at_ C ct 24)
  have HB0 : Hid (Below w.heap.size w (w.alloc (.cells #[.string nm, .slice at_ C ct] 24))) := below_alloc1 _ _
  generalize hV : w.alloc (.cells #[.string nm, .slice at_ C ct] 24) = V at *
  have HVe := Lib.hid hV
  clear hV
  cases hn : nameL (lst nm) with
  | false =>
    rw [hn] at HN
    have HF : Hid (R = .iface 63 (.int .i64 30)) := by show _ = _; rw [HR.out, chkT_name (t := ⟨nm, cs⟩) hn]; rfl
    clear HR hn
    go_enter Tryd.func17, Tryd.ntmps17
    go_wp2_with fail
    rw [HVe.out]
    go_wp2_with (first | (go_at_call 12; refine (HN.out _).mono ?_; rintro e w1 ⟨rfl, rfl⟩) | fail)
    go_ret
    exact ⟨by rw [HF.out]; rfl, HB0.out⟩
  | true =>
    rw [hn] at HN
    by_cases h0 : C = 0
    · have HF : Hid (R = .iface 63 (.int .i64 1)) := by show _ = _; rw [HR.out, chkT_none (t := ⟨nm, cs⟩) hn (by show cs.length = 0; rw [HC.out]; exact h0)]; rfl
      subst h0
      clear HR hn
      go_enter Tryd.func17, Tryd.ntmps17
      go_wp2_with fail
      rw [HVe.out]
      go_wp2_with (first | (go_at_call 12; refine (HN.out _).mono ?_; rintro e w1 ⟨rfl, rfl⟩) | fail)
      go_ret
      exact ⟨by rw [HF.out]; rfl, HB0.out⟩
    have g0 : ((C : Int) == 0) = false := by simpa using h0
    by_cases h16 : C ≤ 16
    · have g16 : ¬ ((16 : Int) < (C : Int)) := by omega
      have HFc : Hid (∀ i (hi : i < cs.length), (∀ j (h : j < cs.length), j < i → colE cs[j] (cs.take j) = 0) → ∀ E, colE cs[i] (cs.take i) = E → E ≠ 0 → R = .iface 63 (.int .i64 E)) := fun i hi hv E hE hne => by
        rw [HR.out, chkT_col (t := ⟨nm, cs⟩) hn (by show cs.length ≠ 0; rw [HC.out]; exact h0) (by show cs.length ≤ 16; rw [HC.out]; exact h16) hi hv hE hne, errV, if_neg hne]
      have HFe : Hid ((∀ j (h : j < cs.length), colE cs[j] (cs.take j) = 0) → R = if cs.any (·.key) = true then .nilIface else .iface 63 (.int .i64 8)) := fun hv => by
        rw [HR.out, chkT_end (t := ⟨nm, cs⟩) hn (by show cs.length ≠ 0; rw [HC.out]; exact h0) (by show cs.length ≤ 16; rw [HC.out]; exact h16) hv]
        show errV 63 (if cs.any (·.key) = true then 0 else 8) = _
        cases cs.any (·.key) <;> rfl
      clear HR hn h0 h16
      go_enter Tryd.func17, Tryd.ntmps17
      go_wp2_with fail
      rw [HVe.out]
      go_wp2_with (first | (go_at_call 12; refine (HN.out _).mono ?_; rintro e w1 ⟨rfl, rfl⟩) | fail)
      clear t0 t1 g16 g0 HN
      go_loopw [27] (fun iv wr => ∃ i : Nat, i ≤ C ∧ iv = .int .i64 i ∧ Hid (∀ j (h : j < cs.length), j < i → colE cs[j] (cs.take j) = 0) ∧ Hid (Below w1.heap.size w1 wr)) (fun iv _ => C - (intOf iv).toNat)
      case atStart => exact ⟨0, Nat.zero_le _, rfl, fun j _ hj => by omega, Below.refl _ _⟩
      case round =>
        obtain ⟨i, hi, rfl, HV, HBw⟩ := hrel
        by_cases hlt : i < C
        · have hlt2 : (i : Int) < (C : Int) := by omega
          have hi1 : i < cs.length := by rw [HC.out]; exact hlt
          have HB1 := Lib.hid (below_step HB0.out HBw.out)
          obtain ⟨b1, o1, rfl, cn, kc, ky, nl, hci, q0, q1, q2, q3⟩ := ColsIn.get (HJ.out.on HB1.out) i hi1
          have HB2 := Lib.hid (below_step HB1.out (below_alloc1 wr (.cells #[.string cn, .int .i64 kc, .bool ky, .bool nl] 55)))
          have HF : Hid (∀ d os, Calls Tryd.prog 36 #[.agg #[.string cn, .int .i64 kc, .bool ky, .bool nl], .slice (some ⟨b1, o1, none⟩) i ct] (grow (redrawn (wr.alloc (.cells #[.string cn, .int .i64 kc, .bool ky, .bool nl] 55)) d) os) fun e w' => e = .returned (errV 63 (colE ⟨cn, kc, ky, nl⟩ (cs.take i))) ∧ Below (grow (redrawn (wr.alloc (.cells #[.string cn, .int .i64 kc, .bool ky, .bool nl] 55)) d) os).heap.size (grow (redrawn (wr.alloc (.cells #[.string cn, .int .i64 kc, .bool ky, .bool nl] 55)) d) os) w') := fun d os => HCC.out _ i cn kc ky nl (below_step HB2.out (below_regrown _ d os)) (Nat.le_of_lt hlt)
          obtain ⟨t0, t1⟩ := HT.out.on (below_step HBw.out (below_alloc1 wr (.cells #[.string cn, .int .i64 kc, .bool ky, .bool nl] 55)))
          obtain ⟨s0, s1⟩ := HT.out.on HBw.out
          obtain ⟨r0, r1, r2, r3⟩ := inC_new wr ⟨cn, kc, ky, nl⟩ 55
          simp only at r0 r1 r2 r3
          have HK2 := Lib.hid hci
          have HBa := Lib.hid (below_step HBw.out (below_alloc1 wr (.cells #[.string cn, .int .i64 kc, .bool ky, .bool nl] 55)))
          clear hci
          go_wp2_with fail
          generalize wr.alloc (.cells #[.string cn, .int .i64 kc, .bool ky, .bool nl] 55) = V1 at *
          have k0 := cell_regrown t0
          have k1 := cell_regrown t1
          have l0 := cell_regrown r0
          have l1 := cell_regrown r1
          have l2 := cell_regrown r2
          have l3 := cell_regrown r3
          have hd0 : decide (0 ≤ (i : Int)) = true := by simp
          have hd1 : decide ((i : Int) ≤ (ct : Int)) = true := by simp; omega
          clear r0 r1 r2 r3 q0 q1 q2 q3 t0 t1
          by_cases h0 : colE ⟨cn, kc, ky, nl⟩ (cs.take i) = 0
          · have h0' : errV 63 (colE ⟨cn, kc, ky, nl⟩ (cs.take i)) = .nilIface := by rw [errV, if_pos h0]
            rw [h0'] at HF
            have HV2 : Hid (∀ j (h : j < cs.length), j < i + 1 → colE cs[j] (cs.take j) = 0) := fun j hj hji => by
              rcases Nat.lt_or_ge j i with hh | hh
              · exact HV.out j hj hh
              · obtain rfl : j = i := by omega
                rw [HK2.out]; exact h0
            clear h0 h0' HK2 HV
            refine wp_region_quiet_below (by kernel_rfl) (by kernel_rfl) ?_
            repeat (go_big_quiet_step (first | (go_at_call 36; exact Calls.regrown_of (HF.out _ _))))
            refine wpQuiet_nil ?_
            intro _ hw'
            obtain ⟨⟨dq, osq⟩, hw''⟩ := hw'
            subst hw''
            have HB3 := Lib.hid (below_step HBa.out (below_regrown V1 dq osq))
            generalize grow (redrawn V1 dq) osq = W2 at *
            clear k0 k1 l0 l1 l2 l3 HF HB1 HB2 HBw HBa
            go_wp2_with fail
            go_roundw
            case rel => exact ⟨i + 1, by omega, by go_num, HV2, HB3⟩
            case measure => simp [intOf]; omega
          · obtain ⟨E, hE⟩ : ∃ E, colE ⟨cn, kc, ky, nl⟩ (cs.take i) = E := ⟨_, rfl⟩
            have h0' : errV 63 (colE ⟨cn, kc, ky, nl⟩ (cs.take i)) = .iface 63 (.int .i64 E) := by rw [errV, if_neg h0, hE]
            have HR2 := Lib.hid (HFc.out i hi1 HV.out E (by rw [HK2.out]; exact hE) (by rw [← hE]; exact h0))
            rw [h0'] at HF
            clear h0 h0' HK2 HV hE
            refine wp_region_quiet_below (by kernel_rfl) (by kernel_rfl) ?_
            repeat (go_big_quiet_step (first | (go_at_call 36; exact Calls.regrown_of (HF.out _ _))))
            refine wpQuiet_nil ?_
            intro _ hw'
            obtain ⟨⟨dq, osq⟩, hw''⟩ := hw'
            subst hw''
            have HB3 := Lib.hid (below_step HBa.out (below_regrown V1 dq osq))
            generalize grow (redrawn V1 dq) osq = W2 at *
            clear k0 k1 l0 l1 l2 l3 HF HB1 HB2 HBw HBa
            go_wp2_with fail
            go_ret
            exact ⟨by rw [HR2.out]; rfl, below_step HB0.out HB3.out⟩
        · obtain rfl : i = C := by omega
          have HF := Lib.hid (HFe.out (fun j hj => HV.out j hj (by rw [← HC.out]; exact hj)))
          have HB1 := Lib.hid (below_step HB0.out HBw.out)
          have HK2 := Lib.hid (HK.out wr HB1.out)
          obtain ⟨s0, s1⟩ := HT.out.on HBw.out
          generalize cs.any (·.key) = A at *
          clear HV
          cases A
          all_goals
            simp only [Bool.false_eq_true, if_true, if_false] at HF
            go_wp2_with (first | (go_at_call 37; refine HK2.out.mono ?_; rintro e w2 ⟨rfl, hb2⟩) | fail)
            go_ret
            exact ⟨by rw [HF.out]; rfl, below_step HB1.out hb2⟩
    · have HF : Hid (R = .iface 63 (.int .i64 2)) := by show _ = _; rw [HR.out, chkT_long (t := ⟨nm, cs⟩) hn (by show 16 < cs.length; rw [HC.out]; omega)]; rfl
      have g16 : ((16 : Int) < (C : Int)) := by omega
      clear HR hn
      go_enter Tryd.func17, Tryd.ntmps17
      go_wp2_with fail
      rw [HVe.out]
      go_wp2_with (first | (go_at_call 12; refine (HN.out _).mono ?_; rintro e w1 ⟨rfl, rfl⟩) | fail)
      go_ret
      exact ⟨by rw [HF.out]; rfl, HB0.out⟩
end Go.Proofs.YtlgnllnjhpihdaaDoor
