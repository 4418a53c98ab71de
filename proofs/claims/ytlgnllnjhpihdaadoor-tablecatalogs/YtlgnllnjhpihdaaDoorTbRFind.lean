/- The walks of the document's Find and New. -/
import Derived.Test.YtlgnllnjhpihdaaDoorTbTabs
import Derived.Test.YtlgnllnjhpihdaaDoorTbRCheck
namespace Go.Proofs.YtlgnllnjhpihdaaDoor
open Go.RowKit Go.Sort

set_option maxRecDepth 100000 in
set_option maxHeartbeats 1000000 in
theorem rfindC_ (a : Option Addr) (c : Nat) (ts : List TV) (name : ByteArray) (w : World) (h : TabsIn w a ts) (hl : ts.length ≤ 140737488355328) :
    Calls Tryd.prog 27 #[.slice a ts.length c, .string name] w fun e w' => e = .returned (.tuple #[.int .i64 (tabI name ts), .int .i64 (tabX name ts)]) ∧ w' = w := by
  have HJ := Lib.hid h
  obtain ⟨L, hL⟩ : ∃ L, ts.length = L := ⟨_, rfl⟩
  have HL := Lib.hid hL
  rw [hL] at hl ⊢
  have HI : Hid (tabI name ts = if idxP (isNT name) ts < 0 then 0 else idxP (isNT name) ts) := rfl
  have HX : Hid (tabX name ts = if idxP (isNT name) ts < 0 then 30 else 0) := rfl
  generalize tabI name ts = I at *
  generalize tabX name ts = X at *
  clear h hL
  go_enter Tryd.func27, Tryd.ntmps27
  go_wp2_with fail
  go_loopw [6] (fun iv wr => ∃ i : Nat, i ≤ L ∧ iv = .int .i64 i ∧ wr = w ∧ Hid (∀ j (h : j < ts.length), j < i → isNT name ts[j] = false)) (fun iv _ => L - (intOf iv).toNat)
  case atStart => exact ⟨0, Nat.zero_le _, rfl, rfl, fun j _ hj => by omega⟩
  case round =>
    obtain ⟨i, hi, rfl, rfl, HV⟩ := hrel
    by_cases hlt : i < L
    · have hlt2 : (i : Int) < (L : Int) := by omega
      have hi1 : i < ts.length := by rw [HL.out]; exact hlt
      obtain ⟨b1, o1, rfl, q0, q1⟩ := HJ.out i hi1
      have HCi : Hid (isNT name ts[i] = (ts[i].nm.toList == name.toList)) := by show _ = _; rw [beq_lst]; rfl
      generalize ts[i].nm = cn at *
      by_cases he : lst cn = lst name
      · have he2 : (cn.toList == name.toList) = true := by rw [beq_lst, he]; simp
        have hix : idxP (isNT name) ts = i := idxP_at hi1 HV.out (by rw [HCi.out]; exact he2)
        have HF : Hid (I = (i : Int) ∧ X = 0) := ⟨by rw [HI.out, hix, if_neg (by omega)], by rw [HX.out, hix, if_neg (by omega)]⟩
        clear HI HX hix he HV HCi q1
        go_wp2_with fail
        exact bodyPost_ret (v := .tuple #[.int .i64 i, .int .i64 0]) (by simp [results, Tryd.results27, go_sem]) rfl ⟨by rw [HF.out.1, HF.out.2], rfl⟩
      · have he2 : (cn.toList == name.toList) = false := beq_ne he
        have HV2 : Hid (∀ j (h : j < ts.length), j < i + 1 → isNT name ts[j] = false) := fun j hj hji => by
          rcases Nat.lt_or_ge j i with hh | hh
          · exact HV.out j hj hh
          · obtain rfl : j = i := by omega
            rw [HCi.out]; exact he2
        clear HV HCi he q1
        go_wp2_with fail
        go_roundw
        case rel => exact ⟨i + 1, by omega, by go_num, by trivial, HV2⟩
        case measure => simp [intOf]; omega
    · obtain rfl : i = L := by omega
      have hii : ¬ ((i : Int) < (i : Int)) := by omega
      have hix : idxP (isNT name) ts = -1 := idxP_none fun j hj => HV.out j hj (by rw [← HL.out]; exact hj)
      have HF : Hid (I = 0 ∧ X = 30) := ⟨by rw [HI.out, hix]; rfl, by rw [HX.out, hix]; rfl⟩
      clear HI HX hix HV
      go_wp2_with fail
      exact bodyPost_ret (v := .tuple #[.int .i64 0, .int .i64 30]) (by simp [results, Tryd.results27, go_sem]) rfl ⟨by rw [HF.out.1, HF.out.2], rfl⟩
/-! ### What is wrong with a list of tables -/
/-- Does an earlier one have the name of the one at i? -/
def dupB (ts : List TV) (i : Nat) : Bool := match ts[i]? with
  | some t => (ts.take i).any (isNT t.nm)
  | none => false
/-- The first table's error, if there is one. -/
def chkAll : List TV → Int
  | [] => 0
  | t :: r => if chkT t.tab ≠ 0 then chkT t.tab else chkAll r
theorem chkAll_bad : ∀ {ts : List TV} {i : Nat} (hi : i < ts.length), (∀ j (h : j < ts.length), j < i → chkT ts[j].tab = 0) → chkT ts[i].tab ≠ 0 → chkAll ts = chkT ts[i].tab
  | [], i, hi, _, _ => by simp at hi
  | t :: r, 0, _, _, h0 => by rw [chkAll]; exact if_pos h0
  | t :: r, i + 1, hi, hv, h0 => by
    have h1 : chkT t.tab = 0 := hv 0 (by simp) (by omega)
    rw [chkAll, if_neg (by simp [h1])]
    exact chkAll_bad (ts := r) (i := i) (by simpa using hi) (fun j hj hji => hv (j + 1) (by simpa using hj) (by omega)) h0
theorem chkAll_ok : ∀ {ts : List TV}, (∀ j (h : j < ts.length), chkT ts[j].tab = 0) → chkAll ts = 0
  | [], _ => rfl
  | t :: r, h => by
    have h1 : chkT t.tab = 0 := h 0 (by simp)
    rw [chkAll, if_neg (by simp [h1])]
    exact chkAll_ok (ts := r) fun j hj => h (j + 1) (by simpa using hj)
theorem chkAll_zero : ∀ {ts : List TV}, chkAll ts = 0 → ∀ j (h : j < ts.length), chkT ts[j].tab = 0
  | [], _, j, h => by simp at h
  | t :: r, hz, j, h => by
    rw [chkAll] at hz
    by_cases h0 : chkT t.tab = 0
    · rw [if_neg (by simp [h0])] at hz
      cases j with
      | zero => exact h0
      | succ j => exact chkAll_zero (ts := r) hz j (by simpa using h)
    · rw [if_pos h0] at hz; exact absurd hz h0
/-- Do two have the same name? -/
def dupN (ts : List TV) : Bool := (List.range ts.length).any (dupB ts)
def newE (ts : List TV) : Int := if 32 < ts.length then 2 else if chkAll ts ≠ 0 then chkAll ts else if dupN ts = true then 9 else 0
theorem dupB_at {ts : List TV} {i : Nat} (hi : i < ts.length) : dupB ts i = (ts.take i).any (isNT ts[i].nm) := by
  unfold dupB; rw [List.getElem?_eq_getElem hi]
theorem dupB_no {ts : List TV} {i : Nat} (hi : i < ts.length) (h : ∀ k (hk : k < ts.length), k < i → lst ts[k].nm ≠ lst ts[i].nm) : dupB ts i = false := by
  rw [dupB_at hi, List.any_eq_false]
  intro x hx
  obtain ⟨j, hj, rfl⟩ := List.getElem_of_mem hx
  rw [List.length_take] at hj
  rw [List.getElem_take]
  simpa [isNT] using h j (by omega) (by omega)
theorem dupB_yes {ts : List TV} {i k : Nat} (hi : i < ts.length) (hk : k < ts.length) (hki : k < i) (h : lst ts[k].nm = lst ts[i].nm) : dupB ts i = true := by
  rw [dupB_at hi]
  exact List.any_eq_true.2 ⟨ts[k], List.mem_take_iff_getElem.2 ⟨k, by omega, rfl⟩, by simp [isNT, h]⟩
theorem dupN_yes {ts : List TV} {i : Nat} (hi : i < ts.length) (h : dupB ts i = true) : dupN ts = true := List.any_eq_true.2 ⟨i, List.mem_range.2 hi, h⟩
theorem dupN_no {ts : List TV} (h : ∀ i, i < ts.length → dupB ts i = false) : dupN ts = false := by
  rw [dupN, List.any_eq_false]
  intro i hi
  rw [h i (List.mem_range.1 hi)]; decide
theorem newE_long {ts : List TV} (h : 32 < ts.length) : newE ts = 2 := by rw [newE, if_pos h]
theorem newE_bad {ts : List TV} (h : ¬ 32 < ts.length) {i : Nat} (hi : i < ts.length) (hv : ∀ j (h : j < ts.length), j < i → chkT ts[j].tab = 0) {E : Int} (hE : chkT ts[i].tab = E) (h0 : E ≠ 0) : newE ts = E := by
  have := chkAll_bad hi hv (by rw [hE]; exact h0)
  rw [newE, if_neg h, if_pos (by rw [this, hE]; exact h0), this, hE]
theorem newE_dup {ts : List TV} (h : ¬ 32 < ts.length) (hv : ∀ j (h : j < ts.length), chkT ts[j].tab = 0) (hd : dupN ts = true) : newE ts = 9 := by rw [newE, if_neg h, if_neg (by rw [chkAll_ok hv]; decide), if_pos hd]
theorem newE_ok {ts : List TV} (h : ¬ 32 < ts.length) (hv : ∀ j (h : j < ts.length), chkT ts[j].tab = 0) (hd : dupN ts = false) : newE ts = 0 := by rw [newE, if_neg h, if_neg (by rw [chkAll_ok hv]; decide), if_neg (by rw [hd]; decide)]
theorem newE_zero {ts : List TV} (h : newE ts = 0) : ts.length ≤ 32 ∧ ∀ j (h : j < ts.length), chkT ts[j].tab = 0 := by
  unfold newE at h
  split at h
  · simp at h
  rename_i h1
  split at h
  · rename_i h2; exact absurd h h2
  rename_i h2
  exact ⟨by omega, chkAll_zero (Classical.not_not.1 h2)⟩
theorem newE_same {ts us : List TV} (h : ts.map TV.tab = us.map TV.tab) : newE ts = newE us := by
  have hl : ts.length = us.length := by have := congrArg List.length h; simpa using this
  have hc : ∀ (a b : List TV), a.map TV.tab = b.map TV.tab → chkAll a = chkAll b := by
    intro a
    induction a with
    | nil => intro b hb; cases b with
      | nil => rfl
      | cons x y => simp at hb
    | cons x y ih => intro b hb; cases b with
      | nil => simp at hb
      | cons u v =>
        simp only [List.map_cons, List.cons.injEq] at hb
        rw [chkAll, chkAll, hb.1, ih v hb.2]
  have hat : ∀ i (h1 : i < ts.length) (h2 : i < us.length), ts[i].nm = us[i].nm := fun i h1 h2 => by
    have : (ts.map TV.tab)[i]? = (us.map TV.tab)[i]? := by rw [h]
    rw [List.getElem?_map, List.getElem?_map, List.getElem?_eq_getElem h1, List.getElem?_eq_getElem h2] at this
    simp only [Option.map_some, Option.some.injEq] at this
    exact congrArg Tab.nm this
  have hd : dupN ts = dupN us := by
    rcases hx : dupN us with _ | _
    · refine dupN_no fun i hi => dupB_no hi fun k hk hki e => ?_
      have h2 : i < us.length := by omega
      have := dupN_yes h2 (dupB_yes h2 (by omega) hki (by rw [← hat k hk (by omega), ← hat i hi h2]; exact e))
      rw [hx] at this; cases this
    · obtain ⟨i, hi, h1⟩ := List.any_eq_true.1 hx
      have hi2 := List.mem_range.1 hi
      have hi3 : i < ts.length := by omega
      rw [dupB_at hi2] at h1
      obtain ⟨x, hx1, hx2⟩ := List.any_eq_true.1 h1
      obtain ⟨k, hk, rfl⟩ := List.getElem_of_mem hx1
      rw [List.length_take] at hk
      rw [List.getElem_take] at hx2
      have hx3 : lst us[k].nm = lst us[i].nm := by simpa [isNT] using hx2
      exact dupN_yes hi3 (dupB_yes hi3 (k := k) (by omega) (by omega) (by rw [hat k (by omega) (by omega), hat i hi3 hi2]; exact hx3))
  rw [newE, newE, hl, hc ts us h, hd]
set_option maxRecDepth 100000 in
set_option maxHeartbeats 2000000 in
theorem rnew_ (a : Option Addr) (c : Nat) (ts : List TV) (w : World) (h : TabsIn w a ts) (hc : ColsAll w ts) (hl : ts.length ≤ 140737488355328) (hsn : ∀ t ∈ ts, t.nm.size ≤ 140737488355328 ∧ ∀ x ∈ t.cs, x.nm.size ≤ 140737488355328) :
    Calls Tryd.prog 24 #[.slice a ts.length c] w fun e w' => e = .returned (.int .i64 (newE ts)) ∧ Below w.heap.size w w' := by
  have HJ := Lib.hid h
  have HCk : Hid (∀ W i (hi : i < ts.length), Below w.heap.size w W → Calls Tryd.prog 18 #[.agg #[.string ts[i].nm, .slice ts[i].a ts[i].cs.length ts[i].c]] W fun e w' => e = .returned (.int .i64 (chkT ts[i].tab)) ∧ Below W.heap.size W w') := fun W i hi hb => rtcheck_ ts[i].nm ts[i].a ts[i].c ts[i].cs W ((hc i hi).1.on hb) (hsn _ (List.getElem_mem hi)).1 (hsn _ (List.getElem_mem hi)).2
  obtain ⟨L, hL⟩ : ∃ L, ts.length = L := ⟨_, rfl⟩
  have HL := Lib.hid hL
  have HE1 : Hid (32 < L → newE ts = 2) := fun hx => newE_long (by omega)
  have HE2 : Hid (¬ 32 < L → ∀ i (hi : i < ts.length), (∀ j (h : j < ts.length), j < i → chkT ts[j].tab = 0) → ∀ E, chkT ts[i].tab = E → E ≠ 0 → newE ts = E) := fun hx i hi hv E hE h0 => newE_bad (by omega) hi hv hE h0
  have HE3 : Hid (¬ 32 < L → (∀ j (h : j < ts.length), chkT ts[j].tab = 0) → dupN ts = true → newE ts = 9) := fun hx hv hd => newE_dup (by omega) hv hd
  have HE4 : Hid (¬ 32 < L → (∀ j (h : j < ts.length), chkT ts[j].tab = 0) → dupN ts = false → newE ts = 0) := fun hx hv hd => newE_ok (by omega) hv hd
  generalize newE ts = R at *
  rw [hL] at hl ⊢
  clear h hc hsn hL
  by_cases h32 : 32 < L
  · have HF := Lib.hid (HE1.out h32)
    have h1 : (32 : Int) < (L : Int) := by omega
    clear HE1 HE2 HE3 HE4
    go_enter Tryd.func24, Tryd.ntmps24
    go_wp2_with fail
    go_ret
    exact ⟨by rw [HF.out]; rfl, Below.refl _ _⟩
  · have HX2 := Lib.hid (HE2.out h32)
    have HX3 := Lib.hid (HE3.out h32)
    have HX4 := Lib.hid (HE4.out h32)
    have h1 : ¬ (32 : Int) < (L : Int) := by omega
    clear HE1 HE2 HE3 HE4
    go_enter Tryd.func24, Tryd.ntmps24
    go_wp2_with fail
    go_loopw [3] (fun iv wr => ∃ i : Nat, i ≤ L ∧ iv = .int .i64 i ∧ Hid (∀ j (h : j < ts.length), j < i → chkT ts[j].tab = 0) ∧ Hid (Below w.heap.size w wr)) (fun iv _ => L - (intOf iv).toNat)
    case atStart => exact ⟨0, Nat.zero_le _, rfl, fun j _ hj => by omega, Below.refl _ _⟩
    case round =>
      obtain ⟨i, hi, rfl, HV, HB⟩ := hrel
      by_cases hlt : i < L
      · have hlt2 : (i : Int) < (L : Int) := by omega
        have hi1 : i < ts.length := by rw [HL.out]; exact hlt
        obtain ⟨b1, o1, rfl, q0, q1⟩ := HJ.out.on HB.out i hi1
        have HC := Lib.hid (HCk.out wr i hi1 HB.out)
        by_cases h0 : chkT ts[i].tab = 0
        · rw [h0] at HC
          have HV2 : Hid (∀ j (h : j < ts.length), j < i + 1 → chkT ts[j].tab = 0) := fun j hj hji => by
            rcases Nat.lt_or_ge j i with hh | hh
            · exact HV.out j hj hh
            · obtain rfl : j = i := by omega
              exact h0
          clear h0 HV
          generalize ts[i] = t at *
          go_wp2_with fail
          refine HC.out.mono ?_
          rintro e w1 ⟨rfl, hb1⟩
          have HB1 := Lib.hid (below_step HB.out hb1)
          clear hb1 HC q0 q1
          go_wp2_with fail
          go_roundw
          case rel => exact ⟨i + 1, by omega, by go_num, HV2, HB1⟩
          case measure => simp [intOf]; omega
        · obtain ⟨E, hE⟩ : ∃ E, chkT ts[i].tab = E := ⟨_, rfl⟩
          have HF := Lib.hid (HX2.out i hi1 HV.out E hE (by rw [← hE]; exact h0))
          rw [hE] at HC h0
          have h01 : (E == 0) = false := by simpa using h0
          have h02 : (E != 0) = true := by simpa using h0
          clear hE h0 HV
          generalize ts[i] = t at *
          go_wp2_with fail
          refine HC.out.mono ?_
          rintro e w1 ⟨rfl, hb1⟩
          go_wp2_with fail
          go_ret
          exact ⟨by rw [HF.out]; rfl, below_step HB.out hb1⟩
      · obtain rfl : i = L := by omega
        have hii : ¬ ((i : Int) < (i : Int)) := by omega
        have HVa : Hid (∀ j (h : j < ts.length), chkT ts[j].tab = 0) := fun j hj => HV.out j hj (by rw [← HL.out]; exact hj)
        have HY3 := Lib.hid (HX3.out HVa.out)
        have HY4 := Lib.hid (HX4.out HVa.out)
        clear HV HVa HX2 HX3 HX4
        go_wp2_with fail
        go_loopw [5] (fun iv wr' => ∃ j : Nat, j ≤ i ∧ iv = .int .i64 j ∧ Hid (∀ k, k < j → dupB ts k = false) ∧ Hid (Below w.heap.size w wr')) (fun iv _ => i - (intOf iv).toNat)
        case atStart => exact ⟨0, Nat.zero_le _, rfl, fun k hk => by omega, HB⟩
        case round =>
          obtain ⟨j, hj, rfl, HVj, HBj⟩ := hrel
          by_cases hjl : j < i
          · have hjl2 : (j : Int) < (i : Int) := by omega
            have hj1 : j < ts.length := by rw [HL.out]; exact hjl
            go_wp2_with fail
            go_loopw [6] (fun kv wk => ∃ k : Nat, k ≤ j ∧ kv = .int .i64 k ∧ Hid (∀ k' (hk : k' < ts.length), k' < k → lst ts[k'].nm ≠ lst ts[j].nm) ∧ Hid (Below w.heap.size w wk)) (fun kv _ => j - (intOf kv).toNat)
            case atStart => exact ⟨0, Nat.zero_le _, rfl, fun k _ hk => by omega, HBj⟩
            case round =>
              obtain ⟨k, hk, rfl, HVk, HBk⟩ := hrel
              by_cases hkl : k < j
              · have hkl2 : (k : Int) < (j : Int) := by omega
                have hk1 : k < ts.length := by omega
                have hkL : (k : Int) < (i : Int) := by omega
                obtain ⟨b1, o1, rfl, q0, q1⟩ := HJ.out.on HBk.out k hk1
                obtain ⟨b2, o2, e2, r0, r1⟩ := HJ.out.on HBk.out j hj1
                simp only [Option.some.injEq, Addr.mk.injEq, and_true] at e2
                obtain ⟨rfl, rfl⟩ := e2
                have hd0 : decide (0 ≤ (k : Int)) = true := by simp
                have hd1 : decide ((k : Int) < (i : Int)) = true := by simpa using hkL
                have hd2 : decide (0 ≤ (j : Int)) = true := by simp
                have hd3 : decide ((j : Int) < (i : Int)) = true := by simpa using hjl2
                have HDy : Hid (lst ts[k].nm = lst ts[j].nm → R = 9) := fun e => HY3.out (dupN_yes hj1 (dupB_yes hj1 hk1 hkl e))
                have HDn : Hid (lst ts[k].nm ≠ lst ts[j].nm → ∀ k' (hk : k' < ts.length), k' < k + 1 → lst ts[k'].nm ≠ lst ts[j].nm) := fun e k' hk' hki => by
                  rcases Nat.lt_or_ge k' k with hh | hh
                  · exact HVk.out k' hk' hh
                  · obtain rfl : k' = k := by omega
                    exact e
                clear HVk q1 r1
                by_cases he : lst ts[k].nm = lst ts[j].nm
                · have he2 : (ts[k].nm.toList == ts[j].nm.toList) = true := by rw [beq_lst, he]; simp
                  have HF := Lib.hid (HDy.out he)
                  clear he HDy HDn
                  generalize ts[k].nm = n1 at *
                  generalize ts[j].nm = n2 at *
                  go_wp2_with fail
                  go_big_quiet (fail)
                  go_wp2_with fail
                  go_ret
                  exact ⟨by rw [HF.out]; rfl, below_drewN' HBk.out _⟩
                · have he2 : (ts[k].nm.toList == ts[j].nm.toList) = false := beq_ne he
                  have HV2 := Lib.hid (HDn.out he)
                  clear he HDy HDn
                  obtain ⟨n1, hn1⟩ : ∃ n1, ts[k].nm = n1 := ⟨_, rfl⟩
                  obtain ⟨n2, hn2⟩ : ∃ n2, ts[j].nm = n2 := ⟨_, rfl⟩
                  rw [hn1] at q0 he2
                  rw [hn2] at r0 he2
                  clear hn1 hn2
                  go_wp2_with fail
                  go_big_quiet (fail)
                  have HB2 := Lib.hid (below_drewN' HBk.out nq)
                  go_wp2_with fail
                  go_roundw
                  case rel => exact ⟨k + 1, by omega, by go_num, HV2, HB2⟩
                  case measure => simp [intOf]; omega
              · obtain rfl : k = j := by omega
                have hjj : ¬ ((k : Int) < (k : Int)) := by omega
                have HV2 : Hid (∀ k', k' < k + 1 → dupB ts k' = false) := fun k' hk' => by
                  rcases Nat.lt_or_ge k' k with hh | hh
                  · exact HVj.out k' hh
                  · obtain rfl : k' = k := by omega
                    exact dupB_no hj1 HVk.out
                clear HVj HVk
                go_wp2_with fail
                go_roundw
                case rel => exact ⟨k + 1, by omega, by go_num, HV2, HBk⟩
                case measure => simp [intOf]; omega
          · obtain rfl : j = i := by omega
            have hjj : ¬ ((j : Int) < (j : Int)) := by omega
            have HF := Lib.hid (HY4.out (dupN_no fun k hk => HVj.out k (by rw [← HL.out]; exact hk)))
            clear HVj
            go_wp2_with fail
            go_ret
            exact ⟨by rw [HF.out]; rfl, HBj.out⟩
end Go.Proofs.YtlgnllnjhpihdaaDoor
