/- The walk of TableBack. -/
import Derived.Test.YtlgnllnjhpihdaaDoorTbLaw
namespace Go.Proofs.YtlgnllnjhpihdaaDoor
open Go.RowKit Go.Sort

set_option maxRecDepth 100000 in
set_option maxHeartbeats 2000000 in
theorem law_back (nm : ByteArray) (at_ : Option Addr) (ct : Nat) (cs : List Col) (s : ByteArray) (w : World) (hc : ColsIn w at_ cs) (hnil : at_ = none → ct = 0) (hcl : cs.length ≤ 1048576) (hs : s.size ≤ 1048576) (hm : MaxAt w) :
    Calls Tryd.prog 6 #[.agg #[.string nm, .slice at_ cs.length ct], .string s] w fun e w' => e = .returned (.bool true) ∧ Below w.heap.size w w' := by
  obtain ⟨W1, hW1⟩ : ∃ W1, W1 = w.alloc (.cells #[.string nm, .slice at_ cs.length ct] 24) := ⟨_, rfl⟩
  have hB1 : Below w.heap.size w W1 := by rw [hW1]; exact below_alloc1 _ _
  have HT1 : Hid (TabAt w.heap.size nm at_ cs.length ct W1 W1) := ⟨by rw [hW1]; exact inT_new _ _ _ _ _ _, Below.refl _ _⟩
  have HB1 := Lib.hid hB1
  have HW1 := Lib.hid hW1
  have HC := Lib.hid (hc.on hB1)
  have HM := Lib.hid (hm.on hB1)
  have HTw : Hid (∀ V, TabAt w.heap.size nm at_ cs.length ct W1 V → Calls Tryd.prog 7 #[.agg #[.string nm, .slice at_ cs.length ct]] V (TwinAt V nm cs cs.length)) := fun V hV => twinAt HC.out hnil (by omega) hV.2
  have HTx : Hid (∀ V a c, ColsIn V a cs ∧ cs.length ≤ c → Calls Tryd.prog 8 #[.agg #[.string nm, .slice a cs.length c]] V fun e w' => e = .returned (.tuple #[.string (txtS ⟨nm, cs⟩), errV 63 (chkT ⟨nm, cs⟩)]) ∧ Below V.heap.size V w') := fun V a c h => ttext_ nm a c cs V h.1 h.2 (by omega)
  have HCk : Hid (∀ V a c, ColsIn V a cs ∧ cs.length ≤ c → Calls Tryd.prog 17 #[.agg #[.string nm, .slice a cs.length c]] V fun e w' => e = .returned (errV 63 (chkT ⟨nm, cs⟩)) ∧ Below V.heap.size V w') := fun V a c h => tcheck_ nm a c cs V h.1 h.2 (by omega)
  have HSu : Hid (∀ V, Below W1.heap.size W1 V → Calls Tryd.prog 20 #[] V fun e w' => e = .returned (.bool true) ∧ Below V.heap.size V w') := fun V hV => sure_ V (HM.out.on hV)
  have HRx : Hid (chkT ⟨nm, cs⟩ = 0 → ∀ V, Below W1.heap.size W1 V → Calls Tryd.prog 21 #[.string (txtS ⟨nm, cs⟩)] V (ReadAt V nm cs cs.length .nilIface)) := fun h0 V hV => by
    have hx : txtS ⟨nm, cs⟩ = ofL (txtT ⟨nm, cs⟩) := by rw [txtS, if_pos h0]
    have hl := txtT_len (right_of_chk h0)
    have hr := readAt (s := ofL (txtT ⟨nm, cs⟩)) (V := V) (by rw [size_lst, lst_ofL]; omega) (HM.out.on hV)
    obtain ⟨h1, h2⟩ := prs_text (t := ⟨nm, cs⟩) (s := txtT ⟨nm, cs⟩) ⟨h0, rfl⟩
    rw [lst_ofL, h1, h2, errV, if_pos rfl] at hr
    rw [hx]
    exact hr
  have HSm : Hid (∀ V a a' c c', ColsIn V a cs → ColsIn V a' cs → Calls Tryd.prog 19 #[.agg #[.string nm, .slice a cs.length c], .agg #[.string nm, .slice a' cs.length c']] V fun e w' => e = .returned (.bool true) ∧ Below V.heap.size V w') := fun V a a' c c' h h' => by
    refine (same_ nm nm a a' c c' cs cs V h h' (by omega) (by omega)).mono ?_
    rintro e w' ⟨r, rfl, hr, hb⟩
    rw [hr.2 ⟨rfl, rfl⟩]
    exact ⟨rfl, hb⟩
  have HRs : Hid (∀ V, Below W1.heap.size W1 V → Calls Tryd.prog 21 #[.string s] V (ReadAt V (prsT (lst s)).nm (prsT (lst s)).cs (prsT (lst s)).cs.length (errV 63 (prsE (lst s))))) := fun V hV => readAt (by omega) (HM.out.on hV)
  have HPl : Hid ((prsT (lst s)).cs.length ≤ 17) := by
    show _ ≤ _
    unfold prsT
    split
    · show ((Lib.splitN _ _ 17).map gCol).length ≤ 17
      rw [List.length_map]
      exact Nat.le_trans (splitK_len _ _ _) (by omega)
    · simp
  have HPc := Lib.hid (prs_cases (lst s))
  have HSs : Hid (ofL (lst s) = s) := ofL_lst s
  generalize prsT (lst s) = P at *
  generalize prsE (lst s) = PE at *
  generalize lst s = l at *
  obtain ⟨pn, pc⟩ := P
  have HK : Hid (∀ V V', TabAt w.heap.size nm at_ cs.length ct W1 V → Below V.heap.size V V' → TabAt w.heap.size nm at_ cs.length ct W1 V') := fun V V' h hb => h.on hb
  have HE := Lib.hid (errV_cases (chkT ⟨nm, cs⟩))
  obtain ⟨E, hE⟩ : ∃ E, errV 63 (chkT ⟨nm, cs⟩) = E := ⟨_, rfl⟩
  rw [hE] at HE HTx HCk
  obtain ⟨Z, hZ⟩ : ∃ Z, chkT ⟨nm, cs⟩ = Z := ⟨_, rfl⟩
  rw [hZ] at HE HRx
  generalize txtS ⟨nm, cs⟩ = X at *
  obtain ⟨C, hC⟩ : ∃ C, cs.length = C := ⟨_, rfl⟩
  obtain ⟨B, hB⟩ : ∃ B, w.heap.size = B := ⟨_, rfl⟩
  rw [hC] at HT1 HTw HTx HCk HRx HSm HK HW1
  rw [hC]
  have HCs := Lib.hid hC
  clear hc hnil hcl hs hm hB1 hW1 hE hZ hC
  go_enter Tryd.func6, Tryd.ntmps6
  go_wp2_with fail
  rw [← HW1.out]
  rw [hB] at HT1 HTw HK
  have HBe := Lib.hid hB
  clear HW1 hB
  obtain ⟨⟨t0, t1⟩, _⟩ := HT1.out
  go_wp2_with fail
  refine (HTw.out _ HT1.out).mono ?_
  rintro e w2 ⟨a2, c2, rfl, hc2, hb2⟩
  have HT2 := Lib.hid (HK.out _ _ HT1.out hb2)
  clear t0 t1 HT1
  go_wp2_with fail
  refine (HTx.out _ _ _ hc2).mono ?_
  rintro e w3 ⟨rfl, hb3⟩
  have HT3 := Lib.hid (HK.out _ _ HT2.out hb3)
  clear hc2 hb2 hb3 HT2 HTx
  rcases HE.out with ⟨rfl, rfl⟩ | ⟨hz, rfl⟩
  · have HRy := Lib.hid (HRx.out rfl)
    clear HE HRx
    go_wp2_with fail
    have HS3 := Lib.hid (HK.out _ _ HT3.out (below_drew w3))
    refine wp_region_noPanic ?_
    go_region_held (fun V => (V.cell? ⟨B, 0, none⟩ = some (.string nm) ∧ V.cell? ⟨B, 1, none⟩ = some (.slice at_ C ct)) ∧ Below W1.heap.size W1 V)
      (first | (exact HS3.out) | (exact HK.out _ _ (by assumption) (by assumption)))
      (first
        | (go_at_call 7; refine (HTw.out _ (by assumption)).mono ?_; rintro e w4 ⟨a4, c4, rfl, hc4, hb4⟩)
        | (go_at_call 17; refine (HCk.out _ _ _ (by assumption)).mono ?_; rintro e w5 ⟨rfl, hb5⟩)
        | fail)
    refine NoPanic.normal ?_
    have HT5 : Hid (TabAt B nm at_ C ct W1 w5) := (by assumption : (w5.cell? ⟨B, 0, none⟩ = some (.string nm) ∧ w5.cell? ⟨B, 1, none⟩ = some (.slice at_ C ct)) ∧ Below W1.heap.size W1 w5)
    clear HS3 hc4 hb4 hb5 HCk HTw HT3
    go_wp2_with fail
    refine (HRy.out _ HT5.out.2).mono ?_
    rintro e w6 ⟨a6, c6, rfl, hc6, hb6⟩
    have HT6 := Lib.hid (HK.out _ _ HT5.out hb6)
    have HT7 := Lib.hid (HK.out _ _ HT6.out (below_alloc1 w6 (.cells #[.string nm, .slice a6 C c6] 24)))
    have HC7 := Lib.hid (hc6.1.on (below_alloc1 w6 (.cells #[.string nm, .slice a6 C c6] 24)))
    have HCx := Lib.hid (HC.out.on HT7.out.2)
    obtain ⟨⟨t0, t1⟩, _⟩ := HT7.out
    clear hc6 hb6 HT5 HT6 HRy
    go_wp2_with fail
    refine (HSm.out _ _ _ _ _ HC7.out HCx.out).mono ?_
    rintro e w8 ⟨rfl, hb8⟩
    have HT8 := Lib.hid (HK.out _ _ HT7.out hb8)
    clear t0 t1 hb8 HSm HC7 HCx HT7
    go_wp2_with fail
    refine (HRs.out _ HT8.out.2).mono ?_
    rintro e w9 ⟨a9, c9, rfl, hc9, hb9⟩
    have HBA := Lib.hid (below_step HT8.out.2 hb9)
    have HC9 := Lib.hid (hc9.1.on (below_alloc1 w9 (.cells #[.string pn, .slice a9 pc.length c9] 24)))
    have HN9 := Lib.hid hc9.2
    have HBB := Lib.hid (below_step HBA.out (below_alloc1 w9 (.cells #[.string pn, .slice a9 pc.length c9] 24)))
    clear hc9 hb9 HBA
    rcases HPc.out with ⟨rfl, hi⟩ | ⟨rfl, hp⟩
    · have HTy : Hid (∀ V, ColsIn V a9 pc → Calls Tryd.prog 8 #[.agg #[.string pn, .slice a9 pc.length c9]] V fun e w' => e = .returned (.tuple #[.string s, .nilIface]) ∧ Below V.heap.size V w') := fun V h => by
        have ht := ttext_ pn a9 c9 pc V h HN9.out (Nat.le_trans HPl.out (by decide))
        rw [txtS, if_pos hi.1, hi.2, hi.1, errV, if_pos rfl, HSs.out] at ht
        exact ht
      clear HPc hi HPl HN9
      rw [errV, if_pos rfl]
      generalize pc.length = PL at *
      go_wp2_with fail
      refine (HTy.out _ HC9.out).mono ?_
      rintro e w11 ⟨rfl, hb11⟩
      have HB11 := Lib.hid (below_step HBB.out hb11)
      clear hb11 HTy HC9
      go_wp2_with (first | (go_at_call 20; refine (HSu.out _ HB11.out).mono ?_; rintro e w12 ⟨rfl, hb12⟩) | fail)
      go_ret
      exact ⟨rfl, below_step HB1.out (below_step HB11.out hb12)⟩
    · simp only [Tab.mk.injEq] at hp
      obtain ⟨rfl, rfl⟩ := hp
      have HSn : Hid (∀ V, ColsIn V a9 [] → Calls Tryd.prog 19 #[.agg #[.string ⟨#[]⟩, .slice a9 0 c9], .agg #[.string ⟨#[]⟩, .slice none 0 0]] V fun e w' => e = .returned (.bool true) ∧ Below V.heap.size V w') := fun V h => by
        refine (same_ ⟨#[]⟩ ⟨#[]⟩ a9 none c9 0 [] [] V h (colsIn_nil _ _) (by simp) (by simp)).mono ?_
        rintro e w' ⟨r, rfl, hr, hb⟩
        rw [hr.2 ⟨rfl, rfl⟩]
        exact ⟨rfl, hb⟩
      have e3 : errV 63 3 = .iface 63 (.int .i64 3) := rfl
      rw [e3]
      clear HPc HPl HN9 e3
      go_wp2_with fail
      refine (HSn.out _ HC9.out).mono ?_
      rintro e w11 ⟨rfl, hb11⟩
      have HB11 := Lib.hid (below_step HBB.out hb11)
      clear hb11 HSn HC9
      go_wp2_with (first | (go_at_call 20; refine (HSu.out _ HB11.out).mono ?_; rintro e w12 ⟨rfl, hb12⟩) | fail)
      go_ret
      exact ⟨rfl, below_step HB1.out (below_step HB11.out hb12)⟩
  · clear HRx HSm
    go_wp2_with fail
    have HS3 := Lib.hid (HK.out _ _ HT3.out (below_drew w3))
    refine wp_region_noPanic ?_
    go_region_held (fun V => (V.cell? ⟨B, 0, none⟩ = some (.string nm) ∧ V.cell? ⟨B, 1, none⟩ = some (.slice at_ C ct)) ∧ Below W1.heap.size W1 V)
      (first | (exact HS3.out) | (exact HK.out _ _ (by assumption) (by assumption)))
      (first
        | (go_at_call 7; refine (HTw.out _ (by assumption)).mono ?_; rintro e w4 ⟨a4, c4, rfl, hc4, hb4⟩)
        | (go_at_call 17; refine (HCk.out _ _ _ (by assumption)).mono ?_; rintro e w5 ⟨rfl, hb5⟩)
        | fail)
    refine NoPanic.normal ?_
    have HT5 : Hid (TabAt B nm at_ C ct W1 w5) := (by assumption : (w5.cell? ⟨B, 0, none⟩ = some (.string nm) ∧ w5.cell? ⟨B, 1, none⟩ = some (.slice at_ C ct)) ∧ Below W1.heap.size W1 w5)
    clear HS3 hc4 hb4 hb5 HCk HTw HT3
    go_wp2_with fail
    refine (HRs.out _ HT5.out.2).mono ?_
    rintro e w9 ⟨a9, c9, rfl, hc9, hb9⟩
    have HBA := Lib.hid (below_step HT5.out.2 hb9)
    have HC9 := Lib.hid (hc9.1.on (below_alloc1 w9 (.cells #[.string pn, .slice a9 pc.length c9] 24)))
    have HN9 := Lib.hid hc9.2
    have HBB := Lib.hid (below_step HBA.out (below_alloc1 w9 (.cells #[.string pn, .slice a9 pc.length c9] 24)))
    clear hc9 hb9 HBA
    rcases HPc.out with ⟨rfl, hi⟩ | ⟨rfl, hp⟩
    · have HTy : Hid (∀ V, ColsIn V a9 pc → Calls Tryd.prog 8 #[.agg #[.string pn, .slice a9 pc.length c9]] V fun e w' => e = .returned (.tuple #[.string s, .nilIface]) ∧ Below V.heap.size V w') := fun V h => by
        have ht := ttext_ pn a9 c9 pc V h HN9.out (Nat.le_trans HPl.out (by decide))
        rw [txtS, if_pos hi.1, hi.2, hi.1, errV, if_pos rfl, HSs.out] at ht
        exact ht
      clear HPc hi HPl HN9
      rw [errV, if_pos rfl]
      generalize pc.length = PL at *
      go_wp2_with fail
      refine (HTy.out _ HC9.out).mono ?_
      rintro e w11 ⟨rfl, hb11⟩
      have HB11 := Lib.hid (below_step HBB.out hb11)
      clear hb11 HTy HC9
      go_wp2_with (first | (go_at_call 20; refine (HSu.out _ HB11.out).mono ?_; rintro e w12 ⟨rfl, hb12⟩) | fail)
      go_ret
      exact ⟨rfl, below_step HB1.out (below_step HB11.out hb12)⟩
    · simp only [Tab.mk.injEq] at hp
      obtain ⟨rfl, rfl⟩ := hp
      have HSn : Hid (∀ V, ColsIn V a9 [] → Calls Tryd.prog 19 #[.agg #[.string ⟨#[]⟩, .slice a9 0 c9], .agg #[.string ⟨#[]⟩, .slice none 0 0]] V fun e w' => e = .returned (.bool true) ∧ Below V.heap.size V w') := fun V h => by
        refine (same_ ⟨#[]⟩ ⟨#[]⟩ a9 none c9 0 [] [] V h (colsIn_nil _ _) (by simp) (by simp)).mono ?_
        rintro e w' ⟨r, rfl, hr, hb⟩
        rw [hr.2 ⟨rfl, rfl⟩]
        exact ⟨rfl, hb⟩
      have e3 : errV 63 3 = .iface 63 (.int .i64 3) := rfl
      rw [e3]
      clear HPc HPl HN9 e3
      go_wp2_with fail
      refine (HSn.out _ HC9.out).mono ?_
      rintro e w11 ⟨rfl, hb11⟩
      have HB11 := Lib.hid (below_step HBB.out hb11)
      clear hb11 HSn HC9
      go_wp2_with (first | (go_at_call 20; refine (HSu.out _ HB11.out).mono ?_; rintro e w12 ⟨rfl, hb12⟩) | fail)
      go_ret
      exact ⟨rfl, below_step HB1.out (below_step HB11.out hb12)⟩
end Go.Proofs.YtlgnllnjhpihdaaDoor
