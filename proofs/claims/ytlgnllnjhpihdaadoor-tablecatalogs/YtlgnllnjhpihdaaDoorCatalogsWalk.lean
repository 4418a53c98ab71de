/- The walk of TableCatalogs. -/
import Derived.Test.YtlgnllnjhpihdaaDoorTbCatLaw
namespace Go.Proofs.YtlgnllnjhpihdaaDoor
open Go.RowKit Go.Sort

/-- What stands behind New in the law: the catalog, the list, the tables that were handed in. -/
structure Kc (w : World) (ra : Option Addr) (us : List TV) (N BC : Nat) (vs : List TV) (wr : World) : Prop where
  tabs : TabsIn wr ra us
  str : StrAll wr us
  cat : CatIn wr N BC vs
  bw : Below w.heap.size w wr
set_option maxRecDepth 100000 in
set_option maxHeartbeats 4000000 in
theorem law_catalogs (la : Option Addr) (lc : Nat) (ts : List TV) (name : ByteArray) (iv : Int) (w : World) (h : TabsIn w la ts) (hc : ColsAll w ts) (hl : ts.length * 40 ≤ 140737488351232)
    (hsz : ∀ t ∈ ts, t.nm.size ≤ 140737488355328 ∧ t.cs.length * 32 ≤ 140737488355328 ∧ ∀ x ∈ t.cs, x.nm.size ≤ 140737488355328) (hm : MaxAt w) (hE : ErrType w) :
    Calls Tryd.prog 5 #[.slice la ts.length lc, .string name, .int .i64 iv] w fun e w' => e = .returned (.bool true) ∧ Below w.heap.size w w' := by
  have HJ := Lib.hid h
  have HCo := Lib.hid hc
  have HM := Lib.hid hm
  have HEr := Lib.hid hE
  have HTw : Hid (∀ W i (hi : i < ts.length), Below w.heap.size w W → Calls Tryd.prog 7 #[.agg #[.string ts[i].nm, .slice ts[i].a ts[i].cs.length ts[i].c]] W (TwinF W ts[i].nm ts[i].cs ts[i].cs.length)) := fun W i hi hb => twinF_ ts[i].nm ts[i].a ts[i].c ts[i].cs W ((hc i hi).1.on hb) (hc i hi).2.2 (hsz _ (List.getElem_mem hi)).2.1
  have HNew : Hid (∀ W ra rc us, TabsIn W ra us → ColsAll W us → us.map TV.tab = ts.map TV.tab → Calls Tryd.prog 23 #[.slice ra us.length rc] W (NewTo W us)) := fun W ra rc us h1 h2 h3 => tnew_ ra rc us W h1 h2 (by have := (tab_get h3).1; omega) (fun t ht => by
    obtain ⟨k, hk, rfl⟩ := List.getElem_of_mem ht
    have hk2 : k < ts.length := by have := (tab_get h3).1; omega
    rw [((tab_get h3).2 k hk hk2).2]
    have := (hsz _ (List.getElem_mem hk2)).2.1
    omega)
  have HRn : Hid (∀ W, Below w.heap.size w W → Calls Tryd.prog 24 #[.slice la ts.length lc] W fun e w' => e = .returned (.int .i64 (newE ts)) ∧ Below W.heap.size W w') := fun W hb => rnew_ la lc ts W (h.on hb) (hc.on hb) (by omega) (fun t ht => ⟨(hsz t ht).1, (hsz t ht).2.2⟩)
  have HRf : Hid (∀ W, Below w.heap.size w W → Calls Tryd.prog 27 #[.slice la ts.length lc, .string name] W fun e w' => e = .returned (.tuple #[.int .i64 (tabI name ts), .int .i64 (tabX name ts)]) ∧ w' = W) := fun W hb => rfindC_ la lc ts name W (h.on hb) (by omega)
  have HSu : Hid (∀ W, Below w.heap.size w W → Calls Tryd.prog 20 #[] W fun e w' => e = .returned (.bool true) ∧ Below W.heap.size W w') := fun W hb => sure_ W (hm.on hb)
  have HN1 : Hid (∀ z W, Below w.heap.size w W → Calls Tryd.prog 16 #[.iface 63 (.int .i64 z)] W fun e w' => e = .returned (.int .i64 z) ∧ Below W.heap.size W w') := fun z W hb => num11 z W (hE.on hb)
  have HN2 : Hid (∀ z W, Below w.heap.size w W → Calls Tryd.prog 16 #[errV 63 z] W fun e w' => e = .returned (.int .i64 z) ∧ Below W.heap.size W w') := fun z W hb => num_ z W (hE.on hb)
  have HTz : Hid (∀ k (h : k < ts.length), newE ts = 0 → ts[k].cs.length ≤ 16) := fun k hk h0 => (right_of_chk ((newE_zero h0).2 k hk)).len
  obtain ⟨L, hL⟩ : ∃ L, ts.length = L := ⟨_, rfl⟩
  have HL := Lib.hid hL
  rw [hL] at hl HRn HRf ⊢
  clear h hc hsz hm hE hL
  go_enter Tryd.func5, Tryd.ntmps5
  go_wp2_with fail
  go_loopw [7, 8] (fun mv kv wr => ∃ (j : Nat) (us : List TV) (ra : Option Addr) (rn rc : Nat), j ≤ L ∧ kv = .int .i64 j ∧ mv = .slice ra rn rc ∧ Hid (us.map TV.tab = (ts.take j).map TV.tab) ∧ Hid (Rw w.heap.size (.slice ra rn rc) us wr) ∧ Hid (FreeAll wr us) ∧ Hid (Below w.heap.size w wr)) (fun _ kv _ => L - (intOf kv).toNat)
  case atStart => exact ⟨0, [], none, 0, 0, Nat.zero_le _, rfl, rfl, rfl, rw_nil w, fun i hi => by simp at hi, Below.refl _ _⟩
  case round =>
    obtain ⟨j, us, ra, rn, rc, hj, rfl, rfl, HU, HR, HFa, HB⟩ := hrel
    by_cases hjl : j < L
    · have hjl2 : (j : Int) < (L : Int) := by omega
      have hj1 : j < ts.length := by rw [HL.out]; exact hjl
      obtain ⟨b1, o1, rfl, q0, q1⟩ := HJ.out.on HB.out j hj1
      have HTj := Lib.hid (HTw.out wr j hj1 HB.out)
      have hul := (tabs_at HU.out (Nat.le_of_lt hj1)).1
      have hml : (us.length + 1) * 40 ≤ 140737488355328 := by omega
      have HUn : Hid (∀ x : TV, x.nm = ts[j].nm → x.cs = ts[j].cs → (us ++ [x]).map TV.tab = (ts.take (j + 1)).map TV.tab) := fun x h1 h2 => by
        rw [List.map_append, HU.out, List.take_add_one, List.getElem?_eq_getElem hj1, List.map_append]
        show _ ++ [x.tab] = _ ++ [ts[j].tab]
        rw [show x.tab = ⟨x.nm, x.cs⟩ from rfl, h1, h2]
        rfl
      unfold TwinF at HTj
      generalize ts[j].nm = tn at *
      generalize ts[j].a = ta at *
      generalize ts[j].c = tc at *
      generalize ts[j].cs = tcs at *
      generalize htl : tcs.length = tl at *
      have HTl := Lib.hid htl
      clear hul HU hj1 htl
      go_wp2_with fail
      refine HTj.out.mono ?_
      rintro e w2 ⟨a5, c5, rfl, ⟨hc5, hn5, hna5, hfr5, hfe5⟩, hb2⟩
      have hbu := below_alloc1 w2 (.cells #[.string tn, .slice a5 tl c5] 24)
      have hin := inT_new w2 tn a5 tl c5 24
      have hbv := below_step hb2 hbu
      have hRu := HR.out.on hbv
      have hown : ∀ k, (Value.slice ra rn rc).ownBlock = some k → w.heap.size ≤ k ∧ k < wr.heap.size := fun k hk => World.ownsRow.lt HR.out.row k hk
      have hxr : ∀ b o, a5 = some ⟨b, o, none⟩ → ∀ k, (Value.slice ra rn rc).ownBlock = some k → k < b := fun b o e k hk => Nat.lt_of_lt_of_le (hown k hk).2 (hfr5 b o e)
      obtain ⟨a3, n3, c3, V3, hap, hrw, hgr⟩ := hRu.more (x := ⟨tn, a5, c5, tcs⟩) hin.1 (by rw [HTl.out]; exact hin.2) (hc5.on hbu) (by rw [HTl.out]; exact hn5) hna5 (fun b o e => Nat.le_trans HB.out.size (hfr5 b o e)) hxr hml
      have HR3 := Lib.hid hrw
      have HF3 : Hid (FreeAll V3 (us ++ [⟨tn, a5, c5, tcs⟩])) := (HFa.out.on hbv).more hRu (hfe5.on hbu) hxr hgr
      have HB3 : Hid (Below w.heap.size w V3) := (below_step HB.out hbv).grown hgr (Nat.le_trans HB.out.size hbv.size) (fun k hk => (hown k hk).1)
      have HU3 := Lib.hid (HUn.out ⟨tn, a5, c5, tcs⟩ rfl rfl)
      clear hc5 hn5 hna5 hfr5 hfe5 hb2 hbu hin hbv hRu hown hxr hrw hgr HUn HR HFa HB HTj q0 q1
      go_wp2_with (first | (refine wpList_exec rfl (exec_append rfl rfl rfl hap) ?_; clear hap) | fail)
      go_roundw
      case rel => exact ⟨j + 1, us ++ [⟨tn, a5, c5, tcs⟩], a3, n3, c3, by omega, by go_num, rfl, HU3, HR3, HF3, HB3⟩
      case measure => simp [intOf]; omega
    · obtain rfl : j = L := by omega
      have hjj : ¬ ((j : Int) < (j : Int)) := by omega
      have HUa : Hid (us.map TV.tab = ts.map TV.tab) := by
        show _ = _
        rw [HU.out, List.take_of_length_le (by rw [HL.out]; exact Nat.le_refl _)]
      have hul : us.length = j := by rw [(tab_get HUa.out).1, HL.out]
      have HUl := Lib.hid hul
      have hrow := HR.out.row.tabs
      obtain ⟨a', c', e, htb, _, _, hfa⟩ := hrow
      simp only [Value.slice.injEq] at e
      obtain ⟨rfl, hrn, rfl⟩ := e
      rw [hul] at hrn
      have hrn2 := hrn.symm
      subst hrn2
      have HTb := Lib.hid htb
      have HNx : Hid (Calls Tryd.prog 23 #[.slice ra j rc] wr (NewTo wr us)) := by
        have := HNew.out wr ra rc us htb HR.out.cols HUa.out
        rw [hul] at this
        exact this
      have hES := newE_same HUa.out
      have HStr : Hid (StrAll wr us) := strAll_of HR.out.cols HFa.out
      have HFar : Hid (∀ k (h : k < us.length), us[k].cs ≠ [] → ∀ b o, us[k].a = some ⟨b, o, none⟩ → w.heap.size ≤ b ∧ b < wr.heap.size ∧ ∀ g o', ra = some ⟨g, o', none⟩ → g ≠ b) := fun k hk hne b o e => ⟨HR.out.far k hk b o e, cols_lt (HR.out.cols k hk).1 hne b o e, fun g o' e2 e3 => HR.out.apart k hk b o e hne (by rw [e2, ← e3]; rfl)⟩
      unfold NewTo at HNx
      rw [hES] at HNx
      obtain ⟨N1, hN1⟩ : ∃ N1, wr.heap.size = N1 := ⟨_, rfl⟩
      have HN1e := Lib.hid hN1
      rw [hN1] at HFar
      clear HU HR HFa htb hfa hul hES hN1 HTw HNew
      go_wp2_with fail
      refine HNx.out.mono ?_
      rintro e w2 (⟨hz, BC, vs, rfl, hcat, hvs, hb2⟩ | ⟨hz, rfl, hb2⟩)
      · have HB2 := Lib.hid (below_step HB.out hb2)
        have hvt : vs.map TV.tab = ts.map TV.tab := hvs.trans HUa.out
        have HVt := Lib.hid hvt
        have HK2 : Hid (Kc w ra us N1 BC vs w2) := ⟨HTb.out.on hb2, HStr.out.on hb2, by rw [← HN1e.out]; exact hcat, below_step HB.out hb2⟩
        have HZ := Lib.hid hz
        clear hcat hvs hb2 hvt HStr HTb HNx
        go_wp2_with fail
        refine (HRn.out _ HB2.out).mono ?_
        rintro e w3 ⟨rfl, hb3⟩
        have HK3 : Hid (Kc w ra us N1 BC vs w3) := ⟨HK2.out.tabs.on hb3, HK2.out.str.on hb3, HK2.out.cat.on hb3, below_step HK2.out.bw hb3⟩
        rw [hz]
        clear hz hb3 HK2 HB2 HRn
        go_wp2_with fail
        have hvl : vs.length = j := by rw [(tab_get HVt.out).1, HL.out]
        have HVl := Lib.hid hvl
        clear hvl
        go_loopw [14] (fun kv wr => ∃ k : Nat, k ≤ j ∧ kv = .int .i64 k ∧ Hid (Kc w ra us N1 BC vs wr)) (fun kv _ => j - (intOf kv).toNat)
        case atStart => exact ⟨0, Nat.zero_le _, rfl, HK3⟩
        case round =>
          obtain ⟨k, hk, rfl, HK⟩ := hrel
          by_cases hkl : k < j
          · have hkl2 : (k : Int) < (j : Int) := by omega
            have hk1 : k < us.length := by rw [HUl.out]; exact hkl
            by_cases hne : us[k].cs = []
            · obtain ⟨b1, o1, rfl, q0, q1⟩ := HK.out.tabs k hk1
              rw [hne] at q1
              generalize us[k].a = ua at *
              generalize us[k].c = uc at *
              clear hne q0
              go_wp2_with fail
              go_roundw
              case rel => exact ⟨k + 1, by omega, by go_num, HK⟩
              case measure => simp [intOf]; omega
            · obtain ⟨b, o, x, e, h1, h2⟩ := HK.out.str k hk1 hne
              have hfar := HFar.out k hk1 hne b o e
              have HK4 : Hid (Kc w ra us N1 BC vs (wr.setCell ⟨b, o, none⟩ (.string ⟨#[122, 122]⟩))) := ⟨HK.out.tabs.set (fun g o' e2 => hfar.2.2 g o' e2), HK.out.str.set _ _, HK.out.cat.set hfar.2.1, HK.out.bw.setCell hfar.1 _⟩
              have hpos : 0 < us[k].cs.length := List.length_pos_iff.2 hne
              obtain ⟨b1, o1, rfl, q0, q1⟩ := HK.out.tabs k hk1
              rw [e] at q1
              generalize us[k].cs.length = M at *
              generalize us[k].c = uc at *
              have hp2 : (0 : Int) < (M : Int) := by omega
              clear hne e hfar q0
              go_wp2_with fail
              go_roundw
              case rel => exact ⟨k + 1, by omega, by go_num, HK4⟩
              case measure => simp [intOf]; omega
          · obtain rfl : k = j := by omega
            have hkk : ¬ ((k : Int) < (k : Int)) := by omega
            have HFd := Lib.hid (findC_ N1 BC vs name wr HK.out.cat)
            have HRf2 := Lib.hid (HRf.out wr HK.out.bw)
            have hIs := tabI_same HVt.out name
            rw [hIs.1, hIs.2] at HFd
            have HCt := Lib.hid HK.out.cat
            have HBt := Lib.hid HK.out.bw
            generalize tabI name ts = I at *
            generalize tabX name ts = X at *
            have hI1 : (I == I) = true := by simp
            have hI2 : (I != I) = false := by simp
            have hX1 : (X == X) = true := by simp
            have hX2 : (X != X) = false := by simp
            clear hIs HFar HK HRf HK3
            go_wp2_with fail
            refine HFd.out.mono ?_
            rintro e w4 ⟨rfl, rfl⟩
            go_wp2_with fail
            refine HRf2.out.mono ?_
            rintro e w5 ⟨rfl, rfl⟩
            go_wp2_with fail
            refine (HN2.out _ _ HBt.out).mono ?_
            rintro e w6 ⟨rfl, hb6⟩
            have HC6 := Lib.hid (HCt.out.on hb6)
            have HB6 := Lib.hid (below_step HBt.out hb6)
            have HLn := Lib.hid (lenC_ N1 BC vs w6 HC6.out)
            rw [HVl.out] at HLn
            clear hb6 HFd HRf2 HCt HBt
            go_wp2_with fail
            refine HLn.out.mono ?_
            rintro e w7 ⟨rfl, rfl⟩
            clear hI1 hI2 hX1 hX2 HLn
            go_wp2_with fail
            go_loopw [19] (fun mv wr => ∃ m : Nat, m ≤ 2 ∧ mv = .int .i64 m ∧ Hid (CatIn wr N1 BC vs) ∧ Hid (Below w.heap.size w wr)) (fun mv _ => 2 - (intOf mv).toNat)
            case atStart => exact ⟨0, Nat.zero_le _, rfl, HC6, HB6⟩
            case round =>
              obtain ⟨m, hm, rfl, HCm, HBm⟩ := hrel
              obtain ⟨w0, hw0⟩ : ∃ w0, w0 = wr := ⟨_, rfl⟩
              rw [← hw0] at HCm HBm ⊢
              clear hw0
              by_cases hml : m < 2
              · have hml2 : (m : Int) < 2 := by omega
                by_cases hiv : iv < 0 ∨ (k : Int) ≤ iv
                · have HTb2 := Lib.hid (tableC_bad k (some ⟨BC, 0, none⟩) iv w0 (by have := lenC_ N1 BC vs (w0.alloc (.cells #[.string ⟨#[]⟩, .slice none 0 0] 24)) (HCm.out.on (below_alloc1 _ _)); rwa [HVl.out] at this) hiv)
                  have HSn : Hid (∀ V, Calls Tryd.prog 19 #[.agg #[.string ⟨#[]⟩, .slice none 0 0], .agg #[.string ⟨#[]⟩, .slice none 0 0]] V fun e w' => e = .returned (.bool true) ∧ Below V.heap.size V w') := fun V => by
                    refine (same_ ⟨#[]⟩ ⟨#[]⟩ none none 0 0 [] [] V (colsIn_nil _ _) (colsIn_nil _ _) (by simp) (by simp)).mono ?_
                    rintro e w' ⟨r, rfl, hr, hb⟩
                    rw [hr.2 ⟨rfl, rfl⟩]
                    exact ⟨rfl, hb⟩
                  have hiv2 : (iv < 0) ∨ (¬ iv < 0 ∧ (k : Int) ≤ iv) := by omega
                  clear hiv
                  rcases hiv2 with h0 | ⟨h0, h1⟩
                  all_goals
                    go_wp2_with fail
                    refine HTb2.out.mono ?_
                    rintro e w8 ⟨rfl, hb8⟩
                    have HB8 := Lib.hid (below_step (below_step HBm.out hb8) (below_alloc1 w8 (.cells #[.string ⟨#[]⟩, .slice none 0 0] 24)))
                    have HT8 := Lib.hid (inT_new w8 ⟨#[]⟩ none 0 0 24)
                    obtain ⟨W9, hW9⟩ : ∃ W9, W9 = w8.alloc (.cells #[.string ⟨#[]⟩, .slice none 0 0] 24) := ⟨_, rfl⟩
                    have HW9 := Lib.hid hW9.symm
                    rw [← hW9] at HB8 HT8
                    clear hb8 hW9 HTb2 HCm HBm
                    go_wp2_with fail
                    rw [HW9.out]
                    refine (HN1.out _ _ HB8.out).mono ?_
                    rintro e w10 ⟨rfl, hb10⟩
                    have HB10 := Lib.hid (below_step HB8.out hb10)
                    obtain ⟨t0, t1⟩ := HT8.out.on hb10
                    clear hb10 HB8 HT8 HW9
                    go_wp2_with fail
                    refine (HSn.out _).mono ?_
                    rintro e w11 ⟨rfl, hb11⟩
                    have HB11 := Lib.hid (below_step HB10.out hb11)
                    clear hb11 HB10 t0 t1
                    go_wp2_with fail
                    refine (HSu.out _ HB11.out).mono ?_
                    rintro e w12 ⟨rfl, hb12⟩
                    go_wp2_with fail
                    go_ret
                    exact ⟨rfl, below_step HB11.out hb12⟩
                · obtain ⟨z, rfl⟩ : ∃ z : Nat, iv = (z : Int) := ⟨iv.toNat, by omega⟩
                  have hz1 : z < k := by omega
                  have hz2 : z < vs.length := by rw [HVl.out]; exact hz1
                  have hz3 : z < ts.length := by rw [HL.out]; exact hz1
                  obtain ⟨g1, g2⟩ := (tab_get HVt.out).2 z hz2 hz3
                  have h16 := HTz.out z hz3 HZ.out
                  have HTo := Lib.hid (tableC_ N1 BC vs z w0 HCm.out hz2 (by rw [g2]; exact h16))
                  rw [g1, g2] at HTo
                  have HSm : Hid (∀ V a c, Below w.heap.size w V → ColsIn V a ts[z].cs → Calls Tryd.prog 19 #[.agg #[.string ts[z].nm, .slice a ts[z].cs.length c], .agg #[.string ts[z].nm, .slice ts[z].a ts[z].cs.length ts[z].c]] V fun e w' => e = .returned (.bool true) ∧ Below V.heap.size V w') := fun V a c hb h => by
                    refine (same_ ts[z].nm ts[z].nm a ts[z].a c ts[z].c ts[z].cs ts[z].cs V h ((HCo.out z hz3).1.on hb) (by omega) (by omega)).mono ?_
                    rintro e w' ⟨r, rfl, hr, hb⟩
                    rw [hr.2 ⟨rfl, rfl⟩]
                    exact ⟨rfl, hb⟩
                  obtain ⟨b1, o1, ela, l0, l1⟩ := HJ.out z hz3
                  have HLa : Hid (∀ V, Below w.heap.size w V → V.cell? ⟨b1, o1 + z * 2, none⟩ = some (.string ts[z].nm) ∧ V.cell? ⟨b1, o1 + z * 2 + 1, none⟩ = some (.slice ts[z].a ts[z].cs.length ts[z].c)) := fun V hb => ⟨(hb.cell (block_lt_of_cell l0)).trans l0, (hb.cell (block_lt_of_cell l1)).trans l1⟩
                  subst ela
                  have hzi1 : (z : Int) < (k : Int) := by omega
                  have hzi2 : ¬ ((z : Int) < 0) := by omega
                  have hzi3 : ¬ ((k : Int) ≤ (z : Int)) := by omega
                  unfold TabTo at HTo
                  generalize ts[z].nm = tn at *
                  generalize ts[z].a = ta at *
                  generalize ts[z].c = tc at *
                  generalize ts[z].cs = tcs at *
                  generalize htl : tcs.length = tl at *
                  have HTl := Lib.hid htl
                  clear hiv hz2 hz3 g1 g2 l0 l1 htl hz1
                  go_wp2_with fail
                  refine HTo.out.mono ?_
                  rintro e w8 ⟨a5, c5, rfl, ⟨hc5, hn5, hna5, hfr5, hfe5⟩, hb8⟩
                  obtain ⟨W9, hW9⟩ : ∃ W9, W9 = w8.alloc (.cells #[.string tn, .slice a5 tl c5] 24) := ⟨_, rfl⟩
                  obtain ⟨B20, hB20⟩ : ∃ B20, w8.heap.size = B20 := ⟨_, rfl⟩
                  have hb9 : Below w8.heap.size w8 W9 := by rw [hW9]; exact below_alloc1 _ _
                  have hT9 : InT W9 B20 tn a5 tl c5 := by rw [hW9, ← hB20]; exact inT_new _ _ _ _ _ _
                  have HT9 := Lib.hid hT9
                  have HW9 := Lib.hid hW9.symm
                  have HD9 := Lib.hid (below_step hb8 hb9)
                  have HB9 := Lib.hid (below_step HBm.out (below_step hb8 hb9))
                  have HC9 := Lib.hid (hc5.on hb9)
                  have HF9 := Lib.hid (hfe5.on hb9)
                  have HA5 : Hid (∀ b o, a5 = some ⟨b, o, none⟩ → w0.heap.size ≤ b ∧ B20 ≠ b) := fun b o e => ⟨hfr5 b o e, by have := (hfe5 b o e).1; omega⟩
                  obtain ⟨t0, t1⟩ := hT9
                  clear hc5 hn5 hna5 hfr5 hfe5 hb8 hW9 hb9 HTo
                  have hla := HLa.out W9 HB9.out
                  go_wp2_with fail
                  rw [HW9.out]
                  clear hB20
                  have HKK : Hid (∀ U V, ((U.cell? ⟨B20, 0, none⟩ = some (.string tn) ∧ U.cell? ⟨B20, 1, none⟩ = some (.slice a5 tl c5)) ∧ U.cell? ⟨b1, o1 + z * 2, none⟩ = some (.string tn) ∧ U.cell? ⟨b1, o1 + z * 2 + 1, none⟩ = some (.slice ta tl tc)) ∧ Below W9.heap.size W9 U → Below U.heap.size U V → ((V.cell? ⟨B20, 0, none⟩ = some (.string tn) ∧ V.cell? ⟨B20, 1, none⟩ = some (.slice a5 tl c5)) ∧ V.cell? ⟨b1, o1 + z * 2, none⟩ = some (.string tn) ∧ V.cell? ⟨b1, o1 + z * 2 + 1, none⟩ = some (.slice ta tl tc)) ∧ Below W9.heap.size W9 V) := fun U V ⟨⟨⟨x0, x1⟩, x2, x3⟩, hb⟩ hbv => ⟨⟨⟨(hbv.cell (block_lt_of_cell x0)).trans x0, (hbv.cell (block_lt_of_cell x1)).trans x1⟩, (hbv.cell (block_lt_of_cell x2)).trans x2, (hbv.cell (block_lt_of_cell x3)).trans x3⟩, below_step hb hbv⟩
                  have HS0 := Lib.hid (HKK.out W9 W9.drew ⟨⟨⟨t0, t1⟩, hla.1, hla.2⟩, Below.refl _ _⟩ (below_drew W9))
                  have HSx : Hid (∀ V, Below W9.heap.size W9 V → Calls Tryd.prog 19 #[.agg #[.string tn, .slice a5 tl c5], .agg #[.string tn, .slice ta tl tc]] V fun e w' => e = .returned (.bool true) ∧ Below V.heap.size V w') := fun V hV => HSm.out V a5 c5 (below_step HB9.out hV) (HC9.out.on hV)
                  clear HSm t0 t1 hla HW9
                  refine wp_region_noPanic ?_
                  go_region_held (fun V => ((V.cell? ⟨B20, 0, none⟩ = some (.string tn) ∧ V.cell? ⟨B20, 1, none⟩ = some (.slice a5 tl c5)) ∧ V.cell? ⟨b1, o1 + z * 2, none⟩ = some (.string tn) ∧ V.cell? ⟨b1, o1 + z * 2 + 1, none⟩ = some (.slice ta tl tc)) ∧ Below W9.heap.size W9 V)
                    (first | (exact HS0.out) | (exact HKK.out _ _ (by assumption) (by assumption)))
                    (first
                      | (go_at_call 19; refine (HSx.out _ (And.right (by assumption))).mono ?_; rintro e w10 ⟨rfl, hb10⟩)
                      | fail)
                  refine NoPanic.normal ?_
                  have hS10 : ((w10.cell? ⟨B20, 0, none⟩ = some (.string tn) ∧ w10.cell? ⟨B20, 1, none⟩ = some (.slice a5 tl c5)) ∧ w10.cell? ⟨b1, o1 + z * 2, none⟩ = some (.string tn) ∧ w10.cell? ⟨b1, o1 + z * 2 + 1, none⟩ = some (.slice ta tl tc)) ∧ Below W9.heap.size W9 w10 := by assumption
                  have HB10 := Lib.hid hS10.2
                  have HT10 : Hid (InT w10 B20 tn a5 tl c5) := hS10.1.1
                  have HF10 := Lib.hid (HF9.out.on hS10.2)
                  have HE10 : Hid (∀ b o, a5 = some ⟨b, o, none⟩ → CellsIn w10 b o tl) := fun b o e => by
                    have := HC9.out
                    rw [e] at this
                    have := cellsIn_of (this.on hS10.2)
                    rw [HTl.out] at this
                    exact this
                  have HP5 : Hid (0 < tl → ∃ b o, a5 = some ⟨b, o, none⟩) := fun hp => by
                    obtain ⟨b, o, e, _⟩ := HC9.out 0 (by rw [HTl.out]; exact hp)
                    exact ⟨b, o, e⟩
                  have HD10 := Lib.hid (below_step HD9.out hS10.2)
                  clear hS10 hb10 HKK HS0 HSx HC9 HF9 HB10 HD9 HT9
                  go_wp2_with fail
                  go_loopw [22] (fun nv wr => ∃ n : Nat, n ≤ tl ∧ nv = .int .i64 n ∧ Hid (InT wr B20 tn a5 tl c5) ∧ Hid (Free wr a5) ∧ Hid (∀ b o, a5 = some ⟨b, o, none⟩ → CellsIn wr b o tl) ∧ Hid (Below w0.heap.size w0 wr)) (fun nv _ => tl - (intOf nv).toNat)
                  case atStart => exact ⟨0, Nat.zero_le _, rfl, HT10, HF10, HE10, HD10⟩
                  case round =>
                    obtain ⟨n, hn, rfl, HTn, HFn, HEn, HDn⟩ := hrel
                    obtain ⟨t0, t1⟩ := HTn.out
                    by_cases hnl : n < tl
                    · have hnl2 : (n : Int) < (tl : Int) := by omega
                      obtain ⟨b, o, rfl⟩ := HP5.out (by omega)
                      obtain ⟨d0, d1, d2, d3⟩ := HEn.out b o rfl n hnl
                      have hst := store_col (g := b) (o := o + n * 4) (x0 := .string ⟨#[]⟩) (x1 := .int .i64 0) (x2 := .bool false) (x3 := .bool false) rfl rfl rfl rfl d0 d1 d2 d3 (HFn.out b o rfl).2
                      have hne := (HA5.out b o rfl).2
                      have hge := (HA5.out b o rfl).1
                      have HT2 : Hid (InT ((((wr.setCell ⟨b, o + n * 4, none⟩ (.string ⟨#[]⟩)).setCell ⟨b, o + n * 4 + 1, none⟩ (.int .i64 0)).setCell ⟨b, o + n * 4 + 2, none⟩ (.bool false)).setCell ⟨b, o + n * 4 + 3, none⟩ (.bool false)) B20 tn (some ⟨b, o, none⟩) tl c5) := ⟨(cell_other hne).trans ((cell_other hne).trans ((cell_other hne).trans ((cell_other hne).trans t0))), (cell_other hne).trans ((cell_other hne).trans ((cell_other hne).trans ((cell_other hne).trans t1)))⟩
                      have HF2 := Lib.hid ((((HFn.out.set ⟨b, o + n * 4, none⟩ (.string ⟨#[]⟩)).set ⟨b, o + n * 4 + 1, none⟩ (.int .i64 0)).set ⟨b, o + n * 4 + 2, none⟩ (.bool false)).set ⟨b, o + n * 4 + 3, none⟩ (.bool false))
                      have HE2 : Hid (∀ b' o', some ⟨b, o, none⟩ = some (⟨b', o', none⟩ : Addr) → CellsIn ((((wr.setCell ⟨b, o + n * 4, none⟩ (.string ⟨#[]⟩)).setCell ⟨b, o + n * 4 + 1, none⟩ (.int .i64 0)).setCell ⟨b, o + n * 4 + 2, none⟩ (.bool false)).setCell ⟨b, o + n * 4 + 3, none⟩ (.bool false)) b' o' tl) := fun b' o' e => ((((HEn.out b' o' e).set).set).set).set
                      have HD2 := Lib.hid ((((HDn.out.setCell (p := ⟨b, o + n * 4, none⟩) hge (.string ⟨#[]⟩)).setCell (p := ⟨b, o + n * 4 + 1, none⟩) hge (.int .i64 0)).setCell (p := ⟨b, o + n * 4 + 2, none⟩) hge (.bool false)).setCell (p := ⟨b, o + n * 4 + 3, none⟩) hge (.bool false))
                      clear d0 d1 d2 d3 hne hge HTn HFn HEn HDn
                      go_wp2_with (first | (refine wpList_store_at rfl _ _ _ rfl _ _ rfl rfl hst ?_; clear hst) | fail)
                      go_roundw
                      case rel => exact ⟨n + 1, by omega, by go_num, HT2, HF2, HE2, HD2⟩
                      case measure => simp [intOf]; omega
                    · obtain rfl : n = tl := by omega
                      have hnn : ¬ ((n : Int) < (n : Int)) := by omega
                      have HCz := Lib.hid (HCm.out.on HDn.out)
                      have HBz := Lib.hid (below_step HBm.out HDn.out)
                      clear HTn HFn HEn HDn
                      go_wp2_with fail
                      go_roundw
                      case rel => exact ⟨m + 1, by omega, by go_num, HCz, HBz⟩
                      case measure => simp [intOf]; omega
              · obtain rfl : m = 2 := by omega
                go_wp2_with fail
                refine (HSu.out _ HBm.out).mono ?_
                rintro e w8 ⟨rfl, hb8⟩
                go_wp2_with fail
                go_ret
                exact ⟨rfl, below_step HBm.out hb8⟩
      · have hz0 : (newE ts == 0) = false := by simpa using hz
        have hz1 : (newE ts != 0) = true := by simpa using hz
        generalize newE ts = Z at *
        have HB2 := Lib.hid (below_step HB.out hb2)
        clear hz hb2 HNx HStr HTb HFar HRf
        go_wp2_with fail
        refine (HRn.out _ HB2.out).mono ?_
        rintro e w3 ⟨rfl, hb3⟩
        have HB3 := Lib.hid (below_step HB2.out hb3)
        have HFn := Lib.hid (findC_nil name w3)
        have HLn : Hid (∀ W, Calls Tryd.prog 26 #[.pointer none] W fun e w' => e = .returned (.int .i64 0) ∧ w' = W) := fun W => lenC_nil W
        clear hb3 HRn HB2
        go_wp2_with fail
        refine HFn.out.mono ?_
        rintro e w4 ⟨rfl, rfl⟩
        have hzz : (Z == Z) = true := by simp
        go_wp2_with fail
        refine (HN1.out _ _ HB3.out).mono ?_
        rintro e w5 ⟨rfl, hb5⟩
        have HB5 := Lib.hid (below_step HB3.out hb5)
        clear hb5 HB3 HFn
        go_wp2_with fail
        refine (HN1.out _ _ HB5.out).mono ?_
        rintro e w6 ⟨rfl, hb6⟩
        have HB6 := Lib.hid (below_step HB5.out hb6)
        clear hb6 HB5 HN1 HN2
        go_wp2_with fail
        refine (HLn.out _).mono ?_
        rintro e w7 ⟨rfl, rfl⟩
        go_wp2_with fail
        refine (HSu.out _ HB6.out).mono ?_
        rintro e w8 ⟨rfl, hb8⟩
        go_wp2_with fail
        go_ret
        exact ⟨rfl, below_step HB6.out hb8⟩
end Go.Proofs.YtlgnllnjhpihdaaDoor
