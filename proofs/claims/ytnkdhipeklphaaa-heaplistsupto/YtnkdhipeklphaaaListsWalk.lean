/- The walk of the law HeapLists. -/
import Derived.Test.YtnkdhipeklphaaaHLs
import Derived.Test.YtnkdhipeklphaaaHRMerge
import Derived.Test.YtnkdhipeklphaaaHRLeast
import Derived.Deep.RegionHeld
namespace Go.Proofs.Ytnkdhipeklphaaa
open Go.RowKit Go.Sort

/-- Lists that are handed in. -/
def LsIn (w : World) (n : Nat) (f : Nat → Value) (ls : Nat → List ByteArray) : Prop := ∀ i, i < n → ∃ a c, f i = .slice a (ls i).length c ∧ Tx w a (ls i) ∧ (ls i).length ≤ c ∧ c ≤ maxLen ∧ (a = none → c = 0)
theorem LsIn.on {w w' : World} {n : Nat} {f : Nat → Value} {ls : Nat → List ByteArray} (h : LsIn w n f ls) (hb : Below w.heap.size w w') : LsIn w' n f ls := by
  intro i hi
  obtain ⟨a, c, e, h1, h2⟩ := h i hi
  exact ⟨a, c, e, h1.on hb, h2⟩
theorem LsIn.txS {w : World} {n : Nat} {f : Nat → Value} {ls : Nat → List ByteArray} (h : LsIn w n f ls) : ∀ i, i < n → TxS w (f i) (ls i) := by
  intro i hi
  obtain ⟨a, c, e, h1, h2, h3, _⟩ := h i hi
  exact ⟨a, c, e, h1, h2, h3⟩
/-- The copies merged. -/
theorem merge_mine {w0 w : World} {B n : Nat} {ls : Nat → List ByteArray} {mv fv : Value} {es : List ByteArray} {f : Nat → Value} (h : LSt w0 w B n ls mv fv es f) (h0 : n = 0 → mv = .slice none 0 0) (hn : n ≤ 50) (htot : tot ls n ≤ 1048576) :
    Calls Try.prog 6 #[mv] w fun e w' => (∃ v out, e = .returned v ∧ OwnT w' w.heap.size v out ∧ Mg n ls out) ∧ Below w.heap.size w w' := by
  by_cases hz : n = 0
  · obtain rfl := h0 hz
    subst hz
    refine (merge_nil w).mono ?_
    rintro e w' ⟨rfl, hb⟩
    exact ⟨⟨_, [], rfl, ownT_nil _ _, Mg.done (fun i hi => by omega)⟩, hb⟩
  · obtain ⟨g, cap, rfl, hc⟩ := h.row (by omega)
    exact merge_ g 0 n cap f ls w (by omega) (by omega) hc (fun i hi => (h.2.1 i hi).1.txS) (by omega)
set_option maxRecDepth 100000 in
set_option maxHeartbeats 4000000 in
theorem law_lists (a : Option Addr) (N c : Nat) (z : Int) (f : Nat → Value) (ls : Nat → List ByteArray) (w : World) (hat : LsAt w a N f) (hin : LsIn w N f ls) (htot : tot ls N ≤ 1048576) :
    Calls Try.prog 3 #[.slice a N c, .int .i64 z] w fun e w' => e = .returned (.bool true) ∧ Below w.heap.size w w' := by
  obtain ⟨i0, hi, hz0, hz1, hz2⟩ := info_parts info23
  have HAT := Lib.hid hat
  have HIN := Lib.hid hin
  have HTOT := Lib.hid htot
  obtain ⟨M, hM⟩ : ∃ M, M = min N 50 := ⟨_, rfl⟩
  have HM := Lib.hid hM
  have hM50 : M ≤ 50 := by omega
  have hMN : M ≤ N := by omega
  clear hat hin htot hM
  go_enter Try.func3, Try.ntmps3
  go_wp2_with fail
  go_loopw [5, 6, 7] (fun mv fv iv wr => ∃ i : Nat, i ≤ M ∧ iv = .int .i64 i ∧ Hid ((i = 0 → mv = .slice none 0 0) ∧ ∃ f', LSt w wr w.heap.size i ls mv fv (cat ls i) f')) (fun _ _ iv _ => M - (intOf iv).toNat)
  case atStart => exact ⟨0, Nat.zero_le _, rfl, fun _ => rfl, _, lst_start w ls⟩
  case round =>
    obtain ⟨i, hiM, rfl, H⟩ := hrel
    obtain ⟨h0, f', hst⟩ := H.out
    have HST := Lib.hid hst
    have HBW := Lib.hid hst.2.2.2.1
    by_cases hlt : i < M
    · have hlt2 : (i : Int) < (N : Int) := by omega
      have hlt3 : (i : Int) < 50 := by omega
      obtain ⟨b, o, rfl, q0⟩ := (HAT.out.on HBW.out) i (by omega)
      obtain ⟨a1, c1, ef, htx, _, _, hnil⟩ := (HIN.out.on HBW.out) i (by omega)
      rw [ef] at q0
      have HTX := Lib.hid htx
      have HNIL := Lib.hid hnil
      have HLN : Hid (tot ls i + (ls i).length ≤ 1048576) := by
        have h1 : tot ls (i + 1) ≤ tot ls N := tot_mono ls (by omega)
        have h2 : tot ls (i + 1) = tot ls i + (ls i).length := rfl
        have := HTOT.out
        show tot ls i + (ls i).length ≤ 1048576
        omega
      obtain ⟨L1, hL1⟩ : ∃ L1, L1 = (ls i).length := ⟨_, rfl⟩
      rw [← hL1] at q0
      have HL1 := Lib.hid hL1
      clear h0 hst H ef htx hnil hL1
      go_wp2_with (first
        | (at_builtin; refine wpList_append_texts2 wr rfl _ _ rfl wr.heap.size (.slice none 0 0) [] (ls i) rfl (ownT_nil _ _) a1 L1 c1 rfl HL1.out.symm HNIL.out HTX.out (by have := HLN.out; simp only [List.length_nil]; omega) (Nat.le_refl _) ?_)
        | fail)
      intro m w1 hm1 hg1 _
      have hb1 : Below wr.heap.size wr w1 := (Below.refl _ _).grown hg1 (Nat.le_refl _) (fun k hk => by cases hk)
      replace hm1 : OwnT w1 wr.heap.size m (ls i) := hm1
      obtain ⟨am, cm, rfl, _, _, _, _⟩ := hm1.shape
      rw [← HL1.out]
      rw [← HL1.out] at hm1
      have HM1 := Lib.hid hm1
      have HB1 := Lib.hid hb1
      have HMO : Hid (∀ u ∈ [Value.slice am L1 cm], u.oneCell' = true) := fun u hu => by simp at hu; subst hu; rfl
      have q1 := (hb1.cell (block_lt_of_cell q0)).trans q0
      clear hm1 hg1 hb1 q0
      go_wp2_with (first
        | (at_builtin; refine wpList_append_own _ rfl _ _ 22 rfl w.heap.size 23 i0 (.slice none 0 0) 1 24 Try.underlying22 hi hz0 hz1 hz2 rfl (by decide) _ _ _ rfl (World.ownsRow.alloc (owns_on2 HST.out.1 HB1.out) _) ⟨w1.heap.size, 0, none⟩ 1 1 [.slice am L1 cm] rfl rfl (one_cell _ _ _) HMO.out (by unfold maxLen; omega) (by omega) (by have h1 := HBW.out.size; have h2 := HB1.out.size; simp; omega) ?_)
        | fail)
      intro mv2 w2 hown2 hgrow2 _
      have HST2 := Lib.hid (lst_copy HST.out HM1.out HB1.out hown2 hgrow2)
      have HT2 := Lib.hid ((HIN.out.on HST2.out.2.2.2.1) i (by omega))
      clear hown2 hgrow2
      obtain ⟨b', o', e', q2⟩ := (HAT.out.on HST2.out.2.2.2.1) i (by omega)
      cases e'
      obtain ⟨a2, c2, ef, htx, _, _, hnil⟩ := HT2.out
      rw [ef, ← HL1.out] at q2
      have HTX2 := Lib.hid htx
      have HNIL2 := Lib.hid hnil
      have hcl : (cat ls i).length = tot ls i := cat_len ls i
      clear ef htx hnil HT2 HST HM1 HB1 HMO HTX HNIL q1
      go_wp2_with (first
        | (at_builtin; refine wpList_append_texts2 w2 rfl _ _ rfl w.heap.size u6 (cat ls i) (ls i) rfl HST2.out.2.2.1 a2 L1 c2 rfl HL1.out.symm HNIL2.out HTX2.out (by have := HLN.out; rw [hcl]; omega) HST2.out.2.2.2.1.size ?_)
        | fail)
      intro fv3 w3 hown3 hgrow3 hw3
      have HE : Hid ((i + 1 = 0 → mv2 = .slice none 0 0) ∧ ∃ f', LSt w w3 w.heap.size (i + 1) ls mv2 fv3 (cat ls (i + 1)) f') := ⟨fun hh => by omega, _, lst_first HST2.out hown3 hgrow3 hw3⟩
      clear hown3 hgrow3 hw3 HST2 HTX2 HNIL2
      go_wp2_with fail
      go_roundw
      case rel => exact ⟨i + 1, by omega, by go_num, HE.out⟩
      case measure => simp [intOf]; omega
    · obtain rfl : i = M := by omega
      by_cases hN : 50 < N
      · have e50 : i = 50 := by have := HM.out; omega
        subst e50
        have h1 : (50 : Int) < (N : Int) := by omega
        have h2 : ¬ (50 : Int) < 50 := by omega
        have h3 : ((50 : Nat) : Int) = 50 := rfl
        rw [h3]
        clear h0 hst H HST HM hM50 hMN hlt hiM
        go_wp2_with fail
        refine (sure_ wr).mono ?_
        rintro e w5 ⟨rfl, hb5⟩
        have HB5 := Lib.hid (below_step HBW.out hb5)
        clear hb5
        go_wp2_with fail
        go_ret
        exact ⟨rfl, HB5.out⟩
      · obtain rfl : i = N := by have := HM.out; omega
        have h1 : ¬ (i : Int) < (i : Int) := by omega
        have h2 : ¬ (50 : Int) < (i : Int) := by omega
        have h3 : ¬ 50 < i := hN
        obtain ⟨E, hE⟩ : ∃ E, E = cat ls i := ⟨_, rfl⟩
        rw [← hE] at hst
        have hEl : E.length ≤ 1048576 := by rw [hE, cat_len]; exact HTOT.out
        have HMG := Lib.hid (merge_mine hst h0 (by omega) HTOT.out)
        obtain ⟨af, cf, rfl, htf, _, _, hshf⟩ := hst.2.2.1.shape
        have HNF : Hid (af = none → cf = 0) := fun hh => by
          rcases hshf with ⟨_, k, _⟩ | ⟨g, k⟩
          · exact k
          · rw [hh] at k; cases k
        have HTF := Lib.hid htf
        have HS2 := Lib.hid hst
        obtain ⟨L, hL⟩ : ∃ L, L = E.length := ⟨_, rfl⟩
        rw [← hL] at hEl
        rw [← hL]
        have HL := Lib.hid hL
        clear h0 hst H HST HM hM50 hMN hlt hiM htf hshf hL hE hN
        go_wp2_with fail
        refine HMG.out.mono ?_
        rintro e w1 ⟨⟨v1, out, rfl, hown1, hmg1⟩, hb1⟩
        have HO1 := Lib.hid hown1
        have HG1 := Lib.hid hmg1
        have HB1 := Lib.hid hb1
        have HTF1 := Lib.hid (HTF.out.on hb1)
        clear hown1 hmg1 hb1 HMG
        go_wp2_with (first
          | (at_builtin; refine wpList_append_texts w1.heap.size _ w1 rfl _ _ rfl (.slice none 0 0) [] E rfl (ownT_nil _ _) af L cf rfl HL.out.symm HNF.out HTF1.out (by rw [← HL.out]; simp; omega) (Nat.le_refl _) (Below.refl _ _) ?_)
          | fail)
        intro v2 w2 hown2 hb2
        replace hown2 : OwnT w2 w1.heap.size v2 E := hown2
        obtain ⟨a2, c2, rfl, ht2, _, _, _⟩ := hown2.shape
        obtain ⟨g, hg⟩ : ∃ g : Nat → ByteArray, g = fun j => E.getD j ⟨#[]⟩ := ⟨_, rfl⟩
        obtain ⟨m, hm⟩ : ∃ m : Nat, m = (min z (L : Int)).toNat := ⟨_, rfl⟩
        have HLE := Lib.hid (least_ a2 L c2 z g w2 (by rw [hg, HL.out]; exact ht2) (by omega) m hm (lst g L) rfl)
        have HLM := Lib.hid hm
        have HG := Lib.hid hg
        rw [← HL.out]
        have HB2 := Lib.hid hb2
        clear hb2 hown2 ht2 hm hg
        go_wp2_with fail
        refine HLE.out.mono ?_
        rintro e w3 ⟨⟨v3, rfl, hown3⟩, hb3⟩
        have HO3 := Lib.hid hown3
        have hb13 : Below w1.heap.size w1 w3 := below_step HB2.out hb3
        have HO13 := Lib.hid (HO1.out.on hb13)
        have HS3 := Lib.hid (HS2.out.on (below_step HB1.out hb13))
        have HB3 : Hid (Below w.heap.size w w3) := HS3.out.2.2.2.1
        clear hb3 hb13 hown3 HLE HO1 HB1 HB2 HTF HTF1 HS2
        go_wp2_with fail
        go_loopw [12] (fun iv wq => ∃ j : Nat, j ≤ i ∧ iv = .int .i64 j ∧ Hid (Below w3.heap.size w3 wq)) (fun iv _ => i - (intOf iv).toNat)
        case atStart => exact ⟨0, Nat.zero_le _, rfl, Below.refl _ _⟩
        case round =>
          obtain ⟨j, hji, rfl, HQ⟩ := hrel
          obtain ⟨W, hW⟩ : ∃ W, W = wr := ⟨_, rfl⟩
          rw [← hW]
          rw [← hW] at HQ
          have HBQ := Lib.hid (below_step HB3.out HQ.out)
          clear hW
          by_cases hjlt : j < i
          · have hj2 : (j : Int) < (i : Int) := by omega
            have hSQ := HS3.out.on HQ.out
            obtain ⟨gm, cm, rfl, hcm⟩ := hSQ.row (by omega)
            have p0 := hcm j hjlt
            obtain ⟨a4, c4, e4, ht4, _⟩ := (hSQ.2.1 j hjlt).1.shape
            obtain ⟨b, o, rfl, p1⟩ := (HAT.out.on HBQ.out) j hjlt
            obtain ⟨a5, c5, e5, ht5, _⟩ := (HIN.out.on HBQ.out) j hjlt
            have hl5 : (ls j).length ≤ 1048576 := Nat.le_trans (tot_one ls hjlt) HTOT.out
            rw [e4, Nat.zero_add] at p0
            rw [e5] at p1
            have C1 : Hid (∀ V, Below W.heap.size W V → Calls Try.prog 8 #[.slice a4 (ls j).length c4, .slice a5 (ls j).length c5] V fun e w' => e = .returned (.bool true) ∧ Below V.heap.size V w') := fun V hV => texts_ a4 a5 _ c4 c5 (ls j) V rfl (ht4.on hV) (ht5.on hV) (by omega)
            have P0 : ∀ V, Below W.heap.size W V → V.cell? ⟨gm, j, none⟩ = some (.slice a4 (ls j).length c4) := fun V hV => (hV.cell (block_lt_of_cell p0)).trans p0
            have P1 : ∀ V, Below W.heap.size W V → V.cell? ⟨b, o + j, none⟩ = some (.slice a5 (ls j).length c5) := fun V hV => (hV.cell (block_lt_of_cell p1)).trans p1
            clear hSQ hcm p0 p1 e4 e5 ht4 ht5 hl5 HO13 HS3 HG1 HO3 HAT HIN HTOT
            generalize (ls j).length = Lj at *
            go_wp2_with fail
            refine wp_region_noPanic ?_
            go_region_held (fun V => Below W.heap.size W V) (first | assumption | exact below_drew _ | exact below_step (by assumption) (by assumption))
              (first | (go_at_call 8; refine (C1.out _ (by assumption)).mono ?_; rintro e w' ⟨rfl, hb⟩))
            refine NoPanic.normal ?_
            rename World => W5
            have hbE : Below W.heap.size W W5 := by assumption
            have HE := Lib.hid (below_step HQ.out hbE)
            clear hbE P0 P1 C1
            go_wp2_with fail
            go_roundw
            case rel => exact ⟨j + 1, by omega, by go_num, HE⟩
            case measure => simp [intOf]; omega
          · obtain rfl : j = i := by omega
            have HR := Lib.hid (rmerge_ a j c f ls W (by omega) (HAT.out.on HBQ.out) (HIN.out.on HBQ.out).txS (by have := HTOT.out; omega) (fun k hk => by have := tot_one ls hk; have := HTOT.out; omega))
            clear h1 h2 h3
            have h1 : ¬ (j : Int) < (j : Int) := by omega
            go_wp2_with fail
            refine HR.out.mono ?_
            rintro e w5 ⟨⟨v5, out5, rfl, hown5, hmg5⟩, hb5⟩
            obtain rfl : out5 = out := hmg5.one HG1.out
            have hol : out5.length ≤ 1048576 := by rw [hmg5.len]; exact HTOT.out
            obtain ⟨a5, c5, rfl, ht5, _⟩ := hown5.shape
            obtain ⟨a1, c1, rfl, ht1, _⟩ := HO13.out.shape
            have HTX := Lib.hid (texts_ a1 a5 _ c1 c5 out5 w5 rfl (ht1.on (below_step HQ.out hb5)) ht5 (by omega))
            obtain ⟨lo, hlo⟩ : ∃ lo, lo = out5.length := ⟨_, rfl⟩
            rw [← hlo]
            rw [← hlo] at HTX
            have HB5 := Lib.hid (below_step HQ.out hb5)
            clear hown5 hmg5 hb5 ht5 ht1 hol hlo HO13 HG1 HR HQ HBQ
            go_wp2_with fail
            refine HTX.out.mono ?_
            rintro e w6 ⟨rfl, hb6⟩
            have HB6 := Lib.hid (below_step HB5.out hb6)
            obtain ⟨af', cf', ef', htf, _⟩ := (HS3.out.2.2.1.on HB6.out).shape
            cases ef'
            have HRL := Lib.hid (rleast_ af L cf z g w6 (by rw [HG.out, HL.out]; exact htf) (by omega) m HLM.out)
            clear hb6 HTX HB5 htf
            go_wp2_with fail
            refine HRL.out.mono ?_
            rintro e w7 ⟨⟨v7, rfl, hown7⟩, hb7⟩
            obtain ⟨a7, c7, rfl, hn7⟩ := hown7.nx
            obtain ⟨a3, c3, rfl, hn3⟩ := (HO3.out.on (below_step HB6.out hb7)).nx
            have HIX := Lib.hid (ints_ a3 a7 _ c3 c7 _ w7 rfl hn3 hn7 (by rw [ids_len (by rw [len_lst]; have := HLM.out; omega)]; have := HLM.out; omega))
            obtain ⟨lo2, hlo2⟩ : ∃ lo2, lo2 = (ids (lst g L) m).length := ⟨_, rfl⟩
            rw [← hlo2]
            rw [← hlo2] at HIX
            have HB7 := Lib.hid (below_step (below_step HB3.out HB6.out) hb7)
            clear hown7 hb7 hn7 hn3 hlo2 HRL HB6 HO3
            go_wp2_with fail
            refine HIX.out.mono ?_
            rintro e w8 ⟨rfl, hb8⟩
            have HB8 := Lib.hid (below_step HB7.out hb8)
            clear hb8 HIX HB7
            go_wp2_with fail
            refine (sure_ w8).mono ?_
            rintro e w9 ⟨rfl, hb9⟩
            have HB9 := Lib.hid (below_step HB8.out hb9)
            clear hb9
            go_wp2_with fail
            go_ret
            exact ⟨rfl, HB9.out⟩
end Go.Proofs.Ytnkdhipeklphaaa
