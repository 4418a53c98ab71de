/- The walk of lex.Print. -/
import Derived.Test.YtfmpnakonffkcaaDoorLxPrint2
namespace Go.Proofs.YtfmpnakonffkcaaDoor
open Go.RowKit Go.Sort

theorem all_take {ts : List Tk} {p : Tk → Bool} (h : ∀ j (hj : j < ts.length), p ts[j] = true) : ts.all p = true := by
  rw [List.all_eq_true]
  intro x hx
  obtain ⟨j, hj, rfl⟩ := List.getElem_of_mem hx
  exact h j hj
theorem all_not {ts : List Tk} {p : Tk → Bool} {i : Nat} (hi : i < ts.length) (h : p ts[i] = false) : ts.all p = false := by
  rw [List.all_eq_false]
  exact ⟨ts[i], List.getElem_mem _, by rw [h]; decide⟩
/-- A token that is handed in may be told: its number is an int, its text not too long. -/
def FitT (t : Tk) : Prop := inI t.n ∧ t.tx.size ≤ 1048576
set_option maxRecDepth 100000 in
set_option maxHeartbeats 4000000 in
theorem print_ (a : Option Addr) (c : Nat) (ts : List Tk) (w : World) (ha : TksIn w a ts) (hl : ts.length ≤ 1048576) (hf : ∀ t ∈ ts, FitT t) (hE : Env w) :
    Calls Tryd.prog 6 #[.slice a ts.length c] w fun e w' => e = .returned (prnV ts) ∧ Below w.heap.size w w' := by
  have HI := Lib.hid ha
  have HEv := Lib.hid hE
  have HF := Lib.hid hf
  have hjl : (joinB ts).length ≤ 4000000000000 := by
    have := joinB_len 2097200 ts (fun t ht => by have h1 := toldL_len (hf t ht).1; have h2 := (hf t ht).2; omega)
    have : ts.length * 2097200 ≤ 1048576 * 2097200 := Nat.mul_le_mul_right _ hl
    omega
  obtain ⟨L, hL⟩ : ∃ L, ts.length = L := ⟨_, rfl⟩
  have HL := Lib.hid hL
  rw [hL] at hl ⊢
  have HJl := Lib.hid hjl
  have HYes : Hid ((∀ j (hj : j < ts.length), canL ts[j] = true) → prnV ts = .tuple #[.string (ofL (joinB ts)), .nilIface]) := fun h => by
    rw [prnV, if_pos (all_take h)]
  have HNo : Hid (∀ i (hi : i < ts.length), canL ts[i] = false → prnV ts = .tuple #[.string ⟨#[]⟩, .iface 37 (.int .i64 3)]) := fun i hi h => by
    rw [prnV, if_neg (by rw [all_not hi h]; decide)]
  clear ha hf hE hL hjl
  go_enter Tryd.func6, Tryd.ntmps6
  go_wp2_with fail
  go_loopw [4, 13] (fun lv iv wr => ∃ i : Nat, i ≤ L ∧ iv = .int .i64 i ∧ Hid (OwnS wr w.heap.size lv ((ts.take i).map toldL)) ∧ Hid (Below w.heap.size w wr) ∧ Hid (∀ j (hj : j < ts.length), j < i → canL ts[j] = true)) (fun _ iv _ => L - (intOf iv).toNat)
  case atStart => exact ⟨0, Nat.zero_le _, rfl, ownS_nil _ _, Below.refl _ _, fun j _ hj => by omega⟩
  case round =>
    obtain ⟨i, hi, rfl, HO, HB, HV⟩ := hrel
    by_cases hlt : i < L
    · have hlt2 : (i : Int) < (L : Int) := by omega
      have hi2 : i < ts.length := by rw [HL.out]; exact hlt
      obtain ⟨b, o, rfl, k, tx, n, p, hvi, p0, p1, p2, p3⟩ := TksIn.get (HI.out.on HB.out) i hi2
      simp only at p0 p1 p2 p3
      have hfit := HF.out _ (List.getElem_mem hi2)
      rw [hvi] at hfit
      obtain ⟨B1, hB1⟩ : ∃ B1, wr.alloc (.cells #[.int .i64 k, .string tx, .int .i64 n, .int .i64 p] 34) = B1 := ⟨_, rfl⟩
      have hb1 : Below w.heap.size w B1 := by rw [← hB1]; exact below_step HB.out (below_alloc1 _ _)
      have HB1 := Lib.hid (And.intro hB1 hb1)
      have HTo : Hid (Calls Tryd.prog 11 #[.agg #[.int .i64 k, .string tx, .int .i64 n, .int .i64 p]] B1 fun e w' => e = .returned (.string (ofL (toldL ⟨k, tx, n, p⟩))) ∧ Below B1.heap.size B1 w') := told_ k tx n p B1 hfit.1 (by have := hfit.2; simp only at this; omega) (HEv.out.on hb1)
      have hsz : (ofL (toldL ⟨k, tx, n, p⟩)).size ≤ 1000000000 := by
        have h1 := toldL_len hfit.1; have h2 := hfit.2
        simp only at h1 h2
        rw [size_lst, lst_ofL]; omega
      have HFi : Hid (∀ W, Below w.heap.size w W → Calls Tryd.prog 10 #[.string (ofL (toldL ⟨k, tx, n, p⟩))] W fun e w' => e = .returned (gotV (first (toldL ⟨k, tx, n, p⟩))) ∧ Below W.heap.size W w') := fun W hW => first_ _ W hsz (HEv.out.on hW)
      have hin1 : InT B1 wr.heap.size 0 ⟨k, tx, n, p⟩ := by rw [← hB1]; exact inT_new wr ⟨k, tx, n, p⟩ _
      have HIn1 := Lib.hid hin1
      have hcan : canL ⟨k, tx, n, p⟩ = (((first (toldL ⟨k, tx, n, p⟩)).e == 0) && (((first (toldL ⟨k, tx, n, p⟩)).s == (toldL ⟨k, tx, n, p⟩).length) && sameB (first (toldL ⟨k, tx, n, p⟩)).t ⟨k, tx, n, p⟩)) := rfl
      have HTk : Hid ((ts.take (i + 1)).map toldL = (ts.take i).map toldL ++ [toldL ⟨k, tx, n, p⟩]) := by
        show _ = _
        rw [List.take_succ_eq_append_getElem hi2, List.map_append, hvi]; rfl
      have hps : (ofL (toldL ⟨k, tx, n, p⟩)).size = (toldL ⟨k, tx, n, p⟩).length := by rw [size_lst, lst_ofL]
      have HCv : Hid (canL ⟨k, tx, n, p⟩ = true → ∀ j (hj : j < ts.length), j < i + 1 → canL ts[j] = true) := fun h j hj hji => by
        rcases Nat.lt_or_ge j i with hh | hh
        · exact HV.out j hj hh
        · obtain rfl : j = i := by omega
          rw [hvi]; exact h
      have HCn : Hid (canL ⟨k, tx, n, p⟩ = false → prnV ts = .tuple #[.string ⟨#[]⟩, .iface 37 (.int .i64 3)]) := fun h => HNo.out i hi2 (by rw [hvi]; exact h)
      have hlen : (((ts.take i).map toldL).length + 1) * 16 ≤ 140737488355328 := by rw [List.length_map, List.length_take]; omega
      generalize canL ⟨k, tx, n, p⟩ = CL at *
      generalize hPL : toldL ⟨k, tx, n, p⟩ = PL at *
      obtain ⟨gT, hgT⟩ : ∃ g, (first PL).t = g := ⟨_, rfl⟩
      obtain ⟨gS, hgS⟩ : ∃ g, (first PL).s = g := ⟨_, rfl⟩
      obtain ⟨gE, hgE⟩ : ∃ g, (first PL).e = g := ⟨_, rfl⟩
      rw [hgT, hgS, hgE] at hcan
      have hgv : gotV (first PL) = .tuple #[.agg #[.int .i64 gT.k, .string gT.tx, .int .i64 gT.n, .int .i64 gT.p], .int .i64 (gS : Int), errV 37 gE] := by
        rw [gotV, hgT, hgS, hgE]; rfl
      rw [hgv] at HFi
      have HSm : Hid (∀ W, Calls Tryd.prog 12 #[.agg #[.int .i64 gT.k, .string gT.tx, .int .i64 gT.n, .int .i64 gT.p], .agg #[.int .i64 k, .string tx, .int .i64 n, .int .i64 p]] W fun e w' => e = .returned (.bool (sameB gT ⟨k, tx, n, p⟩)) ∧ Below W.heap.size W w') := fun W => same1_ gT ⟨k, tx, n, p⟩ W
      generalize sameB gT ⟨k, tx, n, p⟩ = sb at *
      obtain ⟨PS, hPS⟩ : ∃ q, (ofL PL).size = q := ⟨_, rfl⟩
      rw [hPS] at hps
      rw [← hps] at hcan
      clear hps hgv hgT hgS hgE hPL hvi hfit hin1 hB1 hb1 HV HYes HNo
      by_cases hE0 : gE = 0
      · have heV : errV 37 gE = .nilIface := by rw [errV, if_pos hE0]
        rw [heV] at HFi
        by_cases hS0 : gS = PS
        · have hne : ((gS : Int) != (PS : Int)) = false := by rw [hS0]; simp
          cases hsb : sb with
          | true =>
            rw [hsb] at HSm
            have HV2 := Lib.hid (HCv.out (by rw [hcan, hE0, hS0, hsb]; simp))
            clear HCv HCn hcan hsb hE0 hS0 heV
            go_wp2_with fail
            rw [HB1.out.1]
            refine HTo.out.mono ?_
            rintro e w2 ⟨rfl, hb2⟩
            have HB2 := Lib.hid (below_step HB1.out.2 hb2)
            have HIn2 := Lib.hid (HIn1.out.on hb2)
            have HO2 := Lib.hid ((HO.out.on (show Below wr.heap.size wr B1 by rw [← HB1.out.1]; exact below_alloc1 _ _)).on hb2)
            clear hb2 HTo
            go_wp2_with fail
            refine (HFi.out _ HB2.out).mono ?_
            rintro e w3 ⟨rfl, hb3⟩
            have HB3 := Lib.hid (below_step HB2.out hb3)
            have HO3 := Lib.hid (HO2.out.on hb3)
            have q := (HIn2.out.on hb3).on (below_alloc1 w3 (.cells #[.int .i64 gT.k, .string gT.tx, .int .i64 gT.n, .int .i64 gT.p] 34))
            obtain ⟨q0, q1, q2, q3⟩ := q
            simp only [Nat.zero_add] at q0 q1 q2 q3
            clear hb3 HFi HO2 HIn2
            go_wp2_with fail
            refine (HSm.out _).mono ?_
            rintro e w4 ⟨rfl, hb4⟩
            have HB4 := Lib.hid (below_step (below_step HB3.out (below_alloc1 w3 (.cells #[.int .i64 gT.k, .string gT.tx, .int .i64 gT.n, .int .i64 gT.p] 34))) hb4)
            have HO4 := Lib.hid ((HO3.out.on (below_alloc1 w3 (.cells #[.int .i64 gT.k, .string gT.tx, .int .i64 gT.n, .int .i64 gT.p] 34))).on hb4)
            clear hb4 HSm q0 q1 q2 q3 HO3
            go_wp2_with (first
              | (at_builtin; refine wpList_append_lit w.heap.size _ w rfl _ _ rfl _ ((ts.take i).map toldL) rfl (HO4.out.on (below_alloc1 _ _)) _ PL rfl (by simp [go_sem, ofL]) hlen (Nat.le_refl _) (below_step HB4.out (below_alloc1 _ _)) ?_
                 intro v' w5 hown hb5
                 rw [← HTk.out] at hown
                 have HO5 := Lib.hid hown
                 have HB5 := Lib.hid hb5
                 clear hown hb5 HO4)
              | fail)
            go_roundw
            case rel => exact ⟨i + 1, by omega, by go_num, HO5, HB5, HV2⟩
            case measure => simp [intOf]; omega
          | false =>
            rw [hsb] at HSm
            have hCn := HCn.out (by rw [hcan, hsb]; simp)
            clear HCv HCn hcan hsb hE0 hS0 heV
            go_wp2_with fail
            rw [HB1.out.1]
            refine HTo.out.mono ?_
            rintro e w2 ⟨rfl, hb2⟩
            have HB2 := Lib.hid (below_step HB1.out.2 hb2)
            have HIn2 := Lib.hid (HIn1.out.on hb2)
            have HO2 := Lib.hid ((HO.out.on (show Below wr.heap.size wr B1 by rw [← HB1.out.1]; exact below_alloc1 _ _)).on hb2)
            clear hb2 HTo
            go_wp2_with fail
            refine (HFi.out _ HB2.out).mono ?_
            rintro e w3 ⟨rfl, hb3⟩
            have HB3 := Lib.hid (below_step HB2.out hb3)
            have HO3 := Lib.hid (HO2.out.on hb3)
            have q := (HIn2.out.on hb3).on (below_alloc1 w3 (.cells #[.int .i64 gT.k, .string gT.tx, .int .i64 gT.n, .int .i64 gT.p] 34))
            obtain ⟨q0, q1, q2, q3⟩ := q
            simp only [Nat.zero_add] at q0 q1 q2 q3
            clear hb3 HFi HO2 HIn2
            go_wp2_with fail
            refine (HSm.out _).mono ?_
            rintro e w4 ⟨rfl, hb4⟩
            have HB4 := Lib.hid (below_step (below_step HB3.out (below_alloc1 w3 (.cells #[.int .i64 gT.k, .string gT.tx, .int .i64 gT.n, .int .i64 gT.p] 34))) hb4)
            have HO4 := Lib.hid ((HO3.out.on (below_alloc1 w3 (.cells #[.int .i64 gT.k, .string gT.tx, .int .i64 gT.n, .int .i64 gT.p] 34))).on hb4)
            clear hb4 HSm q0 q1 q2 q3 HO3
            go_wp2_with fail
            refine bodyPost_ret (v := .tuple #[.string ⟨#[]⟩, .iface 37 (.int .i64 3)]) ?_ rfl ⟨by rw [hCn], HB4.out⟩
            simp [results, Tryd.results6, go_sem]
        · have hne : ((gS : Int) != (PS : Int)) = true := by simp; omega
          have hCn := HCn.out (by rw [hcan]; simp [hS0])
          clear HCv HCn hcan hE0 hS0 heV HSm
          go_wp2_with fail
          rw [HB1.out.1]
          refine HTo.out.mono ?_
          rintro e w2 ⟨rfl, hb2⟩
          have HB2 := Lib.hid (below_step HB1.out.2 hb2)
          have HIn2 := Lib.hid (HIn1.out.on hb2)
          have HO2 := Lib.hid ((HO.out.on (show Below wr.heap.size wr B1 by rw [← HB1.out.1]; exact below_alloc1 _ _)).on hb2)
          clear hb2 HTo
          go_wp2_with fail
          refine (HFi.out _ HB2.out).mono ?_
          rintro e w3 ⟨rfl, hb3⟩
          have HB3 := Lib.hid (below_step HB2.out hb3)
          have HO3 := Lib.hid (HO2.out.on hb3)
          have q := (HIn2.out.on hb3).on (below_alloc1 w3 (.cells #[.int .i64 gT.k, .string gT.tx, .int .i64 gT.n, .int .i64 gT.p] 34))
          obtain ⟨q0, q1, q2, q3⟩ := q
          simp only [Nat.zero_add] at q0 q1 q2 q3
          clear hb3 HFi HO2 HIn2
          go_wp2_with fail
          refine bodyPost_ret (v := .tuple #[.string ⟨#[]⟩, .iface 37 (.int .i64 3)]) ?_ rfl ⟨by rw [hCn], below_step HB3.out (below_alloc1 _ _)⟩
          simp [results, Tryd.results6, go_sem]
      · have heV : errV 37 gE = .iface 37 (.int .i64 gE) := by rw [errV, if_neg hE0]
        rw [heV] at HFi
        have hCn := HCn.out (by rw [hcan]; simp [hE0])
        clear HCv HCn hcan hE0 heV HSm
        go_wp2_with fail
        rw [HB1.out.1]
        refine HTo.out.mono ?_
        rintro e w2 ⟨rfl, hb2⟩
        have HB2 := Lib.hid (below_step HB1.out.2 hb2)
        have HIn2 := Lib.hid (HIn1.out.on hb2)
        have HO2 := Lib.hid ((HO.out.on (show Below wr.heap.size wr B1 by rw [← HB1.out.1]; exact below_alloc1 _ _)).on hb2)
        clear hb2 HTo
        go_wp2_with fail
        refine (HFi.out _ HB2.out).mono ?_
        rintro e w3 ⟨rfl, hb3⟩
        have HB3 := Lib.hid (below_step HB2.out hb3)
        have HO3 := Lib.hid (HO2.out.on hb3)
        have q := (HIn2.out.on hb3).on (below_alloc1 w3 (.cells #[.int .i64 gT.k, .string gT.tx, .int .i64 gT.n, .int .i64 gT.p] 34))
        obtain ⟨q0, q1, q2, q3⟩ := q
        simp only [Nat.zero_add] at q0 q1 q2 q3
        clear hb3 HFi HO2 HIn2
        go_wp2_with fail
        refine bodyPost_ret (v := .tuple #[.string ⟨#[]⟩, .iface 37 (.int .i64 3)]) ?_ rfl ⟨by rw [hCn], below_step HB3.out (below_alloc1 _ _)⟩
        simp [results, Tryd.results6, go_sem]
    · obtain rfl : i = L := by omega
      have hlt2 : ¬ ((i : Int) < (i : Int)) := by omega
      have HY := Lib.hid (HYes.out (fun j hj => HV.out j hj (by rw [← HL.out]; exact hj)))
      have htk : ts.take i = ts := List.take_of_length_le (by rw [HL.out]; exact Nat.le_refl _)
      rw [htk] at HO
      clear HYes HNo HV htk
      by_cases h0 : i = 0
      · have hnil : ts = [] := List.eq_nil_of_length_eq_zero (by rw [HL.out]; exact h0)
        subst hnil
        have hL0 : i = 0 := h0
        subst hL0
        have HJn : Hid (∀ (a : Option Addr) (c : Nat) W, Calls Tryd.prog 13 #[.slice a 0 c, .string ⟨#[32]⟩] W fun e w' => e = .returned (.string ⟨#[]⟩) ∧ w' = W) := fun a c W => Tryd.strings_Join_none a c _ W
        rcases HO.out.2 with ⟨rfl, _⟩ | ⟨g, cap, cur, rfl, _⟩
        · clear HO
          go_wp2_with fail
          refine (HJn.out _ _ _).mono ?_
          rintro e w2 ⟨rfl, rfl⟩
          go_wp2_with fail
          refine bodyPost_ret (v := .tuple #[.string ⟨#[]⟩, .nilIface]) ?_ rfl ⟨by rw [HY.out]; rfl, HB.out⟩
          simp [results, Tryd.results6, go_sem]
        · clear HO
          go_wp2_with fail
          refine (HJn.out _ _ _).mono ?_
          rintro e w2 ⟨rfl, rfl⟩
          go_wp2_with fail
          refine bodyPost_ret (v := .tuple #[.string ⟨#[]⟩, .nilIface]) ?_ rfl ⟨by rw [HY.out]; rfl, HB.out⟩
          simp [results, Tryd.results6, go_sem]
      · obtain ⟨g, cap, rfl, hcap2, hg, hcell⟩ := HO.out.some (by rw [List.length_map, HL.out]; omega)
        have em : ((ts.map toldL).map fun t => (⟨t.toArray⟩ : ByteArray)).map (·.data.toList) = ts.map toldL := by simp
        have el : ((ts.map toldL).map fun t => (⟨t.toArray⟩ : ByteArray)).length = i := by rw [List.length_map, List.length_map, HL.out]
        have hml : (ts.map toldL).length = i := by rw [List.length_map, HL.out]
        have HJo : Hid (Calls Tryd.prog 13 #[.slice (some ⟨g, 0, none⟩) i cap, .string ⟨#[32]⟩] wr fun e w' => e = .returned (.string (ofL (joinB ts))) ∧ Below wr.heap.size wr w') := by
          have hjs := joinB_join ts
          have hJ := Tryd.strings_Join g 0 cap ((ts.map toldL).map fun t => (⟨t.toArray⟩ : ByteArray)) ⟨#[32]⟩ wr hcell hg (by rw [el]; omega) (by rw [el, ← hml]; exact hcap2) (by rw [em]; show (Lib.join (ts.map toldL) [32]).length ≤ _; rw [← hjs]; have := HJl.out; omega)
          rw [em, el] at hJ
          rw [hjs]
          exact hJ
        rw [hml]
        clear hcell em el hcap2 hg HO
        go_wp2_with fail
        refine HJo.out.mono ?_
        rintro e w2 ⟨rfl, hb2⟩
        have HB2 := Lib.hid (below_step HB.out hb2)
        clear hb2
        go_wp2_with fail
        refine bodyPost_ret (v := .tuple #[.string (ofL (joinB ts)), .nilIface]) ?_ rfl ⟨by rw [HY.out], HB2.out⟩
        simp [results, Tryd.results6, go_sem]
end Go.Proofs.YtfmpnakonffkcaaDoor
