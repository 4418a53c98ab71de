/- The walk of LexBack. -/
import Derived.Test.YtfmpnakonffkcaaDoorLxBack
namespace Go.Proofs.YtfmpnakonffkcaaDoor
open Go.RowKit Go.Sort

set_option maxRecDepth 100000 in
set_option maxHeartbeats 16000000 in
theorem back_ (s : ByteArray) (za : Option Addr) (zc : Nat) (zs : List Int) (w : World) (hz : IntsIn w za zs) (hE : Env w) :
    Calls Tryd.prog 3 #[.string s, .slice za zs.length zc] w fun e w' => e = .returned (.bool true) ∧ Below w.heap.size w w' := by
  have HEv := Lib.hid hE
  have HLx := Lib.hid (lex_ s w hE)
  unfold LexTo at HLx
  obtain ⟨ZL, hZL⟩ : ∃ L, zs.length = L := ⟨_, rfl⟩
  have HZl := Lib.hid hZL
  have HZ0 := Lib.hid hz
  rw [hZL]
  clear hZL hE hz
  by_cases he : (lexG (lst s)).e = 0
  · have hlong : ¬ 65536 < (lst s).length := fun h => by rw [lexG, if_pos h] at he; simp at he
    have hG : lexG (lst s) = lexL (lst s) 0 := by rw [lexG, if_neg hlong]
    rw [hG] at he HLx
    have hch := lex_chain (lst s) 0 (Nat.zero_le _) (by rw [List.drop_zero]; exact he)
    have hsp := lex_spread (lst s) 0 (Nat.zero_le _) (by rw [List.drop_zero]; exact he) (zs.map blB) (bls_blk zs)
    have hft := lex_fit (lst s) 0
    have hcn := lex_can (lst s) 0
    have hln := toks_len (lst s) 0
    rw [List.drop_zero] at hch hsp
    have hjo := fun (a : Nat) => lex_join (lexL (lst s) 0).ts a hcn
    generalize lexL (lst s) 0 = R at *
    obtain ⟨ts, hts⟩ : ∃ ts, R.ts = ts := ⟨_, rfl⟩
    rw [hts] at hch hsp hft hcn hln hjo HLx
    rw [he] at HLx
    obtain ⟨N, hN⟩ : ∃ N, ts.length = N := ⟨_, rfl⟩
    obtain ⟨M, hM⟩ : ∃ M, s.size = M := ⟨_, rfl⟩
    have hlM : (lst s).length = M := by rw [← size_lst, hM]
    have HLn : Hid (ts.length = N ∧ (lst s).length = M) := ⟨hN, hlM⟩
    rw [hlM] at hln hlong
    have hN1 : N ≤ 65536 := by omega
    have hpv : prnV ts = .tuple #[.string (ofL (joinB ts)), .nilIface] := by
      rw [prnV, if_pos (List.all_eq_true.2 fun t ht => canL_iff.2 (hcn t ht))]
    have HPr : Hid (∀ (a : Option Addr) (c : Nat) W, TksIn W a ts → Below w.heap.size w W → Calls Tryd.prog 6 #[.slice a N c] W fun e w' => e = .returned (.tuple #[.string (ofL (joinB ts)), .nilIface]) ∧ Below W.heap.size W w') := fun a c W h hW => by
      have := print_ a c ts W h (by omega) (fun t ht => ⟨(hft t ht).1, by have := (hft t ht).2; omega⟩) (HEv.out.on hW)
      rw [hpv, hN] at this; exact this
    have HRe : Hid (∀ W, ¬ 65536 < (joinB ts).length → Below w.heap.size w W → Calls Tryd.prog 4 #[.string (ofL (joinB ts))] W fun e w' => ∃ (us : List Tk) (a : Option Addr) (c p : Nat), e = .returned (.tuple #[.slice a us.length c, .int .i64 (p : Int), .nilIface]) ∧ TksIn w' a us ∧ at0s us = at0s ts ∧ us.length ≤ 65536 ∧ Below W.heap.size W w') := fun W hs hW => by
      refine (lex_ (ofL (joinB ts)) W (HEv.out.on hW)).mono ?_
      rintro e w' ⟨a, c, he, hin, _, hb⟩
      have hg : lexG (lst (ofL (joinB ts))) = lexL (joinB ts) 0 := by rw [lst_ofL, lexG, if_neg hs]
      rw [hg] at he hin
      rw [(hjo 0).1] at he
      have := toks_len (joinB ts) 0
      exact ⟨_, a, c, _, he, hin, (hjo 0).2, by omega, hb⟩
    obtain ⟨SP, hSP⟩ : ∃ l, spread (lst s) ts (zs.map blB) = l := ⟨_, rfl⟩
    rw [hSP] at hsp
    have HSP := Lib.hid hSP
    obtain ⟨ys, hys⟩ : ∃ ys, (lexL SP 0).ts = ys := ⟨_, rfl⟩
    have hyl := toks_len SP 0
    have hyz := hsp 0
    rw [hys] at hyl hyz
    obtain ⟨YL, hYL⟩ : ∃ L, ys.length = L := ⟨_, rfl⟩
    obtain ⟨YP, hYP⟩ : ∃ L, (lexL SP 0).p = L := ⟨_, rfl⟩
    have HLx2 : Hid (¬ 65536 < SP.length → ∀ W, Below w.heap.size w W → Calls Tryd.prog 4 #[.string (ofL SP)] W fun e w' => ∃ (a : Option Addr) (c : Nat), e = .returned (.tuple #[.slice a YL c, .int .i64 (YP : Int), .nilIface]) ∧ (TksIn w' a ys ∧ ¬ 65536 < SP.length) ∧ Below W.heap.size W w') := fun hs W hW => by
      refine (lex_ (ofL SP) W (HEv.out.on hW)).mono ?_
      rintro e w' ⟨a, c, he, hin, _, hb⟩
      have hg : lexG (lst (ofL SP)) = lexL SP 0 := by rw [lst_ofL, lexG, if_neg hs]
      rw [hg] at he hin
      rw [hyz.1, hys, hYL, hYP] at he
      rw [hys] at hin
      exact ⟨a, c, he, ⟨hin, hs⟩, hb⟩
    have HSb : Hid (∀ (a b : Option Addr) (c d : Nat) W, TksIn W a ts → (TksIn W b ys ∧ ¬ 65536 < SP.length) → Calls Tryd.prog 7 #[.slice a N c, .slice b YL d] W fun e w' => e = .returned (.bool true) ∧ Below W.heap.size W w') := fun a b c d W h1 h2 => by
      rw [← hN, ← hYL]
      exact lxSame_ a b c d ts ys W h1 h2.1 (by omega) (by have := h2.2; omega) (by simp [hyz.2])
    have HSa : Hid (∀ (us : List Tk) (a b : Option Addr) (c d : Nat) W, TksIn W a ts → TksIn W b us → at0s us = at0s ts → us.length ≤ 65536 → Calls Tryd.prog 7 #[.slice a N c, .slice b us.length d] W fun e w' => e = .returned (.bool true) ∧ Below W.heap.size W w') := fun us a b c d W h1 h2 h3 h4 => by
      rw [← hN]
      exact lxSame_ a b c d ts us W h1 h2 (by omega) (by omega) (by simp [h3])
    have HCh := Lib.hid hch
    obtain ⟨JL, hJL⟩ : ∃ L, (ofL (joinB ts)).size = L := ⟨_, rfl⟩
    have hJL2 : (joinB ts).length = JL := by rw [← hJL, size_lst, lst_ofL]
    rw [hN] at HLx
    obtain ⟨RP, hRP⟩ : ∃ L, R.p = L := ⟨_, rfl⟩
    rw [hRP] at HLx
    have hJ0 : errV 37 0 = .nilIface := rfl
    rw [hJ0] at HLx
    clear hch hsp hft hcn hln hjo hpv hSP hys hyl hyz hYL hYP he hG hts hN hlM hRP hJ0
    by_cases hj : 65536 < JL
    · have hj2 : ¬ ((JL : Int) ≤ 65536) := by omega
      go_enter Tryd.func3, Tryd.ntmps3
      go_wp2_with fail
      refine HLx.out.mono ?_
      rintro e w1 ⟨a, ca, rfl, h1, _, hb1⟩
      have HB1 := Lib.hid hb1
      have H1 := Lib.hid h1
      clear h1 hb1 HLx
      go_wp2_with fail
      refine (HPr.out _ _ _ H1.out HB1.out).mono ?_
      rintro e wz ⟨rfl, hb2⟩
      have HBz := Lib.hid (below_step HB1.out hb2)
      have HTs := Lib.hid (H1.out.on hb2)
      have HZs := Lib.hid (HZ0.out.on HBz.out)
      clear hb2 H1 HB1 HSa
      go_wp2_with fail
      clear HPr HRe
      go_loopw [13, 14] (fun bv iv wr => ∃ (i : Nat) (XS : List UInt8), i ≤ N ∧ iv = .int .i64 i ∧ XS.length ≤ i * 65537 ∧ Hid (Own wr wz.heap.size bv (ns XS)) ∧ Hid (Below wz.heap.size wz wr) ∧ Hid (SP = XS ++ spread (lst s) (ts.drop i) ((zs.map blB).drop i))) (fun _ iv _ => N - (intOf iv).toNat)
      case atStart => exact ⟨0, [], Nat.zero_le _, rfl, Nat.zero_le _, own_nil _ _, Below.refl _ _, by show SP = _; rw [← HSP.out]; rfl⟩
      case round =>
        obtain ⟨i, XS, hi, rfl, hxl, HO, HB, HX⟩ := hrel
        by_cases hlt : i < N
        · have hlt2 : (i : Int) < (N : Int) := by omega
          have hi2 : i < ts.length := by rw [HLn.out.1]; exact hlt
          obtain ⟨q0, q1, q2⟩ := HCh.out i hi2
          have HTi := Lib.hid (HTs.out.on HB.out)
          obtain ⟨b1, o1, rfl, k, tx, n, p, hvi, p0, p1, p2, p3⟩ := TksIn.get HTi.out i hi2
          simp only at p0 p1 p2 p3
          have hpp : (ts[i]).p = p := by rw [hvi]
          rw [hpp] at q0 q1
          obtain ⟨P, hP⟩ : ∃ P : Nat, p = (P : Int) := ⟨p.toNat, by omega⟩
          subst hP
          simp only [Int.toNat_natCast] at q1
          obtain ⟨E, hE⟩ : ∃ E, nextP (ts.drop (i + 1)) (lst s).length = E := ⟨_, rfl⟩
          rw [hE] at q1 q2
          rw [HLn.out.2] at q2
          have hst := spread_step (lst s) (bs := zs.map blB) hi2
          rw [hpp, hE, Int.toNat_natCast] at hst
          have HX1 : Hid (SP = (XS ++ ((lst s).take E).drop P) ++ ((((zs.map blB).drop i).take 1) ++ spread (lst s) (ts.drop (i + 1)) ((zs.map blB).drop (i + 1)))) := by
            show SP = _
            rw [HX.out, hst, List.append_assoc]
          have HEx : Hid (lst (s.extract P E) = ((lst s).take E).drop P) := extract_lst s P E
          have hpl : (((lst s).take E).drop P).length ≤ 65536 := by rw [List.length_drop, List.length_take]; omega
          have hes : (s.extract P E).size ≤ 65536 := by rw [size_lst, HEx.out]; exact hpl
          have hxl2 : (XS ++ ((lst s).take E).drop P).length ≤ i * 65537 + 65536 := by rw [List.length_append]; omega
          have hxl0 : (ns XS).length + (s.extract P E).size ≤ 140737488355328 := by rw [ns_length]; omega
          have hPE : (P : Int) ≤ (E : Int) := by omega
          have hP0 : (0 : Int) ≤ (P : Int) := by omega
          have hEM : (E : Int) ≤ (M : Int) := by omega
          have g1 : ¬ ((P : Int) < 0) := by omega
          have g2 : ¬ ((E : Int) < (P : Int)) := by omega
          have g3 : ¬ ((M : Int) < (E : Int)) := by omega
          -- the next token's place
          have HNx : Hid ((i + 1 < N ∧ ∃ tn, wr.cell? ⟨b1, o1 + (i + 1) * 4 + 3, none⟩ = some (.int .i64 tn) ∧ tn = (E : Int)) ∨ (¬ i + 1 < N ∧ E = M)) := by
            by_cases hn : i + 1 < N
            · have hi3 : i + 1 < ts.length := by rw [HLn.out.1]; exact hn
              obtain ⟨b2, o2, e2, h3⟩ := HTi.out (i + 1) hi3
              simp only [Option.some.injEq, Addr.mk.injEq, and_true] at e2
              obtain ⟨rfl, rfl⟩ := e2
              refine .inl ⟨hn, _, h3.2.2.2, ?_⟩
              have h4 := (HCh.out (i + 1) hi3).1
              have h5 : nextP (ts.drop (i + 1)) (lst s).length = (ts[i + 1]).p.toNat := by rw [List.drop_eq_getElem_cons hi3, nextP]
              rw [hE] at h5
              omega
            · refine .inr ⟨hn, ?_⟩
              rw [List.drop_eq_nil_of_le (by rw [HLn.out.1]; omega), nextP, HLn.out.2] at hE
              exact hE.symm
          clear hst hpp hE hvi HX HTi
          rcases HNx.out with ⟨hn, tn, hcn, rfl⟩ | ⟨hn, rfl⟩
          · have hn2 : (i : Int) + 1 < (N : Int) := by omega
            by_cases hz : i < ZL
            · have hz2 : (i : Int) < (ZL : Int) := by omega
              have hz3 : i < zs.length := by rw [HZl.out]; exact hz
              obtain ⟨b3, o3, rfl, hzc⟩ := HZs.out i hz3
              have HZc : Hid (∀ W, Below wz.heap.size wz W → W.cell? ⟨b3, o3 + i, none⟩ = some (.int .i64 zs[i])) := fun W hW => (hW.cell (block_lt_of_cell hzc)).trans hzc
              generalize hzz : zs[i] = z at *
              have hb3 : ((zs.map blB).drop i).take 1 = [blB z] := by
                rw [List.drop_eq_getElem_cons (by rw [List.length_map]; exact hz3), List.take_succ_cons, List.take_zero, List.getElem_map, hzz]
              have HX2 : Hid (SP = ((XS ++ ((lst s).take E).drop P) ++ [blB z]) ++ spread (lst s) (ts.drop (i + 1)) ((zs.map blB).drop (i + 1))) := by
                show SP = _
                rw [HX1.out, hb3, List.append_assoc, List.append_assoc, List.append_assoc]
              obtain ⟨r, hr, hr4⟩ : ∃ r : Nat, z % 4 = (r : Int) ∧ r < 4 := ⟨(z % 4).toNat, by omega, by omega⟩
              have hw2 : (IntKind.u64.wrap z).tmod 4 = (r : Int) := (wrap_mod z).trans hr
              have hw3 : IntKind.i64.wrap (r : Int) = (r : Int) := by simp [IntKind.wrap, IntKind.bits, IntKind.signed]; omega
              have hr0 : (0 : Int) ≤ (r : Int) := by omega
              have hr5 : (r : Int) < 4 := by omega
              have hbz : ∀ h : r < (⟨#[32, 9, 10, 13]⟩ : ByteArray).size, (⟨#[32, 9, 10, 13]⟩ : ByteArray)[r]'h = blB z := fun h => by
                rw [blB, hr, Int.toNat_natCast]
                rcases (by omega : r = 0 ∨ r = 1 ∨ r = 2 ∨ r = 3) with rfl | rfl | rfl | rfl <;> rfl
              generalize blB z = bz at *
              have hxl3 : (ns (XS ++ ((lst s).take E).drop P)).length + 1 ≤ 140737488355328 := by rw [ns_length]; omega
              clear HX1 hb3 hzz hzc
              go_wp2_with (first
                | (at_builtin; refine append_str_ wz.heap.size _ wz rfl _ _ rfl _ (ns XS) rfl HO.out (s.extract P E) rfl hxl0 (Nat.le_refl _) HB.out ?_
                   intro v' w6 hown hb6
                   rw [HEx.out, ns_append] at hown
                   have HO6 := Lib.hid hown
                   have HB6 := Lib.hid hb6
                   have hzc := HZc.out _ HB6.out
                   clear hown hb6 HO)
                | (at_builtin; refine wpList_append_one wz.heap.size _ wz rfl _ _ rfl _ (ns (XS ++ ((lst s).take E).drop P)) rfl (.inl (HO6.out.on (below_alloc1 _ _))) _ bz.toNat rfl (by simp [go_sem]) hxl3 (Nat.le_refl _) (below_step HB6.out (below_alloc1 _ _)) ?_
                   intro v' w7 hown hb7
                   rw [← ns_snocB] at hown
                   have HO7 := Lib.hid hown
                   have HB7 := Lib.hid hb7
                   clear hown hb7 HO6)
                | fail)
              go_roundw
              case rel => exact ⟨i + 1, (XS ++ ((lst s).take E).drop P) ++ [bz], by omega, by go_num, by rw [List.length_append, List.length_singleton]; omega, HO7, HB7, HX2⟩
              case measure => simp [intOf]; omega
            · have hz2 : ¬ ((i : Int) < (ZL : Int)) := by omega
              have hb3 : ((zs.map blB).drop i).take 1 = [] := by rw [List.drop_eq_nil_of_le (by rw [List.length_map, HZl.out]; omega)]; rfl
              have HX2 : Hid (SP = (XS ++ ((lst s).take E).drop P) ++ spread (lst s) (ts.drop (i + 1)) ((zs.map blB).drop (i + 1))) := by
                show SP = _
                rw [HX1.out, hb3, List.nil_append]
              clear HX1 hb3
              go_wp2_with (first
                | (at_builtin; refine append_str_ wz.heap.size _ wz rfl _ _ rfl _ (ns XS) rfl HO.out (s.extract P E) rfl hxl0 (Nat.le_refl _) HB.out ?_
                   intro v' w6 hown hb6
                   rw [HEx.out, ns_append] at hown
                   have HO6 := Lib.hid hown
                   have HB6 := Lib.hid hb6
                   clear hown hb6 HO)
                | fail)
              go_roundw
              case rel => exact ⟨i + 1, XS ++ ((lst s).take E).drop P, by omega, by go_num, by omega, HO6, HB6, HX2⟩
              case measure => simp [intOf]; omega
          · have hn2 : ¬ ((i : Int) + 1 < (N : Int)) := by omega
            by_cases hz : i < ZL
            · have hz2 : (i : Int) < (ZL : Int) := by omega
              have hz3 : i < zs.length := by rw [HZl.out]; exact hz
              obtain ⟨b3, o3, rfl, hzc⟩ := HZs.out i hz3
              have HZc : Hid (∀ W, Below wz.heap.size wz W → W.cell? ⟨b3, o3 + i, none⟩ = some (.int .i64 zs[i])) := fun W hW => (hW.cell (block_lt_of_cell hzc)).trans hzc
              generalize hzz : zs[i] = z at *
              have hb3 : ((zs.map blB).drop i).take 1 = [blB z] := by
                rw [List.drop_eq_getElem_cons (by rw [List.length_map]; exact hz3), List.take_succ_cons, List.take_zero, List.getElem_map, hzz]
              have HX2 : Hid (SP = ((XS ++ ((lst s).take E).drop P) ++ [blB z]) ++ spread (lst s) (ts.drop (i + 1)) ((zs.map blB).drop (i + 1))) := by
                show SP = _
                rw [HX1.out, hb3, List.append_assoc, List.append_assoc, List.append_assoc]
              obtain ⟨r, hr, hr4⟩ : ∃ r : Nat, z % 4 = (r : Int) ∧ r < 4 := ⟨(z % 4).toNat, by omega, by omega⟩
              have hw2 : (IntKind.u64.wrap z).tmod 4 = (r : Int) := (wrap_mod z).trans hr
              have hw3 : IntKind.i64.wrap (r : Int) = (r : Int) := by simp [IntKind.wrap, IntKind.bits, IntKind.signed]; omega
              have hr0 : (0 : Int) ≤ (r : Int) := by omega
              have hr5 : (r : Int) < 4 := by omega
              have hbz : ∀ h : r < (⟨#[32, 9, 10, 13]⟩ : ByteArray).size, (⟨#[32, 9, 10, 13]⟩ : ByteArray)[r]'h = blB z := fun h => by
                rw [blB, hr, Int.toNat_natCast]
                rcases (by omega : r = 0 ∨ r = 1 ∨ r = 2 ∨ r = 3) with rfl | rfl | rfl | rfl <;> rfl
              generalize blB z = bz at *
              have hxl3 : (ns (XS ++ ((lst s).take E).drop P)).length + 1 ≤ 140737488355328 := by rw [ns_length]; omega
              clear HX1 hb3 hzz hzc
              go_wp2_with (first
                | (at_builtin; refine append_str_ wz.heap.size _ wz rfl _ _ rfl _ (ns XS) rfl HO.out (s.extract P E) rfl hxl0 (Nat.le_refl _) HB.out ?_
                   intro v' w6 hown hb6
                   rw [HEx.out, ns_append] at hown
                   have HO6 := Lib.hid hown
                   have HB6 := Lib.hid hb6
                   have hzc := HZc.out _ HB6.out
                   clear hown hb6 HO)
                | (at_builtin; refine wpList_append_one wz.heap.size _ wz rfl _ _ rfl _ (ns (XS ++ ((lst s).take E).drop P)) rfl (.inl (HO6.out.on (below_alloc1 _ _))) _ bz.toNat rfl (by simp [go_sem]) hxl3 (Nat.le_refl _) (below_step HB6.out (below_alloc1 _ _)) ?_
                   intro v' w7 hown hb7
                   rw [← ns_snocB] at hown
                   have HO7 := Lib.hid hown
                   have HB7 := Lib.hid hb7
                   clear hown hb7 HO6)
                | fail)
              go_roundw
              case rel => exact ⟨i + 1, (XS ++ ((lst s).take E).drop P) ++ [bz], by omega, by go_num, by rw [List.length_append, List.length_singleton]; omega, HO7, HB7, HX2⟩
              case measure => simp [intOf]; omega
            · have hz2 : ¬ ((i : Int) < (ZL : Int)) := by omega
              have hb3 : ((zs.map blB).drop i).take 1 = [] := by rw [List.drop_eq_nil_of_le (by rw [List.length_map, HZl.out]; omega)]; rfl
              have HX2 : Hid (SP = (XS ++ ((lst s).take E).drop P) ++ spread (lst s) (ts.drop (i + 1)) ((zs.map blB).drop (i + 1))) := by
                show SP = _
                rw [HX1.out, hb3, List.nil_append]
              clear HX1 hb3
              go_wp2_with (first
                | (at_builtin; refine append_str_ wz.heap.size _ wz rfl _ _ rfl _ (ns XS) rfl HO.out (s.extract P E) rfl hxl0 (Nat.le_refl _) HB.out ?_
                   intro v' w6 hown hb6
                   rw [HEx.out, ns_append] at hown
                   have HO6 := Lib.hid hown
                   have HB6 := Lib.hid hb6
                   clear hown hb6 HO)
                | fail)
              go_roundw
              case rel => exact ⟨i + 1, XS ++ ((lst s).take E).drop P, by omega, by go_num, by omega, HO6, HB6, HX2⟩
              case measure => simp [intOf]; omega
        · obtain rfl : i = N := by omega
          have hlt2 : ¬ ((i : Int) < (i : Int)) := by omega
          have hSX : SP = XS := by
            have := HX.out
            rw [List.drop_eq_nil_of_le (by rw [HLn.out.1]; exact Nat.le_refl _), spread, List.append_nil] at this
            exact this
          clear HX
          subst hSX
          obtain ⟨ba, cp, rfl, hby, hnil⟩ := HO.out.bytes
          have hcv := conv_ wr ba _ cp (ns SP) rfl hby
          rw [bs_ns] at hcv
          have HTi := Lib.hid (HTs.out.on HB.out)
          have HBz2 := Lib.hid (below_step HBz.out HB.out)
          rw [ns_length] at hcv ⊢
          by_cases hbig : 65536 < SP.length
          · have hbig2 : (65536 : Int) < (SP.length : Int) := by omega
            clear HSb HO hby hcv HLx2
            generalize SP.length = SL at *
            go_wp2_with fail
            refine (sure_ _ (HEv.out.on HBz2.out)).mono ?_
            rintro e w6 ⟨rfl, hb6⟩
            have HB6 := Lib.hid (below_step HBz2.out hb6)
            clear hb6
            go_wp2_with fail
            go_ret
            exact ⟨rfl, HB6.out⟩
          · have hbig2 : ¬ ((65536 : Int) < (SP.length : Int)) := by omega
            have HL6 := Lib.hid (HLx2.out (by omega) wr HBz2.out)
            clear HO hby HLx2
            generalize SP.length = SL at *
            go_wp2_with fail
            refine HL6.out.mono ?_
            rintro e w6 ⟨b6, c6, rfl, h6, hb6⟩
            have HB6 := Lib.hid (below_step HBz2.out hb6)
            have H6 := Lib.hid (And.intro (HTi.out.on hb6) h6)
            clear h6 hb6 HL6 hcv HTi
            go_wp2_with fail
            refine (HSb.out _ _ _ _ _ H6.out.1 H6.out.2).mono ?_
            rintro e w7 ⟨rfl, hb7⟩
            have HB7 := Lib.hid (below_step HB6.out hb7)
            clear hb7 H6 HSb HB6
            go_wp2_with fail
            refine (sure_ _ (HEv.out.on HB7.out)).mono ?_
            rintro e w8 ⟨rfl, hb8⟩
            have HB8 := Lib.hid (below_step HB7.out hb8)
            clear hb8 HB7
            go_wp2_with fail
            go_ret
            exact ⟨rfl, HB8.out⟩
    · have hj2 : ((JL : Int) ≤ 65536) := by omega
      have HRe2 := Lib.hid (fun W => HRe.out W (by rw [hJL2]; exact hj))
      go_enter Tryd.func3, Tryd.ntmps3
      go_wp2_with fail
      refine HLx.out.mono ?_
      rintro e w1 ⟨a, ca, rfl, h1, _, hb1⟩
      have HB1 := Lib.hid hb1
      have H1 := Lib.hid h1
      clear h1 hb1 HLx
      go_wp2_with fail
      refine (HPr.out _ _ _ H1.out HB1.out).mono ?_
      rintro e w2 ⟨rfl, hb2⟩
      have HB2 := Lib.hid (below_step HB1.out hb2)
      have H2 := Lib.hid (H1.out.on hb2)
      clear hb2 H1 HB1
      go_wp2_with fail
      refine (HRe2.out _ HB2.out).mono ?_
      rintro e w3 ⟨us, a3, c3, p3, rfl, h3, hu, hul, hb3⟩
      have HB3 := Lib.hid (below_step HB2.out hb3)
      have H3 := Lib.hid (And.intro (H2.out.on hb3) h3)
      clear h3 hb3 H2 HB2
      go_wp2_with fail
      refine (HSa.out us _ _ _ _ _ H3.out.1 H3.out.2 hu hul).mono ?_
      rintro e wz ⟨rfl, hb4⟩
      have HBz := Lib.hid (below_step HB3.out hb4)
      have HTs := Lib.hid (H3.out.1.on hb4)
      have HZs := Lib.hid (HZ0.out.on HBz.out)
      clear hb4 H3 HB3 HSa HRe2 hu hul
      go_wp2_with fail
      clear HPr HRe
      go_loopw [13, 14] (fun bv iv wr => ∃ (i : Nat) (XS : List UInt8), i ≤ N ∧ iv = .int .i64 i ∧ XS.length ≤ i * 65537 ∧ Hid (Own wr wz.heap.size bv (ns XS)) ∧ Hid (Below wz.heap.size wz wr) ∧ Hid (SP = XS ++ spread (lst s) (ts.drop i) ((zs.map blB).drop i))) (fun _ iv _ => N - (intOf iv).toNat)
      case atStart => exact ⟨0, [], Nat.zero_le _, rfl, Nat.zero_le _, own_nil _ _, Below.refl _ _, by show SP = _; rw [← HSP.out]; rfl⟩
      case round =>
        obtain ⟨i, XS, hi, rfl, hxl, HO, HB, HX⟩ := hrel
        by_cases hlt : i < N
        · have hlt2 : (i : Int) < (N : Int) := by omega
          have hi2 : i < ts.length := by rw [HLn.out.1]; exact hlt
          obtain ⟨q0, q1, q2⟩ := HCh.out i hi2
          have HTi := Lib.hid (HTs.out.on HB.out)
          obtain ⟨b1, o1, rfl, k, tx, n, p, hvi, p0, p1, p2, p3⟩ := TksIn.get HTi.out i hi2
          simp only at p0 p1 p2 p3
          have hpp : (ts[i]).p = p := by rw [hvi]
          rw [hpp] at q0 q1
          obtain ⟨P, hP⟩ : ∃ P : Nat, p = (P : Int) := ⟨p.toNat, by omega⟩
          subst hP
          simp only [Int.toNat_natCast] at q1
          obtain ⟨E, hE⟩ : ∃ E, nextP (ts.drop (i + 1)) (lst s).length = E := ⟨_, rfl⟩
          rw [hE] at q1 q2
          rw [HLn.out.2] at q2
          have hst := spread_step (lst s) (bs := zs.map blB) hi2
          rw [hpp, hE, Int.toNat_natCast] at hst
          have HX1 : Hid (SP = (XS ++ ((lst s).take E).drop P) ++ ((((zs.map blB).drop i).take 1) ++ spread (lst s) (ts.drop (i + 1)) ((zs.map blB).drop (i + 1)))) := by
            show SP = _
            rw [HX.out, hst, List.append_assoc]
          have HEx : Hid (lst (s.extract P E) = ((lst s).take E).drop P) := extract_lst s P E
          have hpl : (((lst s).take E).drop P).length ≤ 65536 := by rw [List.length_drop, List.length_take]; omega
          have hes : (s.extract P E).size ≤ 65536 := by rw [size_lst, HEx.out]; exact hpl
          have hxl2 : (XS ++ ((lst s).take E).drop P).length ≤ i * 65537 + 65536 := by rw [List.length_append]; omega
          have hxl0 : (ns XS).length + (s.extract P E).size ≤ 140737488355328 := by rw [ns_length]; omega
          have hPE : (P : Int) ≤ (E : Int) := by omega
          have hP0 : (0 : Int) ≤ (P : Int) := by omega
          have hEM : (E : Int) ≤ (M : Int) := by omega
          have g1 : ¬ ((P : Int) < 0) := by omega
          have g2 : ¬ ((E : Int) < (P : Int)) := by omega
          have g3 : ¬ ((M : Int) < (E : Int)) := by omega
          -- the next token's place
          have HNx : Hid ((i + 1 < N ∧ ∃ tn, wr.cell? ⟨b1, o1 + (i + 1) * 4 + 3, none⟩ = some (.int .i64 tn) ∧ tn = (E : Int)) ∨ (¬ i + 1 < N ∧ E = M)) := by
            by_cases hn : i + 1 < N
            · have hi3 : i + 1 < ts.length := by rw [HLn.out.1]; exact hn
              obtain ⟨b2, o2, e2, h3⟩ := HTi.out (i + 1) hi3
              simp only [Option.some.injEq, Addr.mk.injEq, and_true] at e2
              obtain ⟨rfl, rfl⟩ := e2
              refine .inl ⟨hn, _, h3.2.2.2, ?_⟩
              have h4 := (HCh.out (i + 1) hi3).1
              have h5 : nextP (ts.drop (i + 1)) (lst s).length = (ts[i + 1]).p.toNat := by rw [List.drop_eq_getElem_cons hi3, nextP]
              rw [hE] at h5
              omega
            · refine .inr ⟨hn, ?_⟩
              rw [List.drop_eq_nil_of_le (by rw [HLn.out.1]; omega), nextP, HLn.out.2] at hE
              exact hE.symm
          clear hst hpp hE hvi HX HTi
          rcases HNx.out with ⟨hn, tn, hcn, rfl⟩ | ⟨hn, rfl⟩
          · have hn2 : (i : Int) + 1 < (N : Int) := by omega
            by_cases hz : i < ZL
            · have hz2 : (i : Int) < (ZL : Int) := by omega
              have hz3 : i < zs.length := by rw [HZl.out]; exact hz
              obtain ⟨b3, o3, rfl, hzc⟩ := HZs.out i hz3
              have HZc : Hid (∀ W, Below wz.heap.size wz W → W.cell? ⟨b3, o3 + i, none⟩ = some (.int .i64 zs[i])) := fun W hW => (hW.cell (block_lt_of_cell hzc)).trans hzc
              generalize hzz : zs[i] = z at *
              have hb3 : ((zs.map blB).drop i).take 1 = [blB z] := by
                rw [List.drop_eq_getElem_cons (by rw [List.length_map]; exact hz3), List.take_succ_cons, List.take_zero, List.getElem_map, hzz]
              have HX2 : Hid (SP = ((XS ++ ((lst s).take E).drop P) ++ [blB z]) ++ spread (lst s) (ts.drop (i + 1)) ((zs.map blB).drop (i + 1))) := by
                show SP = _
                rw [HX1.out, hb3, List.append_assoc, List.append_assoc, List.append_assoc]
              obtain ⟨r, hr, hr4⟩ : ∃ r : Nat, z % 4 = (r : Int) ∧ r < 4 := ⟨(z % 4).toNat, by omega, by omega⟩
              have hw2 : (IntKind.u64.wrap z).tmod 4 = (r : Int) := (wrap_mod z).trans hr
              have hw3 : IntKind.i64.wrap (r : Int) = (r : Int) := by simp [IntKind.wrap, IntKind.bits, IntKind.signed]; omega
              have hr0 : (0 : Int) ≤ (r : Int) := by omega
              have hr5 : (r : Int) < 4 := by omega
              have hbz : ∀ h : r < (⟨#[32, 9, 10, 13]⟩ : ByteArray).size, (⟨#[32, 9, 10, 13]⟩ : ByteArray)[r]'h = blB z := fun h => by
                rw [blB, hr, Int.toNat_natCast]
                rcases (by omega : r = 0 ∨ r = 1 ∨ r = 2 ∨ r = 3) with rfl | rfl | rfl | rfl <;> rfl
              generalize blB z = bz at *
              have hxl3 : (ns (XS ++ ((lst s).take E).drop P)).length + 1 ≤ 140737488355328 := by rw [ns_length]; omega
              clear HX1 hb3 hzz hzc
              go_wp2_with (first
                | (at_builtin; refine append_str_ wz.heap.size _ wz rfl _ _ rfl _ (ns XS) rfl HO.out (s.extract P E) rfl hxl0 (Nat.le_refl _) HB.out ?_
                   intro v' w6 hown hb6
                   rw [HEx.out, ns_append] at hown
                   have HO6 := Lib.hid hown
                   have HB6 := Lib.hid hb6
                   have hzc := HZc.out _ HB6.out
                   clear hown hb6 HO)
                | (at_builtin; refine wpList_append_one wz.heap.size _ wz rfl _ _ rfl _ (ns (XS ++ ((lst s).take E).drop P)) rfl (.inl (HO6.out.on (below_alloc1 _ _))) _ bz.toNat rfl (by simp [go_sem]) hxl3 (Nat.le_refl _) (below_step HB6.out (below_alloc1 _ _)) ?_
                   intro v' w7 hown hb7
                   rw [← ns_snocB] at hown
                   have HO7 := Lib.hid hown
                   have HB7 := Lib.hid hb7
                   clear hown hb7 HO6)
                | fail)
              go_roundw
              case rel => exact ⟨i + 1, (XS ++ ((lst s).take E).drop P) ++ [bz], by omega, by go_num, by rw [List.length_append, List.length_singleton]; omega, HO7, HB7, HX2⟩
              case measure => simp [intOf]; omega
            · have hz2 : ¬ ((i : Int) < (ZL : Int)) := by omega
              have hb3 : ((zs.map blB).drop i).take 1 = [] := by rw [List.drop_eq_nil_of_le (by rw [List.length_map, HZl.out]; omega)]; rfl
              have HX2 : Hid (SP = (XS ++ ((lst s).take E).drop P) ++ spread (lst s) (ts.drop (i + 1)) ((zs.map blB).drop (i + 1))) := by
                show SP = _
                rw [HX1.out, hb3, List.nil_append]
              clear HX1 hb3
              go_wp2_with (first
                | (at_builtin; refine append_str_ wz.heap.size _ wz rfl _ _ rfl _ (ns XS) rfl HO.out (s.extract P E) rfl hxl0 (Nat.le_refl _) HB.out ?_
                   intro v' w6 hown hb6
                   rw [HEx.out, ns_append] at hown
                   have HO6 := Lib.hid hown
                   have HB6 := Lib.hid hb6
                   clear hown hb6 HO)
                | fail)
              go_roundw
              case rel => exact ⟨i + 1, XS ++ ((lst s).take E).drop P, by omega, by go_num, by omega, HO6, HB6, HX2⟩
              case measure => simp [intOf]; omega
          · have hn2 : ¬ ((i : Int) + 1 < (N : Int)) := by omega
            by_cases hz : i < ZL
            · have hz2 : (i : Int) < (ZL : Int) := by omega
              have hz3 : i < zs.length := by rw [HZl.out]; exact hz
              obtain ⟨b3, o3, rfl, hzc⟩ := HZs.out i hz3
              have HZc : Hid (∀ W, Below wz.heap.size wz W → W.cell? ⟨b3, o3 + i, none⟩ = some (.int .i64 zs[i])) := fun W hW => (hW.cell (block_lt_of_cell hzc)).trans hzc
              generalize hzz : zs[i] = z at *
              have hb3 : ((zs.map blB).drop i).take 1 = [blB z] := by
                rw [List.drop_eq_getElem_cons (by rw [List.length_map]; exact hz3), List.take_succ_cons, List.take_zero, List.getElem_map, hzz]
              have HX2 : Hid (SP = ((XS ++ ((lst s).take E).drop P) ++ [blB z]) ++ spread (lst s) (ts.drop (i + 1)) ((zs.map blB).drop (i + 1))) := by
                show SP = _
                rw [HX1.out, hb3, List.append_assoc, List.append_assoc, List.append_assoc]
              obtain ⟨r, hr, hr4⟩ : ∃ r : Nat, z % 4 = (r : Int) ∧ r < 4 := ⟨(z % 4).toNat, by omega, by omega⟩
              have hw2 : (IntKind.u64.wrap z).tmod 4 = (r : Int) := (wrap_mod z).trans hr
              have hw3 : IntKind.i64.wrap (r : Int) = (r : Int) := by simp [IntKind.wrap, IntKind.bits, IntKind.signed]; omega
              have hr0 : (0 : Int) ≤ (r : Int) := by omega
              have hr5 : (r : Int) < 4 := by omega
              have hbz : ∀ h : r < (⟨#[32, 9, 10, 13]⟩ : ByteArray).size, (⟨#[32, 9, 10, 13]⟩ : ByteArray)[r]'h = blB z := fun h => by
                rw [blB, hr, Int.toNat_natCast]
                rcases (by omega : r = 0 ∨ r = 1 ∨ r = 2 ∨ r = 3) with rfl | rfl | rfl | rfl <;> rfl
              generalize blB z = bz at *
              have hxl3 : (ns (XS ++ ((lst s).take E).drop P)).length + 1 ≤ 140737488355328 := by rw [ns_length]; omega
              clear HX1 hb3 hzz hzc
              go_wp2_with (first
                | (at_builtin; refine append_str_ wz.heap.size _ wz rfl _ _ rfl _ (ns XS) rfl HO.out (s.extract P E) rfl hxl0 (Nat.le_refl _) HB.out ?_
                   intro v' w6 hown hb6
                   rw [HEx.out, ns_append] at hown
                   have HO6 := Lib.hid hown
                   have HB6 := Lib.hid hb6
                   have hzc := HZc.out _ HB6.out
                   clear hown hb6 HO)
                | (at_builtin; refine wpList_append_one wz.heap.size _ wz rfl _ _ rfl _ (ns (XS ++ ((lst s).take E).drop P)) rfl (.inl (HO6.out.on (below_alloc1 _ _))) _ bz.toNat rfl (by simp [go_sem]) hxl3 (Nat.le_refl _) (below_step HB6.out (below_alloc1 _ _)) ?_
                   intro v' w7 hown hb7
                   rw [← ns_snocB] at hown
                   have HO7 := Lib.hid hown
                   have HB7 := Lib.hid hb7
                   clear hown hb7 HO6)
                | fail)
              go_roundw
              case rel => exact ⟨i + 1, (XS ++ ((lst s).take E).drop P) ++ [bz], by omega, by go_num, by rw [List.length_append, List.length_singleton]; omega, HO7, HB7, HX2⟩
              case measure => simp [intOf]; omega
            · have hz2 : ¬ ((i : Int) < (ZL : Int)) := by omega
              have hb3 : ((zs.map blB).drop i).take 1 = [] := by rw [List.drop_eq_nil_of_le (by rw [List.length_map, HZl.out]; omega)]; rfl
              have HX2 : Hid (SP = (XS ++ ((lst s).take E).drop P) ++ spread (lst s) (ts.drop (i + 1)) ((zs.map blB).drop (i + 1))) := by
                show SP = _
                rw [HX1.out, hb3, List.nil_append]
              clear HX1 hb3
              go_wp2_with (first
                | (at_builtin; refine append_str_ wz.heap.size _ wz rfl _ _ rfl _ (ns XS) rfl HO.out (s.extract P E) rfl hxl0 (Nat.le_refl _) HB.out ?_
                   intro v' w6 hown hb6
                   rw [HEx.out, ns_append] at hown
                   have HO6 := Lib.hid hown
                   have HB6 := Lib.hid hb6
                   clear hown hb6 HO)
                | fail)
              go_roundw
              case rel => exact ⟨i + 1, XS ++ ((lst s).take E).drop P, by omega, by go_num, by omega, HO6, HB6, HX2⟩
              case measure => simp [intOf]; omega
        · obtain rfl : i = N := by omega
          have hlt2 : ¬ ((i : Int) < (i : Int)) := by omega
          have hSX : SP = XS := by
            have := HX.out
            rw [List.drop_eq_nil_of_le (by rw [HLn.out.1]; exact Nat.le_refl _), spread, List.append_nil] at this
            exact this
          clear HX
          subst hSX
          obtain ⟨ba, cp, rfl, hby, hnil⟩ := HO.out.bytes
          have hcv := conv_ wr ba _ cp (ns SP) rfl hby
          rw [bs_ns] at hcv
          have HTi := Lib.hid (HTs.out.on HB.out)
          have HBz2 := Lib.hid (below_step HBz.out HB.out)
          rw [ns_length] at hcv ⊢
          by_cases hbig : 65536 < SP.length
          · have hbig2 : (65536 : Int) < (SP.length : Int) := by omega
            clear HSb HO hby hcv HLx2
            generalize SP.length = SL at *
            go_wp2_with fail
            refine (sure_ _ (HEv.out.on HBz2.out)).mono ?_
            rintro e w6 ⟨rfl, hb6⟩
            have HB6 := Lib.hid (below_step HBz2.out hb6)
            clear hb6
            go_wp2_with fail
            go_ret
            exact ⟨rfl, HB6.out⟩
          · have hbig2 : ¬ ((65536 : Int) < (SP.length : Int)) := by omega
            have HL6 := Lib.hid (HLx2.out (by omega) wr HBz2.out)
            clear HO hby HLx2
            generalize SP.length = SL at *
            go_wp2_with fail
            refine HL6.out.mono ?_
            rintro e w6 ⟨b6, c6, rfl, h6, hb6⟩
            have HB6 := Lib.hid (below_step HBz2.out hb6)
            have H6 := Lib.hid (And.intro (HTi.out.on hb6) h6)
            clear h6 hb6 HL6 hcv HTi
            go_wp2_with fail
            refine (HSb.out _ _ _ _ _ H6.out.1 H6.out.2).mono ?_
            rintro e w7 ⟨rfl, hb7⟩
            have HB7 := Lib.hid (below_step HB6.out hb7)
            clear hb7 H6 HSb HB6
            go_wp2_with fail
            refine (sure_ _ (HEv.out.on HB7.out)).mono ?_
            rintro e w8 ⟨rfl, hb8⟩
            have HB8 := Lib.hid (below_step HB7.out hb8)
            clear hb8 HB7
            go_wp2_with fail
            go_ret
            exact ⟨rfl, HB8.out⟩
  · obtain ⟨E, hEe⟩ : ∃ E, (lexG (lst s)).e = E := ⟨_, rfl⟩
    rw [hEe] at he
    have htn : (lexG (lst s)).ts = [] := by
      unfold lexG at hEe ⊢
      split
      · rfl
      · rename_i h
        rw [if_neg h] at hEe
        exact lexL_none _ _ (by rw [hEe]; exact he)
    obtain ⟨RP, hRP⟩ : ∃ L, (lexG (lst s)).p = L := ⟨_, rfl⟩
    have hev : errV 37 E = .iface 37 (.int .i64 E) := by rw [errV, if_neg he]
    rw [htn, hEe, hRP, hev] at HLx
    clear htn hEe hRP hev
    go_enter Tryd.func3, Tryd.ntmps3
    go_wp2_with fail
    refine HLx.out.mono ?_
    rintro e w1 ⟨a, ca, rfl, h1, _, hb1⟩
    have HB1 := Lib.hid hb1
    clear h1 hb1 HLx
    go_wp2_with fail
    refine (sure_ _ (HEv.out.on HB1.out)).mono ?_
    rintro e w2 ⟨rfl, hb2⟩
    have HB2 := Lib.hid (below_step HB1.out hb2)
    clear hb2
    go_wp2_with fail
    go_ret
    exact ⟨rfl, HB2.out⟩
end Go.Proofs.YtfmpnakonffkcaaDoor
