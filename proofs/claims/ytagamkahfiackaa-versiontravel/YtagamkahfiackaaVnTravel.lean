/- The walk of VersionTravel. -/
import Derived.Test.YtagamkahfiackaaVnTrMath
import Derived.BigQuiet
namespace Go.Proofs.Ytagamkahfiackaa
open Go.RowKit Go.Sort Go.Shelf

theorem exec_conv {P : Program} {w w' : World} {a : Act} {o : Oper} {x : Operand} {t1 t2 : TypeId} {v v' : Value} (ho : o.op = .convert t1 t2 x) (hx : a.eval x = v) (hr : (convert t1 t2 v).run P w = .ok v' w') : (execOp a.eval o).run P w = .ok (.value v') w' := by
  unfold execOp
  simp only [ho, hx, hr, Sem.run_bind, Sem.run_pure, Result.andThen_ok]
/-- A row put, or that it is gone; with the errors. -/
theorem vput_both {W w : World} {ps : Nat} {m : List Ct} (h : VnAt W w ps m) (hm : nVer m ≤ 900000) (k : ByteArray) (t : Int) (h1 : 1 ≤ t) (hl : lastC (chM k m) ≤ t) {a : Option Addr} {n c : Nat} {s : ByteArray} (hn : n = (bsN s).length) (hb : BytesIn w a (bsN s)) (hz : a = none → c = 0) (hs : s.size ≤ 140737488355328) (gn : Bool) :
    Calls Try.prog 5 #[.pointer (some ⟨ps, 0, none⟩), .string k, .int .i64 t, .slice a n c, .bool gn] w fun e w' => e = .returned .nilIface ∧ Hid (VnAt W w' ps (putM k ⟨t, if gn then ⟨#[]⟩ else s, gn⟩ m) ∧ AlienV w w') := by
  cases gn with
  | true => exact vput_gone h hm k t h1 hl a n c
  | false => exact vput_row h hm k t h1 hl hn hb hz hs
set_option maxRecDepth 100000 in
set_option maxHeartbeats 4000000 in
theorem travel_walk {w : World} {a : Option Addr} {c : Nat} {L : List ActV} (hL : ActsIn w a L) (hz : ∀ x ∈ L, x.row.size ≤ 140737488355328) :
    Calls Try.prog 3 #[.slice a L.length c] w fun e w' => e = .returned (.bool true) ∧ Below w.heap.size w w' := by
  have HN := Lib.hid (vnew_ w)
  have HLs := Lib.hid hL
  have HZs := Lib.hid hz
  clear hL hz
  obtain ⟨ln, hln⟩ : ∃ ln, ln = L.length := ⟨_, rfl⟩
  rw [← hln]
  obtain ⟨n, hn⟩ : ∃ n, n = if 60 < ln then 60 else ln := ⟨_, rfl⟩
  have hn60 : n ≤ 60 := by rw [hn]; split <;> omega
  have hnl : n ≤ ln := by rw [hn]; split <;> omega
  have hm1 : (if 60 < ln then (60 : Int) else (ln : Int)) = (n : Int) := by rw [hn]; split <;> rfl
  have hm2 : (if (60 : Int) < (ln : Int) then (60 : Int) else (ln : Int)) = (n : Int) := by rw [hn]; split <;> split <;> omega
  have HLn := Lib.hid hln
  clear hln hn
  go_enter Try.func3, Try.ntmps3
  go_wp2_with (first
    | (go_at_call 4; refine HN.out.mono ?_; rintro e w1 ⟨ps, rfl, H1⟩; clear HN)
    | fail)
  clear hm1 hm2
  go_loopw [5] (fun v5 wr => ∃ i : Nat, v5 = .int .i64 i ∧ i ≤ n ∧ Hid (VnAt w wr ps (mK L i))) (fun v5 _ => ((n : Int) - intOf v5).toNat)
  case atStart => exact ⟨0, rfl, Nat.zero_le _, H1.out.1⟩
  case round =>
    obtain ⟨i, rfl, hi, HV⟩ := hrel
    by_cases hin : i < n
    · obtain ⟨x, hx⟩ := getElem?_of_lt (show i < L.length by have := HLn.out; omega)
      obtain ⟨kb, ko, rfl, hkb, hc0, hc1, hc2, hc3, hc4⟩ := (HLs.out.on HV.out.below) i x hx
      have F1 : Hid (∀ V, Below wr.heap.size wr V → V.cell? ⟨kb, ko + i * 5 + 3, none⟩ = some (.string x.row) ∧ V.cell? ⟨kb, ko + i * 5 + 4, none⟩ = some (.bool x.gn)) := fun V hV => ⟨(hV.cell (p := ⟨kb, ko + i * 5 + 3, none⟩) hkb).trans hc3, (hV.cell (p := ⟨kb, ko + i * 5 + 4, none⟩) hkb).trans hc4⟩
      have hxz := HZs.out x (List.mem_of_getElem? hx)
      obtain ⟨X, G, hcv, hin2, _, hbX⟩ := conv_new wr.drew x.row
      have hbX' := below_step (below_drew wr) hbX
      have hpv : pvT L i = ⟨2 * ((i : Int) + 1), if x.gn then ⟨#[]⟩ else x.row, x.gn⟩ := by unfold pvT; rw [hx]; rfl
      have HP : Hid (Calls Try.prog 5 #[.pointer (some ⟨ps, 0, none⟩), .string ⟨#[107]⟩, .int .i64 (2 * ((i : Int) + 1)), .slice (some ⟨wr.drew.heap.size, 0, none⟩) x.row.size G, .bool x.gn] X fun e w' => e = .returned .nilIface ∧ Hid (VnAt w w' ps (mK L (i + 1)))) := by
        have hp := vput_both (HV.out.on hbX') (by rw [nVer_mK]; omega) kK (2 * ((i : Int) + 1)) (by omega) (by rw [ch_mK, last_tK]; omega) (c := G) (s := x.row) (bsN_len _).symm hin2 (fun e => by cases e) hxz x.gn
        refine hp.mono fun e w' ⟨e1, e2⟩ => ⟨e1, ?_⟩
        have := e2.out.1
        rw [← hpv] at this
        exact this
      have hw1 := wraps_i64 ((i : Int) + 1) (by omega) (by omega)
      have hw2 := wraps_i64 (2 * ((i : Int) + 1)) (by omega) (by omega)
      have hlt : (i : Int) < ln := by omega
      have HCv := Lib.hid hcv
      have HBX := Lib.hid hbX'
      clear hcv hbX hbX' hin2 hpv hx hc0 hc1 hc2 hc3 hc4 hkb hxz
      generalize x.row = xr at *
      generalize x.gn = xg at *
      generalize xr.size = xz at *
      go_wp2_with fail
      refine wp_region_noPanic ?_
      refine region_ph (A := fun _ => True) (e1 := 15) (B := fun V => Below wr.heap.size wr V) (e2 := 15) (C := fun _ => True) (by kernel_rfl) ⟨trivial, fun _ => below_drew wr, fun _ => trivial⟩ (fun hSt => ?_)
      refine take_ph 0 (.pointer (some ⟨ps, 0, none⟩)) [] rfl (by kernel_rfl) (fun _ _ _ h => h) (Or.inl ⟨by rfl, ?_⟩) hSt (fun hSn => ?_)
      · intro V _; go_simp
      clear hSt; rename Ph _ _ _ _ _ _ _ => hSt
      simp only [Act.put, List.setIfInBounds_toArray, List.set_cons_zero, List.set_cons_succ]
      refine take_ph 1 (.int .i64 i) [] rfl (by kernel_rfl) (fun _ _ _ h => h) (Or.inl ⟨by rfl, ?_⟩) hSt (fun hSn => ?_)
      · intro V _; go_simp
      clear hSt; rename Ph _ _ _ _ _ _ _ => hSt
      simp only [Act.put, List.setIfInBounds_toArray, List.set_cons_zero, List.set_cons_succ]
      refine take_ph 2 (.int .i64 ((i : Int) + 1)) [] rfl (by kernel_rfl) (fun _ _ _ h => h) (Or.inl ⟨by rfl, ?_⟩) hSt (fun hSn => ?_)
      · intro V _; go_simp
      clear hSt; rename Ph _ _ _ _ _ _ _ => hSt
      simp only [Act.put, List.setIfInBounds_toArray, List.set_cons_zero, List.set_cons_succ]
      refine take_ph 3 (.int .i64 (2 * ((i : Int) + 1))) [] rfl (by kernel_rfl) (fun _ _ _ h => h) (Or.inl ⟨by rfl, ?_⟩) hSt (fun hSn => ?_)
      · intro V _; go_simp
      clear hSt; rename Ph _ _ _ _ _ _ _ => hSt
      simp only [Act.put, List.setIfInBounds_toArray, List.set_cons_zero, List.set_cons_succ]
      refine take_ph 4 (.slice (some ⟨kb, ko, none⟩) ln c) [] rfl (by kernel_rfl) (fun _ _ _ h => h) (Or.inl ⟨by rfl, ?_⟩) hSt (fun hSn => ?_)
      · intro V _; go_simp
      clear hSt; rename Ph _ _ _ _ _ _ _ => hSt
      simp only [Act.put, List.setIfInBounds_toArray, List.set_cons_zero, List.set_cons_succ]
      refine take_ph 5 (.int .i64 i) [] rfl (by kernel_rfl) (fun _ _ _ h => h) (Or.inl ⟨by rfl, ?_⟩) hSt (fun hSn => ?_)
      · intro V _; go_simp
      clear hSt; rename Ph _ _ _ _ _ _ _ => hSt
      simp only [Act.put, List.setIfInBounds_toArray, List.set_cons_zero, List.set_cons_succ]
      refine take_ph 6 (.pointer (some ⟨kb, ko + i * 5, none⟩)) [] rfl (by kernel_rfl) (fun _ _ _ h => h) (Or.inl ⟨by rfl, ?_⟩) hSt (fun hSn => ?_)
      · intro V _; go_simp
      clear hSt; rename Ph _ _ _ _ _ _ _ => hSt
      simp only [Act.put, List.setIfInBounds_toArray, List.set_cons_zero, List.set_cons_succ]
      refine take_ph 7 (.pointer (some ⟨kb, ko + i * 5 + 3, none⟩)) [] rfl (by kernel_rfl) (fun _ _ _ h => h) (Or.inl ⟨by rfl, ?_⟩) hSt (fun hSn => ?_)
      · intro V _; go_simp
      clear hSt; rename Ph _ _ _ _ _ _ _ => hSt
      simp only [Act.put, List.setIfInBounds_toArray, List.set_cons_zero, List.set_cons_succ]
      refine take_ph 8 (.string xr) [9, 15] rfl (by kernel_rfl) (fun _ _ _ h => h) (Or.inl ⟨by rfl, ?_⟩) hSt (fun hSn => ?_)
      · rintro V ⟨_, hB, hC⟩; have e0 := (F1.out V (hB (by decide))).1; clear hB hC; go_simp
      clear hSt; rename Ph _ _ _ _ _ _ _ => hSt
      simp only [Act.put, List.setIfInBounds_toArray, List.set_cons_zero, List.set_cons_succ]
      refine take_ph 10 (.slice (some ⟨kb, ko, none⟩) ln c) [] rfl (by kernel_rfl) (fun _ _ _ h => h) (Or.inl ⟨by rfl, ?_⟩) hSt (fun hSn => ?_)
      · intro V _; go_simp
      clear hSt; rename Ph _ _ _ _ _ _ _ => hSt
      simp only [Act.put, List.setIfInBounds_toArray, List.set_cons_zero, List.set_cons_succ]
      refine take_ph 11 (.int .i64 i) [] rfl (by kernel_rfl) (fun _ _ _ h => h) (Or.inl ⟨by rfl, ?_⟩) hSt (fun hSn => ?_)
      · intro V _; go_simp
      clear hSt; rename Ph _ _ _ _ _ _ _ => hSt
      simp only [Act.put, List.setIfInBounds_toArray, List.set_cons_zero, List.set_cons_succ]
      refine take_ph 12 (.pointer (some ⟨kb, ko + i * 5, none⟩)) [] rfl (by kernel_rfl) (fun _ _ _ h => h) (Or.inl ⟨by rfl, ?_⟩) hSt (fun hSn => ?_)
      · intro V _; go_simp
      clear hSt; rename Ph _ _ _ _ _ _ _ => hSt
      simp only [Act.put, List.setIfInBounds_toArray, List.set_cons_zero, List.set_cons_succ]
      refine take_ph 13 (.pointer (some ⟨kb, ko + i * 5 + 4, none⟩)) [] rfl (by kernel_rfl) (fun _ _ _ h => h) (Or.inl ⟨by rfl, ?_⟩) hSt (fun hSn => ?_)
      · intro V _; go_simp
      clear hSt; rename Ph _ _ _ _ _ _ _ => hSt
      simp only [Act.put, List.setIfInBounds_toArray, List.set_cons_zero, List.set_cons_succ]
      refine take_ph 14 (.bool xg) [15] rfl (by kernel_rfl) (fun _ _ _ h => h) (Or.inl ⟨by rfl, ?_⟩) hSt (fun hSn => ?_)
      · rintro V ⟨_, hB, hC⟩; have e0 := (F1.out V (hB (by decide))).2; clear hB hC; go_simp
      clear hSt; rename Ph _ _ _ _ _ _ _ => hSt
      simp only [Act.put, List.setIfInBounds_toArray, List.set_cons_zero, List.set_cons_succ]
      refine ready_ph 9 rfl (by kernel_rfl) rfl (.inl (exec_conv rfl rfl HCv.out)) ⟨trivial, fun _ => HBX.out, fun _ => trivial⟩ (fun hSn => ?_)
      clear hSt; rename Ph _ _ _ _ _ _ _ => hSt
      simp only [Act.put, List.setIfInBounds_toArray, List.set_cons_zero, List.set_cons_succ]
      refine ready_call_ph 15 rfl (by kernel_rfl) (fun KK hK => ?_)
      go_simp
      go_wp2_with (first | (go_at_call 5; refine HP.out.mono ?_; rintro e V2 ⟨rfl, HV2⟩))
      refine hK.out _ _ ?_ (fun hSn => ?_)
      · exact ⟨trivial, fun h => absurd (show true = false from h) (by decide), fun h => absurd (show true = false from h) (by decide)⟩
      clear hK KK hSt; rename Ph _ _ _ _ _ _ _ => hSt
      refine take_ph 16 (.bool false) [] rfl (by kernel_rfl) (fun _ _ _ h => h) (Or.inl ⟨by rfl, ?_⟩) hSt (fun hSn => ?_)
      · intro V _; go_simp
      clear hSt; rename Ph _ _ _ _ _ _ _ => hSt
      simp only [Act.put, List.setIfInBounds_toArray, List.set_cons_zero, List.set_cons_succ]
      refine done_ph (by kernel_rfl) ?_ _
      clear hSt
      refine NoPanic.normal ?_
      go_wp2_with fail
      go_roundw
      case measure => first | omega | (simp [intOf]; omega)
      case rel => exact ⟨i + 1, by simp, hin, HV2.out⟩
    · obtain rfl : n = i := by omega
      have HO1 : Hid (∀ V, Calls Try.prog 6 #[.string ⟨#[107]⟩] V fun e w' => e = .returned (.agg #[.string ⟨#[107]⟩, .string ⟨#[107]⟩, .bool true, .bool true, .bool false, .bool false]) ∧ Below V.heap.size V w') := fun V => one_ kK V
      have HO2 : Hid (∀ V, Calls Try.prog 6 #[.string ⟨#[106]⟩] V fun e w' => e = .returned (.agg #[.string ⟨#[106]⟩, .string ⟨#[106]⟩, .bool true, .bool true, .bool false, .bool false]) ∧ Below V.heap.size V w') := fun V => one_ kJ V
      clear hi hin
      go_wp2_with (first | (go_at_call 6; refine (HO1.out _).mono ?_; rintro e w2 ⟨rfl, hb2⟩; have HB2 := Lib.hid hb2; clear hb2 HO1) | fail)
      obtain ⟨W0, hW0⟩ : ∃ W0, W0 = w2.alloc (.cells #[.string ⟨#[107]⟩, .string ⟨#[107]⟩, .bool true, .bool true, .bool false, .bool false] 32) := ⟨_, rfl⟩
      have HV0 : Hid (VnAt w W0 ps (mK L n) ∧ RgAt W0 w2.heap.size (oneR kK)) := by
        rw [hW0]
        exact ⟨(HV.out.on HB2.out).on (below_alloc _ _), rgAt_new w2 (oneR kK) _⟩
      rw [← hW0]
      clear hW0 HV HB2
      generalize w2.heap.size = ob at *
      go_loopw [7] (fun v7 wr => ∃ t : Nat, v7 = .int .i64 t ∧ t ≤ 2 * n + 4 ∧ Hid (VnAt w wr ps (mK L n) ∧ RgAt wr ob (oneR kK))) (fun v7 _ => (2 * (n : Int) + 4 - intOf v7).toNat)
      case atStart => exact ⟨0, rfl, Nat.zero_le _, HV0.out⟩
      case round =>
        clear HV0
        obtain ⟨t, rfl, ht, HV⟩ := hrel
        have hw1 := wraps_i64 (2 * (n : Int)) (by omega) (by omega)
        have hw2 := wraps_i64 (2 * (n : Int) + 4) (by omega) (by omega)
        by_cases htn : t < 2 * n + 4
        · have HG : Hid (Calls Try.prog 7 #[.pointer (some ⟨ps, 0, none⟩), .string ⟨#[107]⟩, .int .i64 t] wr fun e w' => ∃ r : Vl, e = .returned (.tuple #[.slice r.a r.n r.c, .bool (rowC (tK L n) t).isSome]) ∧ r.n = (bsN ((rowC (tK L n) t).getD ⟨#[]⟩)).length ∧ (∀ V, Below w'.heap.size w' V → (convert 28 9 (.slice r.a r.n r.c)).run Try.prog V = .ok (.string ((rowC (tK L n) t).getD ⟨#[]⟩)) V) ∧ Hid (Below wr.heap.size wr w')) := by
            have := vget_ HV.out.1 (by rw [nVer_mK]; omega) kK t
            rw [ch_mK] at this
            refine this.mono fun e w' ⟨r, e1, h1, _, h3⟩ => ⟨r, e1, h1.bytes.1, fun V hV => ?_, h3⟩
            obtain ⟨b1, b2, _⟩ := (h1.on hV).bytes
            have := conv_ V r.a r.n r.c _ b1 b2
            rw [bs_bsN] at this
            exact this
          have HC1 : Hid (∀ V, Below wr.heap.size wr V → Calls Try.prog 8 #[.pointer (some ⟨ps, 0, none⟩), .agg #[.string ⟨#[107]⟩, .string ⟨#[107]⟩, .bool true, .bool true, .bool false, .bool false], .int .i64 t] V fun e w' => e = .returned (.bool (decide ((t : Int) < 2 * (n : Int)))) ∧ Hid (Below wr.heap.size wr w')) := fun V hV => by
            have := changed_ (HV.out.1.on hV) (by rw [nVer_mK]; omega) (oneR kK) t
            rw [chg_one L n t (by omega)] at this
            exact this.mono fun e w' ⟨e1, e2⟩ => ⟨e1, below_step hV e2⟩
          have HC2 : Hid (∀ V, Below wr.heap.size wr V → Calls Try.prog 8 #[.pointer (some ⟨ps, 0, none⟩), .agg #[.string ⟨#[106]⟩, .string ⟨#[106]⟩, .bool true, .bool true, .bool false, .bool false], .int .i64 t] V fun e w' => e = .returned (.bool false) ∧ Hid (Below wr.heap.size wr w')) := fun V hV => by
            have := changed_ (HV.out.1.on hV) (by rw [nVer_mK]; omega) (oneR kJ) t
            rw [chg_other L n t] at this
            exact this.mono fun e w' ⟨e1, e2⟩ => ⟨e1, below_step hV e2⟩
          have HRg : Hid (∀ V, Below wr.heap.size wr V → RgAt V ob (oneR kK) ∧ VnAt w V ps (mK L n)) := fun V hV => ⟨HV.out.2.on hV (block_lt_of_cell HV.out.2.1), HV.out.1.on hV⟩
          unfold RgAt oneR at HRg
          dsimp only [kK] at HRg
          have hro : rowC (tK L n) t = rowO (if min (t / 2) n = 0 then none else some (pvT L (min (t / 2) n - 1))) := by unfold rowC; rw [as_tK]
          obtain ⟨q, hq⟩ : ∃ q, q = min (t / 2) n := ⟨_, rfl⟩
          obtain ⟨t2, ht2⟩ : ∃ t2, t2 = t / 2 := ⟨_, rfl⟩
          rw [← hq] at hro
          rw [← ht2] at hq
          have hm1 : (if n < t2 then (n : Int) else (t2 : Int)) = (q : Int) := by split <;> omega
          have hm2 : (if (n : Int) < (t2 : Int) then (n : Int) else (t2 : Int)) = (q : Int) := by split <;> omega
          have htd : (t : Int).tdiv 2 = (t2 : Int) := by rw [Int.tdiv_eq_ediv_of_nonneg (by omega)]; omega
          have htd2 : (t : Int) / 2 = (t2 : Int) := by omega
          have hqn : q ≤ n := by omega
          clear HV ht2 hq
          rcases Nat.eq_zero_or_pos q with rfl | hqp
          · rw [if_pos rfl] at hro
            rw [show rowC (tK L n) t = none from hro] at HG
            go_wp2_with (first
              | (go_at_call 7; refine HG.out.mono ?_; rintro e w3 ⟨r, rfl, hrn, hcv, HB3⟩; have hr0 : r.n = 0 := hrn; clear hrn hcv; obtain ⟨⟨x0, x1, x2, x3, x4, x5⟩, _⟩ := HRg.out _ HB3.out)
              | (go_at_call 8; refine (HC1.out _ HB3.out).mono ?_; rintro e w4 ⟨rfl, HB4⟩; clear HC1)
              | (go_at_call 6; refine (HO2.out _).mono ?_; rintro e w5 ⟨rfl, hb5⟩; have HB5 := Lib.hid (below_step HB4.out hb5); clear hb5 HO2)
              | (go_at_call 8; refine (HC2.out _ HB5.out).mono ?_; rintro e w6 ⟨rfl, HB6⟩; clear HC2)
              | fail)
            go_roundw
            case measure => first | omega | (simp [intOf]; omega)
            case rel => exact ⟨t + 1, by simp, by omega, (HRg.out _ HB6.out).2, (HRg.out _ HB6.out).1⟩
          · obtain ⟨j, rfl⟩ : ∃ j, q = j + 1 := ⟨q - 1, by omega⟩
            rw [if_neg (by omega), show j + 1 - 1 = j by omega] at hro
            have hjc : ((j + 1 : Nat) : Int) = (j : Int) + 1 := by omega
            rw [hjc] at hm1 hm2
            have hwj := wraps_i64 (j : Int) (by omega) (by omega)
            have hj0 : ¬ (j : Int) < 0 := by omega
            obtain ⟨x, hx⟩ := getElem?_of_lt (show j < L.length by have := HLn.out; omega)
            have hpv : pvT L j = ⟨2 * ((j : Int) + 1), txA x, x.gn⟩ := by unfold pvT; rw [hx]
            rw [hpv] at hro
            obtain ⟨kb, ko, rfl, hkb, _, _, _, hc3, hc4⟩ := (HLs.out.on (HRg.out wr (Below.refl _ _)).2.below) j x hx
            have HF : Hid (∀ V, Below wr.heap.size wr V → V.cell? ⟨kb, ko + j * 5 + 3, none⟩ = some (.string x.row) ∧ V.cell? ⟨kb, ko + j * 5 + 4, none⟩ = some (.bool x.gn)) := fun V hV => ⟨(hV.cell (p := ⟨kb, ko + j * 5 + 3, none⟩) hkb).trans hc3, (hV.cell (p := ⟨kb, ko + j * 5 + 4, none⟩) hkb).trans hc4⟩
            have hjl : (j : Int) < ln := by omega
            clear hjc hpv hx hkb hc3 hc4
            cases hgn : x.gn with
            | true =>
              rw [hgn] at HF hro
              rw [show rowC (tK L n) t = none from hro] at HG
              clear hgn hro
              go_wp2_with (first
                | (go_at_call 7; refine HG.out.mono ?_; rintro e w3 ⟨r, rfl, hrn, hcv, HB3⟩; have hr0 : r.n = 0 := hrn; clear hrn hcv; obtain ⟨y1, y2⟩ := HF.out _ HB3.out; obtain ⟨⟨x0, x1, x2, x3, x4, x5⟩, _⟩ := HRg.out _ HB3.out)
                | (go_at_call 8; refine (HC1.out _ HB3.out).mono ?_; rintro e w4 ⟨rfl, HB4⟩; clear HC1)
                | (go_at_call 6; refine (HO2.out _).mono ?_; rintro e w5 ⟨rfl, hb5⟩; have HB5 := Lib.hid (below_step HB4.out hb5); clear hb5 HO2)
                | (go_at_call 8; refine (HC2.out _ HB5.out).mono ?_; rintro e w6 ⟨rfl, HB6⟩; clear HC2)
                | fail)
              go_roundw
              case measure => first | omega | (simp [intOf]; omega)
              case rel => exact ⟨t + 1, by simp, by omega, (HRg.out _ HB6.out).2, (HRg.out _ HB6.out).1⟩
            | false =>
              rw [hgn] at HF hro
              have htx : txA x = x.row := by unfold txA; rw [hgn]; rfl
              rw [show rowC (tK L n) t = some x.row from by rw [hro, ← htx]; rfl] at HG
              clear hgn hro htx
              simp only [Option.isSome_some, Option.getD_some] at HG
              go_wp2_with (first
                | (go_at_call 7; refine HG.out.mono ?_; rintro e w3 ⟨r, rfl, hrn, hcv, HB3⟩; have HCv := Lib.hid hcv; clear hrn hcv HG; obtain ⟨y1, y2⟩ := HF.out _ HB3.out)
                | fail)
              have HS : Hid (∀ V, Below w3.heap.size w3 V → V.cell? ⟨kb, ko + j * 5 + 3, none⟩ = some (.string x.row) ∧ (convert 28 9 (.slice r.a r.n r.c)).run Try.prog V = .ok (.string x.row) V ∧ Below w3.heap.size w3 V) := fun V hV => ⟨(HF.out V (below_step HB3.out hV)).1, HCv.out V hV, hV⟩
              clear y1 y2 HCv
              generalize x.row = xr at *
              have hbe : (xr.toList == xr.toList) = true := by simp
              refine wp_region_noPanic ?_
              go_region_held (fun V => V.cell? ⟨kb, ko + j * 5 + 3, none⟩ = some (.string xr) ∧ (convert 28 9 (.slice r.a r.n r.c)).run Try.prog V = .ok (.string xr) V ∧ Below w3.heap.size w3 V) (first | (exact HS.out _ (below_drew _)) | assumption) (fail)
              refine NoPanic.normal ?_
              have HB3' : Hid (Below wr.heap.size wr w3.drew) := below_step HB3.out (below_drew w3)
              obtain ⟨⟨x0, x1, x2, x3, x4, x5⟩, _⟩ := HRg.out _ HB3'.out
              go_wp2_with (first
                | (go_at_call 8; refine (HC1.out _ HB3'.out).mono ?_; rintro e w4 ⟨rfl, HB4⟩; clear HC1)
                | (go_at_call 6; refine (HO2.out _).mono ?_; rintro e w5 ⟨rfl, hb5⟩; have HB5 := Lib.hid (below_step HB4.out hb5); clear hb5 HO2)
                | (go_at_call 8; refine (HC2.out _ HB5.out).mono ?_; rintro e w6 ⟨rfl, HB6⟩; clear HC2)
                | fail)
              go_roundw
              case measure => first | omega | (simp [intOf]; omega)
              case rel => exact ⟨t + 1, by simp, by omega, (HRg.out _ HB6.out).2, (HRg.out _ HB6.out).1⟩
        · have HV3 : Hid (∀ V, Below wr.heap.size wr V → Calls Try.prog 9 #[.pointer (some ⟨ps, 0, none⟩)] V fun e w' => e = .returned (.int .i64 n) ∧ Hid (Below w.heap.size w w')) := fun V hV => by
            have := versions_ (HV.out.1.on hV) (by rw [nVer_mK]; omega)
            rw [nVer_mK] at this
            exact this.mono fun e w' ⟨e1, e2⟩ => ⟨e1, below_step (HV.out.1.on hV).below e2⟩
          have hbn : ((n : Int) == (n : Int)) = true := by simp
          clear HV
          go_wp2_with (first
            | (go_at_call 9; refine (HV3.out _ (Below.refl _ _)).mono ?_; rintro e w3 ⟨rfl, HB3⟩; clear HV3)
            | (go_at_call 10; refine (sure_ _).mono ?_; rintro e w4 ⟨rfl, hb4⟩; have HB4 := Lib.hid (below_step HB3.out hb4); clear hb4)
            | fail)
          go_ret
          exact ⟨rfl, HB4.out⟩
end Go.Proofs.Ytagamkahfiackaa
