/- The walk of the document's Print; the law's give. -/
import Derived.Test.YtfmpnakonffkcaaGreatDoorLxRTold
import Derived.Test.YtfmpnakonffkcaaGreatDoorLxPrint3
import Derived.Test.YtfmpnakonffkcaaGreatDoorLxRefO
namespace Go.Proofs.YtfmpnakonffkcaaGreatDoor
open Go.RowKit Go.Sort

/-- What the document's Print tells. -/
def rprnV (ts : List Tk) : Value := if ts.all canL = true then .tuple #[.string (ofL (joinB ts)), .int .i64 0] else .tuple #[.string ⟨#[]⟩, .int .i64 3]
theorem rtoldL_len {t : Tk} (h : inI t.n) : (rtoldL t).length ≤ 2 * t.tx.size + 20 := by
  unfold rtoldL
  rw [size_lst]
  split
  · have := nDig_le t.n h; omega
  · split
    · have := dbl_len (lst t.tx); simp; omega
    · omega
theorem can_rtold {t : Tk} (h : canL t = true) : rtoldL t = toldL t := by
  have h1 := canL_iff.1 h
  refine rtoldL_eq ?_
  have h2 : (first (toldL t)).e = 0 := by rw [h1]
  have h3 := first_k h2
  rw [h1] at h3
  rcases h3 with h | h | h | h
  · exact .inl h
  · exact .inr (.inl h)
  · exact .inr (.inr (.inl h))
  · exact .inr (.inr (.inr h))
set_option maxRecDepth 100000 in
set_option maxHeartbeats 4000000 in
theorem rprint_ (a : Option Addr) (c : Nat) (ts : List Tk) (w : World) (ha : TksIn w a ts) (hl : ts.length ≤ 1048576) (hf : ∀ t ∈ ts, FitT t) :
    Calls Tryz.prog 13 #[.slice a ts.length c] w fun e w' => e = .returned (rprnV ts) ∧ Below w.heap.size w w' := by
  have HI := Lib.hid ha
  have HF := Lib.hid hf
  have HJl : Hid (∀ i, (joinB (ts.take i)).length ≤ 4000000000000) := fun i => by
    have h1 := joinB_len 2097200 (ts.take i) (fun t ht => by have h1 := toldL_len (hf t (List.mem_of_mem_take ht)).1; have h2 := (hf t (List.mem_of_mem_take ht)).2; omega)
    have h2 : (ts.take i).length ≤ 1048576 := by rw [List.length_take]; omega
    have : (ts.take i).length * 2097200 ≤ 1048576 * 2097200 := Nat.mul_le_mul_right _ h2
    omega
  obtain ⟨L, hL⟩ : ∃ L, ts.length = L := ⟨_, rfl⟩
  have HL := Lib.hid hL
  rw [hL] at hl ⊢
  have hGD := guardR
  have HYes : Hid ((∀ j (hj : j < ts.length), canL ts[j] = true) → rprnV ts = .tuple #[.string (ofL (joinB ts)), .int .i64 0]) := fun h => by
    rw [rprnV, if_pos (all_take h)]
  have HNo : Hid (∀ i (hi : i < ts.length), canL ts[i] = false → rprnV ts = .tuple #[.string ⟨#[]⟩, .int .i64 3]) := fun i hi h => by
    rw [rprnV, if_neg (by rw [all_not hi h]; decide)]
  clear ha hf hL
  go_enter Tryz.func13, Tryz.ntmps13
  go_wp2_with fail
  go_loopw [4, 5] (fun sv iv wr => ∃ i : Nat, i ≤ L ∧ iv = .int .i64 i ∧ sv = .string (ofL (joinB (ts.take i))) ∧ Hid (Below w.heap.size w wr) ∧ Hid (∀ j (hj : j < ts.length), j < i → canL ts[j] = true)) (fun _ iv _ => L - (intOf iv).toNat)
  case atStart => exact ⟨0, Nat.zero_le _, rfl, rfl, Below.refl _ _, fun j _ hj => by omega⟩
  case round =>
    obtain ⟨i, hi, rfl, rfl, HB, HV⟩ := hrel
    by_cases hlt : i < L
    · have hlt2 : (i : Int) < (L : Int) := by omega
      have hi2 : i < ts.length := by rw [HL.out]; exact hlt
      have HIi := Lib.hid (HI.out.on HB.out)
      obtain ⟨b, o, rfl, k, tx, n, p, hvi, p0, p1, p2, p3⟩ := TksIn.get HIi.out i hi2
      have hfit := HF.out _ (List.getElem_mem hi2)
      rw [hvi] at hfit
      have HIn : Hid (InT wr b (o + i * 4) ⟨k, tx, n, p⟩) := ⟨p0, p1, p2, p3⟩
      simp only at p0 p1 p2 p3
      have HTo : Hid (Calls Tryz.prog 24 #[.agg #[.int .i64 k, .string tx, .int .i64 n, .int .i64 p]] wr fun e w' => e = .returned (.string (ofL (rtoldL ⟨k, tx, n, p⟩))) ∧ Below wr.heap.size wr w') := rtold_ k tx n p wr hfit.1 (by have := hfit.2; simp only at this; omega)
      have hsz : (ofL (rtoldL ⟨k, tx, n, p⟩)).size ≤ 1000000000 := by
        have h1 := rtoldL_len hfit.1; have h2 := hfit.2
        simp only at h1 h2
        rw [size_lst, lst_ofL]; omega
      have hcan := canR_eq ⟨k, tx, n, p⟩
      have HTd : Hid (canL ⟨k, tx, n, p⟩ = true → rtoldL ⟨k, tx, n, p⟩ = toldL ⟨k, tx, n, p⟩) := fun h => can_rtold h
      have HJn : Hid (joinB (ts.take (i + 1)) = if i = 0 then toldL ⟨k, tx, n, p⟩ else joinB (ts.take i) ++ 32 :: toldL ⟨k, tx, n, p⟩) := by
        show _ = _
        rw [List.take_succ_eq_append_getElem hi2, hvi]
        by_cases h0 : i = 0
        · subst h0; rfl
        · rw [if_neg h0]
          exact joinB_snoc _ _ (by intro e; have := congrArg List.length e; rw [List.length_take, HL.out] at this; simp at this; omega)
      have HCv : Hid (canL ⟨k, tx, n, p⟩ = true → ∀ j (hj : j < ts.length), j < i + 1 → canL ts[j] = true) := fun h j hj hji => by
        rcases Nat.lt_or_ge j i with hh | hh
        · exact HV.out j hj hh
        · obtain rfl : j = i := by omega
          rw [hvi]; exact h
      have HCn : Hid (canL ⟨k, tx, n, p⟩ = false → rprnV ts = .tuple #[.string ⟨#[]⟩, .int .i64 3]) := fun h => HNo.out i hi2 (by rw [hvi]; exact h)
      have hjs : (ofL (joinB (ts.take i))).size ≤ 4000000000000 := by rw [size_lst, lst_ofL]; exact HJl.out i
      generalize canL ⟨k, tx, n, p⟩ = CL at *
      generalize toldL ⟨k, tx, n, p⟩ = TL at *
      generalize hPL : rtoldL ⟨k, tx, n, p⟩ = PL at *
      by_cases hemp : PL = []
      · have hCL : CL = false := by rw [hcan, hemp]; rfl
        have hCn := HCn.out hCL
        have he : (ofL PL).toList = [] := by rw [toList_lst, lst_ofL, hemp]
        have hempI : ((ofL PL).toList == []) = true := by rw [he]; rfl
        clear HCv HCn hcan HTd HJn hPL hvi hfit HV HYes HNo hemp he HJl HF
        go_wp2_with fail
        refine HTo.out.mono ?_
        rintro e w2 ⟨rfl, hb2⟩
        have HB2 := Lib.hid (below_step HB.out hb2)
        clear hb2 HTo
        go_wp2_with fail
        refine bodyPost_ret (v := .tuple #[.string ⟨#[]⟩, .int .i64 3]) ?_ rfl ⟨by rw [hCn], HB2.out⟩
        simp [results, Tryz.results13, go_sem]
      · have hempI : ((ofL PL).toList == []) = false := by rw [toList_lst, lst_ofL]; simpa using hemp
        have HOn : Hid (∀ W, Calls Tryz.prog 19 #[.string (ofL PL), .int .i64 0] W fun e w' => e = .returned (oneV (first PL) 0) ∧ Below W.heap.size W w') := fun W => by
          have := one_ (ofL PL) 0 W hsz (by rw [size_lst, lst_ofL]; exact List.length_pos_iff.2 hemp)
          rw [lst_ofL, List.drop_zero] at this; exact this
        obtain ⟨gT, hgT⟩ : ∃ g, (first PL).t = g := ⟨_, rfl⟩
        obtain ⟨gS, hgS⟩ : ∃ g, (first PL).s = g := ⟨_, rfl⟩
        obtain ⟨gE, hgE⟩ : ∃ g, (first PL).e = g := ⟨_, rfl⟩
        rw [hgT, hgS, hgE] at hcan
        have hps : (ofL PL).size = PL.length := by rw [size_lst, lst_ofL]
        obtain ⟨PS, hPS⟩ : ∃ q, (ofL PL).size = q := ⟨_, rfl⟩
        rw [hPS] at hps
        rw [← hps] at hcan
        by_cases hE0 : gE = 0
        · have hgv : oneV (first PL) 0 = .tuple #[.agg #[.int .i64 gT.k, .string gT.tx, .int .i64 gT.n, .int .i64 0], .int .i64 (gS : Int), .int .i64 0] := by
            rw [oneV, if_pos (by rw [hgE]; exact hE0), hgT, hgS, Nat.zero_add]; rfl
          rw [hgv] at HOn
          have hEQ : ∀ W, (Op.equalIn 10000 49 (.agg #[.int .i64 gT.k, .string gT.tx, .int .i64 gT.n, .int .i64 0]) (.agg #[.int .i64 k, .string tx, .int .i64 n, .int .i64 0])).run Tryz.prog W = .ok (sameB gT ⟨k, tx, n, p⟩) W := fun W => by
            rw [eqR_, sameT, sameB]; simp
          generalize sameB gT ⟨k, tx, n, p⟩ = sb at *
          by_cases hS0 : gS = PS
          · have hne : ((gS : Int) != (PS : Int)) = false := by rw [hS0]; simp
            cases hsb : sb with
            | true =>
              rw [hsb] at hEQ
              have hCL : CL = true := by rw [hcan, hE0, hS0, hsb]; simp
              have HV2 := Lib.hid (HCv.out hCL)
              have hPT := HTd.out hCL
              by_cases hi0 : i = 0
              · have hi0' : ¬ ((0 : Int) < (i : Int)) := by omega
                have HJ2 : Hid (ofL (joinB (ts.take i)) ++ ofL PL = ofL (joinB (ts.take (i + 1)))) := by
                  show _ = _
                  rw [HJn.out, if_pos hi0, hi0, ← hPT]
                  apply ba_ext
                  rw [ba_append]; rfl
                generalize ofL (joinB (ts.take i)) = JS at *
                generalize ofL PL = PB at *
                clear HCv HCn hcan hsb hE0 hS0 hgv hgT hgS hgE hps hemp HTd HJn hPL hvi hfit HV HYes HNo HJl HF hCL hPT hi0
                go_wp2_with fail
                refine HTo.out.mono ?_
                rintro e w2 ⟨rfl, hb2⟩
                have HB2 := Lib.hid (below_step HB.out hb2)
                have HIn2 := Lib.hid (HIn.out.on hb2)
                clear hb2 HTo
                go_wp2_with fail
                refine (HOn.out _).mono ?_
                rintro e w3 ⟨rfl, hb3⟩
                have HB3 := Lib.hid (below_step HB2.out hb3)
                have q := (HIn2.out.on hb3).on (below_alloc1 w3 (.cells #[.int .i64 gT.k, .string gT.tx, .int .i64 gT.n, .int .i64 0] 49))
                obtain ⟨q0, q1, q2, q3⟩ := q
                simp only at q0 q1 q2 q3
                clear hb3 HOn HIn2
                go_wp2_with fail
                go_roundw
                case rel => exact ⟨i + 1, by omega, by go_num, by rw [← HJ2.out], below_step (below_step HB3.out (below_alloc1 _ _)) (below_alloc1 _ _), HV2⟩
                case measure => simp [intOf]; omega
              · have hi0' : (0 : Int) < (i : Int) := by omega
                have HJ2 : Hid (ofL (joinB (ts.take i)) ++ ⟨#[32]⟩ ++ ofL PL = ofL (joinB (ts.take (i + 1)))) := by
                  show _ = _
                  rw [HJn.out, if_neg hi0, ← hPT]
                  apply ba_ext
                  rw [ba_append, ba_append]; simp [ofL]
                generalize ofL (joinB (ts.take i)) = JS at *
                generalize ofL PL = PB at *
                clear HCv HCn hcan hsb hE0 hS0 hgv hgT hgS hgE hps hemp HTd HJn hPL hvi hfit HV HYes HNo HJl HF hCL hPT hi0
                go_wp2_with fail
                refine HTo.out.mono ?_
                rintro e w2 ⟨rfl, hb2⟩
                have HB2 := Lib.hid (below_step HB.out hb2)
                have HIn2 := Lib.hid (HIn.out.on hb2)
                clear hb2 HTo
                go_wp2_with fail
                refine (HOn.out _).mono ?_
                rintro e w3 ⟨rfl, hb3⟩
                have HB3 := Lib.hid (below_step HB2.out hb3)
                have q := (HIn2.out.on hb3).on (below_alloc1 w3 (.cells #[.int .i64 gT.k, .string gT.tx, .int .i64 gT.n, .int .i64 0] 49))
                obtain ⟨q0, q1, q2, q3⟩ := q
                simp only at q0 q1 q2 q3
                clear hb3 HOn HIn2
                go_wp2_with fail
                go_roundw
                case rel => exact ⟨i + 1, by omega, by go_num, by rw [← HJ2.out], below_step (below_step HB3.out (below_alloc1 _ _)) (below_alloc1 _ _), HV2⟩
                case measure => simp [intOf]; omega
            | false =>
              rw [hsb] at hEQ
              have hCn := HCn.out (by rw [hcan, hsb]; simp)
              generalize ofL PL = PB at *
              clear HCv HCn hcan hsb hE0 hS0 hgv hgT hgS hgE hps hemp HTd HJn hPL hvi hfit HV HYes HNo HJl HF
              go_wp2_with fail
              refine HTo.out.mono ?_
              rintro e w2 ⟨rfl, hb2⟩
              have HB2 := Lib.hid (below_step HB.out hb2)
              have HIn2 := Lib.hid (HIn.out.on hb2)
              clear hb2 HTo
              go_wp2_with fail
              refine (HOn.out _).mono ?_
              rintro e w3 ⟨rfl, hb3⟩
              have HB3 := Lib.hid (below_step HB2.out hb3)
              have q := (HIn2.out.on hb3).on (below_alloc1 w3 (.cells #[.int .i64 gT.k, .string gT.tx, .int .i64 gT.n, .int .i64 0] 49))
              obtain ⟨q0, q1, q2, q3⟩ := q
              simp only at q0 q1 q2 q3
              clear hb3 HOn HIn2
              go_wp2_with fail
              refine bodyPost_ret (v := .tuple #[.string ⟨#[]⟩, .int .i64 3]) ?_ rfl ⟨by rw [hCn], below_step (below_step HB3.out (below_alloc1 _ _)) (below_alloc1 _ _)⟩
              simp [results, Tryz.results13, go_sem]
          · have hne : ((gS : Int) != (PS : Int)) = true := by simp; omega
            have hCn := HCn.out (by rw [hcan]; simp [hS0])
            generalize ofL PL = PB at *
            clear HCv HCn hcan hE0 hS0 hgv hgT hgS hgE hps hemp HTd HJn hPL hvi hfit HV HYes HNo HJl HF hEQ
            go_wp2_with fail
            refine HTo.out.mono ?_
            rintro e w2 ⟨rfl, hb2⟩
            have HB2 := Lib.hid (below_step HB.out hb2)
            have HIn2 := Lib.hid (HIn.out.on hb2)
            clear hb2 HTo
            go_wp2_with fail
            refine (HOn.out _).mono ?_
            rintro e w3 ⟨rfl, hb3⟩
            have HB3 := Lib.hid (below_step HB2.out hb3)
            have q := (HIn2.out.on hb3).on (below_alloc1 w3 (.cells #[.int .i64 gT.k, .string gT.tx, .int .i64 gT.n, .int .i64 0] 49))
            obtain ⟨q0, q1, q2, q3⟩ := q
            simp only at q0 q1 q2 q3
            clear hb3 HOn HIn2
            go_wp2_with fail
            refine bodyPost_ret (v := .tuple #[.string ⟨#[]⟩, .int .i64 3]) ?_ rfl ⟨by rw [hCn], below_step (below_step HB3.out (below_alloc1 _ _)) (below_alloc1 _ _)⟩
            simp [results, Tryz.results13, go_sem]
        · have hgv : oneV (first PL) 0 = .tuple #[.agg #[.int .i64 0, .string ⟨#[]⟩, .int .i64 0, .int .i64 0], .int .i64 0, .int .i64 gE] := by
            rw [oneV, if_neg (by rw [hgE]; exact hE0), hgE]; rfl
          rw [hgv] at HOn
          have hne : (gE != 0) = true := by simpa using hE0
          have hCn := HCn.out (by rw [hcan]; simp [hE0])
          generalize ofL PL = PB at *
          clear HCv HCn hcan hE0 hgv hgT hgS hgE hps hemp HTd HJn hPL hvi hfit HV HYes HNo HJl HF
          go_wp2_with fail
          refine HTo.out.mono ?_
          rintro e w2 ⟨rfl, hb2⟩
          have HB2 := Lib.hid (below_step HB.out hb2)
          have HIn2 := Lib.hid (HIn.out.on hb2)
          clear hb2 HTo
          go_wp2_with fail
          refine (HOn.out _).mono ?_
          rintro e w3 ⟨rfl, hb3⟩
          have HB3 := Lib.hid (below_step HB2.out hb3)
          have q := (HIn2.out.on hb3).on (below_alloc1 w3 (.cells #[.int .i64 0, .string ⟨#[]⟩, .int .i64 0, .int .i64 0] 49))
          obtain ⟨q0, q1, q2, q3⟩ := q
          simp only at q0 q1 q2 q3
          clear hb3 HOn HIn2
          go_wp2_with fail
          refine bodyPost_ret (v := .tuple #[.string ⟨#[]⟩, .int .i64 3]) ?_ rfl ⟨by rw [hCn], below_step (below_step HB3.out (below_alloc1 _ _)) (below_alloc1 _ _)⟩
          simp [results, Tryz.results13, go_sem]
    · obtain rfl : i = L := by omega
      have hlt2 : ¬ ((i : Int) < (i : Int)) := by omega
      have HY := Lib.hid (HYes.out (fun j hj => HV.out j hj (by rw [← HL.out]; exact hj)))
      have htk : ts.take i = ts := List.take_of_length_le (by rw [HL.out]; exact Nat.le_refl _)
      rw [htk]
      clear HYes HNo HV htk
      generalize hJB : ofL (joinB ts) = JB at *
      go_wp2_with fail
      refine bodyPost_ret (v := .tuple #[.string JB, .int .i64 0]) ?_ rfl ⟨by rw [HY.out], HB.out⟩
      simp [results, Tryz.results13, go_sem]

/-! ### give -/
set_option maxRecDepth 100000 in
set_option maxHeartbeats 4000000 in
theorem give_ (a : Option Addr) (c : Nat) (ts : List Tk) (w : World) (ha : TksIn w a ts) (hl : ts.length ≤ 1048576) :
    Calls Tryz.prog 12 #[.slice a ts.length c] w fun e w' => ∃ b cb, e = .returned (.slice b ts.length cb) ∧ TksIn w' b ts ∧ Below w.heap.size w w' := by
  have HI := Lib.hid ha
  obtain ⟨L, hL⟩ : ∃ L, ts.length = L := ⟨_, rfl⟩
  have HL := Lib.hid hL
  rw [hL] at hl ⊢
  clear ha hL
  go_enter Tryz.func12, Tryz.ntmps12
  go_wp2_with fail
  go_loopw [3, 4] (fun lv iv wr => ∃ i : Nat, i ≤ L ∧ iv = .int .i64 i ∧ Hid (OwnT wr w.heap.size lv (ts.take i)) ∧ Hid (Below w.heap.size w wr)) (fun _ iv _ => L - (intOf iv).toNat)
  case atStart => exact ⟨0, Nat.zero_le _, rfl, ownT_nil _ _, Below.refl _ _⟩
  case round =>
    obtain ⟨i, hi, rfl, HO, HB⟩ := hrel
    by_cases hlt : i < L
    · have hlt2 : (i : Int) < (L : Int) := by omega
      have hi2 : i < ts.length := by rw [HL.out]; exact hlt
      obtain ⟨b, o, rfl, k, tx, n, p, hvi, p0, p1, p2, p3⟩ := TksIn.get (HI.out.on HB.out) i hi2
      simp only at p0 p1 p2 p3
      have HTk : Hid (ts.take (i + 1) = ts.take i ++ [⟨k, tx, n, p⟩]) := by
        show _ = _
        rw [List.take_succ_eq_append_getElem hi2, hvi]
      have hlen : ((ts.take i).length + 1) * 40 ≤ 140737488355328 := by rw [List.length_take]; omega
      clear hvi
      go_wp2_with (first
        | (at_builtin; refine wpList_append_t w.heap.size _ w rfl _ _ rfl _ (ts.take i) [⟨k, tx, n, p⟩] rfl (HO.out.on (below_alloc1 _ _)) wr.heap.size 0 1 1 rfl rfl (one_inT (by refine ⟨?_, ?_, ?_, ?_⟩ <;> simp [go_sem])) hlen (Nat.le_refl _) (below_step HB.out (below_alloc1 _ _)) ?_
           intro v' w3 hown hb3
           rw [← HTk.out] at hown
           have HO3 := Lib.hid hown
           have HB3 := Lib.hid hb3
           clear hown hb3 HO)
        | fail)
      go_roundw
      case rel => exact ⟨i + 1, by omega, by go_num, HO3, HB3⟩
      case measure => simp [intOf]; omega
    · obtain rfl : i = L := by omega
      have hlt2 : ¬ ((i : Int) < (i : Int)) := by omega
      have htk : ts.take i = ts := List.take_of_length_le (by rw [HL.out]; exact Nat.le_refl _)
      rw [htk] at HO
      obtain ⟨b, cb, rfl, hin, _⟩ := HO.out.tks
      clear HO htk
      go_wp2_with fail
      go_ret
      exact ⟨b, ⟨cb, by rw [HL.out]; rfl⟩, hin, HB.out⟩
end Go.Proofs.YtfmpnakonffkcaaGreatDoor
