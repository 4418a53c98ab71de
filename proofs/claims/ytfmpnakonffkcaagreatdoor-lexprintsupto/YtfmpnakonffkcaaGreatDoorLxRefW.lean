/- The walk of the document's word. -/
import Derived.Test.YtfmpnakonffkcaaGreatDoorLxRef
namespace Go.Proofs.YtfmpnakonffkcaaGreatDoor
open Go.RowKit Go.Sort

theorem low_up1 {c : UInt8} (h1 : 65 ≤ c.toNat) (h2 : c.toNat ≤ 90) : ((low c).toNat : Int) = (c.toNat : Int) + 32 := by
  rw [low, if_pos ⟨h1, h2⟩, UInt8.toNat_add]
  have : UInt8.toNat 32 = 32 := rfl
  omega
theorem low_no1 {c : UInt8} (h : ¬ (65 ≤ c.toNat ∧ c.toNat ≤ 90)) : low c = c := by rw [low, if_neg h]
theorem ofW_or {c : UInt8} : ofW c = (letB c || isDig c || ((c.toNat : Int) == 95)) := by
  unfold ofW
  congr 1
  by_cases e : c.toNat = 95
  · rw [decide_eq_true e, e]; rfl
  · rw [decide_eq_false e]; exact (beq_eq_false_iff_ne.2 (by omega)).symm
theorem ns_snoc (xs : List UInt8) (c : UInt8) : ns (xs ++ [c]) = ns xs ++ [c.toNat] := by simp [ns]
set_option maxRecDepth 100000 in
set_option maxHeartbeats 4000000 in
theorem word_ (s : ByteArray) (p : Nat) (w : World) (hs : s.size ≤ 1000000000) (hp : p ≤ s.size) :
    Calls Tryz.prog 35 #[.string s, .int .i64 (p : Int)] w fun e w' => e = .returned (.tuple #[.agg #[.int .i64 1, .string (ofL ((((lst s).drop p).takeWhile ofW).map low)), .int .i64 0, .int .i64 (p : Int)], .int .i64 ((p + (((lst s).drop p).takeWhile ofW).length : Nat) : Int), .int .i64 0]) ∧ Below w.heap.size w w' := by
  obtain ⟨n, hn⟩ : ∃ n, s.size = n := ⟨_, rfl⟩
  have HN := Lib.hid hn
  obtain ⟨X, hX⟩ : ∃ X, (((lst s).drop p).takeWhile ofW).map low = X := ⟨_, rfl⟩
  obtain ⟨L, hL⟩ : ∃ L, (((lst s).drop p).takeWhile ofW).length = L := ⟨_, rfl⟩
  have HX : Hid ((((lst s).drop p).takeWhile ofW).map low = X ∧ (((lst s).drop p).takeWhile ofW).length = L) := ⟨hX, hL⟩
  rw [hX, hL]
  rw [hn] at hs hp
  clear hX hL
  have F0 := Lib.hid (frT_start w 49)
  go_enter Tryz.func35, Tryz.ntmps35
  go_wp2_with fail
  generalize w.alloc (.cells #[.int .i64 0, .string ⟨#[]⟩, .int .i64 0, .int .i64 0] 49) = w1 at *
  go_loopw [7, 8] (fun bv iv wr => ∃ (i : Nat) (xs : List UInt8), p ≤ i ∧ i ≤ n ∧ xs.length ≤ i ∧ iv = .int .i64 i ∧ Hid (Own wr w1.heap.size bv (ns xs)) ∧ Hid (Below w1.heap.size w1 wr) ∧ Hid (X = xs ++ (((lst s).drop i).takeWhile ofW).map low ∧ p + L = i + (((lst s).drop i).takeWhile ofW).length)) (fun _ iv _ => n - (intOf iv).toNat)
  case atStart => exact ⟨p, [], Nat.le_refl _, hp, Nat.zero_le _, rfl, own_nil _ _, Below.refl _ _, HX.out.1.symm, by rw [HX.out.2]⟩
  case round =>
    obtain ⟨i, xs, hpi, hi, hxl, rfl, HO, HB, HV⟩ := hrel
    clear HX
    by_cases hlt : i < n
    · have hlt2 : (i : Int) < (n : Int) := by omega
      have hin : i < s.size := by rw [HN.out]; exact hlt
      have hd := drop_at s i hin
      obtain ⟨c, hc⟩ : ∃ c, s[i] = c := ⟨_, rfl⟩
      rw [hc] at hd
      have HLt : Hid (∀ W, Calls Tryz.prog 34 #[.int .u8 (c.toNat : Int)] W fun e w' => e = .returned (.bool (letB c)) ∧ w' = W) := fun W => rletter_ c W
      have HDg : Hid (∀ W, Calls Tryz.prog 36 #[.int .u8 (c.toNat : Int)] W fun e w' => e = .returned (.bool (isDig c)) ∧ w' = W) := fun W => rdigit_ c W
      have hv := HV.out
      rw [hd] at hv
      clear HV hd
      cases ho : ofW c with
      | true =>
        rw [List.takeWhile_cons, ho] at hv
        simp only [if_true, List.map_cons, List.length_cons] at hv
        have HV2 : Hid (X = (xs ++ [low c]) ++ (((lst s).drop (i + 1)).takeWhile ofW).map low ∧ p + L = (i + 1) + (((lst s).drop (i + 1)).takeWhile ofW).length) := ⟨by rw [hv.1]; simp, by rw [hv.2]; omega⟩
        have key : letB c = true ∨ (letB c = false ∧ isDig c = true) ∨ (letB c = false ∧ isDig c = false ∧ ((c.toNat : Int) == 95) = true) := by
          rw [ofW_or] at ho
          cases h1 : letB c with
          | true => exact .inl rfl
          | false =>
            cases h2 : isDig c with
            | true => exact .inr (.inl ⟨rfl, rfl⟩)
            | false => rw [h1, h2] at ho; exact .inr (.inr ⟨rfl, rfl, ho⟩)
        clear hv ho
        have hlen : (ns xs).length + 1 ≤ 140737488355328 := by rw [ns_length]; omega
        have hxl2 : (xs ++ [low c]).length ≤ i + 1 := by rw [List.length_append, List.length_singleton]; omega
        rcases key with h1 | ⟨h1, h2⟩ | ⟨h1, h2, h3⟩
        · rw [h1] at HLt
          by_cases hu : 65 ≤ c.toNat
          · by_cases hz : c.toNat ≤ 90
            · have hu2 : (65 : Int) ≤ (c.toNat : Int) := by omega
              have hz2 : (c.toNat : Int) ≤ 90 := by omega
              have hlo := low_up1 hu hz
              have hwr : IntKind.u8.wrap ((c.toNat : Int) + 32) = ((low c).toNat : Int) := by
                rw [hlo]; simp [IntKind.wrap, IntKind.bits, IntKind.signed]; omega
              generalize low c = d at *
              clear hu hz
              go_wp2_with (first
                | (go_at_call 34; refine (HLt.out _).mono ?_; rintro e w2 ⟨rfl, rfl⟩)
                | (go_at_call 36; refine (HDg.out _).mono ?_; rintro e w2 ⟨rfl, rfl⟩)
                | (at_builtin; refine wpList_append_one w1.heap.size _ w1 rfl _ _ rfl _ (ns xs) rfl (.inl (HO.out.on (below_alloc1 _ _))) _ d.toNat rfl (by simp [go_sem, hlo]) hlen (Nat.le_refl _) (below_step HB.out (below_alloc1 _ _)) ?_
                   intro v' w3 hown hb3
                   rw [← ns_snoc] at hown
                   have HO3 := Lib.hid hown
                   have HB3 := Lib.hid hb3
                   clear hown hb3 HO)
                | fail)
              go_roundw
              case rel => exact ⟨i + 1, xs ++ [d], by omega, by omega, hxl2, by go_num, HO3, HB3, HV2⟩
              case measure => simp [intOf]; omega
            · have hu2 : (65 : Int) ≤ (c.toNat : Int) := by omega
              have hz2 : ¬ ((c.toNat : Int) ≤ 90) := by omega
              rw [low_no1 (fun h => hz h.2)] at HV2 hxl2
              clear hu hz
              go_wp2_with (first
                | (go_at_call 34; refine (HLt.out _).mono ?_; rintro e w2 ⟨rfl, rfl⟩)
                | (go_at_call 36; refine (HDg.out _).mono ?_; rintro e w2 ⟨rfl, rfl⟩)
                | (at_builtin; refine wpList_append_one w1.heap.size _ w1 rfl _ _ rfl _ (ns xs) rfl (.inl (HO.out.on (below_alloc1 _ _))) _ c.toNat rfl (by simp [go_sem]) hlen (Nat.le_refl _) (below_step HB.out (below_alloc1 _ _)) ?_
                   intro v' w3 hown hb3
                   rw [← ns_snoc] at hown
                   have HO3 := Lib.hid hown
                   have HB3 := Lib.hid hb3
                   clear hown hb3 HO)
                | fail)
              go_roundw
              case rel => exact ⟨i + 1, xs ++ [c], by omega, by omega, hxl2, by go_num, HO3, HB3, HV2⟩
              case measure => simp [intOf]; omega
          · have hu2 : ¬ ((65 : Int) ≤ (c.toNat : Int)) := by omega
            rw [low_no1 (fun h => hu h.1)] at HV2 hxl2
            clear hu
            go_wp2_with (first
              | (go_at_call 34; refine (HLt.out _).mono ?_; rintro e w2 ⟨rfl, rfl⟩)
              | (go_at_call 36; refine (HDg.out _).mono ?_; rintro e w2 ⟨rfl, rfl⟩)
              | (at_builtin; refine wpList_append_one w1.heap.size _ w1 rfl _ _ rfl _ (ns xs) rfl (.inl (HO.out.on (below_alloc1 _ _))) _ c.toNat rfl (by simp [go_sem]) hlen (Nat.le_refl _) (below_step HB.out (below_alloc1 _ _)) ?_
                 intro v' w3 hown hb3
                 rw [← ns_snoc] at hown
                 have HO3 := Lib.hid hown
                 have HB3 := Lib.hid hb3
                 clear hown hb3 HO)
              | fail)
            go_roundw
            case rel => exact ⟨i + 1, xs ++ [c], by omega, by omega, hxl2, by go_num, HO3, HB3, HV2⟩
            case measure => simp [intOf]; omega
        · rw [h1] at HLt; rw [h2] at HDg
          by_cases hu : 65 ≤ c.toNat
          · by_cases hz : c.toNat ≤ 90
            · have hu2 : (65 : Int) ≤ (c.toNat : Int) := by omega
              have hz2 : (c.toNat : Int) ≤ 90 := by omega
              have hlo := low_up1 hu hz
              have hwr : IntKind.u8.wrap ((c.toNat : Int) + 32) = ((low c).toNat : Int) := by
                rw [hlo]; simp [IntKind.wrap, IntKind.bits, IntKind.signed]; omega
              generalize low c = d at *
              clear hu hz
              go_wp2_with (first
                | (go_at_call 34; refine (HLt.out _).mono ?_; rintro e w2 ⟨rfl, rfl⟩)
                | (go_at_call 36; refine (HDg.out _).mono ?_; rintro e w2 ⟨rfl, rfl⟩)
                | (at_builtin; refine wpList_append_one w1.heap.size _ w1 rfl _ _ rfl _ (ns xs) rfl (.inl (HO.out.on (below_alloc1 _ _))) _ d.toNat rfl (by simp [go_sem, hlo]) hlen (Nat.le_refl _) (below_step HB.out (below_alloc1 _ _)) ?_
                   intro v' w3 hown hb3
                   rw [← ns_snoc] at hown
                   have HO3 := Lib.hid hown
                   have HB3 := Lib.hid hb3
                   clear hown hb3 HO)
                | fail)
              go_roundw
              case rel => exact ⟨i + 1, xs ++ [d], by omega, by omega, hxl2, by go_num, HO3, HB3, HV2⟩
              case measure => simp [intOf]; omega
            · have hu2 : (65 : Int) ≤ (c.toNat : Int) := by omega
              have hz2 : ¬ ((c.toNat : Int) ≤ 90) := by omega
              rw [low_no1 (fun h => hz h.2)] at HV2 hxl2
              clear hu hz
              go_wp2_with (first
                | (go_at_call 34; refine (HLt.out _).mono ?_; rintro e w2 ⟨rfl, rfl⟩)
                | (go_at_call 36; refine (HDg.out _).mono ?_; rintro e w2 ⟨rfl, rfl⟩)
                | (at_builtin; refine wpList_append_one w1.heap.size _ w1 rfl _ _ rfl _ (ns xs) rfl (.inl (HO.out.on (below_alloc1 _ _))) _ c.toNat rfl (by simp [go_sem]) hlen (Nat.le_refl _) (below_step HB.out (below_alloc1 _ _)) ?_
                   intro v' w3 hown hb3
                   rw [← ns_snoc] at hown
                   have HO3 := Lib.hid hown
                   have HB3 := Lib.hid hb3
                   clear hown hb3 HO)
                | fail)
              go_roundw
              case rel => exact ⟨i + 1, xs ++ [c], by omega, by omega, hxl2, by go_num, HO3, HB3, HV2⟩
              case measure => simp [intOf]; omega
          · have hu2 : ¬ ((65 : Int) ≤ (c.toNat : Int)) := by omega
            rw [low_no1 (fun h => hu h.1)] at HV2 hxl2
            clear hu
            go_wp2_with (first
              | (go_at_call 34; refine (HLt.out _).mono ?_; rintro e w2 ⟨rfl, rfl⟩)
              | (go_at_call 36; refine (HDg.out _).mono ?_; rintro e w2 ⟨rfl, rfl⟩)
              | (at_builtin; refine wpList_append_one w1.heap.size _ w1 rfl _ _ rfl _ (ns xs) rfl (.inl (HO.out.on (below_alloc1 _ _))) _ c.toNat rfl (by simp [go_sem]) hlen (Nat.le_refl _) (below_step HB.out (below_alloc1 _ _)) ?_
                 intro v' w3 hown hb3
                 rw [← ns_snoc] at hown
                 have HO3 := Lib.hid hown
                 have HB3 := Lib.hid hb3
                 clear hown hb3 HO)
              | fail)
            go_roundw
            case rel => exact ⟨i + 1, xs ++ [c], by omega, by omega, hxl2, by go_num, HO3, HB3, HV2⟩
            case measure => simp [intOf]; omega
        · rw [h1] at HLt; rw [h2] at HDg
          by_cases hu : 65 ≤ c.toNat
          · by_cases hz : c.toNat ≤ 90
            · have hu2 : (65 : Int) ≤ (c.toNat : Int) := by omega
              have hz2 : (c.toNat : Int) ≤ 90 := by omega
              have hlo := low_up1 hu hz
              have hwr : IntKind.u8.wrap ((c.toNat : Int) + 32) = ((low c).toNat : Int) := by
                rw [hlo]; simp [IntKind.wrap, IntKind.bits, IntKind.signed]; omega
              generalize low c = d at *
              clear hu hz
              go_wp2_with (first
                | (go_at_call 34; refine (HLt.out _).mono ?_; rintro e w2 ⟨rfl, rfl⟩)
                | (go_at_call 36; refine (HDg.out _).mono ?_; rintro e w2 ⟨rfl, rfl⟩)
                | (at_builtin; refine wpList_append_one w1.heap.size _ w1 rfl _ _ rfl _ (ns xs) rfl (.inl (HO.out.on (below_alloc1 _ _))) _ d.toNat rfl (by simp [go_sem, hlo]) hlen (Nat.le_refl _) (below_step HB.out (below_alloc1 _ _)) ?_
                   intro v' w3 hown hb3
                   rw [← ns_snoc] at hown
                   have HO3 := Lib.hid hown
                   have HB3 := Lib.hid hb3
                   clear hown hb3 HO)
                | fail)
              go_roundw
              case rel => exact ⟨i + 1, xs ++ [d], by omega, by omega, hxl2, by go_num, HO3, HB3, HV2⟩
              case measure => simp [intOf]; omega
            · have hu2 : (65 : Int) ≤ (c.toNat : Int) := by omega
              have hz2 : ¬ ((c.toNat : Int) ≤ 90) := by omega
              rw [low_no1 (fun h => hz h.2)] at HV2 hxl2
              clear hu hz
              go_wp2_with (first
                | (go_at_call 34; refine (HLt.out _).mono ?_; rintro e w2 ⟨rfl, rfl⟩)
                | (go_at_call 36; refine (HDg.out _).mono ?_; rintro e w2 ⟨rfl, rfl⟩)
                | (at_builtin; refine wpList_append_one w1.heap.size _ w1 rfl _ _ rfl _ (ns xs) rfl (.inl (HO.out.on (below_alloc1 _ _))) _ c.toNat rfl (by simp [go_sem]) hlen (Nat.le_refl _) (below_step HB.out (below_alloc1 _ _)) ?_
                   intro v' w3 hown hb3
                   rw [← ns_snoc] at hown
                   have HO3 := Lib.hid hown
                   have HB3 := Lib.hid hb3
                   clear hown hb3 HO)
                | fail)
              go_roundw
              case rel => exact ⟨i + 1, xs ++ [c], by omega, by omega, hxl2, by go_num, HO3, HB3, HV2⟩
              case measure => simp [intOf]; omega
          · have hu2 : ¬ ((65 : Int) ≤ (c.toNat : Int)) := by omega
            rw [low_no1 (fun h => hu h.1)] at HV2 hxl2
            clear hu
            go_wp2_with (first
              | (go_at_call 34; refine (HLt.out _).mono ?_; rintro e w2 ⟨rfl, rfl⟩)
              | (go_at_call 36; refine (HDg.out _).mono ?_; rintro e w2 ⟨rfl, rfl⟩)
              | (at_builtin; refine wpList_append_one w1.heap.size _ w1 rfl _ _ rfl _ (ns xs) rfl (.inl (HO.out.on (below_alloc1 _ _))) _ c.toNat rfl (by simp [go_sem]) hlen (Nat.le_refl _) (below_step HB.out (below_alloc1 _ _)) ?_
                 intro v' w3 hown hb3
                 rw [← ns_snoc] at hown
                 have HO3 := Lib.hid hown
                 have HB3 := Lib.hid hb3
                 clear hown hb3 HO)
              | fail)
            go_roundw
            case rel => exact ⟨i + 1, xs ++ [c], by omega, by omega, hxl2, by go_num, HO3, HB3, HV2⟩
            case measure => simp [intOf]; omega
      | false =>
        rw [List.takeWhile_cons, ho] at hv
        simp only [Bool.false_eq_true, if_false, List.map_nil, List.append_nil, List.length_nil, Nat.add_zero] at hv
        obtain ⟨rfl, hl⟩ := hv
        rw [ofW_or] at ho
        simp only [Bool.or_eq_false_iff] at ho
        obtain ⟨⟨h1, h2⟩, h3⟩ := ho
        rw [h1] at HLt
        rw [h2] at HDg
        obtain ⟨a, cp, rfl, hby, hnil⟩ := HO.out.bytes
        have hcv := conv_ wr a _ cp (ns X) rfl hby
        rw [bs_ns] at hcv
        have F2 := F0.out.on HB.out
        obtain ⟨⟨r0, r1, r2, r3⟩, ⟨f0, f1, f2, f3⟩, hbw, hsz⟩ := F2
        clear HO hby F0
        go_wp2_with (first
          | (go_at_call 34; refine (HLt.out _).mono ?_; rintro e w2 ⟨rfl, rfl⟩)
          | (go_at_call 36; refine (HDg.out _).mono ?_; rintro e w2 ⟨rfl, rfl⟩)
          | fail)
        refine bodyPost_ret (v := .tuple #[.agg #[.int .i64 1, .string (ofL X), .int .i64 0, .int .i64 p], .int .i64 i, .int .i64 0]) ?_ rfl ⟨by first | rfl | rw [hl], four_set hbw (w.heap.size) (by omega) _ _ _ _⟩
        simp [results, Tryz.results35, go_sem, r0, r1, r2, r3, ofL]
    · obtain rfl : i = n := by omega
      have hlt2 : ¬ ((i : Int) < (i : Int)) := by omega
      have hv := HV.out
      rw [drop_end s i (by rw [HN.out]; exact Nat.le_refl _)] at hv
      simp only [List.takeWhile_nil, List.map_nil, List.append_nil, List.length_nil, Nat.add_zero] at hv
      obtain ⟨rfl, hl⟩ := hv
      obtain ⟨a, cp, rfl, hby, hnil⟩ := HO.out.bytes
      have hcv := conv_ wr a _ cp (ns X) rfl hby
      rw [bs_ns] at hcv
      have F2 := F0.out.on HB.out
      obtain ⟨⟨r0, r1, r2, r3⟩, ⟨f0, f1, f2, f3⟩, hbw, hsz⟩ := F2
      clear HO hby F0 HV
      go_wp2_with fail
      refine bodyPost_ret (v := .tuple #[.agg #[.int .i64 1, .string (ofL X), .int .i64 0, .int .i64 p], .int .i64 i, .int .i64 0]) ?_ rfl ⟨by first | rfl | rw [hl], four_set hbw (w.heap.size) (by omega) _ _ _ _⟩
      simp [results, Tryz.results35, go_sem, r0, r1, r2, r3, ofL]
end Go.Proofs.YtfmpnakonffkcaaGreatDoor
