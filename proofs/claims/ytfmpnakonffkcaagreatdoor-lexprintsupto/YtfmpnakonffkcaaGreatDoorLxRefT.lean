/- The walk of the document's text. -/
import Derived.Test.YtfmpnakonffkcaaGreatDoorLxRefN
namespace Go.Proofs.YtfmpnakonffkcaaGreatDoor
open Go.RowKit Go.Sort

/-- What is still to come of a text, and what it then is. -/
def txAt (xs : List UInt8) (i : Nat) (l : List UInt8) : Option (List UInt8 × Nat) := (textR l).map fun x => (xs ++ x.1, i + x.2)
theorem txAt_nil (xs : List UInt8) (i : Nat) : txAt xs i [] = none := rfl
theorem txAt_bad {c : UInt8} (hb : c.toNat < 32 ∨ 126 < c.toNat) (xs : List UInt8) (i : Nat) (l : List UInt8) : txAt xs i (c :: l) = none := by
  have hc : c ≠ 39 := by intro e; subst e; revert hb; decide
  rw [txAt, textR_bad hc hb]; rfl
theorem txAt_two (xs : List UInt8) (i : Nat) (r : List UInt8) : txAt xs i (39 :: 39 :: r) = txAt (xs ++ [39]) (i + 2) r := by
  rw [txAt, textR_q2, txAt]
  cases textR r with
  | none => rfl
  | some x => simp; omega
theorem txAt_end {l : List UInt8} (h : ∀ r, l ≠ 39 :: r) (xs : List UInt8) (i : Nat) : txAt xs i (39 :: l) = some (xs, i + 1) := by
  cases l with
  | nil => rw [txAt, textR_q0]; simp
  | cons d r =>
    have hd : d ≠ 39 := by intro e; subst e; exact h r rfl
    rw [txAt, textR_q1 hd]; simp
theorem txAt_step {c : UInt8} (hc : c ≠ 39) (hb : ¬ (c.toNat < 32 ∨ 126 < c.toNat)) (xs : List UInt8) (i : Nat) (l : List UInt8) : txAt xs i (c :: l) = txAt (xs ++ [c]) (i + 1) l := by
  rw [txAt, textR_o hc hb, txAt]
  cases textR l with
  | none => rfl
  | some x => simp; omega
set_option maxRecDepth 100000 in
set_option maxHeartbeats 4000000 in
theorem rtext_ (s : ByteArray) (p : Nat) (w : World) (hs : s.size ≤ 1000000000) (hp : p < s.size) :
    Calls Tryz.prog 38 #[.string s, .int .i64 (p : Int)] w fun e w' => e = .returned (oneV (txtG (textR ((lst s).drop (p + 1)))) p) ∧ Below w.heap.size w w' := by
  obtain ⟨n, hn⟩ : ∃ n, s.size = n := ⟨_, rfl⟩
  have HN := Lib.hid hn
  obtain ⟨R, hR⟩ : ∃ R, textR ((lst s).drop (p + 1)) = R := ⟨_, rfl⟩
  have HX : Hid (txAt [] (p + 1) ((lst s).drop (p + 1)) = R.map fun x => (x.1, p + 1 + x.2)) := by
    show _ = _
    rw [txAt, hR]; simp
  rw [hR]
  rw [hn] at hs hp
  clear hR
  have F0 := Lib.hid (frT_start w 49)
  go_enter Tryz.func38, Tryz.ntmps38
  go_wp2_with fail
  generalize w.alloc (.cells #[.int .i64 0, .string ⟨#[]⟩, .int .i64 0, .int .i64 0] 49) = w1 at *
  go_loopw [7, 8] (fun bv iv wr => ∃ (i : Nat) (xs : List UInt8), p < i ∧ i ≤ n + 1 ∧ xs.length ≤ i ∧ iv = .int .i64 i ∧ Hid (Own wr w1.heap.size bv (ns xs)) ∧ Hid (Below w1.heap.size w1 wr) ∧ Hid (txAt xs i ((lst s).drop i) = R.map fun x => (x.1, p + 1 + x.2))) (fun _ iv _ => n + 2 - (intOf iv).toNat)
  case atStart => exact ⟨p + 1, [], by omega, by omega, Nat.zero_le _, by go_num, own_nil _ _, Below.refl _ _, HX.out⟩
  case round =>
    obtain ⟨i, xs, hpi, hi, hxl, rfl, HO, HB, HV⟩ := hrel
    clear HX
    have nope : Hid (R.map (fun x => (x.1, p + 1 + x.2)) = none → oneV (txtG R) p = .tuple #[.agg #[.int .i64 0, .string ⟨#[]⟩, .int .i64 0, .int .i64 0], .int .i64 p, .int .i64 3]) := fun h => by
      cases R with
      | none => simp [oneV, txtG, bad, agT, tk0]
      | some x => cases h
    by_cases hlt : i < n
    · have hlt2 : (i : Int) < (n : Int) := by omega
      have hin : i < s.size := by rw [HN.out]; exact hlt
      have hd := drop_at s i hin
      obtain ⟨c, hc⟩ : ∃ c, s[i] = c := ⟨_, rfl⟩
      rw [hc] at hd
      have HV1 : Hid (txAt xs i (c :: (lst s).drop (i + 1)) = R.map fun x => (x.1, p + 1 + x.2)) := by rw [← hd]; exact HV.out
      clear HV hd
      have hlen : (ns xs).length + 1 ≤ 140737488355328 := by rw [ns_length]; omega
      by_cases hb : c.toNat < 32 ∨ 126 < c.toNat
      · have HF := Lib.hid (nope.out (by rw [← HV1.out, txAt_bad hb]))
        have F2 := F0.out.on HB.out
        obtain ⟨⟨r0, r1, r2, r3⟩, ⟨f0, f1, f2, f3⟩, hbw, hsz⟩ := F2
        by_cases h1 : c.toNat < 32
        · have h1' : (c.toNat : Int) < 32 := by omega
          clear HV1 nope hb HO F0
          go_wp2_with fail
          refine bodyPost_ret (v := .tuple #[.agg #[.int .i64 0, .string ⟨#[]⟩, .int .i64 0, .int .i64 0], .int .i64 p, .int .i64 3]) ?_ rfl ⟨by rw [HF.out], four_set hbw (w.heap.size) (by omega) _ _ _ _⟩
          simp [results, Tryz.results38, go_sem, r0, r1, r2, r3]
        · have h1' : ¬ ((c.toNat : Int) < 32) := by omega
          have h2' : (126 : Int) < (c.toNat : Int) := by omega
          clear HV1 nope hb HO F0
          go_wp2_with fail
          refine bodyPost_ret (v := .tuple #[.agg #[.int .i64 0, .string ⟨#[]⟩, .int .i64 0, .int .i64 0], .int .i64 p, .int .i64 3]) ?_ rfl ⟨by rw [HF.out], four_set hbw (w.heap.size) (by omega) _ _ _ _⟩
          simp [results, Tryz.results38, go_sem, r0, r1, r2, r3]
      · have h1' : ¬ ((c.toNat : Int) < 32) := by omega
        have h2' : ¬ ((126 : Int) < (c.toNat : Int)) := by omega
        by_cases hq : c = 39
        · have hqI : ((c.toNat : Int) == 39) = true := by rw [hq]; rfl
          by_cases hn2 : ∃ r, (lst s).drop (i + 1) = 39 :: r
          · obtain ⟨r, hr⟩ := hn2
            have hr2 : (lst s).drop (i + 2) = r := by
              have := List.drop_drop (i := 1) (j := i + 1) (l := lst s)
              rw [hr] at this
              exact this.symm
            have hi2 : i + 1 < n := by
              refine Classical.byContradiction fun hh => ?_
              rw [drop_end s (i + 1) (by rw [HN.out]; omega)] at hr; cases hr
            have hin2 : i + 1 < s.size := by rw [HN.out]; exact hi2
            have hc2 : s[i + 1] = 39 := by
              have := drop_at s (i + 1) hin2
              rw [hr] at this
              simp only [List.cons.injEq] at this
              exact this.1.symm
            have hi3 : (i : Int) + 1 < (n : Int) := by omega
            have HV3 : Hid (txAt (xs ++ [39]) (i + 2) ((lst s).drop (i + 2)) = R.map fun x => (x.1, p + 1 + x.2)) := by
              show _ = _
              rw [hr2, ← HV1.out, hq, hr, txAt_two]
            have hq2 : (((39 : UInt8).toNat : Int) == 39) = true := rfl
            obtain ⟨q, hqq⟩ : ∃ q : UInt8, q = 39 := ⟨_, rfl⟩
            rw [← hqq] at hc2 hq2 HV3
            have hxl2 : (xs ++ [q]).length ≤ i + 2 := by rw [List.length_append, List.length_singleton]; omega
            clear HV1 nope hb hq hr hr2 hqq
            go_wp2_with (first
              | (at_builtin; refine wpList_append_one w1.heap.size _ w1 rfl _ _ rfl _ (ns xs) rfl (.inl (HO.out.on (below_alloc1 _ _))) _ q.toNat rfl (by simp [go_sem]) hlen (Nat.le_refl _) (below_step HB.out (below_alloc1 _ _)) ?_
                 intro v' w3 hown hb3
                 rw [← ns_snoc] at hown
                 have HO3 := Lib.hid hown
                 have HB3 := Lib.hid hb3
                 clear hown hb3 HO)
              | fail)
            go_roundw
            case rel => exact ⟨i + 2, xs ++ [q], by omega, by omega, hxl2, by go_num, HO3, HB3, HV3⟩
            case measure => simp [intOf]; omega
          · have hend : txAt xs i (c :: (lst s).drop (i + 1)) = some (xs, i + 1) := by
              rw [hq]; exact txAt_end (fun r h => hn2 ⟨r, h⟩) xs i
            have HF : Hid (oneV (txtG R) p = .tuple #[.agg #[.int .i64 3, .string (ofL xs), .int .i64 0, .int .i64 p], .int .i64 ((i : Int) + 1), .int .i64 0]) := by
              have h := HV1.out
              rw [hend] at h
              cases R with
              | none => cases h
              | some x =>
                simp only [Option.map_some, Option.some.injEq, Prod.mk.injEq] at h
                obtain ⟨h1, h2⟩ := h
                show oneV ⟨⟨3, ofL x.1, 0, 0⟩, x.2 + 1, 0⟩ p = _
                rw [h1]
                simp [oneV, agT, Tk.at_]
                omega
            obtain ⟨a, cp, rfl, hby, hnil⟩ := HO.out.bytes
            have hcv := conv_ wr a _ cp (ns xs) rfl hby
            rw [bs_ns] at hcv
            have F2 := F0.out.on HB.out
            obtain ⟨⟨r0, r1, r2, r3⟩, ⟨f0, f1, f2, f3⟩, hbw, hsz⟩ := F2
            by_cases hi2 : i + 1 < n
            · have hi3 : (i : Int) + 1 < (n : Int) := by omega
              have hin2 : i + 1 < s.size := by rw [HN.out]; exact hi2
              obtain ⟨d, hdd⟩ : ∃ d, s[i + 1] = d := ⟨_, rfl⟩
              have hd39 : ((d.toNat : Int) == 39) = false := by
                refine beq_eq_false_iff_ne.2 fun e => hn2 ⟨(lst s).drop (i + 2), ?_⟩
                rw [drop_at s (i + 1) hin2, hdd, show d = 39 from UInt8.toNat_inj.1 (by show d.toNat = 39; omega)]
              clear HV1 nope hb hq hend HO hby F0 hn2
              go_wp2_with fail
              refine bodyPost_ret (v := .tuple #[.agg #[.int .i64 3, .string (ofL xs), .int .i64 0, .int .i64 p], .int .i64 ((i : Int) + 1), .int .i64 0]) ?_ rfl ⟨by rw [HF.out], four_set hbw (w.heap.size) (by omega) _ _ _ _⟩
              simp [results, Tryz.results38, go_sem, r0, r1, r2, r3, ofL]
            · have hi3 : ¬ ((i : Int) + 1 < (n : Int)) := by omega
              clear HV1 nope hb hq hend HO hby F0 hn2
              go_wp2_with fail
              refine bodyPost_ret (v := .tuple #[.agg #[.int .i64 3, .string (ofL xs), .int .i64 0, .int .i64 p], .int .i64 ((i : Int) + 1), .int .i64 0]) ?_ rfl ⟨by rw [HF.out], four_set hbw (w.heap.size) (by omega) _ _ _ _⟩
              simp [results, Tryz.results38, go_sem, r0, r1, r2, r3, ofL]
        · have hqI : ((c.toNat : Int) == 39) = false := by
            refine beq_eq_false_iff_ne.2 fun e => hq (UInt8.toNat_inj.1 (by show c.toNat = 39; omega))
          have HV3 : Hid (txAt (xs ++ [c]) (i + 1) ((lst s).drop (i + 1)) = R.map fun x => (x.1, p + 1 + x.2)) := by
            show _ = _
            rw [← HV1.out, txAt_step hq hb]
          have hxl2 : (xs ++ [c]).length ≤ i + 1 := by rw [List.length_append, List.length_singleton]; omega
          clear HV1 nope hb hq
          go_wp2_with (first
            | (at_builtin; refine wpList_append_one w1.heap.size _ w1 rfl _ _ rfl _ (ns xs) rfl (.inl (HO.out.on (below_alloc1 _ _))) _ c.toNat rfl (by simp [go_sem]) hlen (Nat.le_refl _) (below_step HB.out (below_alloc1 _ _)) ?_
               intro v' w3 hown hb3
               rw [← ns_snoc] at hown
               have HO3 := Lib.hid hown
               have HB3 := Lib.hid hb3
               clear hown hb3 HO)
            | fail)
          go_roundw
          case rel => exact ⟨i + 1, xs ++ [c], by omega, by omega, hxl2, by go_num, HO3, HB3, HV3⟩
          case measure => simp [intOf]; omega
    · have hlt2 : ¬ ((i : Int) < (n : Int)) := by omega
      have HF := Lib.hid (nope.out (by rw [← HV.out, drop_end s i (by rw [HN.out]; omega), txAt_nil]))
      have F2 := F0.out.on HB.out
      obtain ⟨⟨r0, r1, r2, r3⟩, ⟨f0, f1, f2, f3⟩, hbw, hsz⟩ := F2
      clear HV nope HO F0
      go_wp2_with fail
      refine bodyPost_ret (v := .tuple #[.agg #[.int .i64 0, .string ⟨#[]⟩, .int .i64 0, .int .i64 0], .int .i64 p, .int .i64 3]) ?_ rfl ⟨by rw [HF.out], four_set hbw (w.heap.size) (by omega) _ _ _ _⟩
      simp [results, Tryz.results38, go_sem, r0, r1, r2, r3]
end Go.Proofs.YtfmpnakonffkcaaGreatDoor
