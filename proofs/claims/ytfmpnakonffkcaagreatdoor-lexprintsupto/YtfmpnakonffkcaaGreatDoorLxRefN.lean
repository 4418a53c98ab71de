/- The walk of the document's number. -/
import Derived.Test.YtfmpnakonffkcaaGreatDoorLxRefW
namespace Go.Proofs.YtfmpnakonffkcaaGreatDoor
open Go.RowKit Go.Sort

theorem numV_step (V : Nat) (c : UInt8) (l : List UInt8) : (c :: l).foldl dv V = l.foldl dv (10 * V + (c.toNat - 48)) := by simp only [List.foldl_cons, dv]
/-- The number so far, if it is none too great; else it stays too great. -/
def NumSt (V : Nat) (o : Bool) (D : Nat) : Prop := (o = false ∧ V = D ∧ D < 9223372036854775808) ∨ (o = true ∧ ¬ D < 9223372036854775808)
set_option maxRecDepth 100000 in
set_option maxHeartbeats 4000000 in
theorem rnumber_ (s : ByteArray) (p : Nat) (w : World) (hs : s.size ≤ 1000000000) (hp : p ≤ s.size) :
    Calls Tryz.prog 37 #[.string s, .int .i64 (p : Int)] w fun e w' => e = .returned (oneV (numG (((lst s).drop p).takeWhile isDig)) p) ∧ Below w.heap.size w w' := by
  obtain ⟨n, hn⟩ : ∃ n, s.size = n := ⟨_, rfl⟩
  have HN := Lib.hid hn
  obtain ⟨D, hD⟩ : ∃ D, numV (((lst s).drop p).takeWhile isDig) = D := ⟨_, rfl⟩
  obtain ⟨L, hL⟩ : ∃ L, (((lst s).drop p).takeWhile isDig).length = L := ⟨_, rfl⟩
  have HX : Hid ((((lst s).drop p).takeWhile isDig).foldl dv 0 = D ∧ (((lst s).drop p).takeWhile isDig).length = L) := ⟨hD, hL⟩
  unfold numG
  rw [hD, hL]
  rw [hn] at hs hp
  clear hD hL
  have F0 := Lib.hid (frT_start w 49)
  go_enter Tryz.func37, Tryz.ntmps37
  go_wp2_with fail
  generalize w.alloc (.cells #[.int .i64 0, .string ⟨#[]⟩, .int .i64 0, .int .i64 0] 49) = w1 at *
  go_loopw [7, 8, 9] (fun nv iv ov wr => ∃ (i V : Nat) (o : Bool) (E : Nat), p ≤ i ∧ i ≤ n ∧ V < 9223372036854775808 ∧ nv = .int .u64 V ∧ iv = .int .i64 i ∧ ov = .bool o ∧ wr = w1 ∧ Hid (NumSt V o E ∧ D = (((lst s).drop i).takeWhile isDig).foldl dv E ∧ p + L = i + (((lst s).drop i).takeWhile isDig).length)) (fun _ iv _ _ => n - (intOf iv).toNat)
  case atStart => exact ⟨p, 0, false, 0, Nat.le_refl _, hp, by omega, rfl, rfl, rfl, rfl, .inl ⟨rfl, rfl, by omega⟩, HX.out.1.symm, by rw [HX.out.2]⟩
  case round =>
    obtain ⟨i, V, o, E, hpi, hi, hV, rfl, rfl, rfl, rfl, HV⟩ := hrel
    clear HX
    by_cases hlt : i < n
    · have hlt2 : (i : Int) < (n : Int) := by omega
      have hin : i < s.size := by rw [HN.out]; exact hlt
      have hd := drop_at s i hin
      obtain ⟨c, hc⟩ : ∃ c, s[i] = c := ⟨_, rfl⟩
      rw [hc] at hd
      have HDg : Hid (∀ W, Calls Tryz.prog 36 #[.int .u8 (c.toNat : Int)] W fun e w' => e = .returned (.bool (isDig c)) ∧ w' = W) := fun W => rdigit_ c W
      have hv := HV.out
      rw [hd] at hv
      clear HV hd
      cases ho : isDig c with
      | true =>
        have hdg := digU ho
        rw [List.takeWhile_cons, ho] at hv
        simp only [if_true, numV_step, List.length_cons] at hv
        rw [ho] at HDg
        have hx : IntKind.u8.wrap ((c.toNat : Int) - 48) = ((c.toNat - 48 : Nat) : Int) := by
          simp [IntKind.wrap, IntKind.bits, IntKind.signed]; omega
        obtain ⟨d, hdd⟩ : ∃ d, c.toNat - 48 = d := ⟨_, rfl⟩
        rw [hdd] at hv hx
        have hd9 : d ≤ 9 := by omega
        clear ho hdd hdg
        obtain ⟨hst, hv2⟩ := hv
        have HV2 : Hid (D = ((((lst s).drop (i + 1)).takeWhile isDig).foldl dv (10 * E + d)) ∧ p + L = (i + 1) + (((lst s).drop (i + 1)).takeWhile isDig).length) := ⟨hv2.1, by rw [hv2.2]; omega⟩
        clear hv2
        rcases hst with ⟨rfl, rfl, hlt3⟩ | ⟨rfl, hge⟩
        · by_cases hle : V ≤ (9223372036854775807 - d) / 10
          · have hle2 : (V : Int) ≤ (9223372036854775807 - (d : Int)) / 10 := by omega
            have hE : NumSt (10 * V + d) false (10 * V + d) := .inl ⟨rfl, rfl, by omega⟩
            go_wp2_with (first
              | (go_at_call 36; refine (HDg.out _).mono ?_; rintro e w2 ⟨rfl, rfl⟩)
              | fail)
            go_roundw
            case rel => exact ⟨i + 1, 10 * V + d, false, 10 * V + d, by omega, by omega, by omega, by go_num, by go_num, rfl, by trivial, hE, HV2.out⟩
            case measure => simp [intOf]; omega
          · have hle2 : ¬ ((V : Int) ≤ (9223372036854775807 - (d : Int)) / 10) := by omega
            have hE : NumSt V true (10 * V + d) := .inr ⟨rfl, by omega⟩
            go_wp2_with (first
              | (go_at_call 36; refine (HDg.out _).mono ?_; rintro e w2 ⟨rfl, rfl⟩)
              | fail)
            go_roundw
            case rel => exact ⟨i + 1, V, true, 10 * V + d, by omega, by omega, by omega, by go_num, by go_num, rfl, by trivial, hE, HV2.out⟩
            case measure => simp [intOf]; omega
        · have hE : NumSt V true (10 * E + d) := .inr ⟨rfl, by omega⟩
          go_wp2_with (first
            | (go_at_call 36; refine (HDg.out _).mono ?_; rintro e w2 ⟨rfl, rfl⟩)
            | fail)
          go_roundw
          case rel => exact ⟨i + 1, V, true, 10 * E + d, by omega, by omega, by omega, by go_num, by go_num, rfl, by trivial, hE, HV2.out⟩
          case measure => simp [intOf]; omega
      | false =>
        rw [List.takeWhile_cons, ho] at hv
        simp only [Bool.false_eq_true, if_false, List.foldl_nil, List.length_nil, Nat.add_zero] at hv
        obtain ⟨hst, rfl, hl⟩ := hv
        rw [ho] at HDg
        obtain ⟨⟨r0, r1, r2, r3⟩, ⟨f0, f1, f2, f3⟩, hbw, hsz⟩ := F0.out
        rcases hst with ⟨rfl, rfl, hlt3⟩ | ⟨rfl, hge⟩
        · have hwr : IntKind.i64.wrap ((V : Int)) = (V : Int) := by simp [IntKind.wrap, IntKind.bits, IntKind.signed]; omega
          clear F0
          go_wp2_with (first
            | (go_at_call 36; refine (HDg.out _).mono ?_; rintro e w2 ⟨rfl, rfl⟩)
            | fail)
          refine bodyPost_ret (v := .tuple #[.agg #[.int .i64 2, .string ⟨#[]⟩, .int .i64 V, .int .i64 p], .int .i64 i, .int .i64 0]) ?_ rfl ⟨by simp [oneV, agT, Tk.at_, hl], four_set hbw (w.heap.size) (by omega) _ _ _ _⟩
          simp [results, Tryz.results37, go_sem, r0, r1, r2, r3]
        · clear F0
          go_wp2_with (first
            | (go_at_call 36; refine (HDg.out _).mono ?_; rintro e w2 ⟨rfl, rfl⟩)
            | fail)
          refine bodyPost_ret (v := .tuple #[.agg #[.int .i64 0, .string ⟨#[]⟩, .int .i64 0, .int .i64 0], .int .i64 p, .int .i64 5]) ?_ rfl ⟨by simp [oneV, agT, tk0, bad], four_set hbw (w.heap.size) (by omega) _ _ _ _⟩
          simp [results, Tryz.results37, go_sem, r0, r1, r2, r3]
    · obtain rfl : i = n := by omega
      have hlt2 : ¬ ((i : Int) < (i : Int)) := by omega
      have hv := HV.out
      rw [drop_end s i (by rw [HN.out]; exact Nat.le_refl _)] at hv
      simp only [List.takeWhile_nil, List.foldl_nil, List.length_nil, Nat.add_zero] at hv
      obtain ⟨hst, rfl, hl⟩ := hv
      obtain ⟨⟨r0, r1, r2, r3⟩, ⟨f0, f1, f2, f3⟩, hbw, hsz⟩ := F0.out
      clear HV
      rcases hst with ⟨rfl, rfl, hlt3⟩ | ⟨rfl, hge⟩
      · have hwr : IntKind.i64.wrap ((V : Int)) = (V : Int) := by simp [IntKind.wrap, IntKind.bits, IntKind.signed]; omega
        clear F0
        go_wp2_with fail
        refine bodyPost_ret (v := .tuple #[.agg #[.int .i64 2, .string ⟨#[]⟩, .int .i64 V, .int .i64 p], .int .i64 i, .int .i64 0]) ?_ rfl ⟨by simp [oneV, agT, Tk.at_, hl], four_set hbw (w.heap.size) (by omega) _ _ _ _⟩
        simp [results, Tryz.results37, go_sem, r0, r1, r2, r3]
      · clear F0
        go_wp2_with fail
        refine bodyPost_ret (v := .tuple #[.agg #[.int .i64 0, .string ⟨#[]⟩, .int .i64 0, .int .i64 0], .int .i64 p, .int .i64 5]) ?_ rfl ⟨by simp [oneV, agT, tk0, bad], four_set hbw (w.heap.size) (by omega) _ _ _ _⟩
        simp [results, Tryz.results37, go_sem, r0, r1, r2, r3]
end Go.Proofs.YtfmpnakonffkcaaGreatDoor
