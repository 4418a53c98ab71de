/- The walks of lex's sign, textLen, text, number. -/
import Derived.Test.YtfmpnakonffkcaaGreatDoorLxSign
import Derived.Test.YtfmpnakonffkcaaGreatDoorLxEnv
namespace Go.Proofs.YtfmpnakonffkcaaGreatDoor
open Go.RowKit Go.Sort

theorem Frz.on {w w' : World} {blk off : Nat} (h : w.frozen? ⟨blk, off, none⟩ = false) (hl : blk < w.heap.size) (hb : Below w.heap.size w w') : w'.frozen? ⟨blk, off, none⟩ = false := (hb.frozen (p := ⟨blk, off, none⟩) hl).trans h
/-- Within a function whose result is a token: where that lies. -/
def FrT (w V : World) : Prop :=
  InT V w.heap.size 0 tk0 ∧ (V.frozen? ⟨w.heap.size, 0, none⟩ = false ∧ V.frozen? ⟨w.heap.size, 1, none⟩ = false ∧ V.frozen? ⟨w.heap.size, 2, none⟩ = false ∧ V.frozen? ⟨w.heap.size, 3, none⟩ = false) ∧ Below w.heap.size w V ∧ w.heap.size + 1 ≤ V.heap.size
theorem FrT.on {w V V' : World} (h : FrT w V) (hb : Below V.heap.size V V') : FrT w V' := by
  obtain ⟨h3, ⟨f0, f1, f2, f3⟩, h5, h6⟩ := h
  have hl : w.heap.size < V.heap.size := by omega
  exact ⟨h3.on hb, ⟨Frz.on f0 hl hb, Frz.on f1 hl hb, Frz.on f2 hl hb, Frz.on f3 hl hb⟩, below_step h5 hb, Nat.le_trans h6 hb.size⟩
theorem frT_start (w : World) (ty : TypeId) : FrT w (w.alloc (.cells #[.int .i64 0, .string ⟨#[]⟩, .int .i64 0, .int .i64 0] ty)) := by
  refine ⟨inT_new w tk0 ty, ⟨?_, ?_, ?_, ?_⟩, below_alloc1 _ _, by simp⟩
  all_goals simp [go_sem]
theorem four_set {w V : World} (h : Below w.heap.size w V) (b : Nat) (hb : w.heap.size ≤ b) (A B C D : Value) : Below w.heap.size w ((((V.setCell ⟨b, 0, none⟩ A).setCell ⟨b, 1, none⟩ B).setCell ⟨b, 2, none⟩ C).setCell ⟨b, 3, none⟩ D) :=
  (((h.setCell hb _).setCell hb _).setCell hb _).setCell hb _
/-- A token as a result, with how many bytes say it and the error. -/
def gotV (g : Got) : Value := .tuple #[agT g.t, .int .i64 (g.s : Int), errV 42 g.e]
def sgG (l : List UInt8) : Got := if sg2 (l.take 2) = true then ⟨⟨4, ofL (l.take 2), 0, 0⟩, 2, 0⟩ else if (match l with | [] => false | c :: _ => sg1 c) = true then ⟨⟨4, ofL (l.take 1), 0, 0⟩, 1, 0⟩ else bad 3
theorem sgG_hit {l : List UInt8} (h0 : 0 < l.length) {k : Nat} (hk : 0 < k) (hm : k ≤ min 2 l.length) (hno : ∀ j, k < j → j ≤ min 2 l.length → sgB (l.take j) = false) (h : sgB (l.take k) = true) : sgG l = ⟨⟨4, ofL (l.take k), 0, 0⟩, k, 0⟩ := by
  cases l with
  | nil => simp at h0
  | cons c r =>
    cases r with
    | nil =>
      have : k = 1 := by simp at hm; omega
      subst this
      have e : sgB [c] = true := h
      rw [sgB_one] at e
      show sgG [c] = _
      unfold sgG
      have e2 : sg2 (List.take 2 [c]) = false := by simp [sg2, pairs]
      rw [e2]; simp [e]
    | cons d r =>
      have e2 : (c :: d :: r).take 2 = [c, d] := rfl
      unfold sgG
      rw [e2]
      by_cases h2 : k = 2
      · subst h2
        rw [e2, sgB_two] at h
        rw [if_pos h, e2]
      · have : k = 1 := by simp at hm; omega
        subst this
        have hn := hno 2 (by omega) (by simp)
        rw [e2, sgB_two] at hn
        have e : sgB [c] = true := h
        rw [sgB_one] at e
        rw [hn]; simp [e]
theorem sgG_none {l : List UInt8} (h0 : 0 < l.length) (hno : ∀ j, 0 < j → j ≤ min 2 l.length → sgB (l.take j) = false) : sgG l = bad 3 := by
  cases l with
  | nil => simp at h0
  | cons c r =>
    have h1 := hno 1 (by omega) (by rw [List.length_cons]; omega)
    have e1 : sgB [c] = false := h1
    rw [sgB_one] at e1
    unfold sgG
    cases r with
    | nil =>
      have e2 : sg2 (List.take 2 [c]) = false := by simp [sg2, pairs]
      rw [e2]; simp [e1]
    | cons d r =>
      have hn := hno 2 (by omega) (by simp)
      have e2 : (c :: d :: r).take 2 = [c, d] := rfl
      rw [e2, sgB_two] at hn
      rw [e2, hn]; simp [e1]
theorem take_lst (s : ByteArray) (k : Nat) : lst (s.extract 0 k) = (lst s).take k := by rw [extract_lst]; rfl
set_option maxHeartbeats 2000000 in
theorem sign_ (s : ByteArray) (w : World) (h0 : 0 < s.size) (hs : s.size ≤ 1000000000) : Calls Tryz.prog 33 #[.string s] w fun e w' => e = .returned (gotV (sgG (lst s))) ∧ Below w.heap.size w w' := by
  have hl0 : 0 < (lst s).length := by rw [← size_lst]; exact h0
  have hmin : min 2 (lst s).length = min 2 s.size := by rw [size_lst]
  have HIs : Hid (∀ k W, Calls Tryz.prog 57 #[.string (s.extract 0 k)] W fun e w' => e = .returned (.bool (sgB ((lst s).take k))) ∧ w' = W) := fun k W => by
    rw [← take_lst]; exact isSign_ _ W
  have HHit : Hid (∀ k, 0 < k → k ≤ min 2 s.size → (∀ j, k < j → j ≤ min 2 s.size → sgB ((lst s).take j) = false) → sgB ((lst s).take k) = true → sgG (lst s) = ⟨⟨4, s.extract 0 k, 0, 0⟩, k, 0⟩) := fun k hk hm hno h => by
    rw [sgG_hit hl0 hk (by rw [hmin]; exact hm) (by rw [hmin]; exact hno) h]
    have : ofL ((lst s).take k) = s.extract 0 k := lst_inj (by rw [lst_ofL, take_lst])
    rw [this]
  have HNo : Hid ((∀ j, 0 < j → j ≤ min 2 s.size → sgB ((lst s).take j) = false) → sgG (lst s) = bad 3) := fun hno => sgG_none hl0 (by rw [hmin]; exact hno)
  obtain ⟨n, hn⟩ : ∃ n, s.size = n := ⟨_, rfl⟩
  obtain ⟨m, hm⟩ : ∃ m, min 2 n = m := ⟨_, rfl⟩
  rw [hn, hm] at HHit HNo
  generalize sgG (lst s) = G at *
  obtain ⟨sg, hsg⟩ : ∃ sg : Nat → Bool, ∀ k, sgB ((lst s).take k) = sg k := ⟨_, fun _ => rfl⟩
  simp only [hsg] at HIs HHit HNo
  rw [hn] at h0 hs
  have hmn : m ≤ n := by omega
  have hmI : min (2 : Int) (n : Int) = (m : Int) := by omega
  have F0 := Lib.hid (frT_start w 46)
  clear hsg hmin hl0
  go_enter Tryz.func33, Tryz.ntmps33
  go_wp2_with fail
  go_loopw [5] (fun kv wr => ∃ k : Nat, k ≤ m ∧ kv = .int .i64 k ∧ Hid (FrT w wr) ∧ Hid (∀ j, k < j → j ≤ m → sg j = false)) (fun kv _ => (intOf kv).toNat)
  case atStart => exact ⟨m, Nat.le_refl _, rfl, F0.out, fun j h1 h2 => by omega⟩
  case round =>
    obtain ⟨k, hk, rfl, HFr, HV⟩ := hrel
    obtain ⟨⟨r0, r1, r2, r3⟩, ⟨f0, f1, f2, f3⟩, hbw, hsz⟩ := HFr.out
    clear F0
    by_cases hlt : 0 < k
    · have hlt2 : (0 : Int) < (k : Int) := by omega
      have hkn : (k : Int) ≤ (n : Int) := by omega
      cases hb : sg k with
      | true =>
        have HG := Lib.hid (HHit.out k hlt hk HV.out hb)
        have HQ := Lib.hid (HIs.out k)
        rw [hb] at HQ
        clear HV HHit HNo HIs hb
        go_wp2_with (first | (go_at_call 57; refine (HQ.out _).mono ?_; rintro e w1 ⟨rfl, rfl⟩) | fail)
        refine bodyPost_ret (v := .tuple #[.agg #[.int .i64 4, .string (s.extract 0 k), .int .i64 0, .int .i64 0], .int .i64 k, .nilIface]) ?_ rfl ⟨?_, four_set hbw (w.heap.size) (by omega) _ _ _ _⟩
        · simp [results, Tryz.results33, go_sem, r0, r1, r2, r3]
        · rw [HG.out]; rfl
      | false =>
        have HV2 : Hid (∀ j, k - 1 < j → j ≤ m → sg j = false) := fun j h1 h2 => by
          rcases Nat.lt_or_ge k j with hh | hh
          · exact HV.out j hh h2
          · obtain rfl : j = k := by omega
            exact hb
        have HQ := Lib.hid (HIs.out k)
        rw [hb] at HQ
        clear HV HHit HNo HIs hb r0 r1 r2 r3 f0 f1 f2 f3
        go_wp2_with (first | (go_at_call 57; refine (HQ.out _).mono ?_; rintro e w1 ⟨rfl, rfl⟩) | fail)
        go_roundw
        case rel => exact ⟨k - 1, by omega, by go_num, HFr, HV2⟩
        case measure => simp [intOf]; omega
    · obtain rfl : k = 0 := by omega
      have HG := Lib.hid (HNo.out HV.out)
      clear HV HHit HNo HIs
      go_wp2_with fail
      refine bodyPost_ret (v := .tuple #[.agg #[.int .i64 0, .string ⟨#[]⟩, .int .i64 0, .int .i64 0], .int .i64 0, .iface 42 (.int .i64 3)]) ?_ rfl ⟨?_, four_set hbw (w.heap.size) (by omega) _ _ _ _⟩
      · simp [results, Tryz.results33, go_sem, r0, r1, r2, r3]
      · rw [HG.out]; rfl

/-! ### A text -/
theorem pfx_q2 {c d : UInt8} {l : List UInt8} : Lib.hasPrefix (c :: d :: l) [39, 39] = (decide (c = 39) && decide (d = 39)) := by
  unfold Lib.hasPrefix
  have e : ∀ x : UInt8, ((39 : UInt8) == x) = decide (x = 39) := fun x => by
    by_cases h : x = 39
    · subst h; rfl
    · rw [decide_eq_false h]; exact beq_eq_false_iff_ne.2 (Ne.symm h)
  simp only [List.isPrefixOf, e, Bool.and_true]
theorem pfx_q1 {c : UInt8} {l : List UInt8} : Lib.hasPrefix (c :: l) [39] = decide (c = 39) := by
  unfold Lib.hasPrefix
  have e : ∀ x : UInt8, ((39 : UInt8) == x) = decide (x = 39) := fun x => by
    by_cases h : x = 39
    · subst h; rfl
    · rw [decide_eq_false h]; exact beq_eq_false_iff_ne.2 (Ne.symm h)
  simp only [List.isPrefixOf, e, Bool.and_true]
theorem pfx_one {c : UInt8} : Lib.hasPrefix [c] [39, 39] = false := by
  unfold Lib.hasPrefix
  simp [List.isPrefixOf]
set_option maxHeartbeats 2000000 in
theorem textLen_ (s : ByteArray) (w : World) (h0 : 0 < s.size) (hs : s.size ≤ 1000000000) : Calls Tryz.prog 56 #[.string s] w fun e w' => e = .returned (.int .i64 (lenAt 1 ((lst s).drop 1) : Nat)) ∧ w' = w := by
  obtain ⟨n, hn⟩ : ∃ n, s.size = n := ⟨_, rfl⟩
  obtain ⟨R, hR⟩ : ∃ R, lenAt 1 ((lst s).drop 1) = R := ⟨_, rfl⟩
  have HD : Hid (∀ i, lst (s.extract i n) = (lst s).drop i) := fun i => by rw [extract_lst, List.take_of_length_le (by rw [← size_lst]; omega)]
  have HP2 : Hid (∀ i W, Calls Tryz.prog 31 #[.string (s.extract i n), .string ⟨#[39, 39]⟩] W fun e w' => e = .returned (.bool (Lib.hasPrefix ((lst s).drop i) [39, 39])) ∧ w' = W) := fun i W => by
    rw [← HD.out]; exact pfx_ _ ⟨#[39, 39]⟩ W
  have HP1 : Hid (∀ i W, Calls Tryz.prog 31 #[.string (s.extract i n), .string ⟨#[39]⟩] W fun e w' => e = .returned (.bool (Lib.hasPrefix ((lst s).drop i) [39])) ∧ w' = W) := fun i W => by
    rw [← HD.out]; exact pfx_ _ ⟨#[39]⟩ W
  have HN := Lib.hid hn
  have HQ := Lib.hid hR
  rw [hR]
  rw [hn] at h0 hs
  clear hR HD
  go_enter Tryz.func56, Tryz.ntmps56
  go_wp2_with fail
  go_loopw [3] (fun iv wr => ∃ i : Nat, i ≤ n + 1 ∧ iv = .int .i64 i ∧ wr = w ∧ Hid (lenAt i ((lst s).drop i) = R)) (fun iv _ => n + 2 - (intOf iv).toNat)
  case atStart => exact ⟨1, by omega, rfl, rfl, HQ.out⟩
  case round =>
    obtain ⟨i, hi, rfl, rfl, HV⟩ := hrel
    by_cases hlt : i < n
    · have hlt2 : (i : Int) < (n : Int) := by omega
      have hin : i < s.size := by rw [HN.out]; exact hlt
      have hd := drop_at s i hin
      obtain ⟨c, hc⟩ : ∃ c, s[i] = c := ⟨_, rfl⟩
      rw [hc] at hd
      have HS1 := Lib.hid (HP1.out i)
      have HS2 := Lib.hid (HP2.out i)
      rw [hd] at HS1 HS2
      have HV2 : Hid (lenAt i (c :: (lst s).drop (i + 1)) = R) := by rw [← hd]; exact HV.out
      by_cases hb : c.toNat < 32 ∨ 126 < c.toNat
      · have HF : Hid (R = 0) := by
          show R = 0
          rw [← HV2.out, lenAt_bad hb]
        by_cases h1 : c.toNat < 32
        · have h1' : (c.toNat : Int) < 32 := by omega
          clear HV HV2 HS1 HS2 HP1 HP2 hd hb
          go_wp2_with fail
          go_ret
          exact ⟨by rw [HF.out]; rfl, rfl⟩
        · have h1' : ¬ ((c.toNat : Int) < 32) := by omega
          have h2' : (126 : Int) < (c.toNat : Int) := by omega
          clear HV HV2 HS1 HS2 HP1 HP2 hd hb
          go_wp2_with fail
          go_ret
          exact ⟨by rw [HF.out]; rfl, rfl⟩
      · have h1' : ¬ ((c.toNat : Int) < 32) := by omega
        have h2' : ¬ ((126 : Int) < (c.toNat : Int)) := by omega
        by_cases hq : c = 39
        · rw [pfx_q1, decide_eq_true hq] at HS1
          by_cases hn2 : ∃ r, (lst s).drop (i + 1) = 39 :: r
          · obtain ⟨r, hr⟩ := hn2
            have hr2 : (lst s).drop (i + 2) = r := by
              have := List.drop_drop (i := 1) (j := i + 1) (l := lst s)
              rw [hr] at this
              exact this.symm
            have hi2 : i + 1 < n := by
              refine Classical.byContradiction fun hh => ?_
              rw [drop_end s (i + 1) (by rw [HN.out]; omega)] at hr; cases hr
            have HV3 : Hid (lenAt (i + 2) ((lst s).drop (i + 2)) = R) := by
              show _ = R
              rw [hr2, ← HV2.out, hq, hr, lenAt_two]
            rw [hr, pfx_q2, decide_eq_true hq, decide_eq_true (rfl : (39 : UInt8) = 39), Bool.and_self] at HS2
            clear HV HV2 HS1 HP1 HP2 hd hb hq hr hr2
            go_wp2_with (first | (go_at_call 31; refine (HS2.out _).mono ?_; rintro e w1 ⟨rfl, rfl⟩) | fail)
            go_roundw
            case rel => exact ⟨i + 2, by omega, by go_num, by trivial, HV3⟩
            case measure => simp [intOf]; omega
          · have hp2 : Lib.hasPrefix (c :: (lst s).drop (i + 1)) [39, 39] = false := by
              cases e : (lst s).drop (i + 1) with
              | nil => exact pfx_one
              | cons d r =>
                have hd2 : d ≠ 39 := fun h => hn2 ⟨r, by rw [e, h]⟩
                exact (pfx_q2).trans (by rw [decide_eq_false hd2]; exact Bool.and_false _)
            have HF : Hid (R = i + 1) := by
              show R = i + 1
              rw [← HV2.out, hq, lenAt_end (fun r h => hn2 ⟨r, h⟩)]
            rw [hp2] at HS2
            clear HV HV2 HP1 HP2 hd hb hq hn2 hp2
            go_wp2_with fail
            refine (HS2.out _).mono ?_
            rintro e w1 ⟨rfl, rfl⟩
            go_wp2_with fail
            refine (HS1.out _).mono ?_
            rintro e w1 ⟨rfl, rfl⟩
            go_wp2_with fail
            go_ret
            exact ⟨by rw [HF.out]; rfl, rfl⟩
        · have hp2 : Lib.hasPrefix (c :: (lst s).drop (i + 1)) [39, 39] = false := by
            cases e : (lst s).drop (i + 1) with
            | nil => exact pfx_one
            | cons d r => exact (pfx_q2).trans (by rw [decide_eq_false hq]; exact Bool.false_and _)
          rw [pfx_q1, decide_eq_false hq] at HS1
          rw [hp2] at HS2
          have HV3 : Hid (lenAt (i + 1) ((lst s).drop (i + 1)) = R) := by
            show _ = R
            rw [← HV2.out, lenAt_step hq hb]
          clear HV HV2 HP1 HP2 hd hb hq hp2
          go_wp2_with fail
          refine (HS2.out _).mono ?_
          rintro e w1 ⟨rfl, rfl⟩
          go_wp2_with fail
          refine (HS1.out _).mono ?_
          rintro e w1 ⟨rfl, rfl⟩
          go_wp2_with fail
          go_roundw
          case rel => exact ⟨i + 1, by omega, by go_num, by trivial, HV3⟩
          case measure => simp [intOf]; omega
    · have hlt2 : ¬ ((i : Int) < (n : Int)) := by omega
      have HF : Hid (R = 0) := by
        show R = 0
        rw [← HV.out, drop_end s i (by rw [HN.out]; omega), lenAt_nil]
      clear HV HP1 HP2
      go_wp2_with fail
      go_ret
      exact ⟨by rw [HF.out]; rfl, rfl⟩

/-- What a text is, between the quotes. -/
theorem txt_cases (s : ByteArray) (hq : ∃ r, lst s = 39 :: r) :
    (lenAt 1 ((lst s).drop 1) = 0 ∧ txtG (textR ((lst s).drop 1)) = bad 3) ∨
    (∃ k, 2 ≤ k ∧ k ≤ s.size ∧ lenAt 1 ((lst s).drop 1) = k ∧ txtG (textR ((lst s).drop 1)) = ⟨⟨3, ofL (Lib.replaceAll (lst (s.extract 1 (k - 1))) [39, 39] [39]), 0, 0⟩, k, 0⟩) := by
  obtain ⟨r, hr⟩ := hq
  have hd : (lst s).drop 1 = r := by rw [hr]; rfl
  rw [hd]
  cases e : textR r with
  | none => exact .inl ⟨by rw [lenAt, e], rfl⟩
  | some z =>
    obtain ⟨x, m⟩ := z
    have hl := textR_len r x m e
    have hs : s.size = r.length + 1 := by rw [size_lst, hr]; rfl
    refine .inr ⟨1 + m, by omega, by omega, by rw [lenAt, e], ?_⟩
    have hx : lst (s.extract 1 (1 + m - 1)) = r.take (m - 1) := by
      rw [extract_lst, hr]
      have : 1 + m - 1 = (m - 1) + 1 := by omega
      rw [this, List.take_succ_cons]; rfl
    rw [hx, textR_inner e]
    show (⟨⟨3, ofL x, 0, 0⟩, m + 1, 0⟩ : Got) = _
    rw [Nat.add_comm]
set_option maxHeartbeats 2000000 in
theorem text_ (s : ByteArray) (w : World) (hs : s.size ≤ 1000000000) (hq : ∃ r, lst s = 39 :: r) (hE : Env w) :
    Calls Tryz.prog 32 #[.string s] w fun e w' => e = .returned (gotV (txtG (textR ((lst s).drop 1)))) ∧ Below w.heap.size w w' := by
  have h0 : 0 < s.size := by obtain ⟨r, hr⟩ := hq; rw [size_lst, hr]; simp
  have HL := Lib.hid (textLen_ s · h0 hs)
  have F0 := Lib.hid (frT_start w 46)
  have HEv := Lib.hid hE
  rcases txt_cases s hq with ⟨h1, h2⟩ | ⟨k, hk2, hks, h1, h2⟩
  · rw [h1] at HL
    rw [h2]
    clear h1 h2 hq hE
    go_enter Tryz.func32, Tryz.ntmps32
    go_wp2_with fail
    refine (HL.out _).mono ?_
    rintro e w1 ⟨rfl, hw⟩
    rw [← hw] at F0
    clear hw
    obtain ⟨⟨r0, r1, r2, r3⟩, ⟨f0, f1, f2, f3⟩, hbw, hsz⟩ := F0.out
    clear F0 HL
    go_wp2_with fail
    refine bodyPost_ret (v := .tuple #[.agg #[.int .i64 0, .string ⟨#[]⟩, .int .i64 0, .int .i64 0], .int .i64 0, .iface 42 (.int .i64 3)]) ?_ rfl ⟨rfl, four_set hbw (w.heap.size) (by omega) _ _ _ _⟩
    simp [results, Tryz.results32, go_sem, r0, r1, r2, r3]
  · obtain ⟨n, hn⟩ : ∃ n, s.size = n := ⟨_, rfl⟩
    have HX : Hid (∀ W, Below w.heap.size w W → Calls Tryz.prog 46 #[.string (s.extract 1 (k - 1)), .string ⟨#[39, 39]⟩, .string ⟨#[39]⟩] W fun e w' => e = .returned (.string (ofL (Lib.replaceAll (lst (s.extract 1 (k - 1))) [39, 39] [39]))) ∧ Below W.heap.size W w') := fun W hW =>
      undoubled_ _ W (by rw [ByteArray.size_extract]; omega) (HEv.out.on hW)
    rw [h1] at HL
    rw [h2]
    generalize ofL (Lib.replaceAll (lst (s.extract 1 (k - 1))) [39, 39] [39]) = X at *
    rw [hn] at hks
    have hki : ((k : Int) == 0) = false := by simp; omega
    have hk1 : (1 : Int) ≤ (k : Int) - 1 := by omega
    have hk3 : (k : Int) - 1 ≤ (n : Int) := by omega
    have hk4 : (((k : Int) - 1).toNat) = k - 1 := by omega
    clear h1 h2 hq hE
    go_enter Tryz.func32, Tryz.ntmps32
    go_wp2_with fail
    refine (HL.out _).mono ?_
    rintro e w1 ⟨rfl, hw⟩
    rw [← hw] at F0
    clear hw HL
    go_wp2_with fail
    refine (HX.out _ F0.out.2.2.1).mono ?_
    rintro e w2 ⟨rfl, hb2⟩
    have F2 := F0.out.on hb2
    clear hb2 F0 HX
    obtain ⟨⟨r0, r1, r2, r3⟩, ⟨f0, f1, f2, f3⟩, hbw, hsz⟩ := F2
    go_wp2_with fail
    refine bodyPost_ret (v := .tuple #[.agg #[.int .i64 3, .string X, .int .i64 0, .int .i64 0], .int .i64 k, .nilIface]) ?_ rfl ⟨rfl, four_set hbw (w.heap.size) (by omega) _ _ _ _⟩
    simp [results, Tryz.results32, go_sem, r0, r1, r2, r3]

/-! ### A number -/
def numG (l : List UInt8) : Got := if numV l < 9223372036854775808 then ⟨⟨2, ⟨#[]⟩, (numV l : Nat), 0⟩, l.length, 0⟩ else bad 5
set_option maxHeartbeats 2000000 in
theorem number_ (s : ByteArray) (w : World) (h0 : 0 < s.size) (hs : s.size ≤ 1000000000) (hd : ∀ c ∈ lst s, isDig c = true) (hE : Env w) :
    Calls Tryz.prog 30 #[.string s] w fun e w' => e = .returned (gotV (numG (lst s))) ∧ Below w.heap.size w w' := by
  have HA : Hid (∀ W, Below w.heap.size w W → Calls Tryz.prog 54 #[.string s] W (AtoiTo W s)) := fun W hW => atoi_ s W hs h0 hd (hE.on hW)
  have F0 := Lib.hid (frT_start w 46)
  obtain ⟨n, hn⟩ : ∃ n, s.size = n := ⟨_, rfl⟩
  have hl : (lst s).length = n := by rw [← size_lst, hn]
  unfold AtoiTo at HA
  unfold numG
  rw [hl]
  generalize numV (lst s) = V at *
  by_cases hv : V < 9223372036854775808
  · rw [if_pos hv]
    clear hd hE
    go_enter Tryz.func30, Tryz.ntmps30
    go_wp2_with fail
    refine (HA.out _ F0.out.2.2.1).mono ?_
    rintro e w2 ⟨⟨_, rfl⟩ | ⟨hc, _⟩, hb2⟩
    · have F2 := F0.out.on hb2
      clear hb2 F0 HA
      obtain ⟨⟨r0, r1, r2, r3⟩, ⟨f0, f1, f2, f3⟩, hbw, hsz⟩ := F2
      go_wp2_with fail
      refine bodyPost_ret (v := .tuple #[.agg #[.int .i64 2, .string ⟨#[]⟩, .int .i64 V, .int .i64 0], .int .i64 n, .nilIface]) ?_ rfl ⟨rfl, four_set hbw (w.heap.size) (by omega) _ _ _ _⟩
      simp [results, Tryz.results30, go_sem, r0, r1, r2, r3]
    · exact absurd hv hc
  · rw [if_neg hv]
    clear hd hE
    go_enter Tryz.func30, Tryz.ntmps30
    go_wp2_with fail
    refine (HA.out _ F0.out.2.2.1).mono ?_
    rintro e w2 ⟨⟨hc, _⟩ | ⟨_, m, ty, v, rfl⟩, hb2⟩
    · exact absurd hc hv
    · have F2 := F0.out.on hb2
      clear hb2 F0 HA
      obtain ⟨⟨r0, r1, r2, r3⟩, ⟨f0, f1, f2, f3⟩, hbw, hsz⟩ := F2
      go_wp2_with fail
      refine bodyPost_ret (v := .tuple #[.agg #[.int .i64 0, .string ⟨#[]⟩, .int .i64 0, .int .i64 0], .int .i64 0, .iface 42 (.int .i64 5)]) ?_ rfl ⟨rfl, four_set hbw (w.heap.size) (by omega) _ _ _ _⟩
      simp [results, Tryz.results30, go_sem, r0, r1, r2, r3]
end Go.Proofs.YtfmpnakonffkcaaGreatDoor
