/- The walks of the document's One and Lex. -/
import Derived.Test.YtfmpnakonffkcaaGreatDoorLxRefT
import Derived.Test.YtfmpnakonffkcaaGreatDoorLxLex
namespace Go.Proofs.YtfmpnakonffkcaaGreatDoor
open Go.RowKit Go.Sort

theorem oneV_form (g : Got) (p : Nat) : ∃ tk tt tn tp q e, oneV g p = .tuple #[.agg #[.int .i64 tk, .string tt, .int .i64 tn, .int .i64 tp], .int .i64 q, .int .i64 e] := by
  unfold oneV
  split
  · exact ⟨_, _, _, _, _, _, rfl⟩
  · exact ⟨_, _, _, _, _, _, rfl⟩
theorem ext_lst (s : ByteArray) (p q : Nat) : lst (s.extract p q) = ((lst s).drop p).take (q - p) := by rw [extract_lst, List.drop_take]
set_option maxRecDepth 100000 in
set_option maxHeartbeats 4000000 in
theorem one_ (s : ByteArray) (p : Nat) (w : World) (hs : s.size ≤ 1000000000) (hp : p < s.size) :
    Calls Tryz.prog 19 #[.string s, .int .i64 (p : Int)] w fun e w' => e = .returned (oneV (first ((lst s).drop p)) p) ∧ Below w.heap.size w w' := by
  have F0 := Lib.hid (frT_start w 49)
  have hd := drop_at s p hp
  obtain ⟨c, hc⟩ : ∃ c, s[p] = c := ⟨_, rfl⟩
  rw [hc] at hd
  have HLt : Hid (∀ W, Calls Tryz.prog 34 #[.int .u8 (c.toNat : Int)] W fun e w' => e = .returned (.bool (letB c)) ∧ w' = W) := fun W => rletter_ c W
  have HDg : Hid (∀ W, Calls Tryz.prog 36 #[.int .u8 (c.toNat : Int)] W fun e w' => e = .returned (.bool (isDig c)) ∧ w' = W) := fun W => rdigit_ c W
  have HSi : Hid (∀ W, Calls Tryz.prog 40 #[.int .u8 (c.toNat : Int)] W fun e w' => e = .returned (.bool (sg1 c)) ∧ w' = W) := fun W => single_ c W
  have HWd := Lib.hid (fun W => word_ s p W hs (Nat.le_of_lt hp))
  have HNu := Lib.hid (fun W => rnumber_ s p W hs (Nat.le_of_lt hp))
  have HTx := Lib.hid (fun W => rtext_ s p W hs hp)
  have HPr : Hid (∀ W, Calls Tryz.prog 39 #[.string (s.extract p (p + 2))] W fun e w' => e = .returned (.bool (sg2 (((lst s).drop p).take 2))) ∧ w' = W) := fun W => by
    have := ext_lst s p (p + 2)
    rw [show p + 2 - p = 2 by omega] at this
    rw [← this]; exact pair_ _ W
  have HE2 : Hid (ofL (((lst s).drop p).take 2) = s.extract p (p + 2)) := by
    refine lst_inj ?_
    rw [lst_ofL, ext_lst, show p + 2 - p = 2 by omega]
  have HE1 : Hid (ofL [c] = s.extract p (p + 1)) := by
    refine lst_inj ?_
    rw [lst_ofL, ext_lst, show p + 1 - p = 1 by omega, hd]; rfl
  have HRl : Hid (((lst s).drop (p + 1)).length = s.size - (p + 1)) := by show _ = _; rw [List.length_drop, size_lst]
  obtain ⟨n, hn⟩ : ∃ n, s.size = n := ⟨_, rfl⟩
  rw [hn] at HRl
  have hpn : (p : Int) < (n : Int) := by omega
  have hp0 : (0 : Int) ≤ (p : Int) := by omega
  rw [hd] at HWd HNu HPr HE2 ⊢
  generalize (lst s).drop (p + 1) = r at *
  clear hd
  cases hb1 : letB c with
  | true =>
    have he : Value.tuple #[.agg #[.int .i64 1, .string (ofL (((c :: r).takeWhile ofW).map low)), .int .i64 0, .int .i64 (p : Int)], .int .i64 ((p + ((c :: r).takeWhile ofW).length : Nat) : Int), .int .i64 0] = oneV (first (c :: r)) p := by
      rw [first_let hb1]; simp [oneV, agT, Tk.at_]
    rw [he] at HWd
    rw [hb1] at HLt
    obtain ⟨tk, tt, tn, tp, q, e, hv⟩ := oneV_form (first (c :: r)) p
    rw [hv] at HWd ⊢
    clear he hv HDg HSi HNu HTx HPr HE2 HE1 HRl
    go_enter Tryz.func19, Tryz.ntmps19
    go_wp2_with fail
    refine (HLt.out _).mono ?_
    rintro e1 w1 ⟨rfl, hw⟩
    rw [← hw] at F0
    clear hw HLt
    go_wp2_with fail
    refine (HWd.out _).mono ?_
    rintro e3 w3 ⟨rfl, hb3⟩
    have F3 := F0.out.on hb3
    have hb33 := F0.out.2.2.1
    clear hb3 F0 HWd
    obtain ⟨⟨r0, r1, r2, r3⟩, ⟨f0, f1, f2, f3⟩, hbw, hsz⟩ := F3
    go_wp2_with fail
    refine bodyPost_ret (v := .tuple #[.agg #[.int .i64 tk, .string tt, .int .i64 tn, .int .i64 tp], .int .i64 q, .int .i64 e]) ?_ rfl ⟨rfl, four_set hbw (w.heap.size) (by omega) _ _ _ _⟩
    simp [results, Tryz.results19, go_sem, r0, r1, r2, r3]
  | false =>
    rw [hb1] at HLt
    cases hb2 : isDig c with
    | true =>
      have he : oneV (numG ((c :: r).takeWhile isDig)) p = oneV (first (c :: r)) p := by rw [first_dig hb2]; rfl
      rw [he] at HNu
      rw [hb2] at HDg
      obtain ⟨tk, tt, tn, tp, q, e, hv⟩ := oneV_form (first (c :: r)) p
      rw [hv] at HNu ⊢
      clear he hv HSi HWd HTx HPr HE2 HE1 HRl
      go_enter Tryz.func19, Tryz.ntmps19
      go_wp2_with fail
      refine (HLt.out _).mono ?_
      rintro e1 w1 ⟨rfl, hw⟩
      rw [← hw] at F0
      clear hw HLt
      go_wp2_with fail
      refine (HDg.out _).mono ?_
      rintro e1 w1 ⟨rfl, hw⟩
      rw [← hw] at F0
      clear hw HDg
      go_wp2_with fail
      refine (HNu.out _).mono ?_
      rintro e3 w3 ⟨rfl, hb3⟩
      have F3 := F0.out.on hb3
      clear hb3 F0 HNu
      obtain ⟨⟨r0, r1, r2, r3⟩, ⟨f0, f1, f2, f3⟩, hbw, hsz⟩ := F3
      go_wp2_with fail
      refine bodyPost_ret (v := .tuple #[.agg #[.int .i64 tk, .string tt, .int .i64 tn, .int .i64 tp], .int .i64 q, .int .i64 e]) ?_ rfl ⟨rfl, four_set hbw (w.heap.size) (by omega) _ _ _ _⟩
      simp [results, Tryz.results19, go_sem, r0, r1, r2, r3]
    | false =>
      rw [hb2] at HDg
      by_cases hq : c = 39
      · have hqI : ((c.toNat : Int) == 39) = true := by rw [hq]; rfl
        have he : oneV (txtG (textR r)) p = oneV (first (c :: r)) p := by rw [hq]; rfl
        rw [he] at HTx
        obtain ⟨tk, tt, tn, tp, q, e, hv⟩ := oneV_form (first (c :: r)) p
        rw [hv] at HTx ⊢
        clear he hv HSi HWd HNu HPr HE2 HE1 HRl hq
        go_enter Tryz.func19, Tryz.ntmps19
        go_wp2_with fail
        refine (HLt.out _).mono ?_
        rintro e1 w1 ⟨rfl, hw⟩
        rw [← hw] at F0
        clear hw HLt
        go_wp2_with fail
        refine (HDg.out _).mono ?_
        rintro e1 w1 ⟨rfl, hw⟩
        rw [← hw] at F0
        clear hw HDg
        go_wp2_with fail
        refine (HTx.out _).mono ?_
        rintro e3 w3 ⟨rfl, hb3⟩
        have F3 := F0.out.on hb3
        clear hb3 F0 HTx
        obtain ⟨⟨r0, r1, r2, r3⟩, ⟨f0, f1, f2, f3⟩, hbw, hsz⟩ := F3
        go_wp2_with fail
        refine bodyPost_ret (v := .tuple #[.agg #[.int .i64 tk, .string tt, .int .i64 tn, .int .i64 tp], .int .i64 q, .int .i64 e]) ?_ rfl ⟨rfl, four_set hbw (w.heap.size) (by omega) _ _ _ _⟩
        simp [results, Tryz.results19, go_sem, r0, r1, r2, r3]
      · have hqI : ((c.toNat : Int) == 39) = false := by
          refine beq_eq_false_iff_ne.2 fun e => hq (UInt8.toNat_inj.1 (by show c.toNat = 39; omega))
        rw [first_sg hb1 hb2 hq]
        clear hq HWd HNu HTx
        by_cases h2 : p + 2 ≤ n
        · have h2' : (p : Int) + 2 ≤ (n : Int) := by omega
          cases hg : sg2 ((c :: r).take 2) with
          | true =>
            rw [hg] at HPr
            rw [if_pos rfl, HE2.out]
            have he : oneV ⟨⟨4, s.extract p (p + 2), 0, 0⟩, 2, 0⟩ p = .tuple #[.agg #[.int .i64 4, .string (s.extract p (p + 2)), .int .i64 0, .int .i64 p], .int .i64 ((p : Int) + 2), .int .i64 0] := by
              simp [oneV, agT, Tk.at_]
            rw [he]
            clear he hg HSi HE2 HE1 HRl
            go_enter Tryz.func19, Tryz.ntmps19
            go_wp2_with fail
            refine (HLt.out _).mono ?_
            rintro e1 w1 ⟨rfl, hw⟩
            rw [← hw] at F0
            clear hw HLt
            go_wp2_with fail
            refine (HDg.out _).mono ?_
            rintro e1 w1 ⟨rfl, hw⟩
            rw [← hw] at F0
            clear hw HDg
            go_wp2_with fail
            refine (HPr.out _).mono ?_
            rintro e1 w1 ⟨rfl, hw⟩
            rw [← hw] at F0
            clear hw HPr
            obtain ⟨⟨r0, r1, r2, r3⟩, ⟨f0, f1, f2, f3⟩, hbw, hsz⟩ := F0.out
            clear F0
            go_wp2_with fail
            refine bodyPost_ret (v := .tuple #[.agg #[.int .i64 4, .string (s.extract p (p + 2)), .int .i64 0, .int .i64 p], .int .i64 ((p : Int) + 2), .int .i64 0]) ?_ rfl ⟨rfl, four_set hbw (w.heap.size) (by omega) _ _ _ _⟩
            simp [results, Tryz.results19, go_sem, r0, r1, r2, r3]
          | false =>
            rw [hg] at HPr
            rw [if_neg (by decide)]
            clear hg
            cases h5 : sg1 c with
            | true =>
              rw [h5] at HSi
              have hp1 : (p : Int) + 1 ≤ (n : Int) := by omega
              rw [if_pos rfl, HE1.out]
              have he : oneV ⟨⟨4, s.extract p (p + 1), 0, 0⟩, 1, 0⟩ p = .tuple #[.agg #[.int .i64 4, .string (s.extract p (p + 1)), .int .i64 0, .int .i64 p], .int .i64 ((p : Int) + 1), .int .i64 0] := by
                simp [oneV, agT, Tk.at_]
              rw [he]
              clear he h5 HE2 HE1 HRl
              go_enter Tryz.func19, Tryz.ntmps19
              go_wp2_with fail
              refine (HLt.out _).mono ?_
              rintro e1 w1 ⟨rfl, hw⟩
              rw [← hw] at F0
              clear hw HLt
              go_wp2_with fail
              refine (HDg.out _).mono ?_
              rintro e1 w1 ⟨rfl, hw⟩
              rw [← hw] at F0
              clear hw HDg
              go_wp2_with fail
              refine (HPr.out _).mono ?_
              rintro e1 w1 ⟨rfl, hw⟩
              rw [← hw] at F0
              clear hw HPr
              go_wp2_with fail
              refine (HSi.out _).mono ?_
              rintro e1 w1 ⟨rfl, hw⟩
              rw [← hw] at F0
              clear hw HSi
              obtain ⟨⟨r0, r1, r2, r3⟩, ⟨f0, f1, f2, f3⟩, hbw, hsz⟩ := F0.out
              clear F0
              go_wp2_with fail
              refine bodyPost_ret (v := .tuple #[.agg #[.int .i64 4, .string (s.extract p (p + 1)), .int .i64 0, .int .i64 p], .int .i64 ((p : Int) + 1), .int .i64 0]) ?_ rfl ⟨rfl, four_set hbw (w.heap.size) (by omega) _ _ _ _⟩
              simp [results, Tryz.results19, go_sem, r0, r1, r2, r3]
            | false =>
              rw [h5] at HSi
              rw [if_neg (by decide)]
              have he : oneV (bad 3) p = .tuple #[.agg #[.int .i64 0, .string ⟨#[]⟩, .int .i64 0, .int .i64 0], .int .i64 p, .int .i64 3] := by
                simp [oneV, agT, tk0, bad]
              rw [he]
              clear he h5 HE2 HE1 HRl
              go_enter Tryz.func19, Tryz.ntmps19
              go_wp2_with fail
              refine (HLt.out _).mono ?_
              rintro e1 w1 ⟨rfl, hw⟩
              rw [← hw] at F0
              clear hw HLt
              go_wp2_with fail
              refine (HDg.out _).mono ?_
              rintro e1 w1 ⟨rfl, hw⟩
              rw [← hw] at F0
              clear hw HDg
              go_wp2_with fail
              refine (HPr.out _).mono ?_
              rintro e1 w1 ⟨rfl, hw⟩
              rw [← hw] at F0
              clear hw HPr
              go_wp2_with fail
              refine (HSi.out _).mono ?_
              rintro e1 w1 ⟨rfl, hw⟩
              rw [← hw] at F0
              clear hw HSi
              obtain ⟨⟨r0, r1, r2, r3⟩, ⟨f0, f1, f2, f3⟩, hbw, hsz⟩ := F0.out
              clear F0
              go_wp2_with fail
              refine bodyPost_ret (v := .tuple #[.agg #[.int .i64 0, .string ⟨#[]⟩, .int .i64 0, .int .i64 0], .int .i64 p, .int .i64 3]) ?_ rfl ⟨rfl, four_set hbw (w.heap.size) (by omega) _ _ _ _⟩
              simp [results, Tryz.results19, go_sem, r0, r1, r2, r3]
        · have h2' : ¬ ((p : Int) + 2 ≤ (n : Int)) := by omega
          have hr : r = [] := List.eq_nil_of_length_eq_zero (by rw [HRl.out]; omega)
          have hg : sg2 ((c :: r).take 2) = false := by rw [hr]; simp [sg2, pairs]
          rw [hg, if_neg (by decide)]
          clear hg HPr hr
          cases h5 : sg1 c with
          | true =>
            rw [h5] at HSi
            have hp1 : (p : Int) + 1 ≤ (n : Int) := by omega
            rw [if_pos rfl, HE1.out]
            have he : oneV ⟨⟨4, s.extract p (p + 1), 0, 0⟩, 1, 0⟩ p = .tuple #[.agg #[.int .i64 4, .string (s.extract p (p + 1)), .int .i64 0, .int .i64 p], .int .i64 ((p : Int) + 1), .int .i64 0] := by
              simp [oneV, agT, Tk.at_]
            rw [he]
            clear he h5 HE2 HE1 HRl
            go_enter Tryz.func19, Tryz.ntmps19
            go_wp2_with fail
            refine (HLt.out _).mono ?_
            rintro e1 w1 ⟨rfl, hw⟩
            rw [← hw] at F0
            clear hw HLt
            go_wp2_with fail
            refine (HDg.out _).mono ?_
            rintro e1 w1 ⟨rfl, hw⟩
            rw [← hw] at F0
            clear hw HDg
            go_wp2_with fail
            refine (HSi.out _).mono ?_
            rintro e1 w1 ⟨rfl, hw⟩
            rw [← hw] at F0
            clear hw HSi
            obtain ⟨⟨r0, r1, r2, r3⟩, ⟨f0, f1, f2, f3⟩, hbw, hsz⟩ := F0.out
            clear F0
            go_wp2_with fail
            refine bodyPost_ret (v := .tuple #[.agg #[.int .i64 4, .string (s.extract p (p + 1)), .int .i64 0, .int .i64 p], .int .i64 ((p : Int) + 1), .int .i64 0]) ?_ rfl ⟨rfl, four_set hbw (w.heap.size) (by omega) _ _ _ _⟩
            simp [results, Tryz.results19, go_sem, r0, r1, r2, r3]
          | false =>
            rw [h5] at HSi
            rw [if_neg (by decide)]
            have he : oneV (bad 3) p = .tuple #[.agg #[.int .i64 0, .string ⟨#[]⟩, .int .i64 0, .int .i64 0], .int .i64 p, .int .i64 3] := by
              simp [oneV, agT, tk0, bad]
            rw [he]
            clear he h5 HE2 HE1 HRl
            go_enter Tryz.func19, Tryz.ntmps19
            go_wp2_with fail
            refine (HLt.out _).mono ?_
            rintro e1 w1 ⟨rfl, hw⟩
            rw [← hw] at F0
            clear hw HLt
            go_wp2_with fail
            refine (HDg.out _).mono ?_
            rintro e1 w1 ⟨rfl, hw⟩
            rw [← hw] at F0
            clear hw HDg
            go_wp2_with fail
            refine (HSi.out _).mono ?_
            rintro e1 w1 ⟨rfl, hw⟩
            rw [← hw] at F0
            clear hw HSi
            obtain ⟨⟨r0, r1, r2, r3⟩, ⟨f0, f1, f2, f3⟩, hbw, hsz⟩ := F0.out
            clear F0
            go_wp2_with fail
            refine bodyPost_ret (v := .tuple #[.agg #[.int .i64 0, .string ⟨#[]⟩, .int .i64 0, .int .i64 0], .int .i64 p, .int .i64 3]) ?_ rfl ⟨rfl, four_set hbw (w.heap.size) (by omega) _ _ _ _⟩
            simp [results, Tryz.results19, go_sem, r0, r1, r2, r3]

/-! ### All tokens -/
def RLexTo (w : World) (x : Lxd) (e : Ending) (w' : World) : Prop :=
  ∃ a c, e = .returned (.tuple #[.slice a x.ts.length c, .int .i64 (x.p : Nat), .int .i64 x.e]) ∧ TksIn w' a x.ts ∧ (a = none → c = 0) ∧ Below w.heap.size w w'
set_option maxRecDepth 100000 in
set_option maxHeartbeats 4000000 in
theorem rlex_ (s : ByteArray) (w : World) : Calls Tryz.prog 7 #[.string s] w (RLexTo w (lexG (lst s))) := by
  obtain ⟨n, hn⟩ : ∃ n, s.size = n := ⟨_, rfl⟩
  have hl : (lst s).length = n := by rw [← size_lst, hn]
  by_cases hlong : 65536 < n
  · have h2 : (65536 : Int) < (n : Int) := by omega
    have HG : Hid (lexG (lst s) = ⟨[], 0, 2⟩) := by show _ = _; rw [lexG, if_pos (by rw [hl]; exact hlong)]
    rw [HG.out]
    clear hl HG
    go_enter Tryz.func7, Tryz.ntmps7
    go_wp2_with fail
    refine bodyPost_ret (v := .tuple #[.slice none 0 0, .int .i64 0, .int .i64 2]) ?_ rfl ⟨none, 0, rfl, tksIn_nil _ _, fun _ => rfl, Below.refl _ _⟩
    simp [results, Tryz.results7, go_sem]
  have h2 : ¬ ((65536 : Int) < (n : Int)) := by omega
  have hs : s.size ≤ 1000000000 := by omega
  obtain ⟨R, hR⟩ : ∃ R, lexL (lst s) 0 = R := ⟨_, rfl⟩
  have HG : Hid (lexG (lst s) = R) := by show _ = _; rw [lexG, if_neg (by rw [hl]; exact hlong), hR]
  rw [HG.out]
  have HN := Lib.hid hn
  have HL := Lib.hid hl
  have HOn : Hid (∀ (i : Nat) W, i < s.size → Calls Tryz.prog 19 #[.string s, .int .i64 (i : Int)] W fun e w' => e = .returned (oneV (first ((lst s).drop i)) i) ∧ Below W.heap.size W w') := fun i W hi => one_ s i W hs hi
  have HRl : Hid (lexL (lst s) 0 = R) := hR
  clear hl hR HG
  go_enter Tryz.func7, Tryz.ntmps7
  go_wp2_with fail
  go_loopw [5, 6] (fun lv av wr => ∃ (i : Nat) (ts : List Tk), i ≤ n ∧ ts.length ≤ i ∧ av = .int .i64 i ∧ Hid (OwnR wr w.heap.size lv ts) ∧ Hid (Below w.heap.size w wr) ∧ Hid (joinX ts (lexL ((lst s).drop i) i) = R)) (fun _ av _ => n - (intOf av).toNat)
  case atStart => exact ⟨0, [], Nat.zero_le _, Nat.zero_le _, rfl, ownR_nil _ _, Below.refl _ _, by show _ = _; rw [joinX_nil]; exact HRl.out⟩
  case round =>
    obtain ⟨i, ts, hi, hts, rfl, HO, HB, HJ⟩ := hrel
    clear HRl
    by_cases hlt : i < n
    · have hlt2 : (i : Int) < (n : Int) := by omega
      have hin : i < s.size := by rw [HN.out]; exact hlt
      have hd := drop_at s i hin
      obtain ⟨c, hc⟩ : ∃ c, s[i] = c := ⟨_, rfl⟩
      rw [hc] at hd
      have HFc : Hid (Calls Tryz.prog 19 #[.string s, .int .i64 (i : Int)] wr fun e w' => e = .returned (oneV (first (c :: (lst s).drop (i + 1))) i) ∧ Below wr.heap.size wr w') := by
        have := HOn.out i wr hin
        rw [hd] at this; exact this
      have HJ1 : Hid (joinX ts (lexL (c :: (lst s).drop (i + 1)) i) = R) := by rw [← hd]; exact HJ.out
      have hbI := blk_int (c := c)
      cases hbl : blk c with
      | true =>
        rw [hbl] at hbI
        have HJ2 : Hid (joinX ts (lexL ((lst s).drop (i + 1)) (i + 1)) = R) := by
          show _ = _
          rw [← HJ1.out, lexL_blk hbl]
        have key : ((c.toNat : Int) == 32) = true ∨ (((c.toNat : Int) == 32) = false ∧ ((c.toNat : Int) == 9) = true) ∨ (((c.toNat : Int) == 32) = false ∧ ((c.toNat : Int) == 9) = false ∧ ((c.toNat : Int) == 10) = true) ∨ (((c.toNat : Int) == 32) = false ∧ ((c.toNat : Int) == 9) = false ∧ ((c.toNat : Int) == 10) = false ∧ ((c.toNat : Int) == 13) = true) := by
          revert hbI
          cases ((c.toNat : Int) == 32) <;> cases ((c.toNat : Int) == 9) <;> cases ((c.toNat : Int) == 10) <;> cases ((c.toNat : Int) == 13) <;> simp
        clear hbI HJ HJ1 hd HFc HOn hbl
        rcases key with h1 | ⟨h1, h3⟩ | ⟨h1, h3, h4⟩ | ⟨h1, h3, h4, h5⟩
        all_goals
          go_wp2_with fail
          go_roundw
          case rel => exact ⟨i + 1, ts, by omega, by omega, by go_num, HO, HB, HJ2⟩
          case measure => simp [intOf]; omega
      | false =>
        rw [hbl] at hbI
        have key : ((c.toNat : Int) == 32) = false ∧ ((c.toNat : Int) == 9) = false ∧ ((c.toNat : Int) == 10) = false ∧ ((c.toNat : Int) == 13) = false := by
          revert hbI
          cases ((c.toNat : Int) == 32) <;> cases ((c.toNat : Int) == 9) <;> cases ((c.toNat : Int) == 10) <;> cases ((c.toNat : Int) == 13) <;> simp
        obtain ⟨h1, h3, h4, h5⟩ := key
        clear hbI
        by_cases he : (first (c :: (lst s).drop (i + 1))).e = 0
        · obtain ⟨hk0, hkl⟩ := first_ok he
          obtain ⟨K, hK⟩ : ∃ K, (first (c :: (lst s).drop (i + 1))).s = K := ⟨_, rfl⟩
          obtain ⟨T, hT⟩ : ∃ T, (first (c :: (lst s).drop (i + 1))).t = T := ⟨_, rfl⟩
          rw [hK] at hk0 hkl
          rw [← hd, List.length_drop, HL.out] at hkl
          have hdk : (c :: (lst s).drop (i + 1)).drop K = (lst s).drop (i + K) := by rw [← hd, List.drop_drop]
          have HJ2 : Hid (joinX (ts ++ [⟨T.k, T.tx, T.n, i⟩]) (lexL ((lst s).drop (i + K)) (i + K)) = R) := by
            show _ = R
            rw [← HJ1.out, joinX_tok ts hbl he, hT, hK, hdk]; rfl
          have hgv : oneV (first (c :: (lst s).drop (i + 1))) i = .tuple #[.agg #[.int .i64 T.k, .string T.tx, .int .i64 T.n, .int .i64 i], .int .i64 ((i + K : Nat) : Int), .int .i64 0] := by
            rw [oneV, if_pos he, hK, hT]; rfl
          rw [hgv] at HFc
          generalize T.k = tk at *
          generalize T.tx = tt at *
          generalize T.n = tn at *
          have hlen : (ts.length + 1) * 40 ≤ 140737488355328 := by omega
          clear hgv hK hT hdk HJ HJ1 hd hbl HOn he
          go_wp2_with fail
          refine HFc.out.mono ?_
          rintro e w2 ⟨rfl, hb2⟩
          have HB2 := Lib.hid (below_step HB.out hb2)
          have HO2 := Lib.hid (HO.out.on hb2)
          clear hb2 HFc HB HO
          go_wp2_with (first
            | (at_builtin; refine wpList_append_r w.heap.size _ w rfl _ _ rfl _ ts [⟨tk, tt, tn, (i : Int)⟩] rfl (HO2.out.on (((Below.refl _ _).alloc (Nat.le_refl _) _).alloc (by simp) _)) (w2.heap.size + 1) 0 1 1 rfl rfl (one_inT (by refine ⟨?_, ?_, ?_, ?_⟩ <;> simp [go_sem])) hlen (Nat.le_refl _) (below_step HB2.out (((Below.refl _ _).alloc (Nat.le_refl _) _).alloc (by simp) _)) ?_
               intro v' w3 hown hb3
               have HO3 := Lib.hid hown
               have HB3 := Lib.hid hb3
               clear hown hb3 HO2)
            | fail)
          go_roundw
          case rel => exact ⟨i + K, ts ++ [⟨tk, tt, tn, (i : Int)⟩], by omega, by rw [List.length_append, List.length_singleton]; omega, by go_num, HO3, HB3, HJ2⟩
          case measure => simp [intOf]; omega
        · obtain ⟨E, hE⟩ : ∃ E, (first (c :: (lst s).drop (i + 1))).e = E := ⟨_, rfl⟩
          rw [hE] at he
          have HF : Hid (R = ⟨[], i, E⟩) := by
            show R = _
            rw [← HJ1.out, lexL_bad hbl (by rw [hE]; exact he), hE, joinX, if_neg he]
          have hgv : oneV (first (c :: (lst s).drop (i + 1))) i = .tuple #[.agg #[.int .i64 0, .string ⟨#[]⟩, .int .i64 0, .int .i64 0], .int .i64 i, .int .i64 E] := by
            rw [oneV, if_neg (by rw [hE]; exact he), hE]; rfl
          rw [hgv] at HFc
          have heI : (E == 0) = false := by simpa using he
          clear hgv hE HJ HJ1 hd hbl HOn HO
          go_wp2_with fail
          refine HFc.out.mono ?_
          rintro e w2 ⟨rfl, hb2⟩
          have HB2 := Lib.hid (below_step HB.out hb2)
          clear hb2 HFc
          go_wp2_with fail
          rw [HF.out]
          refine bodyPost_ret (v := .tuple #[.slice none 0 0, .int .i64 i, .int .i64 E]) ?_ rfl ⟨none, 0, rfl, tksIn_nil _ _, fun _ => rfl, ?_⟩
          · simp [results, Tryz.results7, go_sem]
          · exact below_step HB2.out (below_alloc1 _ _)
    · obtain rfl : i = n := by omega
      have hlt2 : ¬ ((i : Int) < (i : Int)) := by omega
      have HF : Hid (R = ⟨ts, i, 0⟩) := by
        show R = _
        rw [← HJ.out, drop_end s i (by rw [HN.out]; exact Nat.le_refl _), lexL_nil, joinX, if_pos rfl, List.append_nil]
      clear HJ HOn
      obtain ⟨a, cp, rfl, hin, hnil, _⟩ := HO.out.tks
      go_wp2_with fail
      rw [HF.out]
      refine bodyPost_ret (v := .tuple #[.slice a ts.length cp, .int .i64 i, .int .i64 0]) ?_ rfl ⟨a, cp, rfl, hin, hnil, HB.out⟩
      simp [results, Tryz.results7, go_sem]
end Go.Proofs.YtfmpnakonffkcaaGreatDoor
