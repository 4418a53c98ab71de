/- The walk of lex.Lex. -/
import Derived.Test.YtfmpnakonffkcaaGreatDoorLxFirst
namespace Go.Proofs.YtfmpnakonffkcaaGreatDoor
open Go.RowKit Go.Sort

/-- What Lex tells of a text. -/
def lexG (l : List UInt8) : Lxd := if 65536 < l.length then ⟨[], 0, 2⟩ else lexL l 0
def LexTo (w : World) (x : Lxd) (e : Ending) (w' : World) : Prop :=
  ∃ a c, e = .returned (.tuple #[.slice a x.ts.length c, .int .i64 (x.p : Nat), errV 42 x.e]) ∧ TksIn w' a x.ts ∧ (a = none → c = 0) ∧ Below w.heap.size w w'
/-- A token in a block of its own, which may be written. -/
def BlkT (V : World) (B : Nat) (t : Tk) : Prop := InT V B 0 t ∧ V.frozen? ⟨B, 3, none⟩ = false
theorem lexL_e (l : List UInt8) (a : Nat) : (lexL l a).e = 0 ∨ (lexL l a).e = 3 ∨ (lexL l a).e = 5 := by
  induction hn : l.length using Nat.strongRecOn generalizing l a with
  | _ n ih =>
    subst hn
    cases l with
    | nil => rw [lexL_nil]; exact .inl rfl
    | cons c r =>
      cases hb : blk c with
      | true => rw [lexL_blk hb]; exact ih _ (by simp) _ _ rfl
      | false =>
        by_cases he : (first (c :: r)).e = 0
        · rw [lexL_tok hb he]
          split
          · exact .inl rfl
          · exact ih _ (by have := first_ok he; simp only [List.length_drop]; omega) _ _ rfl
        · rw [lexL_bad hb he]
          exact .inr (first_bad he).2
theorem drop_lst (s : ByteArray) (i : Nat) : lst (s.extract i s.size) = (lst s).drop i := by
  rw [extract_lst, List.take_of_length_le (by rw [← size_lst]; exact Nat.le_refl _)]
theorem toks_len (l : List UInt8) (a : Nat) : (lexL l a).ts.length ≤ l.length := by
  induction hn : l.length using Nat.strongRecOn generalizing l a with
  | _ n ih =>
    subst hn
    cases l with
    | nil => rw [lexL_nil]; exact Nat.le_refl _
    | cons c r =>
      cases hb : blk c with
      | true => rw [lexL_blk hb]; have := ih _ (by simp) r (a + 1) rfl; rw [List.length_cons]; omega
      | false =>
        by_cases he : (first (c :: r)).e = 0
        · have hf := first_ok he
          rw [lexL_tok hb he]
          split
          · have := ih _ (by simp only [List.length_drop]; omega) ((c :: r).drop (first (c :: r)).s) (a + (first (c :: r)).s) rfl
            simp only [List.length_drop] at this
            simp only [List.length_cons] at this hf ⊢
            omega
          · simp
        · rw [lexL_bad hb he]; simp
theorem head_blk {l : List UInt8} {i : Nat} (h : i = (l.takeWhile blk).length) : ∀ c r, l.drop i = c :: r → blk c = false := by
  subst h
  induction l with
  | nil => intro c r e; cases e
  | cons d l ih =>
    intro c r e
    cases hb : blk d with
    | true =>
      rw [List.takeWhile_cons, hb] at e
      simp only [if_true, List.length_cons, List.drop_succ_cons] at e
      exact ih c r e
    | false =>
      rw [List.takeWhile_cons, hb] at e
      simp only [Bool.false_eq_true, if_false, List.length_nil, List.drop_zero, List.cons.injEq] at e
      rw [← e.1]; exact hb
set_option maxRecDepth 100000 in
set_option maxHeartbeats 4000000 in
theorem lex_ (s : ByteArray) (w : World) (hE : Env w) : Calls Tryz.prog 6 #[.string s] w (LexTo w (lexG (lst s))) := by
  obtain ⟨n, hn⟩ : ∃ n, s.size = n := ⟨_, rfl⟩
  have hl : (lst s).length = n := by rw [← size_lst, hn]
  by_cases hlong : 65536 < n
  · have h2 : (65536 : Int) < (n : Int) := by omega
    have HG : Hid (lexG (lst s) = ⟨[], 0, 2⟩) := by show _ = _; rw [lexG, if_pos (by rw [hl]; exact hlong)]
    rw [HG.out]
    clear hl HG hE
    go_enter Tryz.func6, Tryz.ntmps6
    go_wp2_with fail
    refine bodyPost_ret (v := .tuple #[.slice none 0 0, .int .i64 0, .iface 42 (.int .i64 2)]) ?_ rfl ⟨none, 0, by simp [errV], tksIn_nil _ _, fun _ => rfl, Below.refl _ _⟩
    simp [results, Tryz.results6, go_sem]
  have h2 : ¬ ((65536 : Int) < (n : Int)) := by omega
  have hs : s.size ≤ 1000000000 := by omega
  obtain ⟨R, hR⟩ : ∃ R, lexL (lst s) 0 = R := ⟨_, rfl⟩
  have HG : Hid (lexG (lst s) = R) := by show _ = _; rw [lexG, if_neg (by rw [hl]; exact hlong), hR]
  rw [HG.out]
  have HEv := Lib.hid hE
  have HN := Lib.hid hn
  have HL := Lib.hid hl
  have HSp : Hid (∀ i W, Calls Tryz.prog 16 #[.string (s.extract i n), .func (.func 17) #[] #[]] W fun e w' => e = .returned (.int .i64 ((((lst s).drop i).takeWhile blk).length : Nat)) ∧ w' = W) := fun i W => by
    rw [← drop_lst, hn]
    exact span_ 17 blk _ W ent_blank blank_ (by rw [ByteArray.size_extract]; omega)
  have HS0 : Hid (∀ W, Calls Tryz.prog 16 #[.string s, .func (.func 17) #[] #[]] W fun e w' => e = .returned (.int .i64 (((lst s).takeWhile blk).length : Nat)) ∧ w' = W) := fun W => span_ 17 blk s W ent_blank blank_ (by omega)
  have HFi : Hid (∀ i W, Below w.heap.size w W → Calls Tryz.prog 18 #[.string (s.extract i n)] W fun e w' => e = .returned (gotV (first ((lst s).drop i))) ∧ Below W.heap.size W w') := fun i W hW => by
    rw [← drop_lst, hn]
    exact first_ _ W (by rw [ByteArray.size_extract]; omega) (HEv.out.on hW)
  have HRl : Hid (lexL (lst s) 0 = R) := hR
  clear hl hE hR HG
  go_enter Tryz.func6, Tryz.ntmps6
  go_wp2_with fail
  refine (HS0.out _).mono ?_
  rintro e w1 ⟨rfl, rfl⟩
  clear HS0
  go_wp2_with fail
  go_loopw [5, 6] (fun lv av wr => ∃ (i : Nat) (ts : List Tk), i ≤ n ∧ ts.length ≤ i ∧ av = .int .i64 i ∧ Hid (OwnT wr w1.heap.size lv ts) ∧ Hid (Below w1.heap.size w1 wr) ∧ Hid (joinX ts (lexL ((lst s).drop i) i) = R) ∧ Hid (∀ c r, (lst s).drop i = c :: r → blk c = false)) (fun _ av _ => n - (intOf av).toNat)
  case atStart =>
    refine ⟨_, [], ?_, Nat.zero_le _, rfl, ownT_nil _ _, Below.refl _ _, ?_, head_blk rfl⟩
    · rw [← HL.out]; exact tw_len _ _
    · show _ = R
      rw [joinX_nil, ← HRl.out, lexL_skip (lst s) 0, Nat.zero_add]
  case round =>
    obtain ⟨i, ts, hi, hts, rfl, HO, HB, HJ, HH⟩ := hrel
    by_cases hlt : i < n
    · have hlt2 : (i : Int) < (n : Int) := by omega
      have hi1 : (i : Int) ≤ (n : Int) := by omega
      have hin : i < s.size := by rw [HN.out]; exact hlt
      have hd := drop_at s i hin
      obtain ⟨c, hc⟩ : ∃ c, s[i] = c := ⟨_, rfl⟩
      rw [hc] at hd
      have hbl := HH.out c _ hd
      have HFc : Hid (Calls Tryz.prog 18 #[.string (s.extract i n)] wr fun e w' => e = .returned (gotV (first (c :: (lst s).drop (i + 1)))) ∧ Below wr.heap.size wr w') := by
        have := HFi.out i wr HB.out
        rw [hd] at this; exact this
      have HJ1 : Hid (joinX ts (lexL (c :: (lst s).drop (i + 1)) i) = R) := by rw [← hd]; exact HJ.out
      by_cases he : (first (c :: (lst s).drop (i + 1))).e = 0
      · obtain ⟨hk0, hkl⟩ := first_ok he
        obtain ⟨K, hK⟩ : ∃ K, (first (c :: (lst s).drop (i + 1))).s = K := ⟨_, rfl⟩
        obtain ⟨T, hT⟩ : ∃ T, (first (c :: (lst s).drop (i + 1))).t = T := ⟨_, rfl⟩
        rw [hK] at hk0 hkl
        rw [← hd, List.length_drop, HL.out] at hkl
        have hdk : (c :: (lst s).drop (i + 1)).drop K = (lst s).drop (i + K) := by rw [← hd, List.drop_drop]
        have HJ2 : Hid (joinX (ts ++ [T.at_ i]) (lexL ((lst s).drop (i + K)) (i + K)) = R) := by
          show _ = R
          rw [← HJ1.out, joinX_tok ts hbl he, hT, hK, hdk]
        have hgv : gotV (first (c :: (lst s).drop (i + 1))) = .tuple #[.agg #[.int .i64 T.k, .string T.tx, .int .i64 T.n, .int .i64 T.p], .int .i64 K, .nilIface] := by
          simp [gotV, agT, errV, he, hK, hT]
        rw [hgv] at HFc
        have HT2 : Hid (T.at_ (i : Int) = ⟨T.k, T.tx, T.n, i⟩) := rfl
        rw [HT2.out] at HJ2
        obtain ⟨m, hm⟩ : ∃ m, (((lst s).drop (i + K)).takeWhile blk).length = m := ⟨_, rfl⟩
        have hmn : i + K + m ≤ n := by
          have := tw_len blk ((lst s).drop (i + K))
          rw [hm, List.length_drop, HL.out] at this; omega
        have HSm := Lib.hid (HSp.out (i + K))
        rw [hm] at HSm
        have HH2 : Hid (∀ c r, (lst s).drop (i + K + m) = c :: r → blk c = false) := by
          have := head_blk hm.symm
          rw [List.drop_drop] at this; exact this
        have HJ3 : Hid (joinX (ts ++ [⟨T.k, T.tx, T.n, i⟩]) (lexL ((lst s).drop (i + K + m)) (i + K + m)) = R) := by
          have := HJ2.out
          rw [lexL_skip, hm, List.drop_drop] at this; exact this
        generalize T.k = tk at *
        generalize T.tx = tt at *
        generalize T.n = tn at *
        generalize T.p = tp at *
        have hkn : (i : Int) + (K : Int) ≤ (n : Int) := by omega
        have hkn0 : (0 : Int) ≤ (i : Int) + (K : Int) := by omega
        clear hgv hK hT hdk hm HJ HJ1 HJ2 HT2 HH hd hbl HFi HSp HRl he
        go_wp2_with fail
        refine HFc.out.mono ?_
        rintro e w2 ⟨rfl, hb2⟩
        have HB2 := Lib.hid (below_step HB.out hb2)
        have HO2 := Lib.hid (HO.out.on hb2)
        clear hb2 HFc HB HO
        have hlen : (ts.length + 1) * 40 ≤ 140737488355328 := by omega
        go_wp2_with (first
          | (at_builtin; refine wpList_append_t w1.heap.size _ w1 rfl _ _ rfl _ ts [⟨tk, tt, tn, (i : Int)⟩] rfl (HO2.out.on (((Below.refl _ _).alloc (Nat.le_refl _) _).alloc (by simp) _)) (w2.heap.size + 1) 0 1 1 rfl rfl (one_inT (by refine ⟨?_, ?_, ?_, ?_⟩ <;> simp [go_sem])) hlen (Nat.le_refl _) (below_step HB2.out (((Below.refl _ _).alloc (Nat.le_refl _) _).alloc (by simp) _)) ?_
             intro v' w3 hown hb3
             have HO3 := Lib.hid hown
             have HB3 := Lib.hid hb3
             clear hown hb3 HO2)
          | fail)
        refine (HSm.out _).mono ?_
        rintro e w4 ⟨rfl, rfl⟩
        clear HSm
        go_wp2_with fail
        go_roundw
        case rel => exact ⟨i + K + m, ts ++ [⟨tk, tt, tn, (i : Int)⟩], hmn, by rw [List.length_append, List.length_singleton]; omega, by go_num, HO3, HB3, HJ3, HH2⟩
        case measure => simp [intOf]; omega
      · obtain ⟨E, hE⟩ : ∃ E, (first (c :: (lst s).drop (i + 1))).e = E := ⟨_, rfl⟩
        have hbad := (first_bad he).1
        rw [hE] at hbad he
        have HF : Hid (R = ⟨[], i, E⟩) := by
          show R = _
          rw [← HJ1.out, lexL_bad hbl (by rw [hE]; exact he), hE, joinX, if_neg he]
        rw [hbad] at HFc
        have hgv : gotV (bad E) = .tuple #[.agg #[.int .i64 0, .string ⟨#[]⟩, .int .i64 0, .int .i64 0], .int .i64 0, .iface 42 (.int .i64 E)] := by
          simp [gotV, bad, agT, tk0, errV, he]
        rw [hgv] at HFc
        clear hgv hbad hE HJ HJ1 HH hd hbl HFi HSp HRl HO
        go_wp2_with fail
        refine HFc.out.mono ?_
        rintro e w2 ⟨rfl, hb2⟩
        have HB2 := Lib.hid (below_step HB.out hb2)
        clear hb2 HFc
        go_wp2_with fail
        rw [HF.out]
        refine bodyPost_ret (v := .tuple #[.slice none 0 0, .int .i64 i, .iface 42 (.int .i64 E)]) ?_ rfl ⟨none, 0, by simp [errV, he], tksIn_nil _ _, fun _ => rfl, ?_⟩
        · simp [results, Tryz.results6, go_sem]
        · exact below_step HB2.out (below_alloc1 _ _)
    · obtain rfl : i = n := by omega
      have hlt2 : ¬ ((i : Int) < (i : Int)) := by omega
      have HF : Hid (R = ⟨ts, i, 0⟩) := by
        show R = _
        rw [← HJ.out, drop_end s i (by rw [HN.out]; exact Nat.le_refl _), lexL_nil, joinX, if_pos rfl, List.append_nil]
      clear HJ HH HFi HSp HRl
      obtain ⟨a, cp, rfl, hin, hnil, _⟩ := HO.out.tks
      go_wp2_with fail
      rw [HF.out]
      refine bodyPost_ret (v := .tuple #[.slice a ts.length cp, .int .i64 i, .nilIface]) ?_ rfl ⟨a, cp, by simp [errV], hin, hnil, HB.out⟩
      simp [results, Tryz.results6, go_sem]
end Go.Proofs.YtfmpnakonffkcaaGreatDoor
