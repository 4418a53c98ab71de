/- The walks of the document's told and Same. -/
import Derived.Test.YtfmpnakonffkcaaGreatDoorLxDigits
import Derived.Test.YtfmpnakonffkcaaGreatDoorLxPrint2
namespace Go.Proofs.YtfmpnakonffkcaaGreatDoor
open Go.RowKit Go.Sort

def rtoldL (t : Tk) : List UInt8 := if t.k = 2 then Lib.itoa t.n else if t.k = 3 then 39 :: (dbl (lst t.tx) ++ [39]) else lst t.tx
theorem first_k {l : List UInt8} (h : (first l).e = 0) : (first l).t.k = 1 ∨ (first l).t.k = 2 ∨ (first l).t.k = 3 ∨ (first l).t.k = 4 := by
  cases l with
  | nil => cases h
  | cons c r =>
    cases h1 : letB c with
    | true => rw [first_let h1]; exact .inl rfl
    | false =>
      cases h2 : isDig c with
      | true =>
        rw [first_dig h2] at h ⊢
        split at h
        · rename_i hv; rw [if_pos hv]; exact .inr (.inl rfl)
        · cases h
      | false =>
        by_cases hc : c = 39
        · subst hc
          rw [first_q] at h ⊢
          cases e : textR r with
          | none => rw [e] at h; cases h
          | some z => exact .inr (.inr (.inl rfl))
        · rw [first_sg h1 h2 hc] at h ⊢
          split at h
          · rename_i h4; rw [if_pos h4]; exact .inr (.inr (.inr rfl))
          · rename_i h4
            rw [if_neg h4]
            split at h
            · rename_i h5; rw [if_pos h5]; exact .inr (.inr (.inr rfl))
            · cases h
theorem rtoldL_eq {t : Tk} (h : t.k = 1 ∨ t.k = 2 ∨ t.k = 3 ∨ t.k = 4) : rtoldL t = toldL t := by
  obtain ⟨k, tx, n, p⟩ := t
  simp only at h
  rcases h with rfl | rfl | rfl | rfl <;> rfl
theorem canR_eq (t : Tk) : canL t = ((first (rtoldL t)).e == 0 && ((first (rtoldL t)).s == (rtoldL t).length && sameB (first (rtoldL t)).t t)) := by
  by_cases h : t.k = 1 ∨ t.k = 2 ∨ t.k = 3 ∨ t.k = 4
  · rw [rtoldL_eq h]; rfl
  · have h1 : toldL t = [] := by
      unfold toldL
      exact (if_neg (fun e => h (e.elim .inl (fun e => .inr (.inr (.inr e)))))).trans ((if_neg (fun e => h (.inr (.inl e)))).trans (if_neg (fun e => h (.inr (.inr (.inl e))))))
    have h2 : canL t = false := by rw [canL, h1]; rfl
    rw [h2]
    by_cases he : (first (rtoldL t)).e = 0
    · have hk := first_k he
      have hs : sameB (first (rtoldL t)).t t = false := by
        cases e : sameB (first (rtoldL t)).t t with
        | false => rfl
        | true =>
          have e1 := congrArg Tk.k (sameB_iff.1 e)
          have e2 : (first (rtoldL t)).t.k = t.k := e1
          rw [e2] at hk; exact absurd hk h
      rw [hs]; simp
    · rw [beq_eq_false_iff_ne.2 he]; rfl
theorem joinB_snoc : ∀ (l : List Tk) (t : Tk), l ≠ [] → joinB (l ++ [t]) = joinB l ++ 32 :: toldL t
  | [], _, h => absurd rfl h
  | [u], t, _ => rfl
  | u :: v :: l, t, _ => by
    rw [List.cons_append, List.cons_append, joinB, joinB, ← List.cons_append, joinB_snoc (v :: l) t (by simp)]
    simp
theorem dbl_snoc : ∀ (l : List UInt8) (c : UInt8), dbl (l ++ [c]) = dbl l ++ (if c = 39 then [39, 39] else [c])
  | [], c => by
    rw [List.nil_append]
    simp only [dbl, List.nil_append]
  | d :: l, c => by
    rw [List.cons_append, dbl, dbl, dbl_snoc l c]
    split <;> rfl
theorem take_snoc3 {s : ByteArray} {i : Nat} (h : i < s.size) : (lst s).take (i + 1) = (lst s).take i ++ [s[i]] := by
  rw [List.take_succ_eq_append_getElem (by rw [← size_lst]; exact h)]; rfl
theorem ns_snoc3 (xs : List UInt8) (c : UInt8) : ns (xs ++ [c]) = ns xs ++ [c.toNat] := by simp [ns]
set_option maxRecDepth 100000 in
set_option maxHeartbeats 4000000 in
theorem rtold_ (k : Int) (tx : ByteArray) (n p : Int) (w : World) (hn : inI n) (hs : tx.size ≤ 1000000000) :
    Calls Tryz.prog 24 #[.agg #[.int .i64 k, .string tx, .int .i64 n, .int .i64 p]] w fun e w' => e = .returned (.string (ofL (rtoldL ⟨k, tx, n, p⟩))) ∧ Below w.heap.size w w' := by
  obtain ⟨W1, hW1⟩ : ∃ W1, w.alloc (.cells #[.int .i64 k, .string tx, .int .i64 n, .int .i64 p] 49) = W1 := ⟨_, rfl⟩
  have hb1 : Below w.heap.size w W1 := by rw [← hW1]; exact below_alloc1 _ _
  have hIn : InT W1 w.heap.size 0 ⟨k, tx, n, p⟩ := by rw [← hW1]; exact inT_new w ⟨k, tx, n, p⟩ _
  have HI := Lib.hid (digits_ n W1 hn)
  have HW := Lib.hid (And.intro hW1 (And.intro hb1 hIn))
  clear hW1 hb1 hIn
  by_cases h2 : k = 2
  · subst h2
    have e : rtoldL ⟨2, tx, n, p⟩ = Lib.itoa n := rfl
    rw [e]
    clear e
    go_enter Tryz.func24, Tryz.ntmps24
    go_wp2_with fail
    rw [HW.out.1]
    refine HI.out.mono ?_
    rintro e w2 ⟨rfl, rfl⟩
    clear HI
    go_wp2_with fail
    go_ret
    exact ⟨rfl, HW.out.2.1⟩
  have b2 : (k == 2) = false := beq_eq_false_iff_ne.2 h2
  by_cases h3 : k = 3
  · subst h3
    have e : rtoldL ⟨3, tx, n, p⟩ = 39 :: (dbl (lst tx) ++ [39]) := rfl
    rw [e, ← quoted_ba]
    have hD : (ofL (dbl (lst tx))).size ≤ 2000000000 := by
      have := dbl_len (lst tx)
      rw [size_lst, lst_ofL]; rw [size_lst] at hs; omega
    obtain ⟨N, hN⟩ : ∃ N, tx.size = N := ⟨_, rfl⟩
    have HN := Lib.hid hN
    rw [hN] at hs
    clear HI e
    go_enter Tryz.func24, Tryz.ntmps24
    go_wp2_with fail
    rw [HW.out.1]
    go_loopw [3, 4] (fun bv iv wr => ∃ i : Nat, i ≤ N ∧ iv = .int .i64 i ∧ Hid (Own wr W1.heap.size bv (ns (dbl ((lst tx).take i)))) ∧ Hid (Below W1.heap.size W1 wr)) (fun _ iv _ => N - (intOf iv).toNat)
    case atStart => exact ⟨0, Nat.zero_le _, rfl, own_nil _ _, Below.refl _ _⟩
    case round =>
      obtain ⟨i, hi, rfl, HO, HB⟩ := hrel
      obtain ⟨p0, p1, p2, p3⟩ := HW.out.2.2.on HB.out
      simp only at p0 p1 p2 p3
      by_cases hlt : i < N
      · have hlt2 : (i : Int) < (N : Int) := by omega
        have hin : i < tx.size := by rw [HN.out]; exact hlt
        obtain ⟨c, hc⟩ : ∃ c, tx[i] = c := ⟨_, rfl⟩
        have htk := take_snoc3 hin
        rw [hc] at htk
        have hlen : (ns (dbl ((lst tx).take i))).length + 2 ≤ 140737488355328 := by
          have := dbl_len ((lst tx).take i)
          rw [List.length_take] at this
          rw [ns_length]; omega
        have HD2 : Hid (dbl ((lst tx).take (i + 1)) = dbl ((lst tx).take i) ++ (if c = 39 then [39, 39] else [c])) := by
          show _ = _
          rw [htk, dbl_snoc]
        generalize dbl ((lst tx).take i) = XS at *
        clear htk
        by_cases hq : c = 39
        · have hqI : ((c.toNat : Int) == 39) = true := by rw [hq]; rfl
          rw [if_pos hq] at HD2
          have HD3 : Hid (ns (dbl ((lst tx).take (i + 1))) = (ns XS ++ [c.toNat]) ++ [39]) := by
            show _ = _
            rw [HD2.out, hq]; simp [ns]
          clear hq HD2
          have hlen1 : (ns XS).length + 1 ≤ 140737488355328 := by omega
          have hlen2 : (ns XS ++ [c.toNat]).length + 1 ≤ 140737488355328 := by rw [List.length_append, List.length_singleton]; omega
          go_wp2_with (first
            | (at_builtin; refine wpList_append_one W1.heap.size _ W1 rfl _ _ rfl _ (ns XS) rfl (.inl (HO.out.on (below_alloc1 _ _))) _ c.toNat rfl (by simp [go_sem]) hlen1 (Nat.le_refl _) (below_step HB.out (below_alloc1 _ _)) ?_
               intro v' w3 hown hb3
               have HO3 := Lib.hid hown
               have HB3 := Lib.hid hb3
               obtain ⟨p0, p1, p2, p3⟩ := HW.out.2.2.on HB3.out
               simp only at p0 p1 p2 p3
               clear hown hb3 HO)
            | (at_builtin; refine wpList_append_one W1.heap.size _ W1 rfl _ _ rfl _ (ns XS ++ [c.toNat]) rfl (.inl (HO3.out.on (below_alloc1 _ _))) _ 39 rfl (by simp [go_sem]) hlen2 (Nat.le_refl _) (below_step HB3.out (below_alloc1 _ _)) ?_
               intro v' w4 hown hb4
               rw [← HD3.out] at hown
               have HO4 := Lib.hid hown
               have HB4 := Lib.hid hb4
               clear hown hb4 HO3)
            | fail)
          go_roundw
          case rel => exact ⟨i + 1, by omega, by go_num, HO4, HB4⟩
          case measure => simp [intOf]; omega
        · have hqI : ((c.toNat : Int) == 39) = false := by
            refine beq_eq_false_iff_ne.2 fun e => hq (UInt8.toNat_inj.1 (by show c.toNat = 39; omega))
          rw [if_neg hq] at HD2
          have HD3 : Hid (ns (dbl ((lst tx).take (i + 1))) = ns XS ++ [c.toNat]) := by
            show _ = _
            rw [HD2.out]; simp [ns]
          clear hq HD2
          have hlen1 : (ns XS).length + 1 ≤ 140737488355328 := by omega
          go_wp2_with (first
            | (at_builtin; refine wpList_append_one W1.heap.size _ W1 rfl _ _ rfl _ (ns XS) rfl (.inl (HO.out.on (below_alloc1 _ _))) _ c.toNat rfl (by simp [go_sem]) hlen1 (Nat.le_refl _) (below_step HB.out (below_alloc1 _ _)) ?_
               intro v' w3 hown hb3
               rw [← HD3.out] at hown
               have HO3 := Lib.hid hown
               have HB3 := Lib.hid hb3
               obtain ⟨p0, p1, p2, p3⟩ := HW.out.2.2.on HB3.out
               simp only at p0 p1 p2 p3
               clear hown hb3 HO)
            | fail)
          go_roundw
          case rel => exact ⟨i + 1, by omega, by go_num, HO3, HB3⟩
          case measure => simp [intOf]; omega
      · obtain rfl : i = N := by omega
        have hlt2 : ¬ ((i : Int) < (i : Int)) := by omega
        have htk : (lst tx).take i = lst tx := List.take_of_length_le (by rw [← size_lst, HN.out]; exact Nat.le_refl _)
        rw [htk] at HO
        obtain ⟨ba, cp, rfl, hby, hnil⟩ := HO.out.bytes
        have hcv := conv_ wr ba _ cp (ns (dbl (lst tx))) rfl hby
        rw [bs_ns, bs_ofL] at hcv
        clear HO hby htk
        obtain ⟨D, hDD⟩ : ∃ D, ofL (dbl (lst tx)) = D := ⟨_, rfl⟩
        have HDD := Lib.hid hDD
        rw [hDD] at hcv hD
        clear hDD
        go_wp2_with fail
        go_ret
        exact ⟨by rw [HDD.out]; rfl, below_step HW.out.2.1 HB.out⟩
  have b3 : (k == 3) = false := beq_eq_false_iff_ne.2 h3
  have e : ofL (rtoldL ⟨k, tx, n, p⟩) = tx := by
    have : rtoldL ⟨k, tx, n, p⟩ = lst tx := (if_neg h2).trans (if_neg h3)
    rw [this, ofL_lst]
  rw [e]
  clear HI e
  go_enter Tryz.func24, Tryz.ntmps24
  go_wp2_with fail
  go_ret
  exact ⟨rfl, below_alloc1 _ _⟩

/-! ### Same -/
set_option maxRecDepth 100000 in
set_option maxHeartbeats 4000000 in
theorem rsame_ (a b : Option Addr) (ca cb : Nat) (xs ys : List Tk) (w : World) (ha : TksIn w a xs) (hb : TksIn w b ys) (hl : xs.length ≤ 1000000000) (hm : ys.length ≤ 1000000000) {r : Bool} (hr : r = true ↔ at0s xs = at0s ys) :
    Calls Tryz.prog 15 #[.slice a xs.length ca, .slice b ys.length cb] w fun e w' => e = .returned (.bool r) ∧ Below w.heap.size w w' := by
  have HI := Lib.hid (And.intro ha hb)
  have HR := Lib.hid hr
  obtain ⟨L, hL⟩ : ∃ L, xs.length = L := ⟨_, rfl⟩
  obtain ⟨M, hM⟩ : ∃ M, ys.length = M := ⟨_, rfl⟩
  have HL := Lib.hid (And.intro hL hM)
  rw [hL] at hl ⊢
  rw [hM] at hm ⊢
  clear ha hb hr hL hM
  by_cases hlm : L = M
  · subst hlm
    have hne : ((L : Int) != L) = false := by simp
    go_enter Tryz.func15, Tryz.ntmps15
    go_wp2_with fail
    go_loopw [5] (fun iv wr => ∃ i : Nat, i ≤ L ∧ iv = .int .i64 i ∧ Hid (at0s (xs.take i) = at0s (ys.take i)) ∧ Hid (Below w.heap.size w wr)) (fun iv _ => L - (intOf iv).toNat)
    case atStart => exact ⟨0, Nat.zero_le _, rfl, rfl, Below.refl _ _⟩
    case round =>
      obtain ⟨i, hi, rfl, HE, HB⟩ := hrel
      by_cases hlt : i < L
      · have hlt2 : (i : Int) < (L : Int) := by omega
        have hi2 : i < xs.length := by rw [HL.out.1]; exact hlt
        have hi3 : i < ys.length := by rw [HL.out.2]; exact hlt
        obtain ⟨b1, o1, rfl, k, tx, n, p, hvi, p0, p1, p2, p3⟩ := TksIn.get (HI.out.1.on HB.out) i hi2
        obtain ⟨b2, o2, rfl, k', tx', n', p', hvi', q0, q1, q2, q3⟩ := TksIn.get (HI.out.2.on HB.out) i hi3
        simp only at p0 p1 p2 p3 q0 q1 q2 q3
        have hd0 : decide (0 ≤ (i : Int)) = true := by simp
        have hd1 : decide ((i : Int) < (L : Int)) = true := by simpa using hlt2
        have bad : Hid (sameB ⟨k, tx, n, p⟩ ⟨k', tx', n', p'⟩ = false → r = false) := fun hsb => by
          cases h : r with
          | false => rfl
          | true =>
            have h1 := HR.out.1 h
            have h2 : (at0s xs)[i]? = (at0s ys)[i]? := by rw [h1]
            rw [at0s, at0s, List.getElem?_map, List.getElem?_map, List.getElem?_eq_getElem hi2, List.getElem?_eq_getElem hi3, hvi, hvi'] at h2
            simp only [Option.map_some, Option.some.injEq] at h2
            rw [sameB_iff.2 h2] at hsb; cases hsb
        cases h1 : (k != k') with
        | true =>
          have hRf := bad.out (by have : (k == k') = false := by simpa using h1
                                  simp [sameB, this])
          clear bad hvi hvi' HE
          go_wp2_with fail
          go_quiet (fail)
          have HB2 := Lib.hid (below_drewN2 HB.out nq)
          go_wp2_with fail
          go_ret
          first | exact ⟨rfl, HB2.out⟩ | exact ⟨by rw [hRf]; rfl, HB2.out⟩
        | false =>
          cases h2 : (tx.toList != tx'.toList) with
          | true =>
            have e2 : (tx.toList == tx'.toList) = false := by simpa using h2
            have hRf := bad.out (by simp only [sameB, e2]; simp)
            clear bad hvi hvi' HE
            go_wp2_with fail
            go_quiet (fail)
            have HB2 := Lib.hid (below_drewN2 HB.out nq)
            go_wp2_with fail
            go_ret
            first | exact ⟨rfl, HB2.out⟩ | exact ⟨by rw [hRf]; rfl, HB2.out⟩
          | false =>
            have e2 : (tx.toList == tx'.toList) = true := by simpa using h2
            cases h3 : (n != n') with
            | true =>
              have hRf := bad.out (by have : (n == n') = false := by simpa using h3
                                      simp only [sameB, this]; simp)
              clear bad hvi hvi' HE
              go_wp2_with fail
              go_quiet (fail)
              have HB2 := Lib.hid (below_drewN2 HB.out nq)
              go_wp2_with fail
              go_ret
              first | exact ⟨rfl, HB2.out⟩ | exact ⟨by rw [hRf]; rfl, HB2.out⟩
            | false =>
              have hsb : sameB ⟨k, tx, n, p⟩ ⟨k', tx', n', p'⟩ = true := by
                have e1 : (k == k') = true := by simpa using h1
                have e3 : (n == n') = true := by simpa using h3
                simp only [sameB, e1, e2, e3]; rfl
              have HE2 : Hid (at0s (xs.take (i + 1)) = at0s (ys.take (i + 1))) := by
                show _ = _
                rw [at0s_take i hi2, at0s_take i hi3, HE.out, hvi, hvi', sameB_iff.1 hsb]
              clear bad hvi hvi' HE hsb
              go_wp2_with fail
              go_quiet (fail)
              have HB2 := Lib.hid (below_drewN2 HB.out nq)
              go_wp2_with fail
              go_roundw
              case rel => exact ⟨i + 1, by omega, by go_num, HE2, HB2⟩
              case measure => simp [intOf]; omega
      · obtain rfl : i = L := by omega
        have hlt2 : ¬ ((i : Int) < (i : Int)) := by omega
        have hRt : r = true := HR.out.2 (by
          have h1 : xs.take i = xs := List.take_of_length_le (by rw [HL.out.1]; exact Nat.le_refl _)
          have h2 : ys.take i = ys := List.take_of_length_le (by rw [HL.out.2]; exact Nat.le_refl _)
          rw [← h1, HE.out, h2])
        clear HE
        go_wp2_with fail
        go_ret
        first | exact ⟨rfl, HB.out⟩ | exact ⟨by rw [hRt]; rfl, HB.out⟩
  · have hne : ((L : Int) != M) = true := by simp; omega
    have hRf : r = false := by
      cases h : r with
      | false => rfl
      | true =>
        have h1 := congrArg List.length (HR.out.1 h)
        rw [at0s, at0s, List.length_map, List.length_map, HL.out.1, HL.out.2] at h1
        exact absurd h1 hlm
    go_enter Tryz.func15, Tryz.ntmps15
    go_wp2_with fail
    go_ret
    first | exact ⟨rfl, Below.refl _ _⟩ | exact ⟨by rw [hRf]; rfl, Below.refl _ _⟩
end Go.Proofs.YtfmpnakonffkcaaGreatDoor
