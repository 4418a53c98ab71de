/- The walk of LexCases. -/
import Derived.Test.YtfmpnakonffkcaaGreatDoorLxPrint2
import Derived.Test.YtfmpnakonffkcaaGreatDoorLxCap
import Derived.Test.YtfmpnakonffkcaaGreatDoorLxAs
namespace Go.Proofs.YtfmpnakonffkcaaGreatDoor
open Go.RowKit Go.Sort

theorem ns_snoc2 (xs : List UInt8) (c : UInt8) : ns (xs ++ [c]) = ns xs ++ [c.toNat] := by simp [ns]
theorem lexG_len2 (l : List UInt8) : (lexG l).ts.length ≤ 65536 := by
  unfold lexG
  split
  · exact Nat.zero_le _
  · have := toks_len l 0; omega
theorem lexG_cap (l : List UInt8) : lexG (cap false l) = lexG l := by
  unfold lexG
  rw [cap_len, lex_cap]
/-- Within quotes or not, behind some bytes. -/
def inQ (b : Bool) : List UInt8 → Bool
  | [] => b
  | c :: l => inQ (if c = 39 then !b else b) l
theorem cap_append : ∀ (b : Bool) (l m : List UInt8), cap b (l ++ m) = cap b l ++ cap (inQ b l) m
  | _, [], _ => rfl
  | b, c :: l, m => by
    rw [List.cons_append, cap, cap, inQ, cap_append]; rfl
theorem inQ_append : ∀ (b : Bool) (l m : List UInt8), inQ b (l ++ m) = inQ (inQ b l) m
  | _, [], _ => rfl
  | b, c :: l, m => by rw [List.cons_append, inQ, inQ, inQ_append]
theorem up_toNat {c : UInt8} (h1 : 97 ≤ c.toNat) (h2 : c.toNat ≤ 122) : ((up c).toNat : Int) = (c.toNat : Int) - 32 := by
  rw [up, if_pos ⟨h1, h2⟩, UInt8.toNat_sub_of_le _ _ (by rw [UInt8.le_iff_toNat_le]; show 32 ≤ c.toNat; omega)]
  have : UInt8.toNat 32 = 32 := rfl
  omega
theorem take_snoc {s : ByteArray} {i : Nat} (h : i < s.size) : (lst s).take (i + 1) = (lst s).take i ++ [s[i]] := by
  rw [List.take_succ_eq_append_getElem (by rw [← size_lst]; exact h)]; rfl
set_option maxRecDepth 100000 in
set_option maxHeartbeats 4000000 in
theorem cases_ (s : ByteArray) (w : World) (hs : s.size ≤ 140737488351232) (hE : Env w) (hT : ErrType w) : Calls Tryz.prog 5 #[.string s] w fun e w' => e = .returned (.bool true) ∧ Below w.heap.size w w' := by
  have HEv := Lib.hid (And.intro hE hT)
  have HLx := Lib.hid (lex_ s w hE)
  have HLy : Hid (∀ W, Below w.heap.size w W → Calls Tryz.prog 6 #[.string (ofL (cap false (lst s)))] W (LexTo W (lexG (lst s)))) := fun W hW => by
    have := lex_ (ofL (cap false (lst s))) W (hE.on hW)
    rw [lst_ofL, lexG_cap] at this; exact this
  have hlen := lexG_len2 (lst s)
  generalize lexG (lst s) = R at *
  obtain ⟨L, hL⟩ : ∃ L, R.ts.length = L := ⟨_, rfl⟩
  obtain ⟨P, hP⟩ : ∃ P, R.p = P := ⟨_, rfl⟩
  obtain ⟨E, hEe⟩ : ∃ E, R.e = E := ⟨_, rfl⟩
  unfold LexTo at HLx
  unfold LexTo at HLy
  rw [hL, hP, hEe] at HLx
  rw [hL, hP, hEe] at HLy
  have HSa : Hid (∀ (a b : Option Addr) (ca cb : Nat) (W : World), TksIn W a R.ts → TksIn W b R.ts → Calls Tryz.prog 14 #[.slice a L ca, .slice b L cb] W fun e w' => e = .returned (.bool true) ∧ Below W.heap.size W w') := fun a b ca cb W h1 h2 => by
    rw [← hL]; exact lxSame_ a b ca cb R.ts R.ts W h1 h2 (by omega) (by omega) (by simp)
  obtain ⟨n, hn⟩ : ∃ n, s.size = n := ⟨_, rfl⟩
  have HN := Lib.hid hn
  have hln : (lst s).length = n := by rw [← size_lst, hn]
  have HLn := Lib.hid hln
  rw [hn] at hs
  clear hE hT hL hP hEe hlen hln
  go_enter Tryz.func5, Tryz.ntmps5
  go_wp2_with fail
  refine HLx.out.mono ?_
  rintro e w1 ⟨a, ca, rfl, h1, _, hb1⟩
  have HB1 := Lib.hid hb1
  have H1 := Lib.hid h1
  clear h1 hb1 HLx
  go_wp2_with fail
  go_loopw [6, 7, 8] (fun bv qv iv wr => ∃ i : Nat, i ≤ n ∧ iv = .int .i64 i ∧ qv = .bool (inQ false ((lst s).take i)) ∧ Hid (Own wr w1.heap.size bv (ns (cap false ((lst s).take i)))) ∧ Hid (Below w1.heap.size w1 wr)) (fun _ _ iv _ => n - (intOf iv).toNat)
  case atStart => exact ⟨0, Nat.zero_le _, rfl, rfl, own_nil _ _, Below.refl _ _⟩
  case round =>
    obtain ⟨i, hi, rfl, rfl, HO, HB⟩ := hrel
    by_cases hlt : i < n
    · have hlt2 : (i : Int) < (n : Int) := by omega
      have hin : i < s.size := by rw [HN.out]; exact hlt
      obtain ⟨c, hc⟩ : ∃ c, s[i] = c := ⟨_, rfl⟩
      have htk := take_snoc hin
      rw [hc] at htk
      have hlen : (ns (cap false ((lst s).take i))).length + 1 ≤ 140737488355328 := by rw [ns_length, cap_len, List.length_take]; omega
      obtain ⟨q, hq⟩ : ∃ q, inQ false ((lst s).take i) = q := ⟨_, rfl⟩
      have HQ2 : Hid (inQ false ((lst s).take (i + 1)) = if c = 39 then !q else q) := by
        show _ = _
        rw [htk, inQ_append, hq]; rfl
      have HC2 : Hid (cap false ((lst s).take (i + 1)) = cap false ((lst s).take i) ++ [if (if c = 39 then !q else q) = true then c else up c]) := by
        show _ = _
        rw [htk, cap_append, hq]; rfl
      rw [hq]
      generalize cap false ((lst s).take i) = XS at *
      clear htk hq HSa
      by_cases hq39 : c = 39
      · have h39 : ((c.toNat : Int) == 39) = true := by rw [hq39]; rfl
        have h97 : ¬ ((97 : Int) ≤ (c.toNat : Int)) := by rw [hq39]; decide
        rw [if_pos hq39] at HQ2
        have hup : (if (if c = 39 then !q else q) = true then c else up c) = c := by
          have : up c = c := by rw [hq39]; rfl
          rw [this]; simp
        rw [hup] at HC2
        clear hup hq39
        cases q with
        | true =>
          go_wp2_with (first
            | (at_builtin; refine wpList_append_one w1.heap.size _ w1 rfl _ _ rfl _ (ns XS) rfl (.inl (HO.out.on (below_alloc1 _ _))) _ c.toNat rfl (by simp [go_sem]) hlen (Nat.le_refl _) (below_step HB.out (below_alloc1 _ _)) ?_
               intro v' w3 hown hb3
               rw [← ns_snoc2, ← HC2.out] at hown
               have HO3 := Lib.hid hown
               have HB3 := Lib.hid hb3
               clear hown hb3 HO)
            | fail)
          go_roundw
          case rel => exact ⟨i + 1, by omega, by go_num, by first | exact congrArg Value.bool HQ2.out.symm | (rw [HQ2.out]; rfl), HO3, HB3⟩
          case measure => simp [intOf]; omega
        | false =>
          go_wp2_with (first
            | (at_builtin; refine wpList_append_one w1.heap.size _ w1 rfl _ _ rfl _ (ns XS) rfl (.inl (HO.out.on (below_alloc1 _ _))) _ c.toNat rfl (by simp [go_sem]) hlen (Nat.le_refl _) (below_step HB.out (below_alloc1 _ _)) ?_
               intro v' w3 hown hb3
               rw [← ns_snoc2, ← HC2.out] at hown
               have HO3 := Lib.hid hown
               have HB3 := Lib.hid hb3
               clear hown hb3 HO)
            | fail)
          go_roundw
          case rel => exact ⟨i + 1, by omega, by go_num, by first | exact congrArg Value.bool HQ2.out.symm | (rw [HQ2.out]; rfl), HO3, HB3⟩
          case measure => simp [intOf]; omega
      · have h39 : ((c.toNat : Int) == 39) = false := by
          refine beq_eq_false_iff_ne.2 fun e => hq39 (UInt8.toNat_inj.1 (by show c.toNat = 39; omega))
        rw [if_neg hq39] at HQ2
        rw [if_neg hq39] at HC2
        clear hq39
        cases q with
        | true =>
          rw [if_pos rfl] at HC2
          go_wp2_with (first
            | (at_builtin; refine wpList_append_one w1.heap.size _ w1 rfl _ _ rfl _ (ns XS) rfl (.inl (HO.out.on (below_alloc1 _ _))) _ c.toNat rfl (by simp [go_sem]) hlen (Nat.le_refl _) (below_step HB.out (below_alloc1 _ _)) ?_
               intro v' w3 hown hb3
               rw [← ns_snoc2, ← HC2.out] at hown
               have HO3 := Lib.hid hown
               have HB3 := Lib.hid hb3
               clear hown hb3 HO)
            | fail)
          go_roundw
          case rel => exact ⟨i + 1, by omega, by go_num, by first | exact congrArg Value.bool HQ2.out.symm | (rw [HQ2.out]; rfl), HO3, HB3⟩
          case measure => simp [intOf]; omega
        | false =>
          rw [if_neg (by decide)] at HC2
          by_cases hu : 97 ≤ c.toNat
          · have h97 : (97 : Int) ≤ (c.toNat : Int) := by omega
            by_cases hz : c.toNat ≤ 122
            · have h122 : (c.toNat : Int) ≤ 122 := by omega
              have HUp : Hid (((up c).toNat : Int) = (c.toNat : Int) - 32) := up_toNat hu hz
              generalize up c = d at *
              clear hu hz
              go_wp2_with (first
                | (at_builtin; refine wpList_append_one w1.heap.size _ w1 rfl _ _ rfl _ (ns XS) rfl (.inl (HO.out.on (below_alloc1 _ _))) _ d.toNat rfl (by simp [go_sem, HUp.out]) hlen (Nat.le_refl _) (below_step HB.out (below_alloc1 _ _)) ?_
                   intro v' w3 hown hb3
                   rw [← ns_snoc2, ← HC2.out] at hown
                   have HO3 := Lib.hid hown
                   have HB3 := Lib.hid hb3
                   clear hown hb3 HO)
                | fail)
              go_roundw
              case rel => exact ⟨i + 1, by omega, by go_num, by first | exact congrArg Value.bool HQ2.out.symm | (rw [HQ2.out]; rfl), HO3, HB3⟩
              case measure => simp [intOf]; omega
            · have h122 : ¬ ((c.toNat : Int) ≤ 122) := by omega
              rw [up, if_neg (fun h => hz h.2)] at HC2
              clear hu hz
              go_wp2_with (first
                | (at_builtin; refine wpList_append_one w1.heap.size _ w1 rfl _ _ rfl _ (ns XS) rfl (.inl (HO.out.on (below_alloc1 _ _))) _ c.toNat rfl (by simp [go_sem]) hlen (Nat.le_refl _) (below_step HB.out (below_alloc1 _ _)) ?_
                   intro v' w3 hown hb3
                   rw [← ns_snoc2, ← HC2.out] at hown
                   have HO3 := Lib.hid hown
                   have HB3 := Lib.hid hb3
                   clear hown hb3 HO)
                | fail)
              go_roundw
              case rel => exact ⟨i + 1, by omega, by go_num, by first | exact congrArg Value.bool HQ2.out.symm | (rw [HQ2.out]; rfl), HO3, HB3⟩
              case measure => simp [intOf]; omega
          · have h97 : ¬ ((97 : Int) ≤ (c.toNat : Int)) := by omega
            rw [up, if_neg (fun h => hu h.1)] at HC2
            clear hu
            go_wp2_with (first
              | (at_builtin; refine wpList_append_one w1.heap.size _ w1 rfl _ _ rfl _ (ns XS) rfl (.inl (HO.out.on (below_alloc1 _ _))) _ c.toNat rfl (by simp [go_sem]) hlen (Nat.le_refl _) (below_step HB.out (below_alloc1 _ _)) ?_
                 intro v' w3 hown hb3
                 rw [← ns_snoc2, ← HC2.out] at hown
                 have HO3 := Lib.hid hown
                 have HB3 := Lib.hid hb3
                 clear hown hb3 HO)
              | fail)
            go_roundw
            case rel => exact ⟨i + 1, by omega, by go_num, by first | exact congrArg Value.bool HQ2.out.symm | (rw [HQ2.out]; rfl), HO3, HB3⟩
            case measure => simp [intOf]; omega
    · obtain rfl : i = n := by omega
      have hlt2 : ¬ ((i : Int) < (i : Int)) := by omega
      have htk : (lst s).take i = lst s := List.take_of_length_le (by rw [HLn.out]; exact Nat.le_refl _)
      rw [htk] at HO
      obtain ⟨ba, cp, rfl, hby, hnil⟩ := HO.out.bytes
      have hcv := conv_ wr ba _ cp (ns (cap false (lst s))) rfl hby
      rw [bs_ns] at hcv
      clear HO hby htk
      go_wp2_with fail
      refine (HLy.out _ (below_step HB1.out HB.out)).mono ?_
      rintro e w2 ⟨b, cb, rfl, h2, _, hb2⟩
      have HB2 := Lib.hid (below_step HB1.out (below_step HB.out hb2))
      have H12 := Lib.hid (And.intro ((H1.out.on HB.out).on hb2) h2)
      clear h2 hb2 HLy H1 hcv
      go_wp2_with fail
      refine (num_ E _ (HEv.out.2.on HB2.out)).mono ?_
      rintro e w3 ⟨rfl, hb3⟩
      have HB3 := Lib.hid (below_step HB2.out hb3)
      have H13 := Lib.hid (And.intro (H12.out.1.on hb3) (H12.out.2.on hb3))
      clear hb3 H12 HB2
      go_wp2_with fail
      refine (num_ E _ (HEv.out.2.on HB3.out)).mono ?_
      rintro e w4 ⟨rfl, hb4⟩
      have HB4 := Lib.hid (below_step HB3.out hb4)
      have H14 := Lib.hid (And.intro (H13.out.1.on hb4) (H13.out.2.on hb4))
      clear hb4 H13 HB3
      go_wp2_with fail
      refine (HSa.out _ _ _ _ _ H14.out.1 H14.out.2).mono ?_
      rintro e w5 ⟨rfl, hb5⟩
      have HB5 := Lib.hid (below_step HB4.out hb5)
      clear hb5 H14 HB4 HSa
      go_wp2_with fail
      refine (sure_ _ (HEv.out.1.on HB5.out)).mono ?_
      rintro e w6 ⟨rfl, hb6⟩
      have HB6 := Lib.hid (below_step HB5.out hb6)
      clear hb6 HB5
      go_wp2_with fail
      go_ret
      exact ⟨rfl, HB6.out⟩
end Go.Proofs.YtfmpnakonffkcaaGreatDoor
