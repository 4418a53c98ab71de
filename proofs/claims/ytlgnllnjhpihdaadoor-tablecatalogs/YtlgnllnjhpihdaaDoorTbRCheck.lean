/- The walk of the document's Check. -/
import Derived.Test.YtlgnllnjhpihdaaDoorTbCheck
namespace Go.Proofs.YtlgnllnjhpihdaaDoor
open Go.RowKit Go.Sort

theorem below_drewN' {W w : World} (h : Below W.heap.size W w) (n : Nat) : Below W.heap.size W (w.drewN n) := below_step h ⟨rfl, rfl, rfl, Nat.le_refl _, fun _ _ => rfl⟩
theorem any_no {cs : List Col} {i : Nat} {nm : ByteArray} (h : ∀ j (hj : j < cs.length), j < i → lst cs[j].nm ≠ lst nm) : (cs.take i).any (isN nm) = false := by
  rw [List.any_eq_false]
  intro x hx
  obtain ⟨j, hj, rfl⟩ := List.getElem_of_mem hx
  rw [List.length_take] at hj
  rw [List.getElem_take]
  simpa [isN] using h j (by omega) (by omega)
theorem any_yes {cs : List Col} {i j : Nat} {nm : ByteArray} (hj : j < cs.length) (hji : j < i) (h : lst cs[j].nm = lst nm) : (cs.take i).any (isN nm) = true :=
  List.any_eq_true.2 ⟨cs[j], List.mem_take_iff_getElem.2 ⟨j, by omega, rfl⟩, by simp [isN, h]⟩
theorem any_key {cs : List Col} {i : Nat} (hi : i < cs.length) : (cs.take (i + 1)).any (·.key) = ((cs.take i).any (·.key) || cs[i].key) := by
  rw [List.take_add_one, List.getElem?_eq_getElem hi, List.any_append]
  simp only [Option.toList, List.any_cons, List.any_nil, Bool.or_false]
theorem hold_range {k : Int} : holdB k = true ↔ 1 ≤ k ∧ k ≤ 3 := by
  simp only [holdB, decide_eq_true_eq]; omega
set_option maxRecDepth 100000 in
set_option maxHeartbeats 2000000 in
theorem rtcheck_ (nm : ByteArray) (at_ : Option Addr) (ct : Nat) (cs : List Col) (w : World) (hc : ColsIn w at_ cs) (hsn : nm.size ≤ 140737488355328) (hsc : ∀ c ∈ cs, c.nm.size ≤ 140737488355328) :
    Calls Tryd.prog 18 #[.agg #[.string nm, .slice at_ cs.length ct]] w fun e w' => e = .returned (.int .i64 (chkT ⟨nm, cs⟩)) ∧ Below w.heap.size w w' := by
  obtain ⟨C, hC⟩ : ∃ C, cs.length = C := ⟨_, rfl⟩
  have HC := Lib.hid hC
  have HJ := Lib.hid hc
  have HN : Hid (∀ W, Calls Tryd.prog 13 #[.string nm] W fun e w' => e = .returned (.bool (nameL (lst nm))) ∧ Below W.heap.size W w') := fun W => rname_ nm W hsn
  have HM : Hid (∀ W i (hi : i < cs.length) nm' k y nl, cs[i] = ⟨nm', k, y, nl⟩ → Calls Tryd.prog 13 #[.string nm'] W fun e w' => e = .returned (.bool (nameL (lst nm'))) ∧ Below W.heap.size W w') := fun W i hi nm' k y nl he => rname_ nm' W (by
    have := hsc cs[i] (List.getElem_mem hi)
    rwa [he] at this)
  obtain ⟨R, hR⟩ : ∃ R, R = chkT ⟨nm, cs⟩ := ⟨_, rfl⟩
  have HR : Hid (R = chkT ⟨nm, cs⟩) := hR
  rw [← hR]
  rw [hC]
  clear hc hC hR hsn hsc
  have HT := Lib.hid (inT_new w nm at_ C ct 24)
  obtain ⟨t0, t1⟩ := HT.out
  have HB0 : Hid (Below w.heap.size w (w.alloc (.cells #[.string nm, .slice at_ C ct] 24))) := below_alloc1 _ _
  generalize hV : w.alloc (.cells #[.string nm, .slice at_ C ct] 24) = V at *
  have HVe := Lib.hid hV
  clear hV
  cases hn : nameL (lst nm) with
  | false =>
    rw [hn] at HN
    have HF : Hid (R = 30) := by show _ = _; rw [HR.out, chkT_name (t := ⟨nm, cs⟩) hn]
    clear HR hn
    go_enter Tryd.func18, Tryd.ntmps18
    go_wp2_with fail
    rw [HVe.out]
    refine (HN.out _).mono ?_
    rintro e w1 ⟨rfl, hb1⟩
    go_wp2_with fail
    go_ret
    exact ⟨by rw [HF.out]; rfl, below_step HB0.out hb1⟩
  | true =>
    rw [hn] at HN
    by_cases h0 : C = 0
    · have HF : Hid (R = 1) := by show _ = _; rw [HR.out, chkT_none (t := ⟨nm, cs⟩) hn (by show cs.length = 0; rw [HC.out]; exact h0)]
      subst h0
      clear HR hn
      go_enter Tryd.func18, Tryd.ntmps18
      go_wp2_with fail
      rw [HVe.out]
      refine (HN.out _).mono ?_
      rintro e w1 ⟨rfl, hb1⟩
      obtain ⟨s0, s1⟩ := HT.out.on hb1
      go_wp2_with fail
      go_ret
      exact ⟨by rw [HF.out]; rfl, below_step HB0.out hb1⟩
    have g0 : ((C : Int) == 0) = false := by simpa using h0
    by_cases h16 : C ≤ 16
    · have g16 : ¬ ((16 : Int) < (C : Int)) := by omega
      have HFc : Hid (∀ i (hi : i < cs.length), (∀ j (h : j < cs.length), j < i → colE cs[j] (cs.take j) = 0) → ∀ E, colE cs[i] (cs.take i) = E → E ≠ 0 → R = E) := fun i hi hv E hE hne => by
        rw [HR.out, chkT_col (t := ⟨nm, cs⟩) hn (by show cs.length ≠ 0; rw [HC.out]; exact h0) (by show cs.length ≤ 16; rw [HC.out]; exact h16) hi hv hE hne]
      have HFe : Hid ((∀ j (h : j < cs.length), colE cs[j] (cs.take j) = 0) → R = if cs.any (·.key) = true then 0 else 8) := fun hv => by
        rw [HR.out, chkT_end (t := ⟨nm, cs⟩) hn (by show cs.length ≠ 0; rw [HC.out]; exact h0) (by show cs.length ≤ 16; rw [HC.out]; exact h16) hv]
      clear HR hn h0
      go_enter Tryd.func18, Tryd.ntmps18
      go_wp2_with fail
      rw [HVe.out]
      refine (HN.out _).mono ?_
      rintro e w1 ⟨rfl, hb1⟩
      have HB1 := Lib.hid (below_step HB0.out hb1)
      have HT1 := Lib.hid (HT.out.on hb1)
      obtain ⟨s0, s1⟩ := HT1.out
      clear hb1 HB0 HT t0 t1 HVe
      go_wp2_with fail
      clear s0 s1 g16 g0 HN
      go_loopw [3, 4] (fun kv iv wr => ∃ (i : Nat) (kb : Bool), i ≤ C ∧ iv = .int .i64 i ∧ kv = .bool kb ∧ Hid (kb = (cs.take i).any (·.key)) ∧ Hid (∀ j (h : j < cs.length), j < i → colE cs[j] (cs.take j) = 0) ∧ Hid (Below w1.heap.size w1 wr)) (fun _ iv _ => C - (intOf iv).toNat)
      case atStart => exact ⟨0, false, Nat.zero_le _, rfl, rfl, rfl, fun j _ hj => by omega, Below.refl _ _⟩
      case round =>
        obtain ⟨i, kb, hi, rfl, rfl, HKb, HV, HBw⟩ := hrel
        obtain ⟨wo, hwo⟩ : ∃ wo, wo = wr := ⟨_, rfl⟩
        rw [← hwo] at HBw ⊢
        clear hwo
        by_cases hlt : i < C
        · have hlt2 : (i : Int) < (C : Int) := by omega
          have hi1 : i < cs.length := by rw [HC.out]; exact hlt
          have HB2 := Lib.hid (below_step HB1.out HBw.out)
          obtain ⟨b1, o1, rfl, cn, kc, ky, nl, hci, q0, q1, q2, q3⟩ := ColsIn.get (HJ.out.on HB2.out) i hi1
          have HBa := Lib.hid (below_step HBw.out (below_alloc1 wo (.cells #[.string cn, .int .i64 kc, .bool ky, .bool nl] 55)))
          have HCo := Lib.hid (inC_new wo ⟨cn, kc, ky, nl⟩ 55)
          obtain ⟨r0, r1, r2, r3⟩ := HCo.out
          simp only at r0 r1 r2 r3
          obtain ⟨s0, s1⟩ := HT1.out.on HBw.out
          have HNm := Lib.hid (HM.out (wo.alloc (.cells #[.string cn, .int .i64 kc, .bool ky, .bool nl] 55)) i hi1 cn kc ky nl hci)
          have HE1 : Hid (nameL (lst cn) = false → R = 30) := fun h => HFc.out i hi1 HV.out 30 (by rw [hci]; exact colE_name h) (by decide)
          have HE2 : Hid (nameL (lst cn) = true → ∀ j (hj : j < cs.length), j < i → lst cs[j].nm = lst cn → R = 9) := fun h j hj hji he => HFc.out i hi1 HV.out 9 (by rw [hci]; exact colE_twice h (any_yes hj hji he)) (by decide)
          have HE3 : Hid (nameL (lst cn) = true → (∀ j (hj : j < cs.length), j < i → lst cs[j].nm ≠ lst cn) → holdB kc = false → R = 7) := fun h h1 h2 => HFc.out i hi1 HV.out 7 (by rw [hci]; exact colE_kind h (any_no h1) h2) (by decide)
          have HE4 : Hid (nameL (lst cn) = true → (∀ j (hj : j < cs.length), j < i → lst cs[j].nm ≠ lst cn) → holdB kc = true → (ky && nl) = true → R = 33) := fun h h1 h2 h3 => HFc.out i hi1 HV.out 33 (by rw [hci, colE_end h (any_no h1) h2, if_pos h3]) (by decide)
          have HE5 : Hid (nameL (lst cn) = true → (∀ j (hj : j < cs.length), j < i → lst cs[j].nm ≠ lst cn) → holdB kc = true → (ky && nl) = false → ∀ j (h : j < cs.length), j < i + 1 → colE cs[j] (cs.take j) = 0) := fun h h1 h2 h3 j hj hji => by
            rcases Nat.lt_or_ge j i with hh | hh
            · exact HV.out j hj hh
            · obtain rfl : j = i := by omega
              rw [hci, colE_end h (any_no h1) h2, if_neg (by rw [show (Col.mk cn kc ky nl).key = ky from rfl, show (Col.mk cn kc ky nl).nul = nl from rfl, h3]; decide)]
          have HK2 : Hid ((kb || ky) = (cs.take (i + 1)).any (·.key)) := by
            show _ = _
            rw [any_key hi1, hci, ← HKb.out]
          clear hci HV HKb
          cases hcn : nameL (lst cn) with
          | false =>
            rw [hcn] at HNm
            have HF := Lib.hid (HE1.out hcn)
            clear HE1 HE2 HE3 HE4 HE5 hcn
            go_wp2_with fail
            refine HNm.out.mono ?_
            rintro e w2 ⟨rfl, hb2⟩
            go_wp2_with fail
            go_ret
            exact ⟨by rw [HF.out]; rfl, below_step HB1.out (below_step HBa.out hb2)⟩
          | true =>
            rw [hcn] at HNm
            have HE2 := Lib.hid (HE2.out hcn)
            have HE3 := Lib.hid (HE3.out hcn)
            have HE4 := Lib.hid (HE4.out hcn)
            have HE5 := Lib.hid (HE5.out hcn)
            clear hcn HE1
            go_wp2_with fail
            refine HNm.out.mono ?_
            rintro e w2 ⟨rfl, hb2⟩
            have HB3 := Lib.hid (below_step HBa.out hb2)
            have HC2 := Lib.hid (HCo.out.on hb2)
            have HT2 := Lib.hid (HT1.out.on HB3.out)
            clear hb2 q0 q1 q2 q3 r0 r1 r2 r3 s0 s1 HNm HCo
            go_wp2_with fail
            go_loopw [6] (fun jv wr => ∃ j : Nat, j ≤ i ∧ jv = .int .i64 j ∧ Hid (∀ j' (hj : j' < cs.length), j' < j → lst cs[j'].nm ≠ lst cn) ∧ Hid (Below w2.heap.size w2 wr)) (fun jv _ => i - (intOf jv).toNat)
            case atStart => exact ⟨0, Nat.zero_le _, rfl, fun j _ hj => by omega, Below.refl _ _⟩
            case round =>
              obtain ⟨j, hj, rfl, HVj, HBj⟩ := hrel
              obtain ⟨r0, r1, r2, r3⟩ := HC2.out.on HBj.out
              obtain ⟨s0, s1⟩ := HT2.out.on HBj.out
              simp only at r0 r1 r2 r3
              have HB4 := Lib.hid (below_step HB3.out HBj.out)
              by_cases hjl : j < i
              · have hjl2 : (j : Int) < (i : Int) := by omega
                have hj1 : j < cs.length := by omega
                have hjC : (j : Int) < (C : Int) := by omega
                have hd0 : decide (0 ≤ (j : Int)) = true := by simp
                have hd1 : decide ((j : Int) < (C : Int)) = true := by simpa using hjC
                obtain ⟨b3, o3, e3, dn, dk, dy, dl, hdi, p0, p1, p2, p3⟩ := ColsIn.get (HJ.out.on (below_step HB1.out HB4.out)) j hj1
                simp only [Option.some.injEq, Addr.mk.injEq, and_true] at e3
                obtain ⟨rfl, rfl⟩ := e3
                simp only at p0
                have HDi := Lib.hid hdi
                clear hdi p1 p2 p3 r1 r2 r3 s0
                by_cases he : lst dn = lst cn
                · have he2 : (dn.toList == cn.toList) = true := by rw [beq_lst, he]; simp
                  have HF := Lib.hid (HE2.out j hj1 hjl (by rw [HDi.out]; exact he))
                  clear he HVj
                  go_wp2_with fail
                  go_big_quiet (fail)
                  go_wp2_with fail
                  go_ret
                  exact ⟨by rw [HF.out]; rfl, below_step HB1.out (below_drewN' HB4.out _)⟩
                · have he2 : (dn.toList == cn.toList) = false := beq_ne he
                  have HV2 : Hid (∀ j' (hj : j' < cs.length), j' < j + 1 → lst cs[j'].nm ≠ lst cn) := fun j' hj' hji => by
                    rcases Nat.lt_or_ge j' j with hh | hh
                    · exact HVj.out j' hj' hh
                    · obtain rfl : j' = j := by omega
                      rw [HDi.out]; exact he
                  clear he HVj
                  go_wp2_with fail
                  go_big_quiet (fail)
                  have HB5 := Lib.hid (below_drewN' HBj.out nq)
                  go_wp2_with fail
                  go_roundw
                  case rel => exact ⟨j + 1, by omega, by go_num, HV2, HB5⟩
                  case measure => simp [intOf]; omega
              · obtain rfl : j = i := by omega
                have hii : ¬ ((j : Int) < (j : Int)) := by omega
                have HE3 := Lib.hid (HE3.out HVj.out)
                have HE4 := Lib.hid (HE4.out HVj.out)
                have HE5 := Lib.hid (HE5.out HVj.out)
                clear HVj HE2
                by_cases hk : 1 ≤ kc ∧ kc ≤ 3
                · obtain ⟨k1, k3⟩ := hk
                  have hk1 : ¬ (kc < 1) := by omega
                  have hk3 : ¬ (3 < kc) := by omega
                  have hh : holdB kc = true := hold_range.2 ⟨k1, k3⟩
                  have HE4 := Lib.hid (HE4.out hh)
                  have HE5 := Lib.hid (HE5.out hh)
                  clear hh HE3 k1 k3
                  cases ky <;> cases nl <;> cases kb
                  all_goals first
                    | (have HF := Lib.hid (HE4.out rfl)
                       clear HE4 HE5
                       go_wp2_with fail
                       go_ret
                       exact ⟨by rw [HF.out]; rfl, below_step HB1.out HB4.out⟩)
                    | (have HV2 := Lib.hid (HE5.out rfl)
                       clear HE4 HE5
                       go_wp2_with fail
                       go_roundw
                       case rel => exact ⟨j + 1, _, by omega, by go_num, rfl, HK2, HV2, HB4⟩
                       case measure => simp [intOf]; omega)
                · have hh : holdB kc = false := by
                    cases e : holdB kc with
                    | false => rfl
                    | true => exact absurd (hold_range.1 e) hk
                  have HF := Lib.hid (HE3.out hh)
                  clear hh HE3 HE4 HE5
                  by_cases k1 : kc < 1
                  · clear hk
                    go_wp2_with fail
                    go_ret
                    exact ⟨by rw [HF.out]; rfl, below_step HB1.out HB4.out⟩
                  · have k3 : 3 < kc := by omega
                    clear hk
                    go_wp2_with fail
                    go_ret
                    exact ⟨by rw [HF.out]; rfl, below_step HB1.out HB4.out⟩
        · obtain rfl : i = C := by omega
          have HF := Lib.hid (HFe.out (fun j hj => HV.out j hj (by rw [← HC.out]; exact hj)))
          have hk : kb = cs.any (·.key) := by rw [HKb.out, List.take_of_length_le (by rw [HC.out]; exact Nat.le_refl _)]
          rw [← hk] at HF
          obtain ⟨s0, s1⟩ := HT1.out.on HBw.out
          have hii : ¬ ((i : Int) < (i : Int)) := by omega
          clear HV HKb hk
          cases kb
          all_goals
            simp only [Bool.false_eq_true, if_true, if_false] at HF
            go_wp2_with fail
            go_ret
            exact ⟨by rw [HF.out]; rfl, below_step HB1.out HBw.out⟩
    · have HF : Hid (R = 2) := by show _ = _; rw [HR.out, chkT_long (t := ⟨nm, cs⟩) hn (by show 16 < cs.length; rw [HC.out]; omega)]
      have g16 : ((16 : Int) < (C : Int)) := by omega
      clear HR hn
      go_enter Tryd.func18, Tryd.ntmps18
      go_wp2_with fail
      rw [HVe.out]
      refine (HN.out _).mono ?_
      rintro e w1 ⟨rfl, hb1⟩
      obtain ⟨s0, s1⟩ := HT.out.on hb1
      go_wp2_with fail
      go_ret
      exact ⟨by rw [HF.out]; rfl, below_step HB0.out hb1⟩
end Go.Proofs.YtlgnllnjhpihdaaDoor
