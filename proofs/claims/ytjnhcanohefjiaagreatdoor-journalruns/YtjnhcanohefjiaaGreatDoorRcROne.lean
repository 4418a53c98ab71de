/- The walk of the document's One. -/
import Derived.Test.YtjnhcanohefjiaaGreatDoorJPA
import Derived.Test.YtjnhcanohefjiaaGreatDoorRcRef
import Derived.Test.YtjnhcanohefjiaaGreatDoorJRA
import Derived.Test.YtjnhcanohefjiaaGreatDoorJKB
import Derived.BigQuiet
namespace Go.Proofs.YtjnhcanohefjiaaGreatDoor
open Go.RowKit Go.Sort

/-- What the document's One hands back: a part of the bytes themselves. -/
def ROneTold (w : World) (a : Option Addr) (R : List Nat × Nat × Nat) (e : Ending) (w' : World) : Prop :=
  ∃ a' c', e = .returned (.tuple #[.slice a' R.1.length c', .int .i64 R.2.1, .int .i64 R.2.2]) ∧ BytesIn w' a' R.1 ∧ (R.1 ≠ [] → ∃ g o o', a = some ⟨g, o, none⟩ ∧ a' = some ⟨g, o', none⟩) ∧ Below w.heap.size w w'
theorem roneTold_nil {w w' : World} {a : Option Addr} {n : Nat} (hb : Below w.heap.size w w') : ROneTold w a ([], 0, n) (.returned (.tuple #[.slice none 0 0, .int .i64 0, .int .i64 n])) w' :=
  ⟨none, 0, rfl, bytesIn_nil _ _, fun q => absurd rfl q, hb⟩
theorem bs_beq {xs ys : List Nat} (hx : ∀ x ∈ xs, x < 256) (hy : ∀ x ∈ ys, x < 256) : ((bs xs).toList == (bs ys).toList) = decide (xs = ys) := by
  by_cases h : xs = ys
  · rw [h]; simp
  · rw [decide_eq_false h]
    refine beq_false_of_ne fun e => h (bs_inj _ _ hx hy ?_)
    rw [ByteArray.toList_eq, ByteArray.toList_eq] at e
    exact ByteArray.ext (Array.toList_inj.1 e)
set_option maxRecDepth 100000 in
set_option maxHeartbeats 2000000 in
theorem rone_ (ep : Nat) (a : Option Addr) (xs : List Nat) (n c : Nat) (w : World) (h : BytesIn w a xs) (hx : ∀ x ∈ xs, x < 256) (_hc : a = none → c = 0) (hn : xs.length = n) (hlim : n ≤ 140737488355328) (hcap : n ≤ c) :
    Calls Tryz.prog 58 #[.int .u64 ep, .slice a n c] w (ROneTold w a (one ep xs)) := by
  rw [← oneD_eq ep xs hx]
  unfold oneD
  rw [hn]
  by_cases hn0 : n = 0
  · rw [if_pos (.inl hn0)]
    subst hn0
    clear h hx hn
    go_enter Tryz.func58, Tryz.ntmps58
    go_wp2_with fail
    go_ret3
    exact roneTold_nil (Below.refl _ _)
  · obtain ⟨b, o, rfl, hc0⟩ := h 0 (by omega)
    have hnb : ((n : Int) == 0) = false := by simpa using hn0
    have hpos : (0 : Int) < (n : Int) := by omega
    rw [Nat.add_zero] at hc0
    by_cases hy : xs.getD 0 0 = 0
    · rw [if_pos (.inr hy)]
      rw [hy] at hc0
      clear h hx hn hy
      go_enter Tryz.func58, Tryz.ntmps58
      go_wp2_with fail
      go_ret3
      exact roneTold_nil (Below.refl _ _)
    · rw [if_neg (by rintro (q | q); exact hn0 q; exact hy q)]
      have hyb : ((xs.getD 0 0 : Nat) : Int) ≠ 0 := by omega
      have hyb2 : ((((xs.getD 0 0 : Nat) : Int)) == 0) = false := beq_false_of_ne (by omega)
      have hor : ¬ (xs.length = 0 ∨ xs.getD 0 0 = 0) := by rintro (q | q); exact hn0 (by omega); exact hy q
      have hhd : (rdU xs).2.2 = 0 → ¬ 1048576 < (rdU xs).1 → (rdU (xs.drop (rdU xs).2.1)).2.2 = 0 → hdR xs = ((rdU xs).1, (rdU (xs.drop (rdU xs).2.1)).1, (rdU xs).2.1 + (rdU (xs.drop (rdU xs).2.1)).2.1, 0) := fun q1 q2 q3 => by
        unfold hdR
        rw [if_neg hor, nbr_same (by rw [q1]; decide), if_neg (by simp [q1]), if_neg q2, nbr_same (by rw [q3]; decide), if_neg (by simp [q3])]
      have hko : (rdU xs).2.2 = 0 → ¬ 1048576 < (rdU xs).1 → (rdU (xs.drop (rdU xs).2.1)).2.2 = 0 → (rdU xs).1 ≠ 0 ∧ (rdU xs).2.1 + (rdU (xs.drop (rdU xs).2.1)).2.1 ≤ 13 := fun q1 q2 q3 => by
        have e := hhd q1 q2 q3
        have k := hdR_ok xs hx (by rw [e])
        rw [e] at k
        obtain ⟨k1, k2, k3, _, _, k6⟩ := k
        simp only at k1 k2 k3 k6
        have := enc_lens _ k2
        have := enc_le10 _ k3
        exact ⟨k1, by omega⟩
      have HKO := Lib.hid hko
      generalize xs.getD 0 0 = y at *
      have HU1 := Lib.hid (ruint_ (some ⟨b, o, none⟩) xs c w h hx (by omega))
      rw [hn] at HU1
      have hlt1 := rdU_lt xs hx
      have hdx : ∀ x ∈ xs.drop (rdU xs).2.1, x < 256 := fun x hm => hx x (List.mem_of_mem_drop hm)
      have hlt2 := rdU_lt (xs.drop (rdU xs).2.1) hdx
      have hdl : (xs.drop (rdU xs).2.1).length = n - (rdU xs).2.1 := by rw [List.length_drop, hn]
      have HU2 : Hid (∀ (A : Option Addr) cc, A = (if c = (rdU xs).2.1 then (some ⟨b, o, none⟩ : Option Addr) else some ⟨b, o + (rdU xs).2.1, none⟩) → Calls Tryz.prog 78 #[.slice A (n - (rdU xs).2.1) cc] w fun e w' => e = .returned (.tuple #[.int .u64 (rdU (xs.drop (rdU xs).2.1)).1, .int .i64 (rdU (xs.drop (rdU xs).2.1)).2.1, .int .i64 (rdU (xs.drop (rdU xs).2.1)).2.2]) ∧ w' = w) := Lib.hid fun A cc hA => by
        have hb : BytesIn w A (xs.drop (rdU xs).2.1) := by
          rw [hA]
          by_cases hck : c = (rdU xs).2.1
          · rw [List.drop_eq_nil_of_le (by omega)]; exact bytesIn_nil _ _
          · rw [if_neg hck]; exact h.drop _
        have := ruint_ A (xs.drop (rdU xs).2.1) cc w hb hdx (by omega)
        rw [hdl] at this
        exact this
      rw [hdl] at hlt2
      rw [hn] at hlt1
      have HFR : Hid (∀ m k l, k + l ≤ n → l ≠ 0 → l ≤ 1048576 → m < 18446744073709551616 → Calls Tryz.prog 61 #[.int .u64 (m : Nat), .slice (some ⟨b, o + k, none⟩) l (c - k)] w fun e w' => ∃ a' c', e = .returned (.tuple #[.slice a' (recB m ((xs.drop k).take l)).length c', .int .i64 0]) ∧ BytesIn w' a' (recB m ((xs.drop k).take l)) ∧ Below w.heap.size w w') := Lib.hid fun m k l h1 h2 h3 h4 => by
        have hpl : ((xs.drop k).take l).length = l := by rw [List.length_take, List.length_drop, hn]; omega
        have ef : frm m ((xs.drop k).take l) = (recB m ((xs.drop k).take l), 0) := if_pos (by rw [hpl]; exact refu_ok (by omega) (by omega))
        have := rframe_ m (some ⟨b, o + k, none⟩) ((xs.drop k).take l) (c - k) w (take_in (h.drop k) l) (fun x hm => hx x (List.mem_of_mem_drop (List.mem_of_mem_take hm))) (fun q => by cases q) h4 (by omega)
        rw [hpl, ef] at this
        exact this
      have HPT : Hid (∀ k l W, k + l ≤ n → Below w.heap.size w W → BytesIn W (some ⟨b, o + k, none⟩) ((xs.drop k).take l)) := Lib.hid fun k l W _ hW => take_in ((h.on hW).drop k) l
      have HCV : Hid (∀ j W, j ≤ n → Below w.heap.size w W → (convert 53 9 (.slice (some ⟨b, o, none⟩) j c)).run Tryz.prog W = .ok (.string (bs (xs.take j))) W) := Lib.hid fun j W hj hW => conv_ W _ j c (xs.take j) (by rw [List.length_take]; omega) (take_in (h.on hW) j)
      have HBE : Hid (∀ m k l j, ((bs (recB m ((xs.drop k).take l))).toList == (bs (xs.take j)).toList) = decide (recB m ((xs.drop k).take l) = xs.take j)) := Lib.hid fun m k l j => bs_beq (recB_byte m _ (fun x hm => hx x (List.mem_of_mem_drop (List.mem_of_mem_take hm)))) (fun x hm => hx x (List.mem_of_mem_take hm))
      have HLN : Hid (∀ k l, k + l ≤ n → ((xs.drop k).take l).length = l) := Lib.hid fun k l hh => by rw [List.length_take, List.length_drop, hn]; omega
      have HNX := Lib.hid hn
      clear hhd hko hor hdx hdl hx h hn hy
      generalize rdU (xs.drop (rdU xs).2.1) = M at *
      generalize rdU xs = N at *
      obtain ⟨l, k, e1⟩ := N
      obtain ⟨m, k2, e2⟩ := M
      simp only at HU1 HU2 HKO hlt1 hlt2 ⊢
      by_cases c1 : e1 = 12
      · rw [if_pos c1]
        subst c1
        go_enter Tryz.func58, Tryz.ntmps58
        go_wp2_with fail
        refine HU1.out.mono ?_
        rintro e w1 ⟨rfl, rfl⟩
        go_wp2_with fail
        go_ret3
        exact roneTold_nil (Below.refl _ _)
      · rw [if_neg c1]
        have c1b : ((e1 : Int) == 12) = false := beq_false_of_ne (by omega)
        by_cases c2 : e1 ≠ 0 ∨ 1048576 < l
        · rw [if_pos c2]
          by_cases c2a : e1 = 0
          · subst c2a
            have hgt : (l : Int) > 1048576 := by omega
            clear c2 c1 c1b
            go_enter Tryz.func58, Tryz.ntmps58
            go_wp2_with fail
            refine HU1.out.mono ?_
            rintro e w1 ⟨rfl, rfl⟩
            go_wp2_with fail
            go_ret3
            exact roneTold_nil (Below.refl _ _)
          · have c2b : ((e1 : Int) == 0) = false := beq_false_of_ne (by omega)
            clear c2 c1
            go_enter Tryz.func58, Tryz.ntmps58
            go_wp2_with fail
            refine HU1.out.mono ?_
            rintro e w1 ⟨rfl, rfl⟩
            go_wp2_with fail
            go_ret3
            exact roneTold_nil (Below.refl _ _)
        · rw [if_neg c2]
          obtain ⟨rfl, hl20⟩ : e1 = 0 ∧ ¬ 1048576 < l := by omega
          have hgt : ¬ (l : Int) > 1048576 := by omega
          have hkn : (k : Int) ≤ n := by omega
          have hkc : (k : Int) ≤ c := by omega
          clear c1 c1b c2
          by_cases c3 : e2 = 12
          · rw [if_pos c3]
            subst c3
            go_enter Tryz.func58, Tryz.ntmps58
            go_wp2_with fail
            refine HU1.out.mono ?_
            rintro e w1 ⟨rfl, rfl⟩
            go_wp2_with fail
            all_goals
              refine (HU2.out _ _ (by first | rw [if_pos (by assumption)] | rw [if_neg (by assumption)] | simp_all)).mono ?_
              rintro e w1 ⟨rfl, rfl⟩
              go_wp2_with fail
              go_ret3
              exact roneTold_nil (Below.refl _ _)
          · rw [if_neg c3]
            have c3b : ((e2 : Int) == 12) = false := beq_false_of_ne (by omega)
            by_cases c4 : e2 ≠ 0
            · rw [if_pos c4]
              have c4b : ((e2 : Int) == 0) = false := beq_false_of_ne (by omega)
              clear c3
              go_enter Tryz.func58, Tryz.ntmps58
              go_wp2_with fail
              refine HU1.out.mono ?_
              rintro e w1 ⟨rfl, rfl⟩
              go_wp2_with fail
              all_goals
                refine (HU2.out _ _ (by first | rw [if_pos (by assumption)] | rw [if_neg (by assumption)] | simp_all)).mono ?_
                rintro e w1 ⟨rfl, rfl⟩
                go_wp2_with fail
                go_ret3
                exact roneTold_nil (Below.refl _ _)
            · obtain rfl : e2 = 0 := by omega
              rw [if_neg (by simp)]
              obtain ⟨hl0, hk13⟩ := HKO.out rfl hl20 rfl
              have hm := hlt2.1
              clear c3 c3b c4 HKO hlt1 hlt2
              have hwl : wrap64 (l : Int) = l := by unfold wrap64; omega
              by_cases c5 : n < k + k2 + l + 4
              · rw [if_pos c5]
                have hg5 : (k : Int) + k2 + l + 4 > n := by omega
                go_enter Tryz.func58, Tryz.ntmps58
                go_wp2_with fail
                refine HU1.out.mono ?_
                rintro e w1 ⟨rfl, rfl⟩
                go_wp2_with fail
                all_goals
                  refine (HU2.out _ _ (by first | rw [if_pos (by assumption)] | rw [if_neg (by assumption)] | simp_all)).mono ?_
                  rintro e w1 ⟨rfl, rfl⟩
                  go_wp2_with fail
                  go_ret3
                  exact roneTold_nil (Below.refl _ _)
              · rw [if_neg c5]
                have hg5 : ¬ (k : Int) + k2 + l + 4 > n := by omega
                have hck : ¬ c = k := by omega
                have hck2 : ¬ c = k + k2 := by omega
                have hcz : ¬ c = 0 := by omega
                have hwi1 : IntKind.i64.wrap ((k : Int) + k2) = (k : Int) + k2 := by rw [IntKind.wrap_i64]; omega
                have hwi2 : IntKind.i64.wrap (l : Int) = l := by rw [IntKind.wrap_i64]; omega
                have hwi3 : IntKind.i64.wrap ((k : Int) + k2 + l) = (k : Int) + k2 + l := by rw [IntKind.wrap_i64]; omega
                have hwi4 : IntKind.i64.wrap ((k : Int) + k2 + l + 4) = (k : Int) + k2 + l + 4 := by rw [IntKind.wrap_i64]; omega
                have hb1 : (k : Int) + k2 ≤ (k : Int) + k2 + l := by omega
                have hb2 : (k : Int) + k2 + l ≤ c := by omega
                have hb3 : (0 : Int) ≤ (k : Int) + k2 := by omega
                have hb4 : (k : Int) + k2 + l + 4 ≤ c := by omega
                have hb5 : (0 : Int) ≤ (k : Int) + k2 + l + 4 := by omega
                have ht1 : ((k : Int) + k2).toNat = k + k2 := by omega
                have ht2 : ((k : Int) + k2 + l).toNat = k + k2 + l := by omega
                have ht3 : ((k : Int) + k2 + l + 4).toNat = k + k2 + l + 4 := by omega
                have hsub : k + k2 + l - (k + k2) = l := by omega
                have HF := Lib.hid (HFR.out m (k + k2) l (by omega) hl0 (by omega) hm)
                have HLN' := Lib.hid (HLN.out (k + k2) l (by omega))
                have HPT' : Hid (∀ W, Below w.heap.size w W → BytesIn W (some ⟨b, o + (k + k2), none⟩) ((xs.drop (k + k2)).take l)) := Lib.hid fun W hW => HPT.out (k + k2) l W (by omega) hW
                have HBE' := HBE.out m (k + k2) l (k + k2 + l + 4)
                have HCV' : Hid (∀ W, Below w.heap.size w W → (convert 53 9 (.slice (some ⟨b, o, none⟩) (k + k2 + l + 4) c)).run Tryz.prog W = .ok (.string (bs (xs.take (k + k2 + l + 4)))) W) := Lib.hid fun W hW => HCV.out (k + k2 + l + 4) W (by omega) hW
                obtain ⟨rl, hrl⟩ : ∃ rl, (recB m ((xs.drop (k + k2)).take l)).length = rl := ⟨_, rfl⟩
                have HRE : Hid (recB m ((xs.drop (k + k2)).take l) = xs.take (k + k2 + l + 4) → (rl : Int) = (k : Int) + k2 + l + 4) := Lib.hid fun hh => by
                  have h1 := congrArg List.length hh
                  rw [hrl] at h1
                  rw [recB_length, HLN'.out] at hrl
                  rw [List.length_take, HNX.out] at h1
                  omega
                rw [hrl] at HF
                have HRL := Lib.hid hrl
                clear HFR HLN HPT HBE HCV hrl HNX
                generalize (xs.drop (k + k2)).take l = p at *
                generalize recB m p = rp at *
                generalize xs.take (k + k2 + l + 4) = tx at *
                by_cases c6 : m = ep
                · subst c6
                  have hmm : ((m : Int) == (m : Int)) = true := by simp
                  by_cases c7 : rp = tx
                  · rw [if_neg (by rintro (q | q); exact q rfl; exact q c7)]
                    have hr7 := HRE.out c7
                    rw [decide_eq_true c7] at HBE'
                    clear c7
                    go_enter Tryz.func58, Tryz.ntmps58
                    go_wp2_with fail
                    refine HU1.out.mono ?_
                    rintro e w1 ⟨rfl, rfl⟩
                    go_wp2_with fail
                    refine (HU2.out _ _ (by rw [if_neg hck])).mono ?_
                    rintro e w1 ⟨rfl, rfl⟩
                    go_wp2_with fail
                    refine HF.out.mono ?_
                    rintro e w2 ⟨a2, c2, rfl, hi2, hb2⟩
                    have HB2 := Lib.hid hb2
                    have cv1 : ∀ j, (convert 53 9 (.slice a2 rl c2)).run Tryz.prog (w2.drewN j) = .ok (.string (bs rp)) (w2.drewN j) := fun j => conv_ _ a2 rl c2 rp HRL.out.symm (hi2.on (below_drewN (Below.refl _ _) j))
                    have cv2 : ∀ j, (convert 53 9 (.slice (some ⟨b, o, none⟩) (k + k2 + l + 4) c)).run Tryz.prog (w2.drewN j) = .ok (.string (bs tx)) (w2.drewN j) := fun j => HCV'.out _ (below_drewN hb2 j)
                    clear hi2 hb2 HU1 HU2 HF HCV'
                    generalize bs rp = s1 at *
                    generalize bs tx = s2 at *
                    go_wp2_with fail
                    go_big_quiet (fail)
                    have HB3 := Lib.hid (below_drewN HB2.out nq)
                    generalize w2.drewN nq = W3 at *
                    clear cv1 cv2
                    go_wp2_with fail
                    go_ret3
                    refine ⟨some ⟨b, o + (k + k2), none⟩, c - (k + k2), ?_, HPT'.out _ HB3.out, fun _ => ⟨b, o, o + (k + k2), rfl, rfl⟩, HB3.out⟩
                    rw [HLN'.out]
                    first | rfl | simp
                  · rw [if_pos (.inr c7)]
                    rw [decide_eq_false c7] at HBE'
                    clear c7
                    go_enter Tryz.func58, Tryz.ntmps58
                    go_wp2_with fail
                    refine HU1.out.mono ?_
                    rintro e w1 ⟨rfl, rfl⟩
                    go_wp2_with fail
                    refine (HU2.out _ _ (by rw [if_neg hck])).mono ?_
                    rintro e w1 ⟨rfl, rfl⟩
                    go_wp2_with fail
                    refine HF.out.mono ?_
                    rintro e w2 ⟨a2, c2, rfl, hi2, hb2⟩
                    have HB2 := Lib.hid hb2
                    have cv1 : ∀ j, (convert 53 9 (.slice a2 rl c2)).run Tryz.prog (w2.drewN j) = .ok (.string (bs rp)) (w2.drewN j) := fun j => conv_ _ a2 rl c2 rp HRL.out.symm (hi2.on (below_drewN (Below.refl _ _) j))
                    have cv2 : ∀ j, (convert 53 9 (.slice (some ⟨b, o, none⟩) (k + k2 + l + 4) c)).run Tryz.prog (w2.drewN j) = .ok (.string (bs tx)) (w2.drewN j) := fun j => HCV'.out _ (below_drewN hb2 j)
                    clear hi2 hb2 HU1 HU2 HF HCV'
                    generalize bs rp = s1 at *
                    generalize bs tx = s2 at *
                    go_wp2_with fail
                    go_big_quiet (fail)
                    have HB3 := Lib.hid (below_drewN HB2.out nq)
                    generalize w2.drewN nq = W3 at *
                    clear cv1 cv2
                    go_wp2_with fail
                    go_ret3
                    exact roneTold_nil HB3.out
                · rw [if_pos (.inl c6)]
                  have hmm : ((m : Int) == (ep : Int)) = false := beq_false_of_ne (by omega)
                  have hmm2 : ((m : Int) != (ep : Int)) = true := by simp [bne, hmm]
                  go_enter Tryz.func58, Tryz.ntmps58
                  go_wp2_with fail
                  refine HU1.out.mono ?_
                  rintro e w1 ⟨rfl, rfl⟩
                  go_wp2_with fail
                  refine (HU2.out _ _ (by rw [if_neg hck])).mono ?_
                  rintro e w1 ⟨rfl, rfl⟩
                  go_wp2_with fail
                  refine HF.out.mono ?_
                  rintro e w2 ⟨a2, c2, rfl, hi2, hb2⟩
                  have HB2 := Lib.hid hb2
                  have cv1 : ∀ j, (convert 53 9 (.slice a2 rl c2)).run Tryz.prog (w2.drewN j) = .ok (.string (bs rp)) (w2.drewN j) := fun j => conv_ _ a2 rl c2 rp HRL.out.symm (hi2.on (below_drewN (Below.refl _ _) j))
                  have cv2 : ∀ j, (convert 53 9 (.slice (some ⟨b, o, none⟩) (k + k2 + l + 4) c)).run Tryz.prog (w2.drewN j) = .ok (.string (bs tx)) (w2.drewN j) := fun j => HCV'.out _ (below_drewN hb2 j)
                  clear hi2 hb2 HU1 HU2 HF HCV'
                  generalize bs rp = s1 at *
                  generalize bs tx = s2 at *
                  clear HBE' HRE
                  go_wp2_with fail
                  go_big_quiet (fail)
                  have HB3 := Lib.hid (below_drewN HB2.out nq)
                  generalize w2.drewN nq = W3 at *
                  clear cv1 cv2
                  go_wp2_with fail
                  go_ret3
                  exact roneTold_nil HB3.out
end Go.Proofs.YtjnhcanohefjiaaGreatDoor
