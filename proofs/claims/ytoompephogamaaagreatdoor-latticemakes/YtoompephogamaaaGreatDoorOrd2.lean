/- The walks of next and Order. -/
import Derived.Test.YtoompephogamaaaGreatDoorOrd
namespace Go.Proofs.YtoompephogamaaaGreatDoor
open Go.RowKit Go.Sort

set_option maxHeartbeats 1000000 in
theorem next_ (v : Value) (a : Option Addr) (c : Nat) (ls : List Lab) (os : List Nat) (w : World) (h : LatIn w v ls) (hw : allW ls) (hn : ls.length ≤ 16) (hI : IntsIn w a os) (ho : os.length ≤ 16) :
    Calls Tryz.prog 36 #[v, .slice a os.length c] w fun e w' => ∃ a' c', e = .returned (.slice a' (nextL ls os).length c') ∧ IntsIn w' a' (nextL ls os) ∧ Below w.heap.size w w' := by
  obtain ⟨ct, hct⟩ : ∃ ct : Nat → Bool, ct = fun x => os.contains x := ⟨_, rfl⟩
  obtain ⟨rs, hrs⟩ : ∃ rs : Nat → Bool, rs = fun x => restsB ls os x := ⟨_, rfl⟩
  obtain ⟨p, hp⟩ : ∃ p : Nat → Bool, p = fun x => !ct x && rs x := ⟨_, rfl⟩
  have HB : Hid (nextL ls os = upTo p ls.length) := by unfold Hid; rw [hp, hct, hrs]; rfl
  have hpx : ∀ x, p x = (!ct x && rs x) := fun x => by rw [hp]
  have HP := Lib.hid hpx
  rw [HB.out]
  have HC : Hid (∀ (W : World) (x : Nat), IntsIn W a os → Calls Tryz.prog 48 #[.slice a os.length c, .int .i64 x] W fun e w' => e = .returned (.bool (ct x)) ∧ w' = W) := fun W x hh => by rw [hct]; exact contains_ a c os x W hh ho
  have HR : Hid (∀ (W : World) (x : Nat), LatIn W v ls → IntsIn W a os → Calls Tryz.prog 49 #[v, .int .i64 x, .slice a os.length c] W fun e w' => e = .returned (.bool (rs x)) ∧ Below W.heap.size W w') := fun W x hL hh => by rw [hrs]; exact rests_ v x a c ls os W hL hw hn hh ho
  have HL : Hid (LatIn w v ls) := h
  have HI := Lib.hid hI
  clear hp HB h hw hct hrs hpx hI
  obtain ⟨n, hnn⟩ : ∃ n, ls.length = n := ⟨_, rfl⟩
  have HN : Hid (∀ W, LatIn W v ls → Calls Tryz.prog 13 #[v] W fun e w' => e = .returned (.int .i64 n) ∧ w' = W) := fun W hL => hnn ▸ len_ v ls W hL
  rw [hnn] at hn ⊢
  clear hnn
  generalize os.length = m at *
  obtain ⟨i0, hi, hz0, hz1, hz2⟩ := info_parts info3
  go_enter Tryz.func36, Tryz.ntmps36
  go_wp2_with fail
  refine (HN.out _ HL.out).mono ?_
  rintro e w1 ⟨rfl, rfl⟩
  go_wp2_with fail
  go_loopw [5, 9] (fun bv iv wr => ∃ k : Nat, k ≤ n ∧ iv = .int .i64 k ∧ wr.ownsRow w1.heap.size 3 1 bv (upTo p k).length (ints (upTo p k)) ∧ Below w1.heap.size w1 wr) (fun _ iv _ => n - (intOf iv).toNat)
  case atStart => exact ⟨0, Nat.zero_le _, rfl, World.ownsRow_nil _ _ _ _, Below.refl _ _⟩
  case round =>
    obtain ⟨k, hk, rfl, hown, hb⟩ := hrel
    have hul := upTo_len p k
    have HO := Lib.hid hown
    clear hown
    by_cases hlt : k < n
    · go_wp2_with fail
      refine (HC.out wr k (HI.out.on hb)).mono ?_
      rintro e w2 ⟨rfl, rfl⟩
      cases hc : ct k
      · go_wp2_with fail
        refine (HR.out w2 k (HL.out.on hb) (HI.out.on hb)).mono ?_
        rintro e w3 ⟨rfl, hb2⟩
        have hb3 : Below w1.heap.size w1 w3 := hb.trans (hb2.mono hb.size)
        have HO2 := Lib.hid (owns_on HO.out hb2)
        cases hr : rs k
        · have hp : p k = false := by rw [HP.out k, hc, hr]; rfl
          have HPk := Lib.hid hp
          clear hp
          go_wp2_with fail
          go_roundw
          case rel => exact ⟨k + 1, by omega, by go_num, by rw [upTo_no HPk.out]; exact HO2.out, hb3⟩
          case measure => simp [intOf]; omega
        · have hp : p k = true := by rw [HP.out k, hc, hr]; rfl
          have HPk := Lib.hid hp
          clear hp
          have hsz := hb3.size
          go_wp2_with (first
            | (at_builtin; refine wpList_append_own _ rfl _ _ 59 rfl w1.heap.size 3 i0 (.int .i64 0) 1 8 Tryz.underlying59 hi hz0 hz1 hz2 rfl (by decide) _ _ _ rfl (HO2.out.alloc _) ⟨w3.heap.size, 0, none⟩ 1 1 [.int .i64 k] rfl rfl (one_cell _ _ _) (one_one _) (by unfold maxLen; omega) (by omega) (by simp; omega) ?_)
            | go_in)
          intro v' w4 hown' hgrow _
          have hb4 : Below w1.heap.size w1 w4 := (hb3.alloc hb3.size _).grown hgrow (by simp; omega) (fun g hg => (HO2.out.lt g hg).1)
          rw [ints_snoc, ← upTo_yes HPk.out] at hown'
          have e1 : (upTo p (k + 1)).length = (upTo p k).length + 1 := by rw [upTo_yes HPk.out]; simp
          rw [← e1] at hown'
          have HO3 := Lib.hid hown'
          clear hown' hgrow e1
          go_wp2
          go_roundw
          case rel => exact ⟨k + 1, by omega, by go_num, HO3.out, hb4⟩
          case measure => simp [intOf]; omega
      · have hp : p k = false := by rw [HP.out k, hc]; rfl
        have HPk := Lib.hid hp
        clear hp
        go_wp2_with fail
        go_roundw
        case rel => exact ⟨k + 1, by omega, by go_num, by rw [upTo_no HPk.out]; exact HO.out, hb⟩
        case measure => simp [intOf]; omega
    · obtain rfl : k = n := by omega
      go_wp2_with fail
      go_ret
      obtain ⟨a, c, rfl, hin⟩ := intsIn_of HO.out
      exact ⟨a, c, rfl, hin, hb⟩

def lenOf : Value → Nat
  | .slice _ n _ => n
  | _ => 0
theorem news_of {w : World} {b o : Nat} {zs : List Nat} (h : IntsIn w (some ⟨b, o, none⟩) zs) : ∀ j u, (ints zs)[j]? = some u → w.cell? ((⟨b, o, none⟩ : Addr).add j) = some u := by
  intro j u hj
  obtain ⟨hlt, e⟩ := List.getElem?_eq_some_iff.1 hj
  have hlt' : j < zs.length := by simpa [ints] using hlt
  obtain ⟨b', o', e', hh⟩ := h j hlt'
  simp only [Option.some.injEq, Addr.mk.injEq] at e'
  obtain ⟨rfl, rfl, _⟩ := e'
  rw [Addr.add_lit, hh, ← e]
  simp [ints, List.getD_eq_getElem?_getD, hlt']
theorem ints_one (zs : List Nat) : ∀ u ∈ ints zs, u.oneCell' = true := by
  intro u hu
  obtain ⟨n, _, rfl⟩ := List.mem_map.1 hu
  rfl
theorem ints_append (a b : List Nat) : ints a ++ ints b = ints (a ++ b) := by simp [ints]
theorem ints_len (a : List Nat) : (ints a).length = a.length := by simp [ints]

set_option maxHeartbeats 1000000 in
theorem order_ (v : Value) (ls : List Lab) (w : World) (h : LatIn w v ls) (hw : allW ls) (hd : ls.Nodup) (hn : ls.length ≤ 16) :
    Calls Tryz.prog 23 #[v] w fun e w' => ∃ a' c', e = .returned (.slice a' (orderL ls).length c') ∧ IntsIn w' a' (orderL ls) ∧ Below w.heap.size w w' := by
  have HX : Hid (∀ (W : World) (a : Option Addr) (c : Nat) (os : List Nat), LatIn W v ls → IntsIn W a os → os.length ≤ 16 → Calls Tryz.prog 36 #[v, .slice a os.length c] W fun e w' => ∃ a' c', e = .returned (.slice a' (nextL ls os).length c') ∧ IntsIn w' a' (nextL ls os) ∧ Below W.heap.size W w') := fun W a c os hL hI ho => next_ v a c ls os W hL hw hn hI ho
  have HP : Hid (∀ os : List Nat, os.length < ls.length → 0 < (nextL ls os).length) := fun os ho => next_pos hw hd ho
  have HE : Hid (∀ t, ls.length ≤ (roundN ls t).length → roundN ls t = orderL ls) := fun t ht => roundN_order hw hd ht
  have HS : Hid (∀ t, (roundN ls (t + 1)).length ≤ ls.length) := fun t => roundN_len ls (t + 1)
  have HL : Hid (LatIn w v ls) := h
  clear h hw hd
  obtain ⟨n, hnn⟩ : ∃ n, ls.length = n := ⟨_, rfl⟩
  have HN : Hid (∀ W, LatIn W v ls → Calls Tryz.prog 13 #[v] W fun e w' => e = .returned (.int .i64 n) ∧ w' = W) := fun W hL => hnn ▸ len_ v ls W hL
  have hRL : ∀ t, (roundN ls t).length ≤ n := fun t => hnn ▸ roundN_len ls t
  have HRL := Lib.hid hRL
  rw [hnn] at hn HP HE HS
  clear hnn hRL
  obtain ⟨i0, hi, hz0, hz1, hz2⟩ := info_parts info3
  go_enter Tryz.func23, Tryz.ntmps23
  go_wp2_with fail
  go_loopw [3] (fun ov wr => ∃ t : Nat, wr.ownsRow w.heap.size 3 1 ov (roundN ls t).length (ints (roundN ls t)) ∧ Below w.heap.size w wr) (fun ov _ => n - lenOf ov)
  case atStart => exact ⟨0, World.ownsRow_nil _ _ _ _, Below.refl _ _⟩
  case round =>
    obtain ⟨t, hown, hb⟩ := hrel
    have hle := HRL.out t
    obtain ⟨a, c, rfl, hin⟩ := intsIn_of hown
    have HO := Lib.hid hown
    have HI := Lib.hid hin
    have HE' : Hid (n ≤ (roundN ls t).length → roundN ls t = orderL ls) := HE.out t
    have hq : (roundN ls t).length < n → 0 < (nextL ls (roundN ls t)).length := HP.out _
    have hs := HS.out t
    have HT : Hid (roundN ls (t + 1) = roundN ls t ++ nextL ls (roundN ls t)) := rfl
    have hlt1 : (roundN ls (t + 1)).length = (roundN ls t).length + (nextL ls (roundN ls t)).length := by rw [HT.out, List.length_append]
    clear hown hin
    generalize roundN ls t = os at *
    by_cases hlt : os.length < n
    · have hpos := hq hlt
      go_wp2_with fail
      refine (HN.out _ (HL.out.on hb)).mono ?_
      rintro e w1 ⟨rfl, rfl⟩
      go_wp2_with fail
      refine (HX.out _ a c os (HL.out.on hb) HI.out (by omega)).mono ?_
      rintro e w2 ⟨a2, c2, rfl, hin2, hb2⟩
      obtain ⟨b, o, rfl, _⟩ := hin2 0 hpos
      have hb3 : Below w.heap.size w w2 := hb.trans (hb2.mono hb.size)
      have HO2 := Lib.hid (owns_on HO.out hb2)
      have HI2 := Lib.hid hin2
      have hsz := hb3.size
      clear hin2 hq
      generalize nextL ls os = zs at *
      go_wp2_with (first
        | (at_builtin; refine wpList_append_own _ rfl _ _ 59 rfl w.heap.size 3 i0 (.int .i64 0) 1 8 Tryz.underlying59 hi hz0 hz1 hz2 rfl (by decide) _ _ _ rfl HO2.out ⟨b, o, none⟩ zs.length c2 (ints zs) rfl (by rw [ints_len]; omega) (news_of HI2.out) (ints_one zs) (by unfold maxLen; omega) (by omega) (by omega) ?_)
        | go_in)
      intro v' w4 hown' hgrow _
      have hb4 : Below w.heap.size w w4 := hb3.grown hgrow (by omega) (fun g hg => (HO2.out.lt g hg).1)
      rw [ints_append, ← HT.out, ← hlt1] at hown'
      obtain ⟨a4, c4, rfl, _⟩ := intsIn_of hown'
      have HO3 := Lib.hid hown'
      clear hown' hgrow
      go_wp2
      go_roundw
      case rel => exact ⟨t + 1, HO3.out, hb4⟩
      case measure => simp [lenOf]; omega
    · go_wp2_with fail
      refine (HN.out _ (HL.out.on hb)).mono ?_
      rintro e w1 ⟨rfl, rfl⟩
      have HEE := Lib.hid (HE'.out (by omega))
      clear hq hlt1
      go_wp2_with fail
      go_ret
      rw [← HEE.out]
      exact ⟨a, c, rfl, HI.out, hb⟩
end Go.Proofs.YtoompephogamaaaGreatDoor
