/- The walk of the law CrcBursts. -/
import Derived.Test.YtjgkoamhmmofbaaDoorBurst
import Derived.Test.YtjgkoamhmmofbaaDoorAs
namespace Go.Proofs.YtjgkoamhmmofbaaDoor
open Go.RowKit Go.Sort

theorem errV_not {n : Nat} (h : n ≠ 0) : errV n = .iface 38 (.int .i64 n) := if_neg h
theorem num_ (e : Nat) (w : World) (hg : ErrType w) : Calls Tryd.prog 10 #[errV e] w fun r w' => r = .returned (.int .i64 e) ∧ Below w.heap.size w w' := by
  by_cases h : e = 0
  · subst h
    exact num11_nil w
  · rw [errV_not h]
    exact num11 e w hg
theorem first_ (n : Int) (len : Nat) (h : 0 < len) (h2 : len ≤ 140737488351232) : wrap64 ((IntKind.u64.wrap n).tmod (8 * (len : Int))) = (((n % 18446744073709551616).toNat % (8 * len) : Nat) : Int) := by
  have e1 : IntKind.u64.wrap n = (((n % 18446744073709551616).toNat : Nat) : Int) := by rw [IntKind.wrap_u64]; omega
  have e2 : (8 * (len : Int)) = ((8 * len : Nat) : Int) := by omega
  have e3 : (n % 18446744073709551616).toNat % (8 * len) < 8 * len := Nat.mod_lt _ (by omega)
  rw [e1, e2, Int.tmod_eq_emod_of_nonneg (by omega), ← Int.natCast_emod]
  unfold wrap64
  omega
theorem own_row {w : World} {base n : Nat} {v : Value} {ys : List Nat} (h : ys.length = n) (hO : Own w base v ys) : w.ownsRow base 5 1 v n (vals ys) := by
  subst h
  exact hO
theorem own_set {w : World} {base g n c : Nat} {ys : List Nat} (h : ys.length = n) (y j : Nat) (hO : Own w base (.slice (some ⟨g, 0, none⟩) n c) ys) : Own (w.setCell ⟨g, j, none⟩ (.int .u8 (y : Int))) base (.slice (some ⟨g, 0, none⟩) n c) (ys.set j y) := by
  have := ((own_row h hO).stored j (.int .u8 (y : Int))).1
  unfold Own
  rw [List.length_set, h, show vals (ys.set j y) = (vals ys).set j (.int .u8 (y : Int)) by simp [vals, List.map_set]]
  exact this
theorem own_bytes {w : World} {base g n c : Nat} {ys : List Nat} (hO : Own w base (.slice (some ⟨g, 0, none⟩) n c) ys) : BytesIn w (some ⟨g, 0, none⟩) ys := hO.cells.2.1
theorem own_cap {w : World} {base n c : Nat} {a : Option Addr} {xs : List Nat} (h : Own w base (.slice a n c) xs) : xs.length ≤ c := by
  rcases h.2 with ⟨h', e⟩ | ⟨g', cap', cur, h', _, _, hnc, _⟩
  · cases h'
    omega
  · cases h'
    exact hnc
theorem bit8 (y r : Nat) (hy : y < 256) (hr : r < 8) : bits .xor .u8 (y : Int) (2 ^ r % 256) = ((y ^^^ 2 ^ r : Nat) : Int) := by
  have hp : 2 ^ r < 2 ^ 8 := Nat.pow_lt_pow_right (by decide) hr
  have e : (2 : Int) ^ r % 256 = ((2 ^ r : Nat) : Int) := by
    rw [show (2 : Int) ^ r = ((2 ^ r : Nat) : Int) from (Int.natCast_pow 2 r).symm]
    generalize (2 : Nat) ^ r = p at *
    omega
  rw [e]
  exact u8_xor_nat y (2 ^ r) hy hp
theorem opn_sealed (xs : List Nat) : opn (xs ++ four (sm 0 xs)) = (xs, 0) := by
  have hl : (xs ++ four (sm 0 xs)).length - 4 = xs.length := by rw [List.length_append, four_length]; omega
  unfold opn
  rw [if_neg (by rw [List.length_append, four_length]; omega), hl, List.drop_left, List.take_left, if_pos rfl]
theorem odd_at (b i : Nat) (hb : b < 4294967296) : bits .and .u32 ((b : Int) / 2 ^ i) 1 = ((b / 2 ^ i % 2 : Nat) : Int) := by
  have h := odd_ (b / 2 ^ i) (Nat.lt_of_le_of_lt (Nat.div_le_self _ _) hb)
  rw [Int.natCast_ediv, Int.natCast_pow] at h
  exact h
set_option maxRecDepth 100000 in
set_option maxHeartbeats 4000000 in
theorem bursts_ (a : Option Addr) (xs : List Nat) (c : Nat) (at_ : Int) (b : Nat) (w : World) (h : BytesIn w a xs) (hx : ∀ x ∈ xs, x < 256) (hc : a = none → c = 0) (hlim : xs.length ≤ 140737488351232)
    (hb : b < 4294967296) (hE : ErrType w) :
    Calls Tryd.prog 4 #[.slice a xs.length c, .int .i64 at_, .int .u32 b] w fun e w' => e = .returned (.bool true) ∧ Below w.heap.size w w' := by
  have HB := Lib.hid h
  have Hx := Lib.hid hx
  have HC := Lib.hid hc
  have HE := Lib.hid hE
  have HT : Hid (∀ W, BytesIn W a xs → Calls Tryd.prog 5 #[.slice a xs.length c] W fun e w' => ∃ a' c', e = .returned (.slice a' xs.length c') ∧ BytesIn w' a' xs ∧ (a' = none → c' = 0) ∧ Below W.heap.size W w') := Lib.hid fun W hW => by
    refine (twin_ a xs c W hW hc (by omega)).mono fun e w' hh => ?_
    obtain ⟨a', c', h1, _, h3, h4, h5⟩ := hh
    exact ⟨a', c', h1, h3, h4, h5⟩
  have HSE : Hid (∀ W a' c', BytesIn W a' xs → (a' = none → c' = 0) → Calls Tryd.prog 6 #[.slice a' xs.length c'] W fun e w' => ∃ g c', e = .returned (.slice (some ⟨g, 0, none⟩) (xs.length + 4) c') ∧ Own w' W.heap.size (.slice (some ⟨g, 0, none⟩) (xs.length + 4) c') (xs ++ four (sm 0 xs)) ∧ Below W.heap.size W w') := Lib.hid fun W a' c' hW hN => by
    have hlS : (xs ++ four (sm 0 xs)).length = xs.length + 4 := by rw [List.length_append, four_length]
    refine (seal_ a' xs c' W hW hx hN (by omega)).mono fun e w' hh => ?_
    obtain ⟨a'', c'', h1, h2, _, _, h5⟩ := hh
    rw [hlS] at h1 h2
    rcases h2.2 with ⟨_, e⟩ | ⟨g', cap', cur, h', _⟩
    · rw [hlS] at e
      omega
    · simp only [Value.slice.injEq] at h'
      obtain ⟨rfl, _, _⟩ := h'
      exact ⟨_, _, h1, h2, h5⟩
  have HSU : Hid (∀ W, Calls Tryd.prog 11 #[] W fun e w' => e = .returned (.bool true) ∧ Below W.heap.size W w') := sure_
  clear h hx hc hE
  obtain ⟨len, hlen⟩ : ∃ len, xs.length = len := ⟨_, rfl⟩
  rw [hlen] at hlim HT HSE ⊢
  have HL := Lib.hid hlen
  clear hlen
  by_cases hz : len = 0 ∨ b = 0
  · have HOP : Hid (∀ W g c', Own W w.heap.size (.slice (some ⟨g, 0, none⟩) (len + 4) c') (xs ++ four (sm 0 xs)) → Calls Tryd.prog 7 #[.slice (some ⟨g, 0, none⟩) (len + 4) c'] W fun e w' => ∃ v, e = .returned (.tuple #[v, .nilIface]) ∧ Below W.heap.size W w') := Lib.hid fun W g c' hO => by
      have hlS : (xs ++ four (sm 0 xs)).length = len + 4 := by rw [List.length_append, four_length, HL.out]
      have hbS : ∀ x ∈ xs ++ four (sm 0 xs), x < 256 := fun x hm => by
        rcases List.mem_append.1 hm with h | h
        · exact Hx.out x h
        · exact four_byte _ x h
      have := open_ (some ⟨g, 0, none⟩) (xs ++ four (sm 0 xs)) c' W (own_bytes hO) hbS (own_cap hO) (by rw [hlS]; omega)
      rw [hlS, opn_sealed] at this
      refine this.mono fun e w' hh => ?_
      obtain ⟨a', c', h1, _, _, _, h5⟩ := hh
      exact ⟨_, h1, h5⟩
    by_cases hz0 : len = 0
    · have hz1 : ((len : Int) == 0) = true := beq_iff_eq.2 (by omega)
      clear hz0 hz
      go_enter Tryd.func4, Tryd.ntmps4
      go_wp2_with fail
      refine (HT.out w HB.out).mono ?_
      rintro e w1 ⟨a1, c1, rfl, hI1, hN1, hb1⟩
      have HI1 := Lib.hid hI1
      have HN1 := Lib.hid hN1
      have Hb1 := Lib.hid hb1
      clear hI1 hN1 hb1 HT
      go_wp2_with fail
      refine (HSE.out w1 _ _ HI1.out HN1.out).mono ?_
      rintro e w2 ⟨g, cg, rfl, hO2, hb2⟩
      have HO2 := Lib.hid (hO2.lower Hb1.out.size)
      have Hb2 := Lib.hid (below_step Hb1.out hb2)
      clear hO2 hb2 HSE HI1 HN1
      go_wp2_with fail
      refine (HOP.out w2 _ _ HO2.out).mono ?_
      rintro e w3 ⟨v3, rfl, hb3⟩
      have Hb3 := Lib.hid (below_step Hb2.out hb3)
      clear hb3
      go_wp2_with fail
      refine (HSU.out w3).mono ?_
      rintro e w4 ⟨rfl, hb4⟩
      have Hb4 := Lib.hid (below_step Hb3.out hb4)
      clear hb4
      go_wp2_with fail
      go_ret
      exact ⟨rfl, Hb4.out⟩
    · have hz1 : ((len : Int) == 0) = false := beq_eq_false_iff_ne.2 (by omega)
      have hz2 : ((b : Int) == 0) = true := beq_iff_eq.2 (by omega)
      go_enter Tryd.func4, Tryd.ntmps4
      go_wp2_with fail
      refine (HT.out w HB.out).mono ?_
      rintro e w1 ⟨a1, c1, rfl, hI1, hN1, hb1⟩
      have HI1 := Lib.hid hI1
      have HN1 := Lib.hid hN1
      have Hb1 := Lib.hid hb1
      clear hI1 hN1 hb1 HT
      go_wp2_with fail
      refine (HSE.out w1 _ _ HI1.out HN1.out).mono ?_
      rintro e w2 ⟨g, cg, rfl, hO2, hb2⟩
      have HO2 := Lib.hid (hO2.lower Hb1.out.size)
      have Hb2 := Lib.hid (below_step Hb1.out hb2)
      clear hO2 hb2 HSE HI1 HN1
      go_wp2_with fail
      refine (HOP.out w2 _ _ HO2.out).mono ?_
      rintro e w3 ⟨v3, rfl, hb3⟩
      have Hb3 := Lib.hid (below_step Hb2.out hb3)
      clear hb3
      go_wp2_with fail
      refine (HSU.out w3).mono ?_
      rintro e w4 ⟨rfl, hb4⟩
      have Hb4 := Lib.hid (below_step Hb3.out hb4)
      clear hb4
      go_wp2_with fail
      go_ret
      exact ⟨rfl, Hb4.out⟩
  · have hz1 : ((len : Int) == 0) = false := beq_eq_false_iff_ne.2 (by omega)
    have hz2 : ((b : Int) == 0) = false := beq_eq_false_iff_ne.2 (by omega)
    go_enter Tryd.func4, Tryd.ntmps4
    go_wp2_with fail
    refine (HT.out w HB.out).mono ?_
    rintro e w1 ⟨a1, c1, rfl, hI1, hN1, hb1⟩
    have HI1 := Lib.hid hI1
    have HN1 := Lib.hid hN1
    have Hb1 := Lib.hid hb1
    clear hI1 hN1 hb1 HT
    go_wp2_with fail
    refine (HSE.out w1 _ _ HI1.out HN1.out).mono ?_
    rintro e w2 ⟨g, cg, rfl, hO2, hb2⟩
    have HO2 := Lib.hid (hO2.lower Hb1.out.size)
    have Hb2 := Lib.hid (below_step Hb1.out hb2)
    clear hO2 hb2 HSE HI1 HN1
    go_wp2_with fail
    have hfe : wrap64 ((IntKind.u64.wrap at_).tmod (8 * (len : Int))) = (((at_ % 18446744073709551616).toNat % (8 * len) : Nat) : Int) := first_ at_ len (by omega) (by omega)
    have hflt : (at_ % 18446744073709551616).toNat % (8 * len) < 8 * len := Nat.mod_lt _ (by omega)
    generalize (at_ % 18446744073709551616).toNat % (8 * len) = first at *
    rw [hfe]
    clear hfe
    have HST : Hid (St xs b first 0 (xs ++ four (sm 0 xs))) := Lib.hid (St.start xs b first Hx.out)
    go_loopw [11] (fun iv wr => ∃ (i : Nat) (ys : List Nat), iv = .int .i64 i ∧ i ≤ 32 ∧ Hid (St xs b first i ys) ∧ Hid (Own wr w.heap.size (.slice (some ⟨g, 0, none⟩) (len + 4) cg) ys) ∧ Hid (Below w.heap.size w wr)) (fun iv _ => (32 - intOf iv).toNat)
    case atStart => exact ⟨0, _, rfl, by decide, HST, HO2, Hb2⟩
    case round =>
      obtain ⟨i, ys, rfl, hi, hS, hO, hbw⟩ := hrel
      by_cases h32 : i = 32
      · have hge : decide ((i : Int) < 32) = false := decide_eq_false (by omega)
        have H32 := Lib.hid h32
        clear h32
        have hyl : ys.length = len + 4 := by rw [hS.out.len, HL.out]
        have hcap : len + 4 ≤ cg := by rw [← hyl]; exact own_cap hO.out
        have hcz : (len : Int) ≤ (cg : Int) := by omega
        have HBy := Lib.hid (own_bytes hO.out)
        have HBt := Lib.hid (take_in HBy.out len)
        have hlt : len = (ys.take len).length := by rw [List.length_take]; omega
        have CS : ∀ W', Below wr.heap.size wr W' → (convert 22 9 (.slice (some ⟨g, 0, none⟩) len cg)).run Tryd.prog W' = .ok (.string (bs (ys.take len))) W' := fun W' hW => conv_ W' _ len cg _ hlt (HBt.out.on hW)
        have CB : ∀ W', Below wr.heap.size wr W' → (convert 22 9 (.slice a len c)).run Tryd.prog W' = .ok (.string (bs xs)) W' := fun W' hW => conv_ W' a len c xs HL.out.symm (HB.out.on (below_step hbw.out hW))
        have hlz : (0 : Int) ≤ (len : Int) := by omega
        by_cases hEq : ys.take len = xs
        · rw [hEq] at CS
          clear hEq hlt HBt
          generalize bs xs = s2 at *
          go_wp2_with fail
          refine wp_region_noPanic ?_
          go_region_held (fun W' => Below wr.heap.size wr W') (first | assumption | exact Below.refl _ _ | exact below_drew _) (fail)
          refine NoPanic.normal ?_
          clear CS CB
          have HbD := Lib.hid (below_step hbw.out (below_drew wr))
          generalize wr.drew = wd at *
          go_wp2_with fail
          refine (HSU.out wd).mono ?_
          rintro e w9 ⟨rfl, hb9⟩
          have Hb9 := Lib.hid (below_step HbD.out hb9)
          clear hb9
          go_wp2_with fail
          go_ret
          exact ⟨rfl, Hb9.out⟩
        · have HOP : Hid (∀ W', Below wr.heap.size wr W' → Calls Tryd.prog 7 #[.slice (some ⟨g, 0, none⟩) (len + 4) cg] W' (Opened W' [] 11)) := Lib.hid fun W' hW => by
            have := open_ (some ⟨g, 0, none⟩) ys cg W' (HBy.out.on hW) hS.out.byte (by omega) (by omega)
            rw [hyl, St.told (H32.out ▸ hS.out) Hx.out hb (by rw [HL.out]; exact hflt) (by rw [HL.out]; exact hEq)] at this
            exact this
          have hne : ((bs (ys.take len)).toList == (bs xs).toList) = false := by
            refine beq_false_of_ne fun e => hEq (bs_inj _ _ (fun y hy => hS.out.byte y (List.mem_of_mem_take hy)) Hx.out ?_)
            rw [ByteArray.toList_eq, ByteArray.toList_eq] at e
            exact ByteArray.ext (Array.toList_inj.1 e)
          generalize bs (ys.take len) = s1 at *
          generalize bs xs = s2 at *
          clear hEq hlt HBt
          go_wp2_with fail
          refine wp_region_noPanic ?_
          go_region_held (fun W' => Below wr.heap.size wr W') (first | assumption | exact Below.refl _ _ | exact below_drew _) (fail)
          refine NoPanic.normal ?_
          clear CS CB
          have HOP2 := Lib.hid (HOP.out wr.drew (below_drew wr))
          have HbD := Lib.hid (below_step hbw.out (below_drew wr))
          clear HOP
          generalize wr.drew = wd at *
          go_wp2_with fail
          refine HOP2.out.mono ?_
          rintro e w8 ⟨a8, c8, rfl, _, _, _, hb8⟩
          have Hb8 := Lib.hid (below_step HbD.out hb8)
          clear hb8
          have HN := Lib.hid (num_ 11 w8 (HE.out.on Hb8.out))
          rw [errV_11] at HN ⊢
          rw [List.length_nil]
          go_wp2_with fail
          refine HN.out.mono ?_
          rintro e w9 ⟨rfl, hb9⟩
          have Hb9 := Lib.hid (below_step Hb8.out hb9)
          clear hb9
          go_wp2_with fail
          refine (HSU.out w9).mono ?_
          rintro e w10 ⟨rfl, hb10⟩
          have Hb10 := Lib.hid (below_step Hb9.out hb10)
          clear hb10
          go_wp2_with fail
          go_ret
          exact ⟨rfl, Hb10.out⟩
      · have hlt : decide ((i : Int) < 32) = true := decide_eq_true (by omega)
        obtain ⟨k, hk⟩ : ∃ k, first + i = k := ⟨_, rfl⟩
        have hw : (first : Int) + (i : Int) = (k : Int) := by omega
        have hand := odd_at b i hb
        by_cases ht : b / 2 ^ i % 2 = 1
        · rw [ht, Int.natCast_one] at hand
          by_cases hkl : k < 8 * len
          · have hkd : decide ((k : Int) < 8 * (len : Int)) = true := decide_eq_true (by omega)
            have hj : k / 8 < len := by omega
            have hyl : ys.length = len + 4 := by rw [hS.out.len, HL.out]
            have hO' := own_row hyl hO.out
            have hc1 := hO'.cellAt (k / 8) (by omega)
            rw [vals_get ys (k / 8) (by omega)] at hc1
            have hf1 := hO'.frozenAt (k / 8)
            have hy1 := byte_at hS.out.byte (k / 8)
            have HT1 := Lib.hid (St.turn hS.out (by rw [HL.out, hk]; exact hkl) ht)
            rw [hk] at HT1
            have HO1 := Lib.hid (own_set hyl (ys.getD (k / 8) 0 ^^^ 2 ^ (k % 8)) (k / 8) hO.out)
            have Hg1 := Lib.hid (hbw.out.setCell (p := ⟨g, k / 8, none⟩) (World.ownsRow.lt hO.out g rfl).1 (.int .u8 ((ys.getD (k / 8) 0 ^^^ 2 ^ (k % 8) : Nat) : Int)))
            clear hO'
            have hx8 := bit8 (ys.getD (k / 8) 0) (k % 8) hy1 (Nat.mod_lt _ (by decide))
            generalize ys.getD (k / 8) 0 ^^^ 2 ^ (k % 8) = y' at *
            generalize ys.getD (k / 8) 0 = y at *
            clear hk ht hyl
            go_wp2_with fail
            go_roundw
            case rel => exact ⟨i + 1, _, by go_num, by omega, HT1, HO1, Hg1⟩
            case measure => simp [intOf]; omega
          · have hkd : decide ((k : Int) < 8 * (len : Int)) = false := decide_eq_false (by omega)
            have HT1 := Lib.hid (St.stay hS.out (fun hh => by rw [HL.out, hk] at hh; omega))
            clear hk ht
            go_wp2_with fail
            go_roundw
            case rel => exact ⟨i + 1, _, by go_num, by omega, HT1, hO, hbw⟩
            case measure => simp [intOf]; omega
        · have hand0 : bits .and .u32 ((b : Int) / 2 ^ i) 1 = 0 := by rw [hand]; omega
          have HT1 := Lib.hid (St.stay hS.out (fun _ => by omega))
          clear hk ht hand
          go_wp2_with fail
          go_roundw
          case rel => exact ⟨i + 1, _, by go_num, by omega, HT1, hO, hbw⟩
          case measure => simp [intOf]; omega
end Go.Proofs.YtjgkoamhmmofbaaDoor
