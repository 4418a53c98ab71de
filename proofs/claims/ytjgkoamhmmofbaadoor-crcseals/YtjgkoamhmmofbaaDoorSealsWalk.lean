/- The walk of the law CrcSeals. -/
import Derived.Test.YtjgkoamhmmofbaaDoorRefSeal
import Derived.Test.YtjgkoamhmmofbaaDoorAs
namespace Go.Proofs.YtjgkoamhmmofbaaDoor
open Go.RowKit Go.Sort

theorem errV_not {n : Nat} (h : n ≠ 0) : errV n = .iface 38 (.int .i64 n) := if_neg h
theorem num_ (e : Nat) (w : World) (hg : ErrType w) : Calls Tryd.prog 10 #[errV e] w fun r w' => r = .returned (.int .i64 e) ∧ Below w.heap.size w w' := by
  by_cases h : e = 0
  · subst h
    exact num11_nil w
  · rw [errV_not h]
    exact num11 e w hg
theorem own_row {w : World} {base n : Nat} {v : Value} {ys : List Nat} (h : ys.length = n) (hO : Own w base v ys) : w.ownsRow base 5 1 v n (vals ys) := by
  subst h
  exact hO
theorem own_set {w : World} {base g n c : Nat} {ys : List Nat} (h : ys.length = n) (y j : Nat) (hO : Own w base (.slice (some ⟨g, 0, none⟩) n c) ys) : Own (w.setCell ⟨g, j, none⟩ (.int .u8 (y : Int))) base (.slice (some ⟨g, 0, none⟩) n c) (ys.set j y) := by
  have := ((own_row h hO).stored j (.int .u8 (y : Int))).1
  unfold Own
  rw [List.length_set, h, show vals (ys.set j y) = (vals ys).set j (.int .u8 (y : Int)) by simp [vals, List.map_set]]
  exact this
theorem own_cap {w : World} {base n c : Nat} {a : Option Addr} {xs : List Nat} (h : Own w base (.slice a n c) xs) : xs.length ≤ c := by
  rcases h.2 with ⟨h', e⟩ | ⟨g', cap', cur, h', _, _, hnc, _⟩
  · cases h'
    omega
  · cases h'
    exact hnc
theorem own_form {w : World} {base n c : Nat} {a : Option Addr} {xs : List Nat} (h : Own w base (.slice a n c) xs) (hp : 0 < xs.length) : ∃ g, a = some ⟨g, 0, none⟩ ∧ base ≤ g := by
  rcases h.2 with ⟨_, e⟩ | ⟨g', cap', cur, h', hb, _⟩
  · omega
  · simp only [Value.slice.injEq] at h'
    exact ⟨g', h'.1, hb⟩
theorem opn_byte (xs : List Nat) (hx : ∀ x ∈ xs, x < 256) : ∀ x ∈ (opn xs).1, x < 256 := by
  unfold opn
  intro x hm
  split at hm
  · simp at hm
  · split at hm
    · exact hx x (List.mem_of_mem_take hm)
    · simp at hm
theorem opn_len (xs : List Nat) : (opn xs).1.length ≤ xs.length := by
  unfold opn
  split
  · simp
  · split
    · rw [List.length_take]; omega
    · simp
theorem turn8 (y : Nat) (hy : y < 256) : bits .xor .u8 (y : Int) 255 = ((y ^^^ 255 : Nat) : Int) := u8_xor_nat y 255 hy (by decide)
set_option maxRecDepth 100000 in
set_option maxHeartbeats 4000000 in
theorem seals_ (a : Option Addr) (xs : List Nat) (c : Nat) (w : World) (h : BytesIn w a xs) (hx : ∀ x ∈ xs, x < 256) (hc : a = none → c = 0) (hcap : xs.length ≤ c) (hlim : xs.length ≤ 140737488351232) (hE : ErrType w) :
    Calls Tryd.prog 3 #[.slice a xs.length c] w fun e w' => e = .returned (.bool true) ∧ Below w.heap.size w w' := by
  have HB := Lib.hid h
  have HE := Lib.hid hE
  have hlS : (xs ++ four (sm 0 xs)).length = xs.length + 4 := by rw [List.length_append, four_length]
  have HLO := Lib.hid (opn_len xs)
  have HBO := Lib.hid (opn_byte xs hx)
  have HT : Hid (∀ W, BytesIn W a xs → Calls Tryd.prog 5 #[.slice a xs.length c] W (Made W xs)) := Lib.hid fun W hW => twin_ a xs c W hW hc (by omega)
  have HSE : Hid (∀ W a' c', BytesIn W a' xs → (a' = none → c' = 0) → Calls Tryd.prog 6 #[.slice a' xs.length c'] W fun e w' => ∃ a' c', e = .returned (.slice a' (xs.length + 4) c') ∧ BytesIn w' a' (xs ++ four (sm 0 xs)) ∧ Below W.heap.size W w') := Lib.hid fun W a' c' hW hN => by
    refine (seal_ a' xs c' W hW hx hN (by omega)).mono fun e w' hh => ?_
    obtain ⟨a', c', h1, _, h3, _, h5⟩ := hh
    rw [hlS] at h1
    exact ⟨a', c', h1, h3, h5⟩
  have HOP : Hid (∀ W a' c', BytesIn W a' xs → xs.length ≤ c' → Calls Tryd.prog 7 #[.slice a' xs.length c'] W (Opened W (opn xs).1 (opn xs).2)) := Lib.hid fun W a' c' hW hcp => open_ a' xs c' W hW hx hcp (by omega)
  have HRO : Hid (∀ W, BytesIn W a xs → Calls Tryd.prog 8 #[.slice a xs.length c] W (ROpened W (opn xs).1 (opn xs).2)) := Lib.hid fun W hW => ropen_ a xs c W hW hx hc hcap (by omega)
  have HRS : Hid (∀ W, BytesIn W a xs → Calls Tryd.prog 9 #[.slice a xs.length c] W fun e w' => ∃ a' c', e = .returned (.slice a' (xs.length + 4) c') ∧ (convert 22 9 (.slice a' (xs.length + 4) c')).run Tryd.prog w' = .ok (.string (bs (xs ++ four (sm 0 xs)))) w' ∧ Below W.heap.size W w') := Lib.hid fun W hW => by
    refine (rseal_ a xs c W hW hx hc (by omega)).mono fun e w' hh => ?_
    obtain ⟨a', c', h1, _, h3, _, h5⟩ := hh
    rw [hlS] at h1
    exact ⟨a', c', h1, conv_ w' a' (xs.length + 4) c' _ hlS.symm h3, h5⟩
  have HN : Hid (∀ W, ErrType W → Calls Tryd.prog 10 #[errV (opn xs).2] W fun r w' => r = .returned (.int .i64 ((opn xs).2 : Nat)) ∧ Below W.heap.size W w') := Lib.hid fun W hW => num_ _ W hW
  have HSU : Hid (∀ W, Calls Tryd.prog 11 #[] W fun e w' => e = .returned (.bool true) ∧ Below W.heap.size W w') := sure_
  have HLS := Lib.hid hlS
  clear h hx hc hE hlS hcap
  generalize xs ++ four (sm 0 xs) = S at *
  generalize (opn xs).1 = ys at *
  obtain ⟨ev, hev⟩ : ∃ ev, errV (opn xs).2 = ev := ⟨_, rfl⟩
  rw [hev] at HN
  generalize (opn xs).2 = er at *
  have HEV := Lib.hid hev
  clear hev
  obtain ⟨len, hlen⟩ : ∃ len, xs.length = len := ⟨_, rfl⟩
  rw [hlen] at hlim HLO HT HSE HOP HRO HRS HLS ⊢
  have HL := Lib.hid hlen
  clear hlen
  obtain ⟨ly, hly⟩ : ∃ ly, ys.length = ly := ⟨_, rfl⟩
  rw [hly] at HLO
  have HLY := Lib.hid hly
  clear hly
  have hlyl := HLO.out
  go_enter Tryd.func3, Tryd.ntmps3
  go_wp2_with fail
  refine (HT.out w HB.out).mono ?_
  rintro e w1 ⟨a1, c1, rfl, hO1, hI1, hN1, hb1⟩
  have HI1 := Lib.hid hI1
  have HN1 := Lib.hid hN1
  have Hb1 := Lib.hid hb1
  have hc1 : len ≤ c1 := by have := own_cap hO1; rw [HL.out] at this; exact this
  clear hO1 hI1 hN1 hb1 HT
  rw [HL.out]
  go_wp2_with fail
  refine (HSE.out w1 _ _ HI1.out HN1.out).mono ?_
  rintro e w2 ⟨a2, c2, rfl, hI2, hb2⟩
  have HI2 := Lib.hid hI2
  have HI12 := Lib.hid (HI1.out.on hb2)
  have Hb2 := Lib.hid (below_step Hb1.out hb2)
  clear hI2 hb2 HSE HI1 Hb1
  go_wp2_with fail
  refine (HOP.out w2 _ _ HI12.out hc1).mono ?_
  rintro e w3 ⟨a3, c3, rfl, hO3, hI3, hN3, hb3⟩
  have HO3 := Lib.hid hO3
  have HI3 := Lib.hid hI3
  have Hb3 := Lib.hid hb3
  clear hO3 hI3 hN3 hb3 HOP
  rw [HLY.out, HEV.out]
  rw [HLY.out] at HO3
  go_wp2_with fail
  refine (HRO.out w3 (HB.out.on (below_step Hb2.out Hb3.out))).mono ?_
  rintro e w4 ⟨a4, c4, rfl, hI4, hb4⟩
  have HI4 := Lib.hid hI4
  have HO4 := Lib.hid (HO3.out.on hb4)
  have HI34 := Lib.hid (HI3.out.on hb4)
  have Hb4 := Lib.hid (below_step Hb3.out hb4)
  clear hI4 hb4 HRO HO3 HI3 Hb3
  rw [HLY.out]
  go_wp2_with fail
  have HbA := Lib.hid (below_step Hb2.out Hb4.out)
  have Cs : ∀ W', Below w4.heap.size w4 W' → (convert 22 9 (.slice a2 (len + 4) c2)).run Tryd.prog W' = .ok (.string (bs S)) W' := fun W' hW => conv_ W' a2 (len + 4) c2 S HLS.out.symm (HI2.out.on (below_step Hb4.out hW))
  have Co : ∀ W', Below w4.heap.size w4 W' → (convert 22 9 (.slice a3 ly c3)).run Tryd.prog W' = .ok (.string (bs ys)) W' := fun W' hW => conv_ W' a3 ly c3 ys HLY.out.symm (HI34.out.on hW)
  have Cp : ∀ W', Below w4.heap.size w4 W' → (convert 22 9 (.slice a4 ly c4)).run Tryd.prog W' = .ok (.string (bs ys)) W' := fun W' hW => conv_ W' a4 ly c4 ys HLY.out.symm (HI4.out.on hW)
  have Cm : ∀ W', Below w4.heap.size w4 W' → (convert 22 9 (.slice a1 len c1)).run Tryd.prog W' = .ok (.string (bs xs)) W' := fun W' hW => conv_ W' a1 len c1 xs HL.out.symm (HI12.out.on (below_step Hb4.out hW))
  have Cb : ∀ W', Below w4.heap.size w4 W' → (convert 22 9 (.slice a len c)).run Tryd.prog W' = .ok (.string (bs xs)) W' := fun W' hW => conv_ W' a len c xs HL.out.symm (HB.out.on (below_step HbA.out hW))
  have HM : Hid (∀ W', Below w2.heap.size w2 W' → (convert 22 9 (.slice a1 len c1)).run Tryd.prog W' = .ok (.string (bs xs)) W' ∧ (convert 22 9 (.slice a len c)).run Tryd.prog W' = .ok (.string (bs xs)) W') := Lib.hid fun W' hW => ⟨conv_ W' a1 len c1 xs HL.out.symm (HI12.out.on hW), conv_ W' a len c xs HL.out.symm (HB.out.on (below_step Hb2.out hW))⟩
  generalize bs S = sS at *
  generalize bs ys = sy at *
  generalize bs xs = sx at *
  refine wp_region_noPanic ?_
  go_region_held (fun W' => Below w4.heap.size w4 W') (first | assumption | exact Below.refl _ _ | exact below_drew _ | exact below_step (by assumption) (by assumption))
    (first
      | (go_at_call 9; refine (HRS.out _ (HB.out.on (below_step HbA.out (by assumption)))).mono ?_; rintro e w' ⟨a', c', rfl, hcv, hbb⟩)
      | (go_at_call 10; refine (HN.out _ (HE.out.on (below_step HbA.out (by assumption)))).mono ?_; rintro e w' ⟨rfl, hbb⟩)
      | fail)
  refine NoPanic.normal ?_
  rename World => w5
  have hbE : Below w4.heap.size w4 w5 := by assumption
  have HO5 := Lib.hid (HO4.out.on hbE)
  have Hb5 := Lib.hid (below_step Hb4.out hbE)
  clear hbE Cs Co Cp Cm Cb HO4 HI4 HI34 HI2 HI12 Hb4 HbA HRS HN
  go_wp2_with fail
  go_loopw [10] (fun iv wr => ∃ (i : Nat) (zs : List Nat), iv = .int .i64 i ∧ i ≤ ly ∧ Hid (zs.length = ly) ∧ Hid (∀ z ∈ zs, z < 256) ∧ Hid (Own wr w2.heap.size (.slice a3 ly c3) zs) ∧ Hid (Below w2.heap.size w2 wr)) (fun iv _ => ((ly : Int) - intOf iv).toNat)
  case atStart => exact ⟨0, ys, rfl, Nat.zero_le _, HLY, HBO, HO5, Hb5⟩
  case round =>
    obtain ⟨i, zs, rfl, hi, hzl, hzb, hO, hb⟩ := hrel
    by_cases hil : i = ly
    · have hge : decide (i < ly) = false := decide_eq_false (by omega)
      clear hil
      obtain ⟨hcm, hcb⟩ := HM.out wr hb.out
      go_wp2_with fail
      refine (HSU.out wr).mono ?_
      rintro e w9 ⟨rfl, hb9⟩
      have Hb9 := Lib.hid (Hb2.out.trans ((hb.out.mono Hb2.out.size).trans (hb9.mono (Nat.le_trans Hb2.out.size hb.out.size))))
      clear hb9 hcm hcb
      go_wp2_with fail
      go_ret
      exact ⟨rfl, Hb9.out⟩
    · have hlt : decide (i < ly) = true := decide_eq_true (by omega)
      obtain ⟨g, rfl, hg⟩ := own_form hO.out (by rw [hzl.out]; omega)
      have hO' := own_row hzl.out hO.out
      have hc1 := hO'.cellAt i (by omega)
      rw [vals_get zs i (by rw [hzl.out]; omega)] at hc1
      have hf1 := hO'.frozenAt i
      have hy1 := byte_at hzb.out i
      have HO1 := Lib.hid (own_set hzl.out (zs.getD i 0 ^^^ 255) i hO.out)
      have Hg1 := Lib.hid (hb.out.setCell (p := ⟨g, i, none⟩) hg (.int .u8 ((zs.getD i 0 ^^^ 255 : Nat) : Int)))
      have HB1 : Hid (∀ z ∈ zs.set i (zs.getD i 0 ^^^ 255), z < 256) := Lib.hid fun z hz => by
        rcases List.mem_or_eq_of_mem_set hz with h' | h'
        · exact hzb.out z h'
        · rw [h']; exact Nat.xor_lt_two_pow (n := 8) hy1 (by decide)
      have HL1 : Hid ((zs.set i (zs.getD i 0 ^^^ 255)).length = ly) := Lib.hid (by rw [List.length_set]; exact hzl.out)
      have hx8 := turn8 (zs.getD i 0) hy1
      have hil2 : ((i : Int) < (ly : Int)) := by omega
      generalize zs.getD i 0 ^^^ 255 = y' at *
      generalize zs.getD i 0 = y at *
      clear hO'
      go_wp2_with fail
      go_roundw
      case rel => exact ⟨i + 1, _, by go_num, by omega, HL1, HB1, HO1, Hg1⟩
      case measure => simp [intOf]; omega
end Go.Proofs.YtjgkoamhmmofbaaDoor
