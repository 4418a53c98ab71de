/- The walk of RowBytes. -/
import Derived.Test.YtlldamgnfaikhaaDoorRwLaw
import Derived.Test.YtlldamgnfaikhaaDoorRwDec
import Derived.Test.YtlldamgnfaikhaaDoorRwRDec
import Derived.Test.YtlldamgnfaikhaaDoorOAs
namespace Go.Proofs.YtlldamgnfaikhaaDoor
open Go.RowKit Go.Sort

theorem Own.full {w : World} {base : Nat} {v : Value} {xs : List Nat} (h : Own w base v xs) : ∃ a c, v = .slice a xs.length c ∧ BytesIn w a xs ∧ xs.length ≤ c := by
  rcases h.2 with ⟨rfl, e⟩ | ⟨g, cap, cur, rfl, _, _, h3, _, _, _⟩
  · have : xs = [] := List.eq_nil_of_length_eq_zero e
    subst this
    exact ⟨none, 0, rfl, bytesIn_nil _ _, Nat.le_refl _⟩
  · obtain ⟨a, c', e, hb, _⟩ := h.bytes
    simp only [Value.slice.injEq] at e
    obtain ⟨rfl, _, rfl⟩ := e
    exact ⟨_, _, rfl, hb, h3⟩
/-- A list that was read, and what is told with it. -/
def ReadAt (V : World) (l : List Val) (L : Nat) (EV : Value) (e : Ending) (w' : World) : Prop :=
  ∃ a2 c2, e = .returned (.tuple #[.slice a2 L c2, EV]) ∧ ValsIn w' a2 l ∧ Below V.heap.size V w'
/-- What the program and the document read of bytes. -/
theorem read_both (cs : List Col) (xs : List Nat) : ∃ (l : List Val) (N : Int), l.length ≤ cs.length ∧ (∀ w e w', DecTo w cs xs e w' → ReadAt w l l.length (errV 57 N) e w') ∧ ∀ w e w', DDecTo w cs xs e w' → ReadAt w l l.length (.int .i64 N) e w' := by
  by_cases h : ∃ l, IsRow cs xs l
  · obtain ⟨l, hl⟩ := h
    refine ⟨l, 0, Nat.le_of_eq (chkR_zero hl.1).1, ?_, ?_⟩
    · rintro w e w' ⟨⟨l', a, c, hl', he, hv⟩ | ⟨hno, _⟩, hb⟩
      · obtain rfl := isRow_one hl hl'
        exact ⟨a, c, he, hv, hb⟩
      · exact absurd hl (hno _)
    · rintro w e w' ⟨⟨l', a, c, hl', he, hv⟩ | ⟨hno, _⟩, hb⟩
      · obtain rfl := isRow_one hl hl'
        exact ⟨a, c, he, hv, hb⟩
      · exact absurd hl (hno _)
  · refine ⟨[], 3, Nat.zero_le _, ?_, ?_⟩
    · rintro w e w' ⟨⟨l', a, c, hl', he, hv⟩ | ⟨hno, he⟩, hb⟩
      · exact absurd ⟨l', hl'⟩ h
      · exact ⟨none, 0, he, valsIn_nil _ _, hb⟩
    · rintro w e w' ⟨⟨l', a, c, hl', he, hv⟩ | ⟨hno, he⟩, hb⟩
      · exact absurd ⟨l', hl'⟩ h
      · exact ⟨none, 0, he, valsIn_nil _ _, hb⟩
set_option maxRecDepth 100000 in
set_option maxHeartbeats 2000000 in
theorem law_bytes (nm : ByteArray) (at_ : Option Addr) (ct : Nat) (cs : List Col) (a : Option Addr) (c : Nat) (vs : List Val) (b : Option Addr) (d : Nat) (xs : List Nat) (w : World) (hc : ColsIn w at_ cs) (ha : ValsIn w a vs) (hb : BytesIn w b xs) (hna : a = none → c = 0) (hnb : b = none → d = 0) (hwa : ∀ x ∈ vs, inI x.n) (hxb : ∀ x ∈ xs, x < 256) (hcl : cs.length ≤ 1048576) (hwx : wtV vs ≤ 1048576) (hxl : xs.length ≤ 1048576) (hcap : xs.length ≤ d) (hE : ErrType w) :
    Calls Tryd.prog 3 #[.agg #[.string nm, .slice at_ cs.length ct], .slice a vs.length c, .slice b xs.length d] w fun e w' => e = .returned (.bool true) ∧ Below w.heap.size w w' := by
  have hlx : vs.length ≤ 1048576 := Nat.le_trans (wtV_len vs) hwx
  obtain ⟨W1, hW1⟩ : ∃ W1, W1 = w.alloc (.cells #[.string nm, .slice at_ cs.length ct] 24) := ⟨_, rfl⟩
  have hB1 : Below w.heap.size w W1 := by rw [hW1]; exact below_alloc1 _ _
  have hT1 : InT W1 w.heap.size nm at_ cs.length ct := by rw [hW1]; exact inT_new _ _ _ _ _ _
  have HC := Lib.hid (hc.on hB1)
  have HA := Lib.hid (ha.on hB1)
  have HX := Lib.hid (hb.on hB1)
  have HB1 := Lib.hid hB1
  have HT1 : Hid (TabAt w.heap.size nm at_ cs.length ct W1 W1) := ⟨hT1, Below.refl _ _⟩
  have HTW : Hid (∀ V, Below W1.heap.size W1 V → TabAt w.heap.size nm at_ cs.length ct W1 V) := fun V hV => HT1.out.on hV
  have HW1 := Lib.hid hW1
  have HEr := Lib.hid (hE.on hB1)
  obtain ⟨l, N, hll, hrd, hrr⟩ := read_both cs xs
  have HTA : Hid (∀ V, TabAt w.heap.size nm at_ cs.length ct W1 V → Calls Tryd.prog 7 #[.slice a vs.length c] V (TwinAt V vs.length vs)) := fun V hV => twinAt HA.out hlx hna hV.2
  have HEA : Hid (∀ V a' c', TabAt w.heap.size nm at_ cs.length ct W1 V → ValsIn V a' vs → Calls Tryd.prog 6 #[.agg #[.string nm, .slice at_ cs.length ct], .slice a' vs.length c'] V (EncAt V (if chkR cs vs = 0 then rowB vs else []).length (if chkR cs vs = 0 then rowB vs else []) (errV 57 (chkR cs vs)))) := fun V a' c' hV h => encAt HC.out hV.2 h hwa hcl hwx
  have HER : Hid (∀ V, Below W1.heap.size W1 V → Calls Tryd.prog 8 #[.agg #[.string nm, .slice at_ cs.length ct], .slice a vs.length c] V (EncAt V (if chkR cs vs = 0 then rowB vs else []).length (if chkR cs vs = 0 then rowB vs else []) (.int .i64 (chkR cs vs)))) := fun V hV => (dencode_ nm at_ ct cs a c vs V (HC.out.on hV) (HA.out.on hV) hwa hcl hlx).mono fun e w' ⟨v, he, ho, hb⟩ => by
    obtain ⟨a1, c1, rfl, hin, _⟩ := ho.bytes
    exact ⟨a1, c1, he, hin, hb⟩
  have HDA : Hid (∀ V a1 c1, Below W1.heap.size W1 V → BytesIn V a1 xs ∧ xs.length ≤ c1 → Calls Tryd.prog 9 #[.agg #[.string nm, .slice at_ cs.length ct], .slice a1 xs.length c1] V (ReadAt V l l.length (errV 57 N))) := fun V a1 c1 hV h => (rdecode_ nm at_ ct cs a1 c1 xs V (HC.out.on hV) h.1 hxb hcl (by omega) h.2).mono fun e w' hh => hrd _ _ _ hh
  have HDR : Hid (∀ V, Below W1.heap.size W1 V → Calls Tryd.prog 10 #[.agg #[.string nm, .slice at_ cs.length ct], .slice b xs.length d] V (ReadAt V l l.length (.int .i64 N))) := fun V hV => (ddecode_ nm at_ ct cs b d xs V (HC.out.on hV) (HX.out.on hV) hxb hcl (by omega) hcap).mono fun e w' hh => hrr _ _ _ hh
  have HVL : Hid (∀ V a2 c2 a3 c3, ValsIn V a2 l → ValsIn V a3 l → Calls Tryd.prog 12 #[.slice a2 l.length c2, .slice a3 l.length c3] V fun e w' => e = .returned (.bool true) ∧ Below V.heap.size V w') := fun V a2 c2 a3 c3 h2 h3 => (values_ a2 a3 c2 c3 l l V h2 h3 (by omega) (by omega)).mono fun e w' ⟨r, he, hr, hb⟩ => ⟨by rw [he, hr.2 rfl], hb⟩
  have HN1 : Hid (∀ V, Below W1.heap.size W1 V → Calls Tryd.prog 11 #[errV 57 (chkR cs vs)] V fun e w' => e = .returned (.int .i64 (chkR cs vs)) ∧ Below V.heap.size V w') := fun V hV => num_ _ V (HEr.out.on hV)
  have HN2 : Hid (∀ V, Below W1.heap.size W1 V → Calls Tryd.prog 11 #[errV 57 N] V fun e w' => e = .returned (.int .i64 N) ∧ Below V.heap.size V w') := fun V hV => num_ _ V (HEr.out.on hV)
  have HSu : Hid (∀ V, Below W1.heap.size W1 V → Calls Tryd.prog 13 #[] V fun e w' => e = .returned (.bool true) ∧ Below V.heap.size V w') := fun V hV => sure_ V (HEr.out.on hV)
  have HK : Hid (∀ V V', TabAt w.heap.size nm at_ cs.length ct W1 V → Below V.heap.size V V' → TabAt w.heap.size nm at_ cs.length ct W1 V') := fun V V' h hb => h.on hb
  obtain ⟨L, hL⟩ : ∃ L, vs.length = L := ⟨_, rfl⟩
  obtain ⟨C, hC⟩ : ∃ C, cs.length = C := ⟨_, rfl⟩
  obtain ⟨n, hn⟩ : ∃ n, xs.length = n := ⟨_, rfl⟩
  obtain ⟨B, hB⟩ : ∃ B, w.heap.size = B := ⟨_, rfl⟩
  have HNn := Lib.hid hn
  have HNb := Lib.hid hnb
  rw [hL, hC] at HTA HEA HER
  rw [hC, hn] at HDA HDR
  rw [hC] at HT1 HK HW1 HTW
  rw [hn] at hxl
  rw [hL, hC, hn]
  clear hc ha hb hna hnb hwa hwx hE hB1 hT1 hW1 hL hC hn hcl hlx hrd hrr hll hxb hcap
  generalize (if chkR cs vs = 0 then rowB vs else []) = XB at *
  obtain ⟨xl, hxl2⟩ : ∃ xl, XB.length = xl := ⟨_, rfl⟩
  have HXL := Lib.hid hxl2
  rw [hxl2] at HEA HER
  generalize errV 57 (chkR cs vs) = e1 at *
  generalize chkR cs vs = E1 at *
  generalize errV 57 N = e2 at *
  generalize l.length = ll at *
  clear hxl2
  go_enter Tryd.func3, Tryd.ntmps3
  go_wp2_with (first
    | (at_builtin; rw [← HW1.out]; refine wpList_append_bytes _ rfl _ _ rfl W1.heap.size (.slice none 0 0) [] xs rfl (own_nil _ _) b n d rfl HNn.out HNb.out HX.out (by rw [HNn.out]; simp; omega) (Nat.le_refl _) ?_
       intro v1 w2 hown hg
       have HO1 : Hid (Own w2 W1.heap.size v1 xs) := hown
       have HB2 : Hid (Below W1.heap.size W1 w2) := below_grow (Nat.le_refl _) (Below.refl _ _) (own_nil _ _) hg
       clear hown hg)
    | fail)
  rw [hB] at HT1 HTA HEA HK HTW
  have HBe := Lib.hid hB
  clear HW1 hB HT1
  obtain ⟨am, cm, rfl, hinm, hcapm⟩ := HO1.out.full
  rw [HNn.out]
  rw [HNn.out] at hcapm
  have HM2 := Lib.hid hinm
  have HCm := Lib.hid hcapm
  have HS1 := Lib.hid (HTW.out _ (below_step HB2.out (below_drew w2)))
  clear HO1 hinm hcapm
  refine wp_region_noPanic ?_
  go_region_held (fun V => (V.cell? ⟨B, 0, none⟩ = some (.string nm) ∧ V.cell? ⟨B, 1, none⟩ = some (.slice at_ C ct)) ∧ Below W1.heap.size W1 V)
    (first | (exact HS1.out) | (exact HK.out _ _ (by assumption) (by assumption)))
    (first
      | (go_at_call 7; refine (HTA.out _ (by assumption)).mono ?_; rintro e wt1 ⟨a', c', rfl, hvt, hbt⟩)
      | (go_at_call 6; refine (HEA.out _ _ _ (by assumption) (by assumption)).mono ?_; rintro e we1 ⟨a1, c1, rfl, hin1, hbe⟩)
      | fail)
  refine NoPanic.normal ?_
  have HT2 : Hid (TabAt B nm at_ C ct W1 we1) := (by assumption : (we1.cell? ⟨B, 0, none⟩ = some (.string nm) ∧ we1.cell? ⟨B, 1, none⟩ = some (.slice at_ C ct)) ∧ Below W1.heap.size W1 we1)
  have hbn : Below w2.heap.size w2 we1 := below_step (below_step (below_drew w2) hbt) hbe
  have HM3 := Lib.hid (HM2.out.on hbn)
  have HI3 := Lib.hid hin1
  have HRE := Lib.hid (HER.out we1 HT2.out.2)
  obtain ⟨⟨s0, s1⟩, _⟩ := HT2.out
  clear HS1 hvt hbt hbe hin1 HEA HTA HER HM2 hbn
  go_wp2_with fail
  refine HRE.out.mono ?_
  rintro e w3 ⟨a3, c3, rfl, hin3, hb3⟩
  have HT3 := Lib.hid (HK.out _ _ HT2.out hb3)
  have HM4 := Lib.hid (HM3.out.on hb3)
  have HI4 := Lib.hid (HI3.out.on hb3)
  have HJ4 := Lib.hid hin3
  have HDD := Lib.hid (HDA.out w3 am cm HT3.out.2 ⟨HM4.out, HCm.out⟩)
  clear s0 s1
  obtain ⟨⟨s0, s1⟩, _⟩ := HT3.out
  clear HRE hin3 hb3 HT2 HM3 HI3 HDA
  go_wp2_with fail
  refine HDD.out.mono ?_
  rintro e w4 ⟨a4, c4, rfl, hv4, hb4⟩
  have HT4 := Lib.hid (HK.out _ _ HT3.out hb4)
  have HM5 := Lib.hid (HM4.out.on hb4)
  have HI5 := Lib.hid (HI4.out.on hb4)
  have HJ5 := Lib.hid (HJ4.out.on hb4)
  have HV5 := Lib.hid hv4
  have HDD2 := Lib.hid (HDR.out w4 HT4.out.2)
  clear s0 s1
  obtain ⟨⟨s0, s1⟩, _⟩ := HT4.out
  clear HDD hv4 hb4 HT3 HM4 HI4 HJ4 HDR
  go_wp2_with fail
  refine HDD2.out.mono ?_
  rintro e w5 ⟨a5, c5, rfl, hv5, hb5⟩
  have HT5 := Lib.hid (HK.out _ _ HT4.out hb5)
  have HM6 := Lib.hid (HM5.out.on hb5)
  have hcx := conv_ w5 a1 xl c1 XB HXL.out.symm (HI5.out.on hb5)
  have hcy := conv_ w5 a3 xl c3 XB HXL.out.symm (HJ5.out.on hb5)
  have HVV : Hid (∀ V, Below w5.heap.size w5 V → Calls Tryd.prog 12 #[.slice a4 ll c4, .slice a5 ll c5] V fun e w' => e = .returned (.bool true) ∧ Below V.heap.size V w') := fun V hV => HVL.out V a4 c4 a5 c5 ((HV5.out.on hb5).on hV) (hv5.on hV)
  have HNA : Hid (∀ V, Below w5.heap.size w5 V → Calls Tryd.prog 11 #[e1] V fun e w' => e = .returned (.int .i64 E1) ∧ Below V.heap.size V w') := fun V hV => HN1.out V (below_step HT5.out.2 hV)
  have HNB : Hid (∀ V, Below w5.heap.size w5 V → Calls Tryd.prog 11 #[e2] V fun e w' => e = .returned (.int .i64 N) ∧ Below V.heap.size V w') := fun V hV => HN2.out V (below_step HT5.out.2 hV)
  have HSS : Hid (∀ V, Below w5.heap.size w5 V → Calls Tryd.prog 13 #[] V fun e w' => e = .returned (.bool true) ∧ Below V.heap.size V w') := fun V hV => HSu.out V (below_step HT5.out.2 hV)
  have HBz : Hid (Below w.heap.size w w5) := below_step HB1.out HT5.out.2
  have HX5 := Lib.hid (HX.out.on HT5.out.2)
  generalize bs XB = SX at *
  have hst : (SX.toList == SX.toList) = true := by simp
  have hee : (E1 == E1) = true := by simp
  have hnn : (N == N) = true := by simp
  clear s0 s1 HDD2 hv5 hb5 HT4 HM5 HI5 HJ5 HVL HV5 HN1 HN2 HSu HTW HK
  go_wp2_with fail
  refine (HNA.out _ (Below.refl _ _)).mono ?_
  rintro e w6 ⟨rfl, hb6⟩
  have HB6 := Lib.hid hb6
  clear hb6 hcx hcy HNA
  go_wp2_with fail
  refine (HVV.out _ HB6.out).mono ?_
  rintro e w7 ⟨rfl, hb7⟩
  have HB7 := Lib.hid (below_step HB6.out hb7)
  clear hb7 HB6 HVV
  go_wp2_with fail
  refine (HNB.out _ HB7.out).mono ?_
  rintro e w8 ⟨rfl, hb8⟩
  have HB8 := Lib.hid (below_step HB7.out hb8)
  have hcm := conv_ w8 am n cm xs HNn.out.symm (HM6.out.on HB8.out)
  have hcb := conv_ w8 b n d xs HNn.out.symm (HX5.out.on HB8.out)
  generalize bs xs = SB at *
  have hsb : (SB.toList == SB.toList) = true := by simp
  clear hb8 HB7 HNB
  go_wp2_with fail
  refine (HSS.out _ HB8.out).mono ?_
  rintro e w9 ⟨rfl, hb9⟩
  have HB9 := Lib.hid (below_step (below_step HBz.out HB8.out) hb9)
  clear hb9 hcm hcb
  go_wp2_with fail
  go_ret
  exact ⟨rfl, HB9.out⟩
end Go.Proofs.YtlldamgnfaikhaaDoor
