/- The walk of TableChecks. -/
import Derived.Test.YtlgnllnjhpihdaaDoorTbColumn
import Derived.Test.YtlgnllnjhpihdaaDoorTbRText
import Derived.Test.YtlgnllnjhpihdaaDoorTbLaw
import Derived.Test.YtlgnllnjhpihdaaDoorTbAs
namespace Go.Proofs.YtlgnllnjhpihdaaDoor
open Go.RowKit Go.Sort

/-- The law's two tables lie in their blocks. -/
def TwoT (B B5 : Nat) (nm : ByteArray) (at_ : Option Addr) (C ct : Nat) (a2 : Option Addr) (c2 : Nat) (W3 V : World) : Prop :=
  ((V.cell? ⟨B, 0, none⟩ = some (.string nm) ∧ V.cell? ⟨B, 1, none⟩ = some (.slice at_ C ct)) ∧ V.cell? ⟨B5, 0, none⟩ = some (.string nm) ∧ V.cell? ⟨B5, 1, none⟩ = some (.slice a2 C c2)) ∧ Below W3.heap.size W3 V
theorem TwoT.on {B B5 : Nat} {nm : ByteArray} {at_ : Option Addr} {C ct : Nat} {a2 : Option Addr} {c2 : Nat} {W3 V V' : World} (h : TwoT B B5 nm at_ C ct a2 c2 W3 V) (hb : Below V.heap.size V V') : TwoT B B5 nm at_ C ct a2 c2 W3 V' :=
  ⟨⟨InT.on h.1.1 hb, InT.on h.1.2 hb⟩, below_step h.2 hb⟩
set_option maxRecDepth 100000 in
set_option maxHeartbeats 4000000 in
theorem law_checks (nm : ByteArray) (at_ : Option Addr) (ct : Nat) (cs : List Col) (s : ByteArray) (w : World) (hc : ColsIn w at_ cs) (hnil : at_ = none → ct = 0) (hcl : cs.length * 32 ≤ 140737488355328) (hsn : nm.size ≤ 140737488355328) (hsc : ∀ c ∈ cs, c.nm.size ≤ 140737488355328) (hs : s.size ≤ 140737488355328) (hm : MaxAt w) (hE : ErrType w) :
    Calls Tryd.prog 3 #[.agg #[.string nm, .slice at_ cs.length ct], .string s] w fun e w' => e = .returned (.bool true) ∧ Below w.heap.size w w' := by
  obtain ⟨W1, hW1⟩ : ∃ W1, W1 = w.alloc (.cells #[.string nm, .slice at_ cs.length ct] 24) := ⟨_, rfl⟩
  have hB1 : Below w.heap.size w W1 := by rw [hW1]; exact below_alloc1 _ _
  have HT1 : Hid (InT W1 w.heap.size nm at_ cs.length ct) := by show InT _ _ _ _ _ _; rw [hW1]; exact inT_new _ _ _ _ _ _
  have HB1 := Lib.hid hB1
  have HW1 := Lib.hid hW1.symm
  have HC1 := Lib.hid (hc.on hB1)
  have HTw := Lib.hid (twinAt (nm := nm) (hc.on hB1) hnil hcl (Below.refl W1.heap.size W1))
  have HM := Lib.hid (hm.on hB1)
  have HEr := Lib.hid (hE.on hB1)
  have HSz : Hid (cs.length ≤ 140737488355328) := by show _ ≤ _; omega
  have HSn := Lib.hid hsn
  have HSc := Lib.hid hsc
  have HNm : Hid (∀ V, Calls Tryd.prog 12 #[.string s] V fun e w' => e = .returned (.bool (nameL (lst s))) ∧ w' = V) := fun V => name_ s V
  have HRn : Hid (∀ V, Calls Tryd.prog 13 #[.string s] V fun e w' => e = .returned (.bool (nameL (lst s))) ∧ Below V.heap.size V w') := fun V => rname_ s V hs
  have HRs : Hid (∀ V, Calls Tryd.prog 14 #[.string s] V fun e w' => e = .returned (.bool (resL (lst s))) ∧ w' = V) := fun V => reserved_ s V
  have HRr : Hid (∀ V, Calls Tryd.prog 15 #[.string s] V fun e w' => e = .returned (.bool (resL (lst s))) ∧ Below V.heap.size V w') := fun V => rreserved_ s V
  generalize nameL (lst s) = n1 at *
  generalize resL (lst s) = n2 at *
  obtain ⟨t0, t1⟩ := HT1.out
  clear hc hnil hcl hsn hsc hs hm hE hB1 hW1
  go_enter Tryd.func3, Tryd.ntmps3
  go_wp2_with fail
  rw [HW1.out]
  go_wp2_with fail
  refine HTw.out.mono ?_
  rintro e w2 ⟨a2, c2, rfl, ⟨h2, hn2⟩, hb2⟩
  obtain ⟨W3, hW3⟩ : ∃ W3, W3 = w2.alloc (.cells #[.string nm, .slice a2 cs.length c2] 24) := ⟨_, rfl⟩
  have hb3 : Below w2.heap.size w2 W3 := by rw [hW3]; exact below_alloc1 _ _
  have hb13 := below_step hb2 hb3
  have HT3 : Hid (TwoT w.heap.size w2.heap.size nm at_ cs.length ct a2 c2 W3 W3) := ⟨⟨HT1.out.on hb13, by rw [hW3]; exact inT_new _ _ _ _ _ _⟩, Below.refl _ _⟩
  have HW3 := Lib.hid hW3.symm
  have HB3 := Lib.hid (below_step HB1.out hb13)
  have HA := Lib.hid (HC1.out.on hb13)
  have HD := Lib.hid (h2.on hb3)
  have HM3 := Lib.hid (HM.out.on hb13)
  have HE3 := Lib.hid (HEr.out.on hb13)
  have HTx : Hid (∀ V, TwoT w.heap.size w2.heap.size nm at_ cs.length ct a2 c2 W3 V → Calls Tryd.prog 8 #[.agg #[.string nm, .slice a2 cs.length c2]] V fun e w' => e = .returned (.tuple #[.string (txtS ⟨nm, cs⟩), errV 63 (chkT ⟨nm, cs⟩)]) ∧ Below V.heap.size V w') := fun V hV => ttext_ nm a2 c2 cs V (HD.out.on hV.2) hn2 HSz.out
  have HRt : Hid (∀ V, TwoT w.heap.size w2.heap.size nm at_ cs.length ct a2 c2 W3 V → Calls Tryd.prog 9 #[.agg #[.string nm, .slice at_ cs.length ct]] V fun e w' => e = .returned (.tuple #[.string (txtS ⟨nm, cs⟩), .int .i64 (chkT ⟨nm, cs⟩)]) ∧ Below V.heap.size V w') := fun V hV => rtext_ nm at_ ct cs V (HA.out.on hV.2) HSn.out HSc.out
  have HCo : Hid (∀ V, TwoT w.heap.size w2.heap.size nm at_ cs.length ct a2 c2 W3 V → Calls Tryd.prog 10 #[.agg #[.string nm, .slice a2 cs.length c2], .string s] V fun e w' => e = .returned (.tuple #[.int .i64 (colI s cs), errV 63 (colX s cs)]) ∧ Below V.heap.size V w') := fun V hV => tcolumn_ nm a2 c2 cs s V (HD.out.on hV.2) HSz.out
  have HRc : Hid (∀ V, TwoT w.heap.size w2.heap.size nm at_ cs.length ct a2 c2 W3 V → Calls Tryd.prog 11 #[.agg #[.string nm, .slice at_ cs.length ct], .string s] V fun e w' => e = .returned (.tuple #[.int .i64 (colI s cs), .int .i64 (colX s cs)]) ∧ Below V.heap.size V w') := fun V hV => rcolumn_ nm at_ ct cs s V (HA.out.on hV.2) HSz.out
  have HCk : Hid (∀ V, TwoT w.heap.size w2.heap.size nm at_ cs.length ct a2 c2 W3 V → Calls Tryd.prog 17 #[.agg #[.string nm, .slice a2 cs.length c2]] V fun e w' => e = .returned (errV 63 (chkT ⟨nm, cs⟩)) ∧ Below V.heap.size V w') := fun V hV => tcheck_ nm a2 c2 cs V (HD.out.on hV.2) hn2 HSz.out
  have HRk : Hid (∀ V, TwoT w.heap.size w2.heap.size nm at_ cs.length ct a2 c2 W3 V → Calls Tryd.prog 18 #[.agg #[.string nm, .slice at_ cs.length ct]] V fun e w' => e = .returned (.int .i64 (chkT ⟨nm, cs⟩)) ∧ Below V.heap.size V w') := fun V hV => rtcheck_ nm at_ ct cs V (HA.out.on hV.2) HSn.out HSc.out
  have HSm : Hid (∀ V, TwoT w.heap.size w2.heap.size nm at_ cs.length ct a2 c2 W3 V → Calls Tryd.prog 19 #[.agg #[.string nm, .slice a2 cs.length c2], .agg #[.string nm, .slice at_ cs.length ct]] V fun e w' => e = .returned (.bool true) ∧ Below V.heap.size V w') := fun V hV => by
    refine (same_ nm nm a2 at_ c2 ct cs cs V (HD.out.on hV.2) (HA.out.on hV.2) HSz.out HSz.out).mono ?_
    rintro e w' ⟨r, rfl, hr, hb⟩
    rw [hr.2 ⟨rfl, rfl⟩]
    exact ⟨rfl, hb⟩
  have HN : Hid (∀ z V, TwoT w.heap.size w2.heap.size nm at_ cs.length ct a2 c2 W3 V → Calls Tryd.prog 16 #[errV 63 z] V fun e w' => e = .returned (.int .i64 z) ∧ Below V.heap.size V w') := fun z V hV => num_ z V (HE3.out.on hV.2)
  have HSu : Hid (∀ V, TwoT w.heap.size w2.heap.size nm at_ cs.length ct a2 c2 W3 V → Calls Tryd.prog 20 #[] V fun e w' => e = .returned (.bool true) ∧ Below V.heap.size V w') := fun V hV => sure_ V (HM3.out.on hV.2)
  have HK : Hid (∀ V V', TwoT w.heap.size w2.heap.size nm at_ cs.length ct a2 c2 W3 V → Below V.heap.size V V' → TwoT w.heap.size w2.heap.size nm at_ cs.length ct a2 c2 W3 V') := fun V V' h hb => h.on hb
  generalize chkT ⟨nm, cs⟩ = Z at *
  generalize txtS ⟨nm, cs⟩ = X at *
  generalize colI s cs = I at *
  generalize colX s cs = Z2 at *
  generalize cs.length = C at *
  obtain ⟨B, hB⟩ : ∃ B, w.heap.size = B := ⟨_, rfl⟩
  obtain ⟨B5, hB5⟩ : ∃ B5, w2.heap.size = B5 := ⟨_, rfl⟩
  rw [hB, hB5] at HT3 HTx HRt HCo HRc HCk HRk HSm HN HSu HK
  clear h2 hn2 hb2 hb3 hb13 hW3 HTw HT1 HC1 HM HEr HA HD HM3 HE3 HSz HSn HSc t0 t1 HW1
  obtain ⟨⟨⟨t0, t1⟩, u0, u1⟩, _⟩ := HT3.out
  go_wp2_with fail
  rw [HW3.out]
  clear hB hB5
  go_wp2_with fail
  refine (HTx.out _ HT3.out).mono ?_
  rintro e w4 ⟨rfl, hb4⟩
  have HT4 := Lib.hid (HK.out _ _ HT3.out hb4)
  clear t0 t1 u0 u1 hb4 HT3 HTx HW3
  obtain ⟨⟨⟨t0, t1⟩, u0, u1⟩, _⟩ := HT4.out
  go_wp2_with fail
  refine (HRt.out _ HT4.out).mono ?_
  rintro e w5 ⟨rfl, hb5⟩
  have HT5 := Lib.hid (HK.out _ _ HT4.out hb5)
  clear t0 t1 u0 u1 hb5 HT4 HRt
  obtain ⟨⟨⟨t0, t1⟩, u0, u1⟩, _⟩ := HT5.out
  go_wp2_with fail
  refine (HCo.out _ HT5.out).mono ?_
  rintro e w6 ⟨rfl, hb6⟩
  have HT6 := Lib.hid (HK.out _ _ HT5.out hb6)
  clear t0 t1 u0 u1 hb6 HT5 HCo
  obtain ⟨⟨⟨t0, t1⟩, u0, u1⟩, _⟩ := HT6.out
  go_wp2_with fail
  refine (HRc.out _ HT6.out).mono ?_
  rintro e w7 ⟨rfl, hb7⟩
  have HT7 := Lib.hid (HK.out _ _ HT6.out hb7)
  clear t0 t1 u0 u1 hb7 HT6 HRc
  go_wp2_with fail
  refine (HNm.out _).mono ?_
  rintro e w8 ⟨rfl, rfl⟩
  go_wp2_with fail
  refine (HRn.out _).mono ?_
  rintro e w9 ⟨rfl, hb9⟩
  have HT9 := Lib.hid (HK.out _ _ HT7.out hb9)
  clear hb9 HT7 HRn HNm
  go_wp2_with fail
  refine (HRs.out _).mono ?_
  rintro e w10 ⟨rfl, rfl⟩
  go_wp2_with fail
  refine (HRr.out _).mono ?_
  rintro e w11 ⟨rfl, hb11⟩
  have HTA := Lib.hid (HK.out _ _ HT9.out hb11)
  clear hb11 HT9 HRs HRr
  have hz1 : (Z == Z) = true := by simp
  have hz2 : (Z2 == Z2) = true := by simp
  have hz3 : (I == I) = true := by simp
  have hz4 : (X.toList == X.toList) = true := by simp
  go_wp2_with fail
  have HS0 := Lib.hid (HK.out _ _ HTA.out (below_drew w11))
  refine wp_region_noPanic ?_
  go_region_held (fun V => ((V.cell? ⟨B, 0, none⟩ = some (.string nm) ∧ V.cell? ⟨B, 1, none⟩ = some (.slice at_ C ct)) ∧ V.cell? ⟨B5, 0, none⟩ = some (.string nm) ∧ V.cell? ⟨B5, 1, none⟩ = some (.slice a2 C c2)) ∧ Below W3.heap.size W3 V)
    (first | (exact HS0.out) | (exact HK.out _ _ (by assumption) (by assumption)))
    (first
      | (go_at_call 17; refine (HCk.out _ (by assumption)).mono ?_; rintro e wa ⟨rfl, hba⟩)
      | (go_at_call 16; refine (HN.out _ _ (by assumption)).mono ?_; rintro e wb ⟨rfl, hbb⟩)
      | (go_at_call 18; refine (HRk.out _ (by assumption)).mono ?_; rintro e wc ⟨rfl, hbc⟩)
      | (go_at_call 19; refine (HSm.out _ (by assumption)).mono ?_; rintro e wd ⟨rfl, hbd⟩)
      | (go_at_call 20; refine (HSu.out _ (by assumption)).mono ?_; rintro e wz ⟨rfl, hbz⟩)
      | fail)
  refine NoPanic.normal ?_
  have HTz : Hid (TwoT B B5 nm at_ C ct a2 c2 W3 wz) := (by assumption : ((wz.cell? ⟨B, 0, none⟩ = some (.string nm) ∧ wz.cell? ⟨B, 1, none⟩ = some (.slice at_ C ct)) ∧ wz.cell? ⟨B5, 0, none⟩ = some (.string nm) ∧ wz.cell? ⟨B5, 1, none⟩ = some (.slice a2 C c2)) ∧ Below W3.heap.size W3 wz)
  go_wp2_with fail
  go_ret
  exact ⟨rfl, below_step HB3.out HTz.out.2⟩
end Go.Proofs.YtlgnllnjhpihdaaDoor
