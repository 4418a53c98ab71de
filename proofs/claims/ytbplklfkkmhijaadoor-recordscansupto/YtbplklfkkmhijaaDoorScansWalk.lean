/- The walk of the law RecordScans. -/
import Derived.Test.YtbplklfkkmhijaaDoorRcAs
import Derived.Test.YtbplklfkkmhijaaDoorRcScan
import Derived.Test.YtbplklfkkmhijaaDoorRcRScan
namespace Go.Proofs.YtbplklfkkmhijaaDoor
open Go.RowKit Go.Sort Go.Maps

/-- A byte of one's own written over. -/
theorem Pay.set {w : World} {base g o : Nat} {zs : List Nat} (h : Pay w base (some ⟨g, o, none⟩) zs) (i y : Nat) (hi : i < zs.length) : Pay (w.setCell ⟨g, o + i, none⟩ (.int .u8 (y : Int))) base (some ⟨g, o, none⟩) (zs.set i y) := by
  have h0 : zs ≠ [] := by intro q; rw [q] at hi; simp at hi
  obtain ⟨g', o', cur, e, h1, h2⟩ := h.2 h0
  cases e
  have hs := heap_set (o := o + i) (.int .u8 (y : Int)) h2
  refine ⟨fun j hj => ⟨g, o, rfl, ?_⟩, fun _ => ⟨g, o, _, rfl, h1, hs⟩⟩
  rw [List.length_set] at hj
  obtain ⟨b', o'', e', hc⟩ := h.1 j hj
  cases e'
  have hcur : cur[o + j]? = some (.int .u8 (zs.getD j 0 : Nat)) := by simpa [World.cell?, h2] using hc
  refine cell_of hs ?_
  by_cases hij : i = j
  · subst hij
    have hlt : o + i < cur.size := by
      rcases Nat.lt_or_ge (o + i) cur.size with q | q
      · exact q
      · rw [Array.getElem?_eq_none q] at hcur; cases hcur
    rw [Array.getElem?_setIfInBounds_self_of_lt hlt]
    simp [List.getD_eq_getElem?_getD, hi]
  · rw [Array.getElem?_setIfInBounds_ne (by omega), hcur]
    simp [List.getD_eq_getElem?_getD, List.getElem?_set_ne hij]
theorem Pay.frozen {w : World} {base g o : Nat} {zs : List Nat} (h : Pay w base (some ⟨g, o, none⟩) zs) (i : Nat) (hi : i < zs.length) : base ≤ g ∧ w.cell? ⟨g, o + i, none⟩ = some (.int .u8 (zs.getD i 0 : Nat)) ∧ w.frozen? ⟨g, o + i, none⟩ = false := by
  have h0 : zs ≠ [] := by intro q; rw [q] at hi; simp at hi
  obtain ⟨g', o', cur, e, h1, h2⟩ := h.2 h0
  cases e
  obtain ⟨b', o'', e', hc⟩ := h.1 i hi
  cases e'
  exact ⟨h1, hc, frozen_of h2⟩
theorem turn8 (y : Nat) (hy : y < 256) : bits .xor .u8 (y : Int) 255 = ((y ^^^ 255 : Nat) : Int) := u8_xor_nat y 255 hy (by decide)
theorem byte_at' {xs : List Nat} (h : ∀ x ∈ xs, x < 256) (i : Nat) : xs.getD i 0 < 256 := by
  rcases Nat.lt_or_ge i xs.length with hl | hl
  · exact h _ (by rw [List.getD_eq_getElem?_getD, List.getElem?_eq_getElem hl]; exact List.getElem_mem hl)
  · rw [List.getD_eq_getElem?_getD, List.getElem?_eq_none hl]; decide
theorem one_len (ep : Nat) (xs : List Nat) (hb : ∀ x ∈ xs, x < 256) : (one ep xs).1.length ≤ 1048576 := by
  by_cases h : (one ep xs).2.2 = 0
  · exact (one_ok ep xs hb h).2.2.2.2.1
  · rw [(one_err ep xs h).1]; exact Nat.zero_le _
set_option maxRecDepth 100000 in
set_option maxHeartbeats 4000000 in
theorem scans_law (ep : Nat) (a : Option Addr) (xs : List Nat) (c : Nat) (w : World) (h : BytesIn w a xs) (hx : ∀ x ∈ xs, x < 256) (hc : a = none → c = 0) (hcap : xs.length ≤ c) (hlim : xs.length ≤ 1048576) (hE : ErrType w) :
    Calls Tryd.prog 4 #[.int .u64 ep, .slice a xs.length c] w fun e w' => e = .returned (.bool true) ∧ Below w.heap.size w w' := by
  have HT := Lib.hid (twin_ a xs c w h hc (by omega))
  have HO : Hid (∀ W a' c', BytesIn W a' xs → xs.length ≤ c' → Calls Tryd.prog 13 #[.int .u64 ep, .slice a' xs.length c'] W (OneTold W (one ep xs))) := Lib.hid fun W a' c' h1 h2 => one_ ep a' xs _ c' W h1 hx rfl (by omega) h2
  have HRO : Hid (∀ W, BytesIn W a xs → Calls Tryd.prog 14 #[.int .u64 ep, .slice a xs.length c] W (ROneTold W a (one ep xs))) := Lib.hid fun W h1 => rone_ ep a xs _ c W h1 hx hc rfl (by omega) hcap
  have HS : Hid (∀ W a' c', BytesIn W a' xs → (a' = none → c' = 0) → xs.length ≤ c' → Calls Tryd.prog 15 #[.int .u64 ep, .slice a' xs.length c'] W fun e w' => ∃ la lc, e = .returned (.tuple #[.slice la (scan ep xs).1.length lc, .int .i64 (scan ep xs).2]) ∧ ListIn w' la (scan ep xs).1 ∧ (scan ep xs).1.length ≤ 10000000 ∧ Below W.heap.size W w') := Lib.hid fun W a' c' h1 h2 h3 => (scan_ ep a' xs _ c' W h1 hx h2 rfl (by omega) h3).mono fun e w' ⟨la, lc, q1, q2, _, q3, q4⟩ => ⟨la, lc, q1, q2, q3, q4⟩
  have HRS : Hid (∀ W, BytesIn W a xs → Calls Tryd.prog 16 #[.int .u64 ep, .slice a xs.length c] W fun e w' => ∃ la lc, e = .returned (.tuple #[.slice la (scan ep xs).1.length lc, .int .i64 (scan ep xs).2]) ∧ ListIn w' la (scan ep xs).1 ∧ Below W.heap.size W w') := Lib.hid fun W h1 => (rscan_ ep a xs _ c W h1 hx hc rfl (by omega) hcap).mono fun e w' ⟨la, lc, q1, q2, _, _, q4⟩ => ⟨la, lc, q1, q2, q4⟩
  have HLs : Hid (∀ W la lb ca cb, (scan ep xs).1.length ≤ 10000000 → ListIn W la (scan ep xs).1 → ListIn W lb (scan ep xs).1 → Calls Tryd.prog 17 #[.slice la (scan ep xs).1.length ca, .slice lb (scan ep xs).1.length cb] W fun e w' => e = .returned (.bool true) ∧ Below W.heap.size W w') := Lib.hid fun W la lb ca cb h1 h2 h3 => lists_ la lb (scan ep xs).1 _ ca cb W rfl h1 h2 h3
  have HN := Lib.hid (num_ (one ep xs).2.2)
  have HSU : Hid (∀ W, Calls Tryd.prog 12 #[] W fun e w' => e = .returned (.bool true) ∧ Below W.heap.size W w') := sure_
  have HE := Lib.hid hE
  have HB := Lib.hid h
  have HPB := Lib.hid (one_byte ep xs hx)
  have hpm := one_len ep xs hx
  unfold OneTold at HO
  unfold ROneTold at HRO
  generalize (scan ep xs).1 = yss at *
  generalize (scan ep xs).2 = sz at *
  generalize yss.length = yl at *
  generalize one ep xs = R at *
  obtain ⟨ps, s, er⟩ := R
  simp only at HO HRO HN HPB hpm
  obtain ⟨pl, hpl⟩ : ∃ pl, ps.length = pl := ⟨_, rfl⟩
  rw [hpl] at HO HRO hpm
  have HPL := Lib.hid hpl
  obtain ⟨ev, hev⟩ : ∃ ev, ev = errV er := ⟨_, rfl⟩
  rw [← hev] at HO HN
  obtain ⟨len, hlen⟩ : ∃ len, xs.length = len := ⟨_, rfl⟩
  rw [hlen] at HT HO HRO HS HRS hlim hcap ⊢
  have HL := Lib.hid hlen
  clear hlen hpl hev h hx hc hE
  go_enter Tryd.func4, Tryd.ntmps4
  go_wp2_with fail
  refine HT.out.mono ?_
  rintro e w1 ⟨a1, c1, rfl, hO1, hI1, hN1, hb1⟩
  have HI1 := Lib.hid hI1
  have HN1 := Lib.hid hN1
  have Hb1 := Lib.hid hb1
  have HC1 : Hid (len ≤ c1) := Lib.hid (by have := own_cap hO1; rw [HL.out] at this; exact this)
  rw [HL.out]
  clear hO1 hI1 hN1 hb1 HT
  go_wp2_with fail
  refine (HO.out w1 _ _ HI1.out HC1.out).mono ?_
  rintro e w2 ⟨a2, c2, rfl, hp2, _, _, hb2⟩
  have HP2 := Lib.hid hp2
  have Hb2 := Lib.hid hb2
  clear hp2 hb2 HO
  go_wp2_with fail
  refine (HRO.out w2 (HB.out.on (below_step Hb1.out Hb2.out))).mono ?_
  rintro e w3 ⟨a3, c3, rfl, hi3, _, hb3⟩
  have HI3 := Lib.hid hi3
  have HP3 := Lib.hid (HP2.out.on hb3)
  have Hb3 := Lib.hid (below_step Hb2.out hb3)
  clear hi3 hb3 HRO HP2 Hb2
  go_wp2_with fail
  refine (HS.out w3 _ _ (HI1.out.on Hb3.out) HN1.out HC1.out).mono ?_
  rintro e w4 ⟨la, lc, rfl, hl4, hy4, hb4⟩
  have HL4 := Lib.hid hl4
  have HY4 := Lib.hid hy4
  have HI4 := Lib.hid (HI3.out.on hb4)
  have HP4 := Lib.hid (HP3.out.on hb4)
  have Hb4 := Lib.hid (below_step Hb3.out hb4)
  clear hl4 hy4 hb4 HS HI3 HP3 Hb3
  go_wp2_with fail
  refine (HRS.out w4 (HB.out.on (below_step Hb1.out Hb4.out))).mono ?_
  rintro e w5 ⟨lb, ld, rfl, hl5, hb5⟩
  have HL5 := Lib.hid hl5
  have HL45 := Lib.hid (HL4.out.on hb5)
  have HI5 := Lib.hid (HI4.out.on hb5)
  have HP5 := Lib.hid (HP4.out.on hb5)
  have Hb5 := Lib.hid (below_step Hb4.out hb5)
  clear hl5 hb5 HRS HL4 HI4 HP4 Hb4
  have cv1 := conv_ w5 a2 pl c2 ps HPL.out.symm HP5.out.1
  have cv2 := conv_ w5 a3 pl c3 ps HPL.out.symm HI5.out
  have HM : Hid (∀ W', Below w1.heap.size w1 W' → (convert 23 9 (.slice a1 len c1)).run Tryd.prog W' = .ok (.string (bs xs)) W' ∧ (convert 23 9 (.slice a len c)).run Tryd.prog W' = .ok (.string (bs xs)) W') := Lib.hid fun W' hW => ⟨conv_ W' a1 len c1 xs HL.out.symm (HI1.out.on hW), conv_ W' a len c xs HL.out.symm (HB.out.on (below_step Hb1.out hW))⟩
  generalize bs ps = sp at *
  generalize bs xs = sx at *
  go_wp2_with fail
  refine (HN.out w5 (HE.out.on (below_step Hb1.out Hb5.out))).mono ?_
  rintro e w6 ⟨rfl, hb6⟩
  have HL6 := Lib.hid (HL45.out.on hb6)
  have HL6' := Lib.hid (HL5.out.on hb6)
  have HP6 := Lib.hid (HP5.out.on hb6)
  have Hb6 := Lib.hid (below_step Hb5.out hb6)
  clear hb6 HL45 HL5 HP5 HI5 Hb5 cv1 cv2 HN
  go_wp2_with fail
  refine (HLs.out w6 _ _ _ _ HY4.out HL6.out HL6'.out).mono ?_
  rintro e w7 ⟨rfl, hb7⟩
  have HP7 := Lib.hid (HP6.out.on hb7)
  have Hb7 := Lib.hid (below_step Hb6.out hb7)
  clear hb7 HL6 HL6' HP6 Hb6 HLs
  go_wp2_with fail
  go_loopw [17] (fun iv wr => ∃ (i : Nat) (zs : List Nat), iv = .int .i64 i ∧ i ≤ pl ∧ Hid (zs.length = pl) ∧ Hid (∀ z ∈ zs, z < 256) ∧ Hid (Pay wr w1.heap.size a2 zs) ∧ Hid (Below w1.heap.size w1 wr)) (fun iv _ => ((pl : Int) - intOf iv).toNat)
  case atStart => exact ⟨0, ps, rfl, Nat.zero_le _, HPL, HPB, HP7, Hb7⟩
  case round =>
    obtain ⟨i, zs, rfl, hi, hzl, hzb, hO, hb⟩ := hrel
    by_cases hil : i = pl
    · have hge : decide (i < pl) = false := decide_eq_false (by omega)
      clear hil
      obtain ⟨hcm, hcb⟩ := HM.out wr hb.out
      go_wp2_with fail
      refine (HSU.out wr).mono ?_
      rintro e w9 ⟨rfl, hb9⟩
      have Hb9 := Lib.hid (below_step (below_step Hb1.out hb.out) hb9)
      clear hb9 hcm hcb
      go_wp2_with fail
      go_ret
      exact ⟨rfl, Hb9.out⟩
    · have hlt : decide (i < pl) = true := decide_eq_true (by omega)
      have hz0 : zs ≠ [] := by intro q; have := hzl.out; rw [q] at this; simp at this; omega
      obtain ⟨g, o, cur, rfl, hg, hcur⟩ := hO.out.2 hz0
      obtain ⟨hg1, hc1, hf1⟩ := hO.out.frozen i (by rw [hzl.out]; omega)
      have hy1 := byte_at' hzb.out i
      have HO1 := Lib.hid (hO.out.set i (zs.getD i 0 ^^^ 255) (by rw [hzl.out]; omega))
      have Hg1 := Lib.hid (hb.out.setCell (p := ⟨g, o + i, none⟩) hg (.int .u8 ((zs.getD i 0 ^^^ 255 : Nat) : Int)))
      have HB1 : Hid (∀ z ∈ zs.set i (zs.getD i 0 ^^^ 255), z < 256) := Lib.hid fun z hz => by
        rcases List.mem_or_eq_of_mem_set hz with h' | h'
        · exact hzb.out z h'
        · rw [h']; exact Nat.xor_lt_two_pow (n := 8) hy1 (by decide)
      have HL1 : Hid ((zs.set i (zs.getD i 0 ^^^ 255)).length = pl) := Lib.hid (by rw [List.length_set]; exact hzl.out)
      have hx8 := turn8 (zs.getD i 0) hy1
      have hil2 : ((i : Int) < (pl : Int)) := by omega
      generalize zs.getD i 0 ^^^ 255 = y' at *
      generalize zs.getD i 0 = y at *
      clear hcur hz0
      go_wp2_with fail
      go_roundw
      case rel => exact ⟨i + 1, _, by go_num, by omega, HL1, HB1, HO1, Hg1⟩
      case measure => simp [intOf]; omega
end Go.Proofs.YtbplklfkkmhijaaDoor
