/- The walk of the law LatticeMakes at labels that make a lattice. -/
import Derived.Test.YtoompephogamaaaGreatDoorMakesWalk
namespace Go.Proofs.YtoompephogamaaaGreatDoor
open Go.RowKit Go.Sort

theorem grown_drew {w W : World} {r : Option Nat} (h : w.grownBy W r) (n : Nat) : w.grownBy (W.drewN n) r := ⟨h.os, h.tape, h.output, h.size, h.block⟩
theorem grown_set {w W : World} {g : Nat} (h : w.grownBy W (some g)) (o : Nat) (v : Value) : w.grownBy (W.setCell ⟨g, o, none⟩ v) (some g) :=
  ⟨h.os, h.tape, h.output, by simpa using h.size, fun k hk hne => by
    rw [Below.heap_setCell _ _ _ _ (fun e => hne (by rw [e]))]
    exact h.block k hk hne⟩
theorem isAt_no' {ls : List Lab} {i : Int} (h : isAt ls i = false) : i < 0 ∨ (0 ≤ i ∧ (ls.length : Int) ≤ i) := by
  by_cases h0 : 0 ≤ i
  · by_cases h1 : i < ls.length
    · rw [isAt_yes h0 h1] at h; cases h
    · omega
  · omega
theorem set_far {w : World} {g i j : Nat} {v : Value} (h : j ≠ i) : (w.setCell ⟨g, i, none⟩ v).cell? ⟨g, j, none⟩ = w.cell? ⟨g, j, none⟩ := set_other h

set_option maxHeartbeats 8000000 in
set_option maxRecDepth 100000 in
theorem makes_yes (a : Option Addr) (c : Nat) (xr : Int) (xc : Nat) (i : Int) (ls : List Lab) (w : World) (h : LabsIn w a ls) (hw : allW ls) (hx : okW (xr, xc)) (hn : ls.length * 16 ≤ 140737488355328) (he : newErr ls = 0) (hE : ErrType w) :
    Calls Tryz.prog 3 #[.slice a ls.length c, .agg #[.int .i64 xr, .int .u32 xc], .int .i64 i] w fun e w' => e = .returned (.bool true) ∧ Below w.heap.size w w' := by
  obtain ⟨h0, h16, hok, hd⟩ := newErr_zero he
  have hal : Below w.heap.size w (w.alloc (.cells #[.int .i64 xr, .int .u32 xc] 25)) := (Below.refl _ _).alloc (Nat.le_refl _) _
  have HT := Lib.hid (twin_on a c ls _ (h.on hal) hn h0)
  have HNEW : Hid (∀ (a : Option Addr) (c : Nat) (W : World), LabsIn W a ls → Calls Tryz.prog 6 #[.slice a ls.length c] W fun e w' => ∃ q, e = .returned (.tuple #[.pointer (some ⟨q, 0, none⟩), .nilIface]) ∧ LatOn W.heap.size w' q ls ∧ Below W.heap.size W w') := fun a c W hh => new_on a c ls W hh h0 h16 hok hd
  have HRN : Hid (∀ (W : World), LabsIn W a ls → Calls Tryz.prog 7 #[.slice a ls.length c] W fun e w' => e = .returned (.int .i64 0) ∧ Below W.heap.size W w') := fun W hW => by have := r2New_ a c ls W hW hw; rw [he] at this; exact this
  have hFIND : ∃ (fi : Int) (er : Value) (k : Int), (∀ (q : Nat) (W : World), LatIn W (.pointer (some ⟨q, 0, none⟩)) ls → Calls Tryz.prog 10 #[.pointer (some ⟨q, 0, none⟩), .agg #[.int .i64 xr, .int .u32 xc]] W fun e w' => e = .returned (.tuple #[.int .i64 fi, er]) ∧ Below W.heap.size W w') ∧ (∀ (W : World), LabsIn W a ls → Calls Tryz.prog 11 #[.slice a ls.length c, .agg #[.int .i64 xr, .int .u32 xc]] W fun e w' => e = .returned (.tuple #[.int .i64 fi, .int .i64 k]) ∧ Below W.heap.size W w') ∧ (∀ W, ErrType W → Calls Tryz.prog 8 #[er] W fun e w' => e = .returned (.int .i64 k) ∧ Below W.heap.size W w') := by
    by_cases hm : (xr, xc) ∈ ls
    · refine ⟨ls.idxOf (xr, xc), .nilIface, 0, fun q W hL => find_yes q (xr, xc) ls W hL hx hm, fun W hL => (r2Find_ a c (xr, xc) ls W hL h16 hd).mono ?_, fun W _ => num11_nil W⟩
      rintro e w' ⟨hb, ⟨_, h1⟩ | ⟨h1, _⟩⟩
      · exact ⟨h1, hb⟩
      · exact absurd hm h1
    · refine ⟨0, .iface 49 (.int .i64 8), 8, fun q W hL => find_no q (xr, xc) ls W hL hx hm, fun W hL => (r2Find_ a c (xr, xc) ls W hL h16 hd).mono ?_, fun W hE => num11 8 W hE⟩
      rintro e w' ⟨hb, ⟨h1, _⟩ | ⟨_, h1⟩⟩
      · exact absurd h1 hm
      · exact ⟨h1, hb⟩
  obtain ⟨fi, er, fk, hF1, hF2, hF3⟩ := hFIND
  have HF1 := Lib.hid hF1
  have HF2 := Lib.hid hF2
  have HF3 := Lib.hid hF3
  have HTX : Hid (∀ (q : Nat) (W : World), LatIn W (.pointer (some ⟨q, 0, none⟩)) ls → Calls Tryz.prog 14 #[.pointer (some ⟨q, 0, none⟩)] W fun e w' => e = .returned (.string ⟨(joinL ls).toArray⟩) ∧ Below W.heap.size W w') := fun q W hL => text_ _ ls W hL hok h16
  have HRT : Hid (∀ (W : World), LabsIn W a ls → Calls Tryz.prog 15 #[.slice a ls.length c] W fun e w' => e = .returned (.string ⟨(joinL ls).toArray⟩) ∧ Below W.heap.size W w') := fun W hL => r2Text_ a c ls W hL hok h16
  have HLN : Hid (∀ (q : Nat) (W : World), LatIn W (.pointer (some ⟨q, 0, none⟩)) ls → Calls Tryz.prog 13 #[.pointer (some ⟨q, 0, none⟩)] W fun e w' => e = .returned (.int .i64 ls.length) ∧ w' = W) := fun q W hL => len_ _ ls W hL
  have HE : Hid (∀ W, Below w.heap.size w W → ErrType W) := fun W hW => hE.on hW
  have HL := Lib.hid h
  clear hF1 hF2 hF3 h hw hn he hE hok hd hx
  obtain ⟨n, hnn⟩ : ∃ n, ls.length = n := ⟨_, rfl⟩
  have HNN := Lib.hid hnn
  rw [hnn] at h0 h16 HT HNEW HRN HF2 HRT HLN ⊢
  clear hnn
  generalize joinL ls = R at *
  go_enter Tryz.func3, Tryz.ntmps3
  go_wp2_with fail
  refine HT.out.mono ?_
  rintro e w1 ⟨g, c1, rfl, ⟨hg1, hg2, hfz⟩, hin1, hb1⟩
  have hg1' : w.heap.size + 1 ≤ g := by simpa using hg1
  have hbw1 : Below w.heap.size w w1 := hal.trans (hb1.mono hal.size)
  have HFZ := Lib.hid hfz
  have HM1 := Lib.hid hin1
  have HBX : Hid (w1.cell? ⟨w.heap.size, 0, none⟩ = some (.int .i64 xr) ∧ w1.cell? ⟨w.heap.size, 1, none⟩ = some (.int .u32 xc)) := by
    obtain ⟨b0, b1, _⟩ := box1 (hb1.mono (B' := w.heap.size + 1) (by simp))
    exact ⟨b0, b1⟩
  have HN1 := Lib.hid (HNEW.out (some ⟨g, 0, none⟩) c1 w1 hin1)
  clear hin1 HT hb1 hfz hg1 HNEW
  go_wp2_with fail
  refine HN1.out.mono ?_
  rintro e w2 ⟨q, rfl, hlat, hb2⟩
  have hbw2 : Below w.heap.size w w2 := hbw1.trans (hb2.mono hbw1.size)
  have HLAT := Lib.hid hlat
  have HR := Lib.hid (HRN.out w2 (HL.out.on hbw2))
  clear hlat HN1 HRN
  go_wp2_with fail
  refine HR.out.mono ?_
  rintro e w3 ⟨rfl, hb3⟩
  have hb13 : Below w1.heap.size w1 w3 := hb2.trans (hb3.mono hb2.size)
  have hgg3 : w2.grownBy w3 (some g) := ⟨hb3.os, hb3.tape, hb3.output, hb3.size, fun k hk _ => hb3.block k hk⟩
  have HLAT3 := Lib.hid (HLAT.out.kept hgg3 hg2)
  have HM3 : Hid (∀ j, j < n → w3.cell? ⟨g, j * 2, none⟩ = some (.int .i64 (lab ls j).1) ∧ w3.cell? ⟨g, j * 2 + 1, none⟩ = some (.int .u32 (lab ls j).2)) := fun j hj => by
    obtain ⟨b, o, e, k1, k2⟩ := (HM1.out.on hb13) j (by rw [HNN.out]; exact hj)
    simp only [Option.some.injEq, Addr.mk.injEq] at e
    obtain ⟨rfl, rfl, _⟩ := e
    rw [Nat.zero_add] at k1 k2
    exact ⟨k1, k2⟩
  have HFZ3 : Hid (∀ j, w3.frozen? ⟨g, j, none⟩ = false) := fun j => by rw [hb13.frozen (p := ⟨g, j, none⟩) hg2]; exact HFZ.out j
  have hbw3 : Below w.heap.size w w3 := hbw1.trans (hb13.mono hbw1.size)
  have HBX3 : Hid (w3.cell? ⟨w.heap.size, 0, none⟩ = some (.int .i64 xr) ∧ w3.cell? ⟨w.heap.size, 1, none⟩ = some (.int .u32 xc)) := by
    have hlt : w.heap.size < w1.heap.size := by omega
    exact ⟨(hb13.cell (p := ⟨w.heap.size, 0, none⟩) hlt).trans HBX.out.1, (hb13.cell (p := ⟨w.heap.size, 1, none⟩) hlt).trans HBX.out.2⟩
  have hg3 : g < w3.heap.size := Nat.lt_of_lt_of_le hg2 hb13.size
  clear HR HLAT HM1 HFZ HBX hb2 hb3 hgg3 hbw2 hb13
  go_wp2_with fail
  go_loopw [11] (fun kv wr => ∃ k : Nat, k ≤ n ∧ kv = .int .i64 k ∧ w3.grownBy wr (some g) ∧ (∀ j, k ≤ j → j < n → wr.cell? ⟨g, j * 2, none⟩ = some (.int .i64 (lab ls j).1) ∧ wr.cell? ⟨g, j * 2 + 1, none⟩ = some (.int .u32 (lab ls j).2)) ∧ (∀ j, wr.frozen? ⟨g, j, none⟩ = false)) (fun kv _ => n - (intOf kv).toNat)
  case atStart => exact ⟨0, Nat.zero_le _, rfl, World.grownBy.refl _ _, fun j _ hj => HM3.out j hj, HFZ3.out⟩
  case round =>
    obtain ⟨k, hk, rfl, hgr, hcl, hfz⟩ := hrel
    have HCL := Lib.hid hcl
    have HFR := Lib.hid hfz
    have HLW := Lib.hid (labs_kept HL.out hbw3 hgr (by omega))
    clear hcl hfz
    by_cases hlt : k < n
    · obtain ⟨m1, m2⟩ := HCL.out k (Nat.le_refl _) hlt
      obtain ⟨b, o, rfl, x1, x2⟩ := HLW.out k (by rw [HNN.out]; exact hlt)
      have z1 := HFR.out (k * 2)
      have z2 := HFR.out (k * 2 + 1)
      generalize (lab ls k).1 = r at *
      generalize (lab ls k).2 = cc at *
      go_wp2_with fail
      go_quiet (fail)
      have hgd : w3.grownBy (wr.drewN nq) (some g) := grown_drew hgr nq
      have HCD : Hid (∀ j, k ≤ j → j < n → (wr.drewN nq).cell? ⟨g, j * 2, none⟩ = some (.int .i64 (lab ls j).1) ∧ (wr.drewN nq).cell? ⟨g, j * 2 + 1, none⟩ = some (.int .u32 (lab ls j).2)) := HCL.out
      have HFD : Hid (∀ j, (wr.drewN nq).frozen? ⟨g, j, none⟩ = false) := HFR.out
      have m1' : (wr.drewN nq).cell? ⟨g, k * 2, none⟩ = some (.int .i64 r) := m1
      have m2' : (wr.drewN nq).cell? ⟨g, k * 2 + 1, none⟩ = some (.int .u32 cc) := m2
      have z1' : (wr.drewN nq).frozen? ⟨g, k * 2, none⟩ = false := z1
      have z2' : (wr.drewN nq).frozen? ⟨g, k * 2 + 1, none⟩ = false := z2
      clear x1 x2 m1 m2 z1 z2 hgr HLW HCL HFR
      generalize wr.drewN nq = W2 at *
      go_wp2_with fail
      go_roundw
      case rel =>
        refine ⟨k + 1, by omega, by go_num, grown_set (grown_set hgd _ _) _ _, fun j hj hjn => ?_, fun j => ?_⟩
        · rw [set_far (by omega), set_far (by omega), set_far (by omega), set_far (by omega)]
          exact HCD.out j (by omega) hjn
        · rw [World.frozen?_setCell, World.frozen?_setCell]
          exact HFD.out j
      case measure => simp [intOf]; omega
    · obtain rfl : k = n := by omega
      rename World => W0
      have hbw0 : Below w.heap.size w W0 := hbw3.grown hgr hbw3.size (fun k hk => by cases hk; omega)
      have HLQ0 := Lib.hid (HLAT3.out.kept hgr hg2).latIn
      have HLQ : Hid (∀ W, Below W0.heap.size W0 W → LatIn W (.pointer (some ⟨q, 0, none⟩)) ls) := fun W hW => HLQ0.out.on hW
      have HLAW : Hid (∀ W, Below W0.heap.size W0 W → LabsIn W a ls) := fun W hW => HLW.out.on hW
      have HEW : Hid (∀ W, Below W0.heap.size W0 W → ErrType W) := fun W hW => HE.out W (hbw0.trans (hW.mono hbw0.size))
      have b0 : W0.cell? ⟨w.heap.size, 0, none⟩ = some (.int .i64 xr) := hgr.cell HBX3.out.1 (by simp; omega)
      have b1 : W0.cell? ⟨w.heap.size, 1, none⟩ = some (.int .u32 xc) := hgr.cell HBX3.out.2 (by simp; omega)
      have hlt0 : w.heap.size < W0.heap.size := block_lt_of_cell b0
      clear HLAT3 HLW HM3 HFZ3 HBX3 HCL HFR hgr HLQ0 HE HL hbw1 hbw3 hg1' hg2 hg3 hal
      go_wp2_with fail
      refine (HF1.out q W0 (HLQ.out W0 (Below.refl _ _))).mono ?_
      rintro e w4 ⟨rfl, hb4⟩
      have d0 := (hb4.cell (p := ⟨w.heap.size, 0, none⟩) hlt0).trans b0
      have d1 := (hb4.cell (p := ⟨w.heap.size, 1, none⟩) hlt0).trans b1
      clear b0 b1
      go_wp2_with fail
      refine (HF2.out w4 (HLAW.out w4 hb4)).mono ?_
      rintro e w5 ⟨rfl, hb5⟩
      have hb05 : Below W0.heap.size W0 w5 := hb4.trans (hb5.mono hb4.size)
      clear hb4 hb5 d0 d1
      by_cases hat : isAt ls i = true
      · obtain ⟨m, rfl, hm⟩ := isAt_cases hat
        rw [HNN.out] at hm
        have HLB := Lib.hid (label_yes _ m ls w5 (HLQ.out w5 hb05) (by rw [HNN.out]; exact hm))
        have p0 : decide ((0 : Int) ≤ (m : Int)) = true := by simp
        have p1 : (m : Int) < (k : Int) := by omega
        obtain ⟨b, o, rfl, x1, x2⟩ := HLAW.out w5 hb05 m (by rw [HNN.out]; exact hm)
        generalize (lab ls m).1 = r at *
        generalize (lab ls m).2 = cc at *
        go_wp2_with fail
        refine HLB.out.mono ?_
        rintro e w6 ⟨rfl, hb6⟩
        have x1' := (hb6.cell (block_lt_of_cell x1)).trans x1
        have x2' := (hb6.cell (block_lt_of_cell x2)).trans x2
        have hal : Below w6.heap.size w6 (w6.alloc (.cells #[.int .i64 r, .int .u32 cc] 25)) := (Below.refl _ _).alloc (Nat.le_refl _) _
        have y1 := (hal.cell (block_lt_of_cell x1')).trans x1'
        have y2 := (hal.cell (block_lt_of_cell x2')).trans x2'
        have hb7' : Below W0.heap.size W0 (w6.alloc (.cells #[.int .i64 r, .int .u32 cc] 25)) := hb05.trans ((hb6.trans (hal.mono hb6.size)).mono hb05.size)
        clear x1 x2 x1' x2' hb6 HLB hal hb05
        go_wp2_with fail
        have v1 : (w6.alloc (.cells #[.int .i64 r, .int .u32 cc] 25)).cell? ⟨w6.heap.size, 0, none⟩ = some (.int .i64 r) := by simp [go_sem]
        have v2 : (w6.alloc (.cells #[.int .i64 r, .int .u32 cc] 25)).cell? ⟨w6.heap.size, 1, none⟩ = some (.int .u32 cc) := by simp [go_sem]
        generalize w6.alloc (.cells #[.int .i64 r, .int .u32 cc] 25) = W6 at *
        go_quiet (fail)
        have hb7 : Below W0.heap.size W0 (W6.drewN nq) := hb7'.trans ((below_drewN' W6 nq).mono hb7'.size)
        clear v1 v2 y1 y2 hb7'
        generalize W6.drewN nq = W7 at *
        go_wp2_with fail
        refine (HLN.out q W7 (HLQ.out W7 hb7)).mono ?_
        rintro e w8 ⟨rfl, rfl⟩
        have hb8 := hb7
        clear hb7
        go_wp2_with fail
        refine (HF3.out w8 (HEW.out w8 hb8)).mono ?_
        rintro e w9 ⟨rfl, hb9⟩
        have hb10 : Below W0.heap.size W0 w9 := hb8.trans (hb9.mono hb8.size)
        clear hb9 hb8
        go_wp2_with fail
        refine (HTX.out q w9 (HLQ.out w9 hb10)).mono ?_
        rintro e w10 ⟨rfl, hb11⟩
        have hb12 : Below W0.heap.size W0 w10 := hb10.trans (hb11.mono hb10.size)
        clear hb11 hb10
        go_wp2_with fail
        refine (HRT.out w10 (HLAW.out w10 hb12)).mono ?_
        rintro e w11 ⟨rfl, hb13⟩
        have hb14 : Below W0.heap.size W0 w11 := hb12.trans (hb13.mono hb12.size)
        clear hb13 hb12
        go_wp2_with fail
        refine (sure_ _).mono ?_
        rintro e w12 ⟨rfl, hb15⟩
        have hb16 : Below w.heap.size w w12 := hbw0.trans ((hb14.trans (hb15.mono hb14.size)).mono hbw0.size)
        go_wp2_with fail
        go_ret
        exact ⟨rfl, hb16⟩
      · have hat' : isAt ls i = false := by simpa using hat
        have HLB := Lib.hid (label_no _ i ls w5 (HLQ.out w5 hb05) hat')
        have hout := isAt_no' hat'
        rw [HNN.out] at hout
        clear hat hat'
        go_wp2_with fail
        refine HLB.out.mono ?_
        rintro e w6 ⟨rfl, hb6⟩
        have hal : Below w6.heap.size w6 (w6.alloc (.cells #[.int .i64 0, .int .u32 0] 25)) := (Below.refl _ _).alloc (Nat.le_refl _) _
        have hb7' : Below W0.heap.size W0 (w6.alloc (.cells #[.int .i64 0, .int .u32 0] 25)) := hb05.trans ((hb6.trans (hal.mono hb6.size)).mono hb05.size)
        have v1 : (w6.alloc (.cells #[.int .i64 0, .int .u32 0] 25)).cell? ⟨w6.heap.size, 0, none⟩ = some (.int .i64 0) := by simp [go_sem]
        have v2 : (w6.alloc (.cells #[.int .i64 0, .int .u32 0] 25)).cell? ⟨w6.heap.size, 1, none⟩ = some (.int .u32 0) := by simp [go_sem]
        have hlt6 : w6.heap.size < (w6.alloc (.cells #[.int .i64 0, .int .u32 0] 25)).heap.size := by simp
        have HN1 := Lib.hid (num11 1 (w6.alloc (.cells #[.int .i64 0, .int .u32 0] 25)) (HEW.out _ hb7'))
        clear hb6 HLB hal hb05
        rcases hout with hneg | ⟨hpos, hbig⟩
        · have q0 : decide (0 ≤ i) = false := by simp; omega
          go_wp2_with fail
          refine HN1.out.mono ?_
          rintro e W7 ⟨rfl, hbn⟩
          have u1 := (hbn.cell (p := ⟨w6.heap.size, 0, none⟩) hlt6).trans v1
          have u2 := (hbn.cell (p := ⟨w6.heap.size, 1, none⟩) hlt6).trans v2
          have hb7 : Below W0.heap.size W0 W7 := hb7'.trans (hbn.mono hb7'.size)
          clear hbn HN1 v1 v2 hb7' hlt6
          go_wp2_with fail
          refine (HLN.out q W7 (HLQ.out W7 hb7)).mono ?_
          rintro e w8 ⟨rfl, rfl⟩
          have hb8 := hb7
          clear hb7 u1 u2
          go_wp2_with fail
          refine (HF3.out w8 (HEW.out w8 hb8)).mono ?_
          rintro e w9 ⟨rfl, hb9⟩
          have hb10 : Below W0.heap.size W0 w9 := hb8.trans (hb9.mono hb8.size)
          clear hb9 hb8
          go_wp2_with fail
          refine (HTX.out q w9 (HLQ.out w9 hb10)).mono ?_
          rintro e w10 ⟨rfl, hb11⟩
          have hb12 : Below W0.heap.size W0 w10 := hb10.trans (hb11.mono hb10.size)
          clear hb11 hb10
          go_wp2_with fail
          refine (HRT.out w10 (HLAW.out w10 hb12)).mono ?_
          rintro e w11 ⟨rfl, hb13⟩
          have hb14 : Below W0.heap.size W0 w11 := hb12.trans (hb13.mono hb12.size)
          clear hb13 hb12
          go_wp2_with fail
          refine (sure_ _).mono ?_
          rintro e w12 ⟨rfl, hb15⟩
          have hb16 : Below w.heap.size w w12 := hbw0.trans ((hb14.trans (hb15.mono hb14.size)).mono hbw0.size)
          go_wp2_with fail
          go_ret
          exact ⟨rfl, hb16⟩
        · have q0 : decide (0 ≤ i) = true := by simpa using hpos
          have q1 : ¬ i < (k : Int) := by omega
          go_wp2_with fail
          refine HN1.out.mono ?_
          rintro e W7 ⟨rfl, hbn⟩
          have u1 := (hbn.cell (p := ⟨w6.heap.size, 0, none⟩) hlt6).trans v1
          have u2 := (hbn.cell (p := ⟨w6.heap.size, 1, none⟩) hlt6).trans v2
          have hb7 : Below W0.heap.size W0 W7 := hb7'.trans (hbn.mono hb7'.size)
          clear hbn HN1 v1 v2 hb7' hlt6
          go_wp2_with fail
          refine (HLN.out q W7 (HLQ.out W7 hb7)).mono ?_
          rintro e w8 ⟨rfl, rfl⟩
          have hb8 := hb7
          clear hb7 u1 u2
          go_wp2_with fail
          refine (HF3.out w8 (HEW.out w8 hb8)).mono ?_
          rintro e w9 ⟨rfl, hb9⟩
          have hb10 : Below W0.heap.size W0 w9 := hb8.trans (hb9.mono hb8.size)
          clear hb9 hb8
          go_wp2_with fail
          refine (HTX.out q w9 (HLQ.out w9 hb10)).mono ?_
          rintro e w10 ⟨rfl, hb11⟩
          have hb12 : Below W0.heap.size W0 w10 := hb10.trans (hb11.mono hb10.size)
          clear hb11 hb10
          go_wp2_with fail
          refine (HRT.out w10 (HLAW.out w10 hb12)).mono ?_
          rintro e w11 ⟨rfl, hb13⟩
          have hb14 : Below W0.heap.size W0 w11 := hb12.trans (hb13.mono hb12.size)
          clear hb13 hb12
          go_wp2_with fail
          refine (sure_ _).mono ?_
          rintro e w12 ⟨rfl, hb15⟩
          have hb16 : Below w.heap.size w w12 := hbw0.trans ((hb14.trans (hb15.mono hb14.size)).mono hbw0.size)
          go_wp2_with fail
          go_ret
          exact ⟨rfl, hb16⟩
end Go.Proofs.YtoompephogamaaaGreatDoor
