/- The walk of the document's Text. -/
import Derived.Test.YtlldamgnfaikhaaGreatDoorRwKoMath
import Derived.Test.YtlldamgnfaikhaaGreatDoorRwPr2
import Derived.Test.YtlldamgnfaikhaaGreatDoorRwMem
namespace Go.Proofs.YtlldamgnfaikhaaGreatDoor
open Go.RowKit Go.Sort

theorem ba_mk (a b : List UInt8) : ((⟨a.toArray⟩ : ByteArray) ++ ⟨b.toArray⟩) = ⟨(a ++ b).toArray⟩ := by
  apply ba_ext; rw [ba_append]
set_option maxRecDepth 100000 in
set_option maxHeartbeats 1000000 in
theorem rrtext_ (a : Option Addr) (c : Nat) (vs : List Val) (w : World) (h : ValsIn w a vs) (hw : ∀ x ∈ vs, inI x.n) (hvl : vs.length ≤ 1048576) :
    Calls Tryz.prog 10 #[.slice a vs.length c] w fun e w' => e = .returned (.tuple #[.string ⟨(txT vs).toArray⟩, .int .i64 (txE vs)]) ∧ Below w.heap.size w w' := by
  obtain ⟨L, hL⟩ : ∃ L, vs.length = L := ⟨_, rfl⟩
  have HL := Lib.hid hL
  have HI := Lib.hid h
  have HW := Lib.hid hw
  rw [hL] at hvl
  rw [hL]
  obtain ⟨R, hR⟩ : ∃ R : Value × Value, R = (.string ⟨(txT vs).toArray⟩, .int .i64 (txE vs)) := ⟨_, rfl⟩
  rw [show (Value.string ⟨(txT vs).toArray⟩) = R.1 by rw [hR], show Value.int .i64 (txE vs) = R.2 by rw [hR]]
  have HBad : Hid (∀ E : Int, txE vs = E → E ≠ 0 → R = (.string ⟨#[]⟩, .int .i64 E)) := fun E hE h0 => by
    rw [hR, txT, if_neg (by rw [hE]; exact h0), hE]
  have HOk : Hid (txE vs = 0 → R = (.string ⟨(joinV vs).toArray⟩, .int .i64 0)) := fun h0 => by
    rw [hR, txT, if_pos h0, h0]
  clear h hw hL hR
  go_enter Tryz.func10, Tryz.ntmps10
  go_wp2_with fail
  go_loopw [4, 5] (fun sv iv wr => ∃ i : Nat, i ≤ L ∧ iv = .int .i64 i ∧ sv = .string ⟨(joinV (vs.take i)).toArray⟩ ∧ Hid (∀ j (h : j < vs.length), j < i → validN vs[j] = 0) ∧ Hid (Below w.heap.size w wr)) (fun _ iv _ => L - (intOf iv).toNat)
  case atStart => exact ⟨0, Nat.zero_le _, rfl, rfl, fun j _ hj => by omega, Below.refl _ _⟩
  case round =>
    obtain ⟨i, hi, rfl, rfl, HV, HBw⟩ := hrel
    by_cases hlt : i < L
    · have hlt2 : (i : Int) < (L : Int) := by omega
      have hi2 : i < vs.length := by rw [HL.out]; exact hlt
      obtain ⟨b, o, rfl, k, n, t, bb, hvi, p0, p1, p2, p3⟩ := ValsIn.get (HI.out.on HBw.out) i hi2
      have hn0 : inI n := by have := HW.out vs[i] (List.getElem_mem hi2); rw [hvi] at this; exact this
      have HPr : Hid (∀ W, Calls Tryz.prog 24 #[.agg #[.int .i64 k, .int .i64 n, .string t, .bool bb]] W fun e w' => e = .returned (.tuple #[.string ⟨(prS ⟨k, n, t, bb⟩).toArray⟩, .int .i64 (validN ⟨k, n, t, bb⟩)]) ∧ Below W.heap.size W w') := fun W => rprint_ k n t bb W hn0
      by_cases h0 : validN ⟨k, n, t, bb⟩ = 0
      · have hpr : prS ⟨k, n, t, bb⟩ = printL ⟨k, n, t, bb⟩ := by rw [prS, if_pos h0]
        have hpl := print_len h0 hn0
        rw [hpr, h0] at HPr
        have HV2 : Hid (∀ j (h : j < vs.length), j < i + 1 → validN vs[j] = 0) := fun j hj hji => by
          rcases Nat.lt_or_ge j i with hh | hh
          · exact HV.out j hj hh
          · obtain rfl : j = i := by omega
            rw [hvi]; exact h0
        have hjl : (joinV (vs.take i)).length ≤ 8700000000 := by
          refine joinV_len (fun v hv => ?_) (fun v hv => HW.out v (List.mem_of_mem_take hv)) (by rw [List.length_take, HL.out]; omega)
          obtain ⟨j, hj, rfl⟩ := List.getElem_of_mem hv
          rw [List.length_take] at hj
          rw [List.getElem_take]
          exact HV.out j (by omega) (by omega)
        by_cases hi0 : i = 0
        · have hi3 : ¬ (0 : Int) < (i : Int) := by omega
          have HTk : Hid (joinV (vs.take (i + 1)) = printL ⟨k, n, t, bb⟩) := by
            show _ = _
            subst hi0
            rw [joinV_first hi2, hvi]
          have hj0 : joinV (vs.take i) = [] := by rw [hi0]; rfl
          rw [hj0]
          have hps : (⟨(printL ⟨k, n, t, bb⟩).toArray⟩ : ByteArray).size ≤ 8200 := by rw [list_size]; exact hpl
          have HTk2 : Hid ((⟨#[]⟩ ++ ⟨(printL ⟨k, n, t, bb⟩).toArray⟩ : ByteArray) = ⟨(joinV (vs.take (i + 1))).toArray⟩) := by
            show _ = _
            rw [HTk.out, show (⟨#[]⟩ : ByteArray) = ⟨([] : List UInt8).toArray⟩ from rfl, ba_mk, List.nil_append]
          have hes : (⟨#[]⟩ : ByteArray).size = 0 := rfl
          generalize (⟨(printL ⟨k, n, t, bb⟩).toArray⟩ : ByteArray) = PB at *
          clear hvi HV hi2 h0 hpr hn0 hpl hjl hj0 HTk hi0
          go_wp2_with fail
          refine (HPr.out _).mono ?_
          rintro e w1 ⟨rfl, hb1⟩
          have HB1 := Lib.hid (below_step HBw.out hb1)
          clear hb1 HBw p0 p1 p2 p3 HPr
          go_wp2_with fail
          go_roundw
          case rel => exact ⟨i + 1, by omega, by go_num, by rw [← HTk2.out], HV2, HB1⟩
          case measure => simp [intOf]; omega
        · have hi3 : (0 : Int) < (i : Int) := by omega
          have HTk : Hid (joinV (vs.take (i + 1)) = joinV (vs.take i) ++ ([44, 32] ++ printL ⟨k, n, t, bb⟩)) := by
            show _ = _
            rw [joinV_take hi2 (by omega), hvi]
          have hps : (⟨(printL ⟨k, n, t, bb⟩).toArray⟩ : ByteArray).size ≤ 8200 := by rw [list_size]; exact hpl
          have hss : (⟨(joinV (vs.take i)).toArray⟩ : ByteArray).size ≤ 8700000000 := by rw [list_size]; exact hjl
          have HTk2 : Hid ((⟨(joinV (vs.take i)).toArray⟩ ++ ⟨#[44, 32]⟩ ++ ⟨(printL ⟨k, n, t, bb⟩).toArray⟩ : ByteArray) = ⟨(joinV (vs.take (i + 1))).toArray⟩) := by
            show _ = _
            rw [HTk.out, show (⟨#[44, 32]⟩ : ByteArray) = ⟨([44, 32] : List UInt8).toArray⟩ from rfl, ba_mk, ba_mk, List.append_assoc]
          have hcs : (⟨#[44, 32]⟩ : ByteArray).size = 2 := rfl
          generalize (⟨(printL ⟨k, n, t, bb⟩).toArray⟩ : ByteArray) = PB at *
          generalize (⟨(joinV (vs.take i)).toArray⟩ : ByteArray) = SB at *
          have has : (SB ++ ⟨#[44, 32]⟩ : ByteArray).size = SB.size + 2 := by rw [ByteArray.size_append]; rfl
          clear hvi HV hi2 h0 hpr hn0 hpl hjl HTk
          go_wp2_with fail
          refine (HPr.out _).mono ?_
          rintro e w1 ⟨rfl, hb1⟩
          have HB1 := Lib.hid (below_step HBw.out hb1)
          clear hb1 HBw p0 p1 p2 p3 HPr
          go_wp2_with fail
          go_roundw
          case rel => exact ⟨i + 1, by omega, by go_num, by rw [HTk2.out], HV2, HB1⟩
          case measure => simp [intOf]; omega
      · obtain ⟨E, hE⟩ : ∃ E, validN ⟨k, n, t, bb⟩ = E := ⟨_, rfl⟩
        have hpr : prS ⟨k, n, t, bb⟩ = [] := by rw [prS, if_neg h0]
        have HF := Lib.hid (HBad.out E (txE_bad hi2 HV.out (E := E) (by rw [hvi]; exact hE) (by rw [← hE]; exact h0)) (by rw [← hE]; exact h0))
        rw [hpr, hE] at HPr
        have h0' : (E != 0) = true := by rw [← hE]; simpa using h0
        clear hvi HV hi2 h0 hpr hE hn0
        generalize (⟨(joinV (vs.take i)).toArray⟩ : ByteArray) = SB at *
        go_wp2_with fail
        refine (HPr.out _).mono ?_
        rintro e w1 ⟨rfl, hb1⟩
        have HB1 := Lib.hid (below_step HBw.out hb1)
        clear hb1 HBw p0 p1 p2 p3 HPr
        go_wp2_with fail
        exact bodyPost_ret (v := .tuple #[.string ⟨#[]⟩, .int .i64 E]) (by simp [results, Tryz.results10, go_sem]) rfl ⟨by rw [HF.out], HB1.out⟩
    · obtain rfl : i = L := by omega
      have e1 : vs.take i = vs := List.take_of_length_le (by rw [HL.out]; exact Nat.le_refl _)
      rw [e1]
      have HF := Lib.hid (HOk.out (txE_ok (fun j hj => HV.out j hj (by rw [← HL.out]; exact hj))))
      generalize (⟨(joinV vs).toArray⟩ : ByteArray) = SB at *
      clear HV e1
      go_wp2_with fail
      exact bodyPost_ret (v := .tuple #[.string SB, .int .i64 0]) (by simp [results, Tryz.results10, go_sem]) rfl ⟨by rw [HF.out], HBw.out⟩
end Go.Proofs.YtlldamgnfaikhaaGreatDoor
