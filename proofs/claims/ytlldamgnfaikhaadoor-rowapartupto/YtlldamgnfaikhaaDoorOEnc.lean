/- The walk of order.Encode. -/
import Derived.Test.YtlldamgnfaikhaaDoorOLay
namespace Go.Proofs.YtlldamgnfaikhaaDoor
open Go.RowKit Go.Sort

theorem ValsIn.get {w : World} {a : Option Addr} {vs : List Val} (h : ValsIn w a vs) (i : Nat) (hi : i < vs.length) : ∃ b o, a = some ⟨b, o, none⟩ ∧ ∃ k n t bb, vs[i] = ⟨k, n, t, bb⟩ ∧ In4 w b (o + i * 4) k n t bb := by
  obtain ⟨b, o, e, h1⟩ := h i hi
  exact ⟨b, o, e, _, _, _, _, rfl, h1⟩
theorem errL_bad {vs : List Val} {i : Nat} (hi : i < vs.length) (h : ∀ j (h : j < vs.length), j < i → validN vs[j] = 0) {E : Int} (hE : validN vs[i] = E) (h0 : E ≠ 0) : errL vs = E ∧ txtL vs = [] := by
  have e : errL vs = E := by
    unfold errL
    rw [encE_at vs vs.length i h, List.drop_eq_getElem_cons hi, encE, hE, if_pos h0]
  exact ⟨e, by rw [txtL, e, if_neg h0]⟩
theorem errL_long {vs : List Val} (h : ∀ j (h : j < vs.length), validN vs[j] = 0) (hl : 16 < vs.length) : errL vs = 2 ∧ txtL vs = [] := by
  have e : errL vs = 2 := by
    unfold errL
    rw [encE_at vs vs.length vs.length (fun j hj _ => h j hj), List.drop_length, encE, if_pos hl]
  exact ⟨e, by rw [txtL, e, if_neg (by decide)]⟩
theorem errL_ok {vs : List Val} (h : ∀ j (h : j < vs.length), validN vs[j] = 0) (hl : vs.length ≤ 16) : errL vs = 0 ∧ txtL vs = encL vs := by
  have e : errL vs = 0 := (errL_zero vs).2 ⟨fun v hv => by obtain ⟨j, hj, rfl⟩ := List.getElem_of_mem hv; exact h j hj, hl⟩
  exact ⟨e, by rw [txtL, e, if_pos rfl]⟩
theorem enc_take {vs : List Val} {i : Nat} (hi : i < vs.length) : ns (encL (vs.take (i + 1))) = ns (encL (vs.take i)) ++ ns (encV vs[i]) := by
  rw [List.take_add_one, List.getElem?_eq_getElem hi, ns_append]
  show ns (encL (vs.take i ++ [vs[i]])) = _
  rw [encL_snoc]
theorem enc_take_len {vs : List Val} (h : ∀ j (h : j < vs.length), validN vs[j] = 0) (hl : vs.length ≤ 16) (i : Nat) : (ns (encL (vs.take i))).length ≤ 65568 := by
  rw [ns_length]
  have := encL_len (vs.take i) (fun v hv => by
    obtain ⟨j, hj, rfl⟩ := List.getElem_of_mem (List.mem_of_mem_take hv)
    exact h j hj)
  have h2 : (vs.take i).length ≤ vs.length := List.length_take_le' _ _
  omega
set_option maxHeartbeats 1000000 in
theorem encode_ (a : Option Addr) (c : Nat) (vs : List Val) (w : World) (h : ValsIn w a vs) (hw : ∀ x ∈ vs, inI x.n) (hlen : vs.length ≤ 140737488355328) :
    Calls Tryd.prog 26 #[.slice a vs.length c] w fun e w' => e = .returned (.tuple #[.string ⟨(txtL vs).toArray⟩, errV 57 (errL vs)]) ∧ Below w.heap.size w w' := by
  obtain ⟨L, hL⟩ : ∃ L, vs.length = L := ⟨_, rfl⟩
  have HL := Lib.hid hL
  have HI := Lib.hid h
  have HW := Lib.hid hw
  rw [hL] at hlen
  rw [hL]
  obtain ⟨R, hR⟩ : ∃ R : Value × Value, R = (.string ⟨(txtL vs).toArray⟩, errV 57 (errL vs)) := ⟨_, rfl⟩
  have HR : Hid (R = (.string ⟨(txtL vs).toArray⟩, errV 57 (errL vs))) := hR
  rw [show (Value.string ⟨(txtL vs).toArray⟩) = R.1 by rw [hR], show errV 57 (errL vs) = R.2 by rw [hR]]
  clear h hw hL hR
  go_enter Tryd.func26, Tryd.ntmps26
  go_wp2_with fail
  go_loopw [12] (fun iv wr => ∃ i : Nat, i ≤ L ∧ iv = .int .i64 i ∧ Hid (∀ j (h : j < vs.length), j < i → validN vs[j] = 0) ∧ Hid (Below w.heap.size w wr)) (fun iv _ => L - (intOf iv).toNat)
  case atStart => exact ⟨0, Nat.zero_le _, rfl, fun j _ hj => by omega, Below.refl _ _⟩
  case round =>
    obtain ⟨i, hi, rfl, HV, HBw⟩ := hrel
    by_cases hlt : i < L
    · have hlt2 : (i : Int) < (L : Int) := by omega
      have hi2 : i < vs.length := by rw [HL.out]; exact hlt
      obtain ⟨b, o, rfl, k, n, t, bb, hvi, hin⟩ := ValsIn.get (HI.out.on HBw.out) i hi2
      obtain ⟨p0, p1, p2, p3⟩ := hin
      have HC : Hid (∀ W, Calls Tryd.prog 42 #[.agg #[.int .i64 k, .int .i64 n, .string t, .bool bb]] W fun e w' => e = .returned (errV 57 (validN ⟨k, n, t, bb⟩)) ∧ Below W.heap.size W w') := fun W => valid_ k n t bb W
      by_cases h0 : validN ⟨k, n, t, bb⟩ = 0
      · have h0' : errV 57 (validN ⟨k, n, t, bb⟩) = .nilIface := by rw [errV, if_pos h0]
        rw [h0'] at HC
        have HV2 : Hid (∀ j (h : j < vs.length), j < i + 1 → validN vs[j] = 0) := fun j hj hji => by
          rcases Nat.lt_or_ge j i with hh | hh
          · exact HV.out j hj hh
          · obtain rfl : j = i := by omega
            rw [hvi]; exact h0
        clear h0 h0' hvi HV hi2
        go_wp2_with fail
        refine (HC.out _).mono ?_
        rintro e w1 ⟨rfl, hb1⟩
        have HB1 : Hid (Below w.heap.size w w1) := below_step (below_step HBw.out ((Below.refl _ _).alloc (Nat.le_refl _) _)) hb1
        clear hb1 HBw p0 p1 p2 p3
        go_wp2_with fail
        go_roundw
        case rel => exact ⟨i + 1, by omega, by go_num, HV2, HB1⟩
        case measure => simp [intOf]; omega
      · obtain ⟨E, hE⟩ : ∃ E, validN ⟨k, n, t, bb⟩ = E := ⟨_, rfl⟩
        have h0' : errV 57 (validN ⟨k, n, t, bb⟩) = .iface 57 (.int .i64 E) := by rw [errV, if_neg h0, hE]
        have HF : Hid (R = (.string ⟨#[]⟩, .iface 57 (.int .i64 E))) := by
          obtain ⟨e1, e2⟩ := errL_bad hi2 HV.out (E := E) (by rw [hvi]; exact hE) (by rw [← hE]; exact h0)
          show _ = _
          rw [HR.out, e1, e2, errV, if_neg (by rw [← hE]; exact h0)]
        rw [h0'] at HC
        clear h0 h0' hvi HV hi2 hE
        go_wp2_with fail
        refine (HC.out _).mono ?_
        rintro e w1 ⟨rfl, hb1⟩
        have HB1 : Hid (Below w.heap.size w w1) := below_step (below_step HBw.out ((Below.refl _ _).alloc (Nat.le_refl _) _)) hb1
        clear hb1 HBw p0 p1 p2 p3
        go_wp2_with fail
        exact bodyPost_ret (v := .tuple #[.string ⟨#[]⟩, .iface 57 (.int .i64 E)]) (by simp [results, Tryd.results26, go_sem]) rfl ⟨by rw [HF.out], HB1.out⟩
    · obtain rfl : i = L := by omega
      by_cases h16 : 16 < i
      · have h16' : (16 : Int) < (i : Int) := by omega
        have HF : Hid (R = (.string ⟨#[]⟩, .iface 57 (.int .i64 2))) := by
          obtain ⟨e1, e2⟩ := errL_long (fun j hj => HV.out j hj (by rw [← HL.out]; exact hj)) (by rw [HL.out]; exact h16)
          show _ = _
          rw [HR.out, e1, e2, errV, if_neg (by decide)]
        clear HV
        go_wp2_with fail
        exact bodyPost_ret (v := .tuple #[.string ⟨#[]⟩, .iface 57 (.int .i64 2)]) (by simp [results, Tryd.results26, go_sem]) rfl ⟨by rw [HF.out], HBw.out⟩
      · have h16' : (i : Int) ≤ 16 := by omega
        have HA : Hid (∀ j (h : j < vs.length), validN vs[j] = 0) := fun j hj => HV.out j hj (by rw [← HL.out]; exact hj)
        have HF : Hid (R = (.string ⟨(encL vs).toArray⟩, .nilIface)) := by
          obtain ⟨e1, e2⟩ := errL_ok HA.out (by rw [HL.out]; omega)
          show _ = _
          rw [HR.out, e1, e2, errV, if_pos rfl]
        have HLn : Hid (∀ j, (ns (encL (vs.take j))).length ≤ 65568) := fun j => enc_take_len HA.out (by rw [HL.out]; omega) j
        clear HV HR
        go_wp2_with fail
        go_loopw [7, 28] (fun ov jv wx => ∃ j : Nat, j ≤ i ∧ jv = .int .i64 j ∧ Hid (Own wx w.heap.size ov (ns (encL (vs.take j)))) ∧ Hid (Below w.heap.size w wx)) (fun _ jv _ => i - (intOf jv).toNat)
        case atStart => exact ⟨0, Nat.zero_le _, rfl, own_nil _ _, HBw⟩
        case round =>
          clear HBw
          obtain ⟨j, hj, rfl, HO, HBx⟩ := hrel
          by_cases hjl : j < i
          · have hjl2 : (j : Int) < (i : Int) := by omega
            have hj2 : j < vs.length := by rw [HL.out]; exact hjl
            obtain ⟨b, o, rfl, k, n, t, bb, hvi, hin⟩ := ValsIn.get (HI.out.on HBx.out) j hj2
            obtain ⟨p0, p1, p2, p3⟩ := hin
            have hv0 : validN ⟨k, n, t, bb⟩ = 0 := by rw [← hvi]; exact HA.out j hj2
            have hn0 : inI n := by have := HW.out vs[j] (List.getElem_mem hj2); rw [hvi] at this; exact this
            obtain ⟨XS, hXS⟩ : ∃ XS, XS = ns (encL (vs.take j)) := ⟨_, rfl⟩
            have hxl : XS.length ≤ 65568 := by rw [hXS]; exact HLn.out j
            rw [← hXS] at HO
            have HLY : Hid (∀ W, Below wr.heap.size wr W → Calls Tryd.prog 43 #[_, .agg #[.int .i64 k, .int .i64 n, .string t, .bool bb]] W fun e w' => ∃ v', e = .returned v' ∧ Own w' w.heap.size v' (ns (encL (vs.take (j + 1)))) ∧ Below w.heap.size w w') := fun W hW =>
              (lay_ w.heap.size k n t bb _ XS W (Nat.le_trans HBx.out.size hW.size) hv0 hn0 (by omega) (HO.out.on hW)).mono fun e w' ⟨v', he, ho, hb⟩ => ⟨v', he, by rw [enc_take hj2, ← hXS, hvi]; exact ho, (below_step HBx.out hW).trans hb⟩
            clear hvi hv0 hn0 hxl hXS HO
            go_wp2_with fail
            refine (HLY.out _ ((Below.refl _ _).alloc (Nat.le_refl _) _)).mono ?_
            rintro e w1 ⟨v1, rfl, ho1, hb1⟩
            have HO1 := Lib.hid ho1
            have HB1 := Lib.hid hb1
            clear ho1 hb1 HLY HBx p0 p1 p2 p3 hj2
            go_wp2_with fail
            go_roundw
            case rel => exact ⟨j + 1, by omega, by go_num, HO1, HB1⟩
            case measure => simp [intOf]; omega
          · obtain rfl : j = i := by omega
            have e1 : vs.take j = vs := List.take_of_length_le (by rw [HL.out]; exact Nat.le_refl _)
            rw [e1] at HO
            obtain ⟨a', c', rfl, hbi, _⟩ := HO.out.bytes
            have kv := conv_ wr a' _ c' _ rfl hbi
            rw [bs_ns] at kv
            generalize (ns (encL vs)).length = LL at *
            clear HO hbi e1 HLn HA
            go_wp2_with fail
            exact bodyPost_ret (v := .tuple #[.string ⟨(encL vs).toArray⟩, .nilIface]) (by simp [results, Tryd.results26, go_sem]) rfl ⟨by rw [HF.out], HBx.out⟩
end Go.Proofs.YtlldamgnfaikhaaDoor
