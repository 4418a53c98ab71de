/- The walks of table's Column and the document's. -/
import Derived.Test.YtlgnllnjhpihdaaDoorTbRCheck
namespace Go.Proofs.YtlgnllnjhpihdaaDoor
open Go.RowKit Go.Sort

/-- A column's place, and the error. -/
def colI (name : ByteArray) (cs : List Col) : Int := if idxP (isN name) cs < 0 then 0 else idxP (isN name) cs
def colX (name : ByteArray) (cs : List Col) : Int := if idxP (isN name) cs < 0 then 30 else 0
set_option maxRecDepth 100000 in
set_option maxHeartbeats 1000000 in
theorem tcolumn_ (nm : ByteArray) (at_ : Option Addr) (ct : Nat) (cs : List Col) (name : ByteArray) (w : World) (hc : ColsIn w at_ cs) (hl : cs.length ≤ 140737488355328) :
    Calls Tryd.prog 10 #[.agg #[.string nm, .slice at_ cs.length ct], .string name] w fun e w' => e = .returned (.tuple #[.int .i64 (colI name cs), errV 63 (colX name cs)]) ∧ Below w.heap.size w w' := by
  obtain ⟨W1, hW1⟩ : ∃ W1, W1 = w.alloc (.cells #[.string nm, .slice at_ cs.length ct] 24) := ⟨_, rfl⟩
  have hB1 : Below w.heap.size w W1 := by rw [hW1]; exact below_alloc1 _ _
  have HB1 := Lib.hid hB1
  have HT : Hid (InT W1 w.heap.size nm at_ cs.length ct) := by show InT _ _ _ _ _ _; rw [hW1]; exact inT_new _ _ _ _ _ _
  have HP := Lib.hid (placeOf_ name at_ ct cs W1 (hc.on hB1) hl)
  have HW1 := Lib.hid hW1.symm
  have hcase := idxP_any (isN name) cs
  have HI : Hid (colI name cs = if idxP (isN name) cs < 0 then 0 else idxP (isN name) cs) := rfl
  have HX : Hid (colX name cs = if idxP (isN name) cs < 0 then 30 else 0) := rfl
  generalize colI name cs = I at *
  generalize colX name cs = X at *
  generalize idxP (isN name) cs = P at *
  generalize cs.any (isN name) = A at *
  generalize cs.length = L at *
  obtain ⟨t0, t1⟩ := HT.out
  clear hc hB1 hW1 hl
  rcases hcase with ⟨_, i, rfl, _⟩ | ⟨_, rfl⟩
  · have HF : Hid (I = (i : Int) ∧ X = 0) := ⟨by rw [HI.out, if_neg (by omega)], by rw [HX.out, if_neg (by omega)]⟩
    have h0 : ¬ ((i : Int) < 0) := by omega
    clear HI HX
    go_enter Tryd.func10, Tryd.ntmps10
    go_wp2_with fail
    rw [HW1.out]
    go_wp2_with (first | (go_at_call 31; refine HP.out.mono ?_; rintro e w1 ⟨rfl, hb1⟩) | fail)
    exact bodyPost_ret (v := .tuple #[.int .i64 i, .nilIface]) (by simp [results, Tryd.results10, go_sem]) rfl ⟨by rw [HF.out.1, HF.out.2]; rfl, below_step HB1.out hb1⟩
  · have HF : Hid (I = 0 ∧ X = 30) := ⟨by rw [HI.out]; rfl, by rw [HX.out]; rfl⟩
    clear HI HX
    go_enter Tryd.func10, Tryd.ntmps10
    go_wp2_with fail
    rw [HW1.out]
    go_wp2_with (first | (go_at_call 31; refine HP.out.mono ?_; rintro e w1 ⟨rfl, hb1⟩) | fail)
    exact bodyPost_ret (v := .tuple #[.int .i64 0, .iface 63 (.int .i64 30)]) (by simp [results, Tryd.results10, go_sem]) rfl ⟨by rw [HF.out.1, HF.out.2]; rfl, below_step HB1.out hb1⟩
set_option maxRecDepth 100000 in
set_option maxHeartbeats 1000000 in
theorem rcolumn_ (nm : ByteArray) (at_ : Option Addr) (ct : Nat) (cs : List Col) (name : ByteArray) (w : World) (hc : ColsIn w at_ cs) (hl : cs.length ≤ 140737488355328) :
    Calls Tryd.prog 11 #[.agg #[.string nm, .slice at_ cs.length ct], .string name] w fun e w' => e = .returned (.tuple #[.int .i64 (colI name cs), .int .i64 (colX name cs)]) ∧ Below w.heap.size w w' := by
  obtain ⟨W1, hW1⟩ : ∃ W1, W1 = w.alloc (.cells #[.string nm, .slice at_ cs.length ct] 24) := ⟨_, rfl⟩
  have hB1 : Below w.heap.size w W1 := by rw [hW1]; exact below_alloc1 _ _
  have HB1 := Lib.hid hB1
  have HT : Hid (InT W1 w.heap.size nm at_ cs.length ct) := by show InT _ _ _ _ _ _; rw [hW1]; exact inT_new _ _ _ _ _ _
  have HJ := Lib.hid (hc.on hB1)
  have HW1 := Lib.hid hW1.symm
  obtain ⟨L, hL⟩ : ∃ L, cs.length = L := ⟨_, rfl⟩
  have HL := Lib.hid hL
  rw [hL] at HT HW1 hl ⊢
  have HI : Hid (colI name cs = if idxP (isN name) cs < 0 then 0 else idxP (isN name) cs) := rfl
  have HX : Hid (colX name cs = if idxP (isN name) cs < 0 then 30 else 0) := rfl
  generalize colI name cs = I at *
  generalize colX name cs = X at *
  obtain ⟨t0, t1⟩ := HT.out
  clear hc hB1 hW1 hL
  go_enter Tryd.func11, Tryd.ntmps11
  go_wp2_with fail
  rw [HW1.out]
  go_wp2_with fail
  go_loopw [6] (fun iv wr => ∃ i : Nat, i ≤ L ∧ iv = .int .i64 i ∧ wr = W1 ∧ Hid (∀ j (h : j < cs.length), j < i → isN name cs[j] = false)) (fun iv _ => L - (intOf iv).toNat)
  case atStart => exact ⟨0, Nat.zero_le _, rfl, rfl, fun j _ hj => by omega⟩
  case round =>
    obtain ⟨i, hi, rfl, rfl, HV⟩ := hrel
    by_cases hlt : i < L
    · have hlt2 : (i : Int) < (L : Int) := by omega
      have hi1 : i < cs.length := by rw [HL.out]; exact hlt
      obtain ⟨b1, o1, rfl, cn, kc, ky, nl, hci, q0, q1, q2, q3⟩ := ColsIn.get HJ.out i hi1
      simp only at q0
      have HCi : Hid (isN name cs[i] = (cn.toList == name.toList)) := by show _ = _; rw [hci, beq_lst]; rfl
      by_cases he : lst cn = lst name
      · have he2 : (cn.toList == name.toList) = true := by rw [beq_lst, he]; simp
        have hix : idxP (isN name) cs = i := idxP_at hi1 HV.out (by rw [HCi.out]; exact he2)
        have HF : Hid (I = (i : Int) ∧ X = 0) := ⟨by rw [HI.out, hix, if_neg (by omega)], by rw [HX.out, hix, if_neg (by omega)]⟩
        clear HI HX hix he HV HCi hci
        go_wp2_with fail
        exact bodyPost_ret (v := .tuple #[.int .i64 i, .int .i64 0]) (by simp [results, Tryd.results11, go_sem]) rfl ⟨by rw [HF.out.1, HF.out.2], HB1.out⟩
      · have he2 : (cn.toList == name.toList) = false := beq_ne he
        have HV2 : Hid (∀ j (h : j < cs.length), j < i + 1 → isN name cs[j] = false) := fun j hj hji => by
          rcases Nat.lt_or_ge j i with hh | hh
          · exact HV.out j hj hh
          · obtain rfl : j = i := by omega
            rw [HCi.out]; exact he2
        clear HV HCi hci he
        go_wp2_with fail
        go_roundw
        case rel => exact ⟨i + 1, by omega, by go_num, by trivial, HV2⟩
        case measure => simp [intOf]; omega
    · obtain rfl : i = L := by omega
      have hii : ¬ ((i : Int) < (i : Int)) := by omega
      have hix : idxP (isN name) cs = -1 := idxP_none fun j hj => HV.out j hj (by rw [← HL.out]; exact hj)
      have HF : Hid (I = 0 ∧ X = 30) := ⟨by rw [HI.out, hix]; rfl, by rw [HX.out, hix]; rfl⟩
      clear HI HX hix HV
      go_wp2_with fail
      exact bodyPost_ret (v := .tuple #[.int .i64 0, .int .i64 30]) (by simp [results, Tryd.results11, go_sem]) rfl ⟨by rw [HF.out.1, HF.out.2], HB1.out⟩
end Go.Proofs.YtlgnllnjhpihdaaDoor
