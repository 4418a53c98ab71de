/- The walk of row.Encode. -/
import Derived.Test.YtlldamgnfaikhaaDoorRwCheck
import Derived.Test.YtlldamgnfaikhaaDoorRwLay
namespace Go.Proofs.YtlldamgnfaikhaaDoor
open Go.RowKit Go.Sort

/-- What Encode hands back. -/
def EncTo (w : World) (cs : List Col) (vs : List Val) (e : Ending) (w' : World) : Prop :=
  ∃ v, e = .returned (.tuple #[v, errV 57 (chkR cs vs)]) ∧ Own w' w.heap.size v (if chkR cs vs = 0 then rowB vs else []) ∧ Below w.heap.size w w'
set_option maxRecDepth 100000 in
set_option maxHeartbeats 1000000 in
theorem rencode_ (nm : ByteArray) (at_ : Option Addr) (ct : Nat) (cs : List Col) (a : Option Addr) (c : Nat) (vs : List Val) (w : World) (hc : ColsIn w at_ cs) (h : ValsIn w a vs) (hw : ∀ x ∈ vs, inI x.n) (hcl : cs.length ≤ 1048576) (hwt : wtV vs ≤ 1048576) :
    Calls Tryd.prog 6 #[.agg #[.string nm, .slice at_ cs.length ct], .slice a vs.length c] w (EncTo w cs vs) := by
  have hvl : vs.length ≤ 1048576 := Nat.le_trans (wtV_len vs) hwt
  have HK : Hid (∀ W, Below w.heap.size w W → Calls Tryd.prog 16 #[.agg #[.string nm, .slice at_ cs.length ct], .slice a vs.length c] W fun e w' => e = .returned (errV 57 (chkR cs vs)) ∧ Below W.heap.size W w') := fun W hW => check_ nm at_ ct cs a c vs W (hc.on hW) (h.on hW) (by omega) (by omega)
  have HI := Lib.hid h
  have HLn := Lib.hid (rowB_lim hw hwt)
  have HW := Lib.hid hw
  obtain ⟨L, hL⟩ : ∃ L, vs.length = L := ⟨_, rfl⟩
  have HL := Lib.hid hL
  rw [hL] at hvl HK
  rw [hL]
  generalize cs.length = C at *
  unfold EncTo
  clear h hw hc
  by_cases h0 : chkR cs vs = 0
  · have HV := Lib.hid (chkR_valid h0)
    rw [if_pos h0]
    have h0' : errV 57 (chkR cs vs) = .nilIface := by rw [errV, if_pos h0]
    rw [h0'] at HK
    rw [h0']
    clear h0 h0' hL
    obtain ⟨t0, t1⟩ := inT_new w nm at_ C ct 24
    have HB0 : Hid (Below w.heap.size w (w.alloc (.cells #[.string nm, .slice at_ C ct] 24))) := below_alloc1 _ _
    go_enter Tryd.func6, Tryd.ntmps6
    go_wp2_with fail
    refine (HK.out _ HB0.out).mono ?_
    rintro e w1 ⟨rfl, hb1⟩
    have HB1 := Lib.hid (below_step HB0.out hb1)
    clear hb1 HB0 HK t0 t1
    go_wp2_with fail
    go_loopw [7, 18] (fun ov iv wr => ∃ i : Nat, i ≤ L ∧ iv = .int .i64 i ∧ Hid (Own wr w.heap.size ov (rowB (vs.take i))) ∧ Hid (Below w.heap.size w wr)) (fun _ iv _ => L - (intOf iv).toNat)
    case atStart => exact ⟨0, Nat.zero_le _, rfl, own_nil _ _, HB1⟩
    case round =>
      clear HB1
      obtain ⟨i, hi, rfl, HO, HBx⟩ := hrel
      by_cases hjl : i < L
      · have hjl2 : (i : Int) < (L : Int) := by omega
        have hj2 : i < vs.length := by rw [HL.out]; exact hjl
        obtain ⟨b, o, rfl, k, n, t, bb, hvi, hin⟩ := ValsIn.get (HI.out.on HBx.out) i hj2
        obtain ⟨p0, p1, p2, p3⟩ := hin
        have hv0 : validN ⟨k, n, t, bb⟩ = 0 := by rw [← hvi]; exact HV.out _ (List.getElem_mem hj2)
        have hn0 : inI n := by have := HW.out vs[i] (List.getElem_mem hj2); rw [hvi] at this; exact this
        obtain ⟨XS, hXS⟩ : ∃ XS, XS = rowB (vs.take i) := ⟨_, rfl⟩
        have hxl : XS.length ≤ 3145728 := by rw [hXS]; exact HLn.out i
        rw [← hXS] at HO
        have HLY : Hid (∀ W, Below wr.heap.size wr W → Calls Tryd.prog 17 #[_, .agg #[.int .i64 k, .int .i64 n, .string t, .bool bb]] W fun e w' => ∃ v', e = .returned v' ∧ Own w' w.heap.size v' (rowB (vs.take (i + 1))) ∧ Below w.heap.size w w') := fun W hW =>
          (rlay_ w.heap.size k n t bb _ XS W (Nat.le_trans HBx.out.size hW.size) hv0 hn0 (by omega) (HO.out.on hW)).mono fun e w' ⟨v', he, ho, hb⟩ => ⟨v', he, by rw [rowB_take hj2, ← hXS, hvi]; exact ho, (below_step HBx.out hW).trans hb⟩
        clear hvi hv0 hn0 hxl hXS HO
        go_wp2_with fail
        refine (HLY.out _ ((Below.refl _ _).alloc (Nat.le_refl _) _)).mono ?_
        rintro e w2 ⟨v1, rfl, ho1, hb1⟩
        have HO1 := Lib.hid ho1
        have HB1 := Lib.hid hb1
        clear ho1 hb1 HLY HBx p0 p1 p2 p3 hj2
        go_wp2_with fail
        go_roundw
        case rel => exact ⟨i + 1, by omega, by go_num, HO1, HB1⟩
        case measure => simp [intOf]; omega
      · obtain rfl : i = L := by omega
        have e1 : vs.take i = vs := List.take_of_length_le (by rw [HL.out]; exact Nat.le_refl _)
        rw [e1] at HO
        clear e1 HLn HI HW HV
        go_wp2_with fail
        exact bodyPost_ret (by simp [results, Tryd.results6, go_sem]) rfl ⟨_, rfl, HO.out, HBx.out⟩
  · rw [if_neg h0]
    obtain ⟨E, hE⟩ : ∃ E, chkR cs vs = E := ⟨_, rfl⟩
    have h0' : errV 57 (chkR cs vs) = .iface 57 (.int .i64 E) := by rw [errV, if_neg h0, hE]
    rw [h0'] at HK
    rw [h0']
    clear h0 h0' hL hE
    obtain ⟨t0, t1⟩ := inT_new w nm at_ C ct 24
    have HB0 : Hid (Below w.heap.size w (w.alloc (.cells #[.string nm, .slice at_ C ct] 24))) := below_alloc1 _ _
    go_enter Tryd.func6, Tryd.ntmps6
    go_wp2_with fail
    refine (HK.out _ HB0.out).mono ?_
    rintro e w1 ⟨rfl, hb1⟩
    have HB1 := Lib.hid (below_step HB0.out hb1)
    clear hb1 HB0 HK t0 t1
    go_wp2_with fail
    exact bodyPost_ret (v := .tuple #[.slice none 0 0, .iface 57 (.int .i64 E)]) (by simp [results, Tryd.results6, go_sem]) rfl ⟨_, rfl, own_nil _ _, HB1.out⟩
end Go.Proofs.YtlldamgnfaikhaaDoor
