/- The walk of table's Text. -/
import Derived.Test.YtlgnllnjhpihdaaDoorTbColT
namespace Go.Proofs.YtlgnllnjhpihdaaDoor
open Go.RowKit Go.Sort

/-- A table's text, if it may be. -/
def txtS (t : Tab) : ByteArray := if chkT t = 0 then ofL (txtT t) else ⟨#[]⟩
theorem txtS_ok {t : Tab} (h : chkT t = 0) : txtS t = ⟨#[84, 65, 66, 76, 69, 32]⟩ ++ t.nm ++ ⟨#[32, 40]⟩ ++ ⟨(Lib.join (t.cs.map colT) [44, 32]).toArray⟩ ++ ⟨#[41]⟩ := by
  rw [txtS, if_pos h]
  apply ba_ext
  simp only [ba_append, txtT, lst, ofL, headW, List.append_assoc]
theorem txtS_bad {t : Tab} {E : Int} (h : chkT t = E) (h0 : E ≠ 0) : txtS t = ⟨#[]⟩ := by rw [txtS, if_neg (by rw [h]; exact h0)]
theorem join_len : ∀ (cs : List Col), (∀ c ∈ cs, RightC c) → (Lib.join (cs.map colT) [44, 32]).length ≤ cs.length * 44
  | [], _ => by simp [Lib.join_nil]
  | [c], h => by
    have := colT_len (h c (by simp))
    simp only [List.map_cons, List.map_nil, Lib.join_one, List.length_cons, List.length_nil]; omega
  | c :: d :: cs, h => by
    have h1 := colT_len (h c (by simp))
    have h2 := join_len (d :: cs) (fun x hx => h x (by simp at hx ⊢; exact .inr hx))
    simp only [List.map_cons] at h2 ⊢
    rw [join_two]
    simp only [List.length_append, List.length_cons, List.length_nil] at h2 ⊢
    omega
set_option maxRecDepth 100000 in
set_option maxHeartbeats 1000000 in
theorem ttext_ (nm : ByteArray) (at_ : Option Addr) (ct : Nat) (cs : List Col) (w : World) (hc : ColsIn w at_ cs) (hcap : cs.length ≤ ct) (hcl : cs.length ≤ 140737488355328) :
    Calls Tryd.prog 8 #[.agg #[.string nm, .slice at_ cs.length ct]] w fun e w' => e = .returned (.tuple #[.string (txtS ⟨nm, cs⟩), errV 63 (chkT ⟨nm, cs⟩)]) ∧ Below w.heap.size w w' := by
  obtain ⟨V, hV⟩ : ∃ V, V = w.alloc (.cells #[.string nm, .slice at_ cs.length ct] 24) := ⟨_, rfl⟩
  have hB0 : Below w.heap.size w V := by rw [hV]; exact below_alloc1 _ _
  have hT : InT V w.heap.size nm at_ cs.length ct := by rw [hV]; exact inT_new _ _ _ _ _ _
  have HCk := Lib.hid (tcheck_ nm at_ ct cs V (hc.on hB0) hcap hcl)
  obtain ⟨C, hC⟩ : ∃ C, cs.length = C := ⟨_, rfl⟩
  have HC := Lib.hid hC
  have HB0 := Lib.hid hB0
  have HT := Lib.hid hT
  have HJ := Lib.hid (hc.on hB0)
  have HVe := Lib.hid hV.symm
  rw [hC] at HCk HT hT HVe ⊢
  by_cases h0 : chkT ⟨nm, cs⟩ = 0
  · have hr := right_of_chk h0
    have HR := Lib.hid hr
    have htx := txtS_ok h0
    have hjl := join_len cs hr.cols
    have hpos : 0 < C := by rw [← hC]; exact hr.pos
    have hC16 : C ≤ 16 := by rw [← hC]; exact hr.len
    have hnm : nm.size ≤ 32 := by rw [size_lst]; exact (name_ok hr.nm).2.1
    rw [h0, errV, if_pos rfl] at HCk
    rw [h0, htx, errV, if_pos rfl]
    obtain ⟨S, hS⟩ : ∃ S : ByteArray, S = ⟨#[84, 65, 66, 76, 69, 32]⟩ ++ (⟨nm, cs⟩ : Tab).nm ++ ⟨#[32, 40]⟩ ++ ⟨(Lib.join ((⟨nm, cs⟩ : Tab).cs.map colT) [44, 32]).toArray⟩ ++ ⟨#[41]⟩ := ⟨_, rfl⟩
    have HS : Hid (S = ⟨#[84, 65, 66, 76, 69, 32]⟩ ++ nm ++ ⟨#[32, 40]⟩ ++ ⟨(Lib.join (cs.map colT) [44, 32]).toArray⟩ ++ ⟨#[41]⟩) := hS
    rw [← hS]
    rw [hC] at hjl
    clear hS htx hr h0 hc hB0 hT hC hV
    go_enter Tryd.func8, Tryd.ntmps8
    go_wp2_with fail
    rw [HVe.out]
    obtain ⟨t0, t1⟩ := HT.out
    go_wp2_with fail
    refine HCk.out.mono ?_
    rintro e w1 ⟨rfl, hb1⟩
    have HB1 := Lib.hid (below_step HB0.out hb1)
    have HT1 := Lib.hid (HT.out.on hb1)
    have HJ1 := Lib.hid (HJ.out.on hb1)
    obtain ⟨s0, s1⟩ := HT1.out
    clear hb1 t0 t1 HCk HT HJ
    go_wp2_with fail
    clear s0 s1
    go_loopw [5, 16] (fun lv iv wr => ∃ i : Nat, i ≤ C ∧ iv = .int .i64 i ∧ Hid (OwnT wr w1.heap.size lv ((cs.take i).map colT)) ∧ Hid (Below w1.heap.size w1 wr)) (fun _ iv _ => C - (intOf iv).toNat)
    case atStart => exact ⟨0, Nat.zero_le _, rfl, ownT_nil _ _, Below.refl _ _⟩
    case round =>
      obtain ⟨i, hi, rfl, HO, HBw⟩ := hrel
      by_cases hlt : i < C
      · have hlt2 : (i : Int) < (C : Int) := by omega
        have hi1 : i < cs.length := by rw [HC.out]; exact hlt
        obtain ⟨b1, o1, rfl, cn, kc, ky, nl, hci, q0, q1, q2, q3⟩ := ColsIn.get (HJ1.out.on HBw.out) i hi1
        have hrc : RightC ⟨cn, kc, ky, nl⟩ := by rw [← hci]; exact HR.out.cols _ (List.getElem_mem hi1)
        have HBa := Lib.hid (below_step HBw.out (below_alloc1 wr (.cells #[.string cn, .int .i64 kc, .bool ky, .bool nl] 55)))
        have HCt : Hid (Calls Tryd.prog 29 #[.agg #[.string cn, .int .i64 kc, .bool ky, .bool nl]] (wr.alloc (.cells #[.string cn, .int .i64 kc, .bool ky, .bool nl] 55)) fun e w' => e = .returned (.string ⟨(colT ⟨cn, kc, ky, nl⟩).toArray⟩) ∧ Below (wr.alloc (.cells #[.string cn, .int .i64 kc, .bool ky, .bool nl] 55)).heap.size (wr.alloc (.cells #[.string cn, .int .i64 kc, .bool ky, .bool nl] 55)) w') := columnText_ cn kc ky nl _ hrc
        obtain ⟨r0, r1, r2, r3⟩ := inC_new wr ⟨cn, kc, ky, nl⟩ 55
        simp only at r0 r1 r2 r3
        have HTk : Hid ((cs.take (i + 1)).map colT = (cs.take i).map colT ++ [colT ⟨cn, kc, ky, nl⟩]) := by
          show _ = _
          rw [List.take_add_one, List.getElem?_eq_getElem hi1, hci]
          simp
        have hml : (((cs.take i).map colT).length + 1) * 16 ≤ 140737488355328 := by rw [List.length_map, List.length_take]; omega
        generalize colT ⟨cn, kc, ky, nl⟩ = PL at *
        generalize hTS : (cs.take i).map colT = TS at *
        clear hci hi1 hrc hTS
        go_wp2_with fail
        refine HCt.out.mono ?_
        rintro e w2 ⟨rfl, hb2⟩
        have HB2 := Lib.hid (below_step HBa.out hb2)
        have HO1 := Lib.hid ((HO.out.on (below_alloc1 wr (.cells #[.string cn, .int .i64 kc, .bool ky, .bool nl] 55))).on hb2)
        clear hb2 HBa HBw q0 q1 q2 q3 r0 r1 r2 r3 HCt HO
        go_wp2_with (first
          | (at_builtin; refine wpList_append_lit w1.heap.size _ w1 rfl _ _ rfl _ TS rfl (HO1.out.on (below_alloc1 w2 _)) _ PL rfl (by simp [go_sem]) hml (Nat.le_refl _) (below_step HB2.out (below_alloc1 w2 _)) ?_
             intro v' w3 hown hb3
             have HO2 := Lib.hid hown
             have HB3 := Lib.hid hb3
             clear hown hb3 HO1)
          | fail)
        go_roundw
        case rel => exact ⟨i + 1, by omega, by go_num, by rw [HTk.out]; exact HO2, HB3⟩
        case measure => simp [intOf]; omega
      · obtain rfl : i = C := by omega
        have e1 : cs.take i = cs := List.take_of_length_le (by rw [HC.out]; exact Nat.le_refl _)
        rw [e1] at HO
        have hml : (cs.map colT).length = i := by rw [List.length_map, HC.out]
        obtain ⟨g, cap, rfl, hcap2, hg, hcell⟩ := HO.out.some (by rw [hml]; omega)
        have em : ((cs.map colT).map fun t => (⟨t.toArray⟩ : ByteArray)).map (·.data.toList) = cs.map colT := by simp
        have el : ((cs.map colT).map fun t => (⟨t.toArray⟩ : ByteArray)).length = i := by rw [List.length_map, hml]
        have HJo : Hid (∀ d os, Calls Tryd.prog 30 #[.slice (some ⟨g, 0, none⟩) i cap, .string ⟨#[44, 32]⟩] (grow (redrawn wr d) os) fun e w' => e = .returned (.string ⟨(Lib.join (cs.map colT) [44, 32]).toArray⟩) ∧ Below (grow (redrawn wr d) os).heap.size (grow (redrawn wr d) os) w') := fun d os => by
          have hbr := below_regrown wr d os
          have hJ := Tryd.strings_Join g 0 cap ((cs.map colT).map fun t => (⟨t.toArray⟩ : ByteArray)) ⟨#[44, 32]⟩ (grow (redrawn wr d) os) (fun j x hx => (hbr.cell (block_lt_of_cell (hcell j x hx))).trans (hcell j x hx)) (Nat.lt_of_lt_of_le hg hbr.size) (by rw [el]; omega) (by rw [el, ← hml]; exact hcap2) (by rw [em]; show (Lib.join (cs.map colT) [44, 32]).length ≤ _; omega)
          rw [em, el] at hJ
          exact hJ
        obtain ⟨J, hJ⟩ : ∃ J : ByteArray, J = ⟨(Lib.join (cs.map colT) [44, 32]).toArray⟩ := ⟨_, rfl⟩
        have hJs : J.size ≤ 704 := by rw [hJ, size_lst]; show (Lib.join (cs.map colT) [44, 32]).length ≤ 704; omega
        rw [← hJ] at HJo HS
        rw [hml]
        have HT2 := Lib.hid (HT1.out.on HBw.out)
        obtain ⟨s0, s1⟩ := HT2.out
        have k0 := cell_regrown s0
        have hx1 : (⟨#[84, 65, 66, 76, 69, 32]⟩ ++ nm : ByteArray).size ≤ 38 := by
          have : (⟨#[84, 65, 66, 76, 69, 32]⟩ : ByteArray).size = 6 := rfl
          rw [ByteArray.size_append]; omega
        have hx2 : (⟨#[84, 65, 66, 76, 69, 32]⟩ ++ nm ++ ⟨#[32, 40]⟩ : ByteArray).size ≤ 40 := by
          have : (⟨#[32, 40]⟩ : ByteArray).size = 2 := rfl
          rw [ByteArray.size_append]; omega
        have hx3 : (⟨#[84, 65, 66, 76, 69, 32]⟩ ++ nm ++ ⟨#[32, 40]⟩ ++ J : ByteArray).size ≤ 744 := by
          rw [ByteArray.size_append]; omega
        clear e1 HO hcell hg hcap2 em el hml hJ hjl s0 s1
        go_wp2_with fail
        refine wp_region_quiet_below (by kernel_rfl) (by kernel_rfl) ?_
        repeat (go_big_quiet_step (first | (go_at_call 30; exact Calls.regrown_of (HJo.out _ _))))
        refine wpQuiet_nil ?_
        intro _ hw'
        obtain ⟨⟨dq, osq⟩, hw''⟩ := hw'
        subst hw''
        have HB3 := Lib.hid (below_step HBw.out (below_regrown wr dq osq))
        clear k0
        go_wp2_with fail
        refine bodyPost_ret (v := .tuple #[.string S, .nilIface]) ?_ rfl ⟨rfl, below_step HB1.out HB3.out⟩
        rw [HS.out]
        simp [results, Tryd.results8, go_sem]
  · obtain ⟨E, hE⟩ : ∃ E, chkT ⟨nm, cs⟩ = E := ⟨_, rfl⟩
    rw [hE] at h0
    rw [hE, errV, if_neg h0] at HCk
    rw [txtS_bad hE h0, hE, errV, if_neg h0]
    clear hE hc hB0 hT hC hV h0 HJ HC
    go_enter Tryd.func8, Tryd.ntmps8
    go_wp2_with fail
    rw [HVe.out]
    obtain ⟨t0, t1⟩ := HT.out
    go_wp2_with fail
    refine HCk.out.mono ?_
    rintro e w1 ⟨rfl, hb1⟩
    go_wp2_with fail
    exact bodyPost_ret (v := .tuple #[.string ⟨#[]⟩, .iface 63 (.int .i64 E)]) (by simp [results, Tryd.results8, go_sem]) rfl ⟨rfl, below_step HB0.out hb1⟩
end Go.Proofs.YtlgnllnjhpihdaaDoor
