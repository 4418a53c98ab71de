/- The walk of row.Text; texts in a row of one's own. -/
import Derived.Test.YtlldamgnfaikhaaGreatDoorRwKoMath
import Derived.Test.YtlldamgnfaikhaaGreatDoorRwPr1
import Derived.Test.YtlldamgnfaikhaaGreatDoorRwMem
namespace Go.Proofs.YtlldamgnfaikhaaGreatDoor
open Go.RowKit Go.Sort

def strVals (ts : List (List UInt8)) : List Value := ts.map fun t => .string ⟨t.toArray⟩
theorem strVals_len (ts : List (List UInt8)) : (strVals ts).length = ts.length := by simp [strVals]
theorem strVals_append (a b : List (List UInt8)) : strVals a ++ strVals b = strVals (a ++ b) := by simp [strVals]
theorem strVals_one (ts : List (List UInt8)) : ∀ u ∈ strVals ts, u.oneCell' = true := by
  intro u hu
  obtain ⟨x, _, rfl⟩ := List.mem_map.1 hu
  rfl
/-- A row of texts that the call has made. -/
def OwnT (w : World) (base : Nat) (v : Value) (ts : List (List UInt8)) : Prop := w.ownsRow base 9 1 v ts.length (strVals ts)
theorem OwnT.on {w w' : World} {base : Nat} {v : Value} {xs : List (List UInt8)} (h : OwnT w base v xs) (hb : Below w.heap.size w w') : OwnT w' base v xs := by
  refine ⟨h.1, ?_⟩
  rcases h.2 with h1 | ⟨g, cap, cur, e, h1, h2, h3, h4, h5, h6⟩
  · exact .inl h1
  · have hlt : g < w.heap.size := by
      rcases Nat.lt_or_ge g w.heap.size with hl | hl
      · exact hl
      · rw [Array.getElem?_eq_none hl] at h2; cases h2
    exact .inr ⟨g, cap, cur, e, h1, (hb.block g hlt).trans h2, h3, h4, h5, h6⟩
theorem ownT_nil (w : World) (base : Nat) : OwnT w base (.slice none 0 0) [] := World.ownsRow_nil w base 9 1
theorem info9 : (Tryz.prog.info? 9).map (fun i => (i.zero, i.size, i.bytes)) = some (some (.string ⟨#[]⟩), 1, 16) := by kernel_rfl
theorem OwnT.some {w : World} {base : Nat} {v : Value} {ts : List (List UInt8)} (h : OwnT w base v ts) (hp : 0 < ts.length) : ∃ g c, v = .slice (some ⟨g, 0, none⟩) ts.length c ∧ ts.length ≤ c ∧ g < w.heap.size ∧ ∀ (j : Nat) x, (ts.map fun t => (⟨t.toArray⟩ : ByteArray))[j]? = some x → w.cell? ⟨g, 0 + j, none⟩ = some (.string x) := by
  rcases h.2 with ⟨rfl, e⟩ | ⟨g, cap, cur, rfl, h1, h2, h3, h4, h5, h6⟩
  · omega
  · refine ⟨g, cap, rfl, h3, (Array.getElem?_eq_some_iff.1 h2).1, fun j x hj => ?_⟩
    obtain ⟨hlt, e⟩ := List.getElem?_eq_some_iff.1 hj
    rw [List.length_map] at hlt
    have := World.ownsRow.cellAt h j (by omega)
    rw [Nat.zero_add, this]
    simp [strVals, List.getElem?_eq_getElem hlt]
    simpa using e
/-- append(row, text). -/
theorem wpList_append_lit (N : Nat) (w w0 : World) {ops : Array Oper} {rest : List Oper} {o : Oper} {act : Act} {Q : Exit → Act → World → Prop} (hgd : o.guard = none) (s x : Operand)
    (ho : o.op = .call { callee := .builtin .append, args := #[s, x], argTypes := #[50, 50] }) (v : Value) (es : List (List UInt8)) (hs : act.eval s = v) (hown : OwnT w N v es)
    (B : Nat) (p : List UInt8) (hx : act.eval x = .slice (some ⟨B, 0, none⟩) 1 1) (hin : w.cell? ⟨B, 0, none⟩ = some (.string ⟨p.toArray⟩)) (hlen : (es.length + 1) * 16 ≤ 140737488355328) (hN : N ≤ w0.heap.size) (hb : Below N w0 w)
    (hK : ∀ v' w', OwnT w' N v' (es ++ [p]) → Below N w0 w' → wpList Tryz.prog ops Q rest (act.put o.dst v') w') : wpList Tryz.prog ops Q (o :: rest) act w := by
  obtain ⟨i0, hi, hz0, hz1, hz2⟩ := info_parts info9
  have hnews : ∀ j u, (strVals [p])[j]? = some u → w.cell? ((⟨B, 0, none⟩ : Addr).add j) = some u := by
    intro j u hj
    cases j with
    | zero => simp [strVals] at hj; subst hj; rw [Addr.add_lit]; exact hin
    | succ j => simp [strVals] at hj
  refine wpList_append_own w hgd s x 50 ho N 9 i0 (.string ⟨#[]⟩) 1 16 Tryz.underlying50 hi hz0 hz1 hz2 rfl (by decide) v es.length (strVals es) hs hown ⟨B, 0, none⟩ 1 1 (strVals [p]) hx (by simp [strVals]) hnews (strVals_one _) (by unfold maxLen; omega) (by omega) (Nat.le_trans hN hb.size) ?_
  intro v' w' h1 h2 _
  refine hK v' w' ?_ (hb.grown h2 (Nat.le_trans hN hb.size) (fun k hk => (World.ownsRow.lt hown k hk).1))
  unfold OwnT
  rw [← strVals_append, List.length_append]
  exact h1
set_option maxRecDepth 100000 in
set_option maxHeartbeats 1000000 in
theorem rtextP_ (a : Option Addr) (c : Nat) (vs : List Val) (w : World) (h : ValsIn w a vs) (hw : ∀ x ∈ vs, inI x.n) (hvl : vs.length ≤ 1048576) (hEnv : Env w) :
    Calls Tryz.prog 9 #[.slice a vs.length c] w fun e w' => e = .returned (.tuple #[.string ⟨(txT vs).toArray⟩, errV 47 (txE vs)]) ∧ Below w.heap.size w w' := by
  obtain ⟨L, hL⟩ : ∃ L, vs.length = L := ⟨_, rfl⟩
  have HL := Lib.hid hL
  have HI := Lib.hid h
  have HW := Lib.hid hw
  have HEn := Lib.hid hEnv
  rw [hL] at hvl
  rw [hL]
  obtain ⟨R, hR⟩ : ∃ R : Value × Value, R = (.string ⟨(txT vs).toArray⟩, errV 47 (txE vs)) := ⟨_, rfl⟩
  rw [show (Value.string ⟨(txT vs).toArray⟩) = R.1 by rw [hR], show errV 47 (txE vs) = R.2 by rw [hR]]
  have HBad : Hid (∀ E : Int, txE vs = E → E ≠ 0 → R = (.string ⟨#[]⟩, .iface 47 (.int .i64 E))) := fun E hE h0 => by
    rw [hR, txT, if_neg (by rw [hE]; exact h0), hE, errV, if_neg h0]
  have HOk : Hid (txE vs = 0 → R = (.string ⟨(joinV vs).toArray⟩, .nilIface)) := fun h0 => by
    rw [hR, txT, if_pos h0, h0, errV, if_pos rfl]
  clear h hw hL hR hEnv
  go_enter Tryz.func9, Tryz.ntmps9
  go_wp2_with fail
  go_loopw [4, 11] (fun lv iv wr => ∃ i : Nat, i ≤ L ∧ iv = .int .i64 i ∧ Hid (∀ j (h : j < vs.length), j < i → validN vs[j] = 0) ∧ Hid (OwnT wr w.heap.size lv ((vs.take i).map printL)) ∧ Hid (Below w.heap.size w wr)) (fun _ iv _ => L - (intOf iv).toNat)
  case atStart => exact ⟨0, Nat.zero_le _, rfl, fun j _ hj => by omega, ownT_nil _ _, Below.refl _ _⟩
  case round =>
    obtain ⟨i, hi, rfl, HV, HO, HBw⟩ := hrel
    by_cases hlt : i < L
    · have hlt2 : (i : Int) < (L : Int) := by omega
      have hi2 : i < vs.length := by rw [HL.out]; exact hlt
      obtain ⟨b, o, rfl, k, n, t, bb, hvi, p0, p1, p2, p3⟩ := ValsIn.get (HI.out.on HBw.out) i hi2
      have hn0 : inI n := by have := HW.out vs[i] (List.getElem_mem hi2); rw [hvi] at this; exact this
      have HBa := Lib.hid (below_step HBw.out (below_alloc1 wr (.cells #[.int .i64 k, .int .i64 n, .string t, .bool bb] 44)))
      have HPr := Lib.hid (print_ k n t bb (wr.alloc (.cells #[.int .i64 k, .int .i64 n, .string t, .bool bb] 44)) hn0 (HEn.out.on HBa.out))
      obtain ⟨s0, s1, s2, s3⟩ := in4_new wr k n t bb 44
      have hml : (((vs.take i).map printL).length + 1) * 16 ≤ 140737488355328 := by rw [List.length_map, List.length_take]; omega
      by_cases h0 : validN ⟨k, n, t, bb⟩ = 0
      · have hpr : prS ⟨k, n, t, bb⟩ = printL ⟨k, n, t, bb⟩ := by rw [prS, if_pos h0]
        rw [hpr, h0, errV, if_pos rfl] at HPr
        have HV2 : Hid (∀ j (h : j < vs.length), j < i + 1 → validN vs[j] = 0) := fun j hj hji => by
          rcases Nat.lt_or_ge j i with hh | hh
          · exact HV.out j hj hh
          · obtain rfl : j = i := by omega
            rw [hvi]; exact h0
        have HTk : Hid ((vs.take (i + 1)).map printL = (vs.take i).map printL ++ [printL ⟨k, n, t, bb⟩]) := by
          show _ = _
          rw [List.take_add_one, List.getElem?_eq_getElem hi2, hvi]
          simp
        generalize printL ⟨k, n, t, bb⟩ = PL at *
        generalize hTS : (vs.take i).map printL = TS at *
        clear hvi HV hi2 h0 hpr hTS hn0
        go_wp2_with fail
        refine HPr.out.mono ?_
        rintro e w1 ⟨rfl, hb1⟩
        have HB1 := Lib.hid (below_step HBa.out hb1)
        have HO1 := Lib.hid ((HO.out.on (below_alloc1 wr (.cells #[.int .i64 k, .int .i64 n, .string t, .bool bb] 44))).on hb1)
        clear hb1 HBa HBw p0 p1 p2 p3 s0 s1 s2 s3 HPr HO
        go_wp2_with (first
          | (at_builtin; refine wpList_append_lit w.heap.size _ w rfl _ _ rfl _ TS rfl (HO1.out.on (below_alloc1 w1 _)) _ PL rfl (by simp [go_sem]) hml (Nat.le_refl _) (below_step HB1.out (below_alloc1 w1 _)) ?_
             intro v' w2 hown hb2
             have HO2 := Lib.hid hown
             have HB2 := Lib.hid hb2
             clear hown hb2 HO1)
          | fail)
        go_roundw
        case rel => exact ⟨i + 1, by omega, by go_num, HV2, by rw [HTk.out]; exact HO2, HB2⟩
        case measure => simp [intOf]; omega
      · obtain ⟨E, hE⟩ : ∃ E, validN ⟨k, n, t, bb⟩ = E := ⟨_, rfl⟩
        have hpr : prS ⟨k, n, t, bb⟩ = [] := by rw [prS, if_neg h0]
        have HF := Lib.hid (HBad.out E (txE_bad hi2 HV.out (E := E) (by rw [hvi]; exact hE) (by rw [← hE]; exact h0)) (by rw [← hE]; exact h0))
        rw [hpr, errV, if_neg h0, hE] at HPr
        clear hvi HV hi2 h0 hpr hE hn0 HO hml
        go_wp2_with fail
        refine HPr.out.mono ?_
        rintro e w1 ⟨rfl, hb1⟩
        have HB1 := Lib.hid (below_step HBa.out hb1)
        clear hb1 HBa HBw p0 p1 p2 p3 s0 s1 s2 s3 HPr
        go_wp2_with fail
        exact bodyPost_ret (v := .tuple #[.string ⟨#[]⟩, .iface 47 (.int .i64 E)]) (by simp [results, Tryz.results9, go_sem]) rfl ⟨by rw [HF.out], HB1.out⟩
    · obtain rfl : i = L := by omega
      have e1 : vs.take i = vs := List.take_of_length_le (by rw [HL.out]; exact Nat.le_refl _)
      rw [e1] at HO
      have hval : ∀ v ∈ vs, validN v = 0 := fun v hv => by
        obtain ⟨j, hj, rfl⟩ := List.getElem_of_mem hv
        exact HV.out j hj (by rw [← HL.out]; exact hj)
      have HF := Lib.hid (HOk.out (txE_ok (fun j hj => HV.out j hj (by rw [← HL.out]; exact hj))))
      have hjl := joinV_len hval HW.out (by rw [HL.out]; exact hvl)
      have hml : (vs.map printL).length = i := by rw [List.length_map, HL.out]
      by_cases h0 : i = 0
      · subst h0
        have hvn : vs = [] := List.eq_nil_of_length_eq_zero HL.out
        rcases HO.out.2 with ⟨rfl, _⟩ | ⟨g, cap, cur, e, hb', h2, h3, h4, h5, h6⟩
        · have HJ := Lib.hid (Tryz.strings_Join_none none 0 ⟨#[44, 32]⟩ wr)
          have hjn : joinV vs = [] := by rw [hvn]; rfl
          rw [hjn] at HF
          clear HV hval hjl hml e1 HO hjn hvn
          go_wp2_with fail
          refine HJ.out.mono ?_
          rintro e w1 ⟨rfl, rfl⟩
          go_wp2_with fail
          exact bodyPost_ret (v := .tuple #[.string ⟨#[]⟩, .nilIface]) (by simp [results, Tryz.results9, go_sem]) rfl ⟨by rw [HF.out], HBw.out⟩
        · have hu : u4 = .slice (some ⟨g, 0, none⟩) 0 cap := by rw [e, hml]
          subst hu
          have HJ := Lib.hid (Tryz.strings_Join_none (some ⟨g, 0, none⟩) cap ⟨#[44, 32]⟩ wr)
          have hjn : joinV vs = [] := by rw [hvn]; rfl
          rw [hjn] at HF
          clear HV hval hjl hml e1 HO hjn hvn e hb' h2 h3 h4 h5 h6
          go_wp2_with fail
          refine HJ.out.mono ?_
          rintro e w1 ⟨rfl, rfl⟩
          go_wp2_with fail
          exact bodyPost_ret (v := .tuple #[.string ⟨#[]⟩, .nilIface]) (by simp [results, Tryz.results9, go_sem]) rfl ⟨by rw [HF.out], HBw.out⟩
      · obtain ⟨g, cap, rfl, hcap, hg, hcell⟩ := HO.out.some (by rw [hml]; omega)
        have em : ((vs.map printL).map fun t => (⟨t.toArray⟩ : ByteArray)).map (·.data.toList) = vs.map printL := by simp
        have el : ((vs.map printL).map fun t => (⟨t.toArray⟩ : ByteArray)).length = i := by rw [List.length_map, hml]
        have hJ := Tryz.strings_Join g 0 cap ((vs.map printL).map fun t => (⟨t.toArray⟩ : ByteArray)) ⟨#[44, 32]⟩ wr hcell hg (by rw [el]; omega) (by rw [el, ← hml]; exact hcap) (by rw [em]; show (joinV vs).length ≤ _; omega)
        rw [em, el] at hJ
        have HJ : Hid (Calls Tryz.prog 23 #[.slice (some ⟨g, 0, none⟩) i cap, .string ⟨#[44, 32]⟩] wr fun e w' => e = .returned (.string ⟨(joinV vs).toArray⟩) ∧ Below wr.heap.size wr w') := hJ
        rw [hml]
        generalize joinV vs = JV at *
        clear HV hval hjl e1 HO hcell hg hcap em el hJ hml
        go_wp2_with fail
        refine HJ.out.mono ?_
        rintro e w1 ⟨rfl, hb1⟩
        have HB1 := Lib.hid (below_step HBw.out hb1)
        clear hb1
        go_wp2_with fail
        exact bodyPost_ret (v := .tuple #[.string ⟨JV.toArray⟩, .nilIface]) (by simp [results, Tryz.results9, go_sem]) rfl ⟨by rw [HF.out], HB1.out⟩
end Go.Proofs.YtlldamgnfaikhaaGreatDoor
