/- The walk of row.Keys; numbers in a row of one's own; The walk of row.Key; What RowBack's walk asks for: Encode's row is read as it; two rows of values grow beside each other; keys as texts are ordered as they are; Keys of values plainly: which values are right for the key's columns; texts of values. No program is walked in it; The walk of row.fitsKey; The walk of row.KeyOf. -/
import Derived.Test.YtalmanfjiblhcaaGreatJ24
import Derived.Test.YtalmanfjiblhcaaGreatJ25
import Derived.Test.YtalmanfjiblhcaaGreatJ26
namespace Go.Proofs.YtalmanfjiblhcaaGreat.Rw
open Go.RowKit Go.Sort
def intVals (ps : List Nat) : List Value := ps.map fun (p : Nat) => .int .i64 (p : Int)
theorem intVals_append (a b : List Nat) : intVals a ++ intVals b = intVals (a ++ b) := by simp [intVals]
theorem intVals_one (ps : List Nat) : ∀ u ∈ intVals ps, u.oneCell' = true := by
 intro u hu
 obtain ⟨x, _, rfl⟩ := List.mem_map.1 hu
 rfl
theorem intVals_get (ps : List Nat) (i : Nat) (h : i < ps.length) : (intVals ps)[i]? = some (.int .i64 (ps.getD i 0 : Nat)) := by
 simp [intVals, List.getElem?_map, List.getElem?_eq_getElem h, List.getD_eq_getElem?_getD]
def OwnP (w : World) (base : Nat) (v : Value) (ps : List Nat) : Prop := w.ownsRow base 3 1 v ps.length (intVals ps)
def IntsAt (w : World) (a : Option Addr) (ps : List Nat) : Prop :=
 ∀ i, i < ps.length → ∃ b o, a = some ⟨b, o, none⟩ ∧ w.cell? ⟨b, o + i, none⟩ = some (.int .i64 (ps.getD i 0 : Nat))
theorem IntsAt.on {w w' : World} {a : Option Addr} {ps : List Nat} (h : IntsAt w a ps) (hb : Below w.heap.size w w') : IntsAt w' a ps := by
 intro i hi
 obtain ⟨b, o, e, h1⟩ := h i hi
 exact ⟨b, o, e, (hb.cell (block_lt_of_cell h1)).trans h1⟩
theorem OwnP.ints {w : World} {base : Nat} {v : Value} {ps : List Nat} (h : OwnP w base v ps) : ∃ a c, v = .slice a ps.length c ∧ IntsAt w a ps ∧ (a = none → c = 0) := by
 rcases h.2 with ⟨rfl, e⟩ | ⟨g, cap, cur, rfl, _, _, _, _, _, _⟩
 · have : ps = [] := List.eq_nil_of_length_eq_zero e
   subst this
   exact ⟨none, 0, rfl, fun i hi => by simp at hi, fun _ => rfl⟩
 · refine ⟨_, _, rfl, fun i hi => ⟨g, 0, rfl, ?_⟩, fun hh => by cases hh⟩
   have := World.ownsRow.cellAt h i (by omega)
   rw [Nat.zero_add, this, intVals_get ps i hi]
theorem OwnP.on {w w' : World} {base : Nat} {v : Value} {xs : List Nat} (h : OwnP w base v xs) (hb : Below w.heap.size w w') : OwnP w' base v xs := by
 refine ⟨h.1, ?_⟩
 rcases h.2 with h1 | ⟨g, cap, cur, e, h1, h2, h3, h4, h5, h6⟩
 · exact .inl h1
 · have hlt : g < w.heap.size := by
    rcases Nat.lt_or_ge g w.heap.size with hl | hl
    · exact hl
    · rw [Array.getElem?_eq_none hl] at h2; cases h2
   exact .inr ⟨g, cap, cur, e, h1, (hb.block g hlt).trans h2, h3, h4, h5, h6⟩
theorem ownP_nil (w : World) (base : Nat) : OwnP w base (.slice none 0 0) [] := World.ownsRow_nil w base 3 1
theorem infoI : (Tryz.prog.info? 3).map (fun i => (i.zero, i.size, i.bytes)) = some (some (.int .i64 0), 1, 8) := by kernel_rfl
theorem ownP_join {w : World} {base n m : Nat} {v : Value} {xs ys : List Nat} (hn : xs.length = n) (hm : ys.length = m) (h : w.ownsRow base 3 1 v (n + m) (intVals xs ++ intVals ys)) : OwnP w base v (xs ++ ys) := by
 subst hn hm
 unfold OwnP
 rw [← intVals_append, List.length_append]
 exact h
theorem below_growP {N : Nat} {w0 w w' : World} {v : Value} {es : List Nat} (hN : N ≤ w0.heap.size) (hb : Below N w0 w) (hown : OwnP w N v es) (hg : w.grownBy w' v.ownBlock) : Below N w0 w' :=
 hb.grown hg (Nat.le_trans hN hb.size) (fun k hk => (World.ownsRow.lt hown k hk).1)
theorem wpList_append_place (N : Nat) (w w0 : World) {ops : Array Oper} {rest : List Oper} {o : Oper} {act : Act} {Q : Exit → Act → World → Prop} (hgd : o.guard = none) (s x : Operand)
 (ho : o.op = .call { callee := .builtin .append, args := #[s, x], argTypes := #[37, 37] }) (v : Value) (es : List Nat) (hs : act.eval s = v) (hown : OwnP w N v es)
 (B p : Nat) (hx : act.eval x = .slice (some ⟨B, 0, none⟩) 1 1) (hin : w.cell? ⟨B, 0, none⟩ = some (.int .i64 (p : Int))) (hlen : (es.length + 1) * 8 ≤ 140737488355328) (hN : N ≤ w0.heap.size) (hb : Below N w0 w)
 (hK : ∀ v' w', OwnP w' N v' (es ++ [p]) → Below N w0 w' → wpList Tryz.prog ops Q rest (act.put o.dst v') w') : wpList Tryz.prog ops Q (o :: rest) act w := by
 obtain ⟨i0, hi, hz0, hz1, hz2⟩ := info_parts infoI
 have hnews : ∀ j u, (intVals [p])[j]? = some u → w.cell? ((⟨B, 0, none⟩ : Addr).add j) = some u := by
  intro j u hj
  cases j with
  | zero => simp [intVals] at hj; subst hj; rw [Addr.add_lit]; exact hin
  | succ j => simp [intVals] at hj
 refine wpList_append_own w hgd s x 37 ho N 3 i0 (.int .i64 0) 1 8 Tryz.underlying37 hi hz0 hz1 hz2 rfl (by decide) v es.length (intVals es) hs hown ⟨B, 0, none⟩ 1 1 (intVals [p]) hx (by simp [intVals]) hnews (intVals_one _) (by unfold maxLen; omega) (by omega) (Nat.le_trans hN hb.size) ?_
 intro v' w' h1 h2 _
 exact hK v' w' (ownP_join rfl rfl h1) (below_growP hN hb hown h2)
set_option maxRecDepth 100000 in
set_option maxHeartbeats 1000000 in
theorem keys_ (nm : ByteArray) (at_ : Option Addr) (ct : Nat) (cs : List Col) (w : World) (hc : ColsIn w at_ cs) (hcl : cs.length ≤ 1048576) :
 Calls Tryz.prog 72 #[.agg #[.string nm, .slice at_ cs.length ct]] w fun e w' => ∃ v, e = .returned v ∧ OwnP w' w.heap.size v (keyI cs) ∧ Below w.heap.size w w' := by
 obtain ⟨C, hC⟩ : ∃ C, cs.length = C := ⟨_, rfl⟩
 have HC := Lib.hid hC
 have HJ := Lib.hid hc
 rw [hC] at hcl
 rw [hC]
 have HK : Hid (keyI cs = keyT cs C) := by show _ = _; rw [keyI, hC]
 clear hc hC
 obtain ⟨t0, t1⟩ := inT_new w nm at_ C ct 44
 have HB0 : Hid (Below w.heap.size w (w.alloc (.cells #[.string nm, .slice at_ C ct] 44))) := below_alloc1 _ _
 go_enter Tryz.func72, Tryz.ntmps72
 go_wp2_with fail
 generalize w.alloc (.cells #[.string nm, .slice at_ C ct] 44) = V at *
 go_loopw [3, 9] (fun ov iv wr => ∃ i : Nat, i ≤ C ∧ iv = .int .i64 i ∧ Hid (OwnP wr w.heap.size ov (keyT cs i)) ∧ Hid (Below w.heap.size w wr)) (fun _ iv _ => C - (intOf iv).toNat)
 case atStart => exact ⟨0, Nat.zero_le _, rfl, ownP_nil _ _, HB0⟩
 case round =>
  clear HB0
  obtain ⟨i, hi, rfl, HO, HBx⟩ := hrel
  by_cases hlt : i < C
  · have hlt2 : (i : Int) < (C : Int) := by omega
    have hi1 : i < cs.length := by rw [HC.out]; exact hlt
    obtain ⟨b1, o1, rfl, cn, kc, ky, nl, hci, hcin⟩ := ColsIn.get (HJ.out.on HBx.out) i hi1
    obtain ⟨q0, q1, q2, q3⟩ := hcin
    have hKs := keyT_succ cs i
    have hky : isKey cs i = ky := by rw [isKey_at hi1, hci]
    rw [hky] at hKs
    have hlen := keyT_len cs i
    have HO1 := Lib.hid (HO.out.on (below_alloc1 wr (.cells #[.string cn, .int .i64 kc, .bool ky, .bool nl] 112)))
    have HB1 := Lib.hid (below_step HBx.out (below_alloc1 wr (.cells #[.string cn, .int .i64 kc, .bool ky, .bool nl] 112)))
    have hln : ((keyT cs i).length + 1) * 8 ≤ 140737488355328 := by omega
    have HN := Lib.hid HBx.out.size
    clear hky hci HO HBx hlen
    cases ky
    · have HKs : Hid (keyT cs (i + 1) = keyT cs i) := by show _ = _; rw [hKs]; simp
      clear hKs
      go_wp2_with fail
      go_roundw
      case rel => exact ⟨i + 1, by omega, by go_num, by rw [HKs.out]; exact HO1, HB1⟩
      case measure => simp [intOf]; omega
    · have HKs : Hid (keyT cs (i + 1) = keyT cs i ++ [i]) := by show _ = _; rw [hKs]; simp
      clear hKs
      go_wp2_with (first
       | (at_builtin; refine wpList_append_place w.heap.size _ w rfl _ _ rfl _ (keyT cs i) rfl (HO1.out.on ((Below.refl _ _).alloc (Nat.le_refl _) _)) _ i rfl (by simp [go_sem]) hln (Nat.le_refl _) (below_stepN (Nat.le_refl _) HB1.out ((Below.refl _ _).alloc (Nat.le_refl _) _)) ?_
          intro v' w2 hown hb2
          have HO2 := Lib.hid hown
          have HB2 := Lib.hid hb2
          clear hown hb2 HO1)
       | fail)
      refine ⟨⟨i + 1, by omega, by go_num, by rw [HKs.out]; exact HO2, HB2⟩, by simp [intOf]; omega⟩
  · obtain rfl : i = C := by omega
    rw [← HK.out] at HO
    go_wp2_with fail
    go_ret
    exact ⟨_, rfl, HO.out, HBx.out⟩
end Go.Proofs.YtalmanfjiblhcaaGreat.Rw
namespace Go.Proofs.YtalmanfjiblhcaaGreat.Rw
open Go.RowKit Go.Sort
theorem pickV_take {vs : List Val} {ps : List Nat} {j p : Nat} (h : j < ps.length) (e : ps.getD j 0 = p) (hp : p < vs.length) : pickV vs (ps.take (j + 1)) = pickV vs (ps.take j) ++ [vs[p]] := by
 unfold pickV
 rw [List.take_add_one, List.getElem?_eq_getElem h, List.map_append]
 have e2 : ps[j] = p := by rw [← e]; simp [List.getD_eq_getElem?_getD, List.getElem?_eq_getElem h]
 simp only [Option.toList_some, List.map_cons, List.map_nil, e2]
 rw [getD_at hp]
def kErr (cs : List Col) (vs : List Val) : Int := if chkR cs vs ≠ 0 then chkR cs vs else errL (keyV cs vs)
def kTxt (cs : List Col) (vs : List Val) : List UInt8 := if chkR cs vs ≠ 0 then [] else txtL (keyV cs vs)
set_option maxRecDepth 100000 in
set_option maxHeartbeats 1000000 in
theorem key_ (nm : ByteArray) (at_ : Option Addr) (ct : Nat) (cs : List Col) (a : Option Addr) (c : Nat) (vs : List Val) (w : World) (hc : ColsIn w at_ cs) (h : ValsIn w a vs) (hw : ∀ x ∈ vs, inI x.n) (hcl : cs.length ≤ 1048576) (hvl : vs.length ≤ 1048576) :
 Calls Tryz.prog 45 #[.agg #[.string nm, .slice at_ cs.length ct], .slice a vs.length c] w fun e w' => e = .returned (.tuple #[.string ⟨(kTxt cs vs).toArray⟩, errV 77 (kErr cs vs)]) ∧ Below w.heap.size w w' := by
 have HK : Hid (∀ W, Below w.heap.size w W → Calls Tryz.prog 75 #[.agg #[.string nm, .slice at_ cs.length ct], .slice a vs.length c] W fun e w' => e = .returned (errV 77 (chkR cs vs)) ∧ Below W.heap.size W w') := fun W hW => check_ nm at_ ct cs a c vs W (hc.on hW) (h.on hW) (by omega) (by omega)
 have HP : Hid (∀ W, Below w.heap.size w W → Calls Tryz.prog 72 #[.agg #[.string nm, .slice at_ cs.length ct]] W fun e w' => ∃ v, e = .returned v ∧ OwnP w' W.heap.size v (keyI cs) ∧ Below W.heap.size W w') := fun W hW => keys_ nm at_ ct cs W (hc.on hW) hcl
 have HI := Lib.hid h
 have HW := Lib.hid hw
 obtain ⟨L, hL⟩ : ∃ L, vs.length = L := ⟨_, rfl⟩
 have HL := Lib.hid hL
 have HCL := Lib.hid hcl
 rw [hL] at hvl HK
 rw [hL]
 obtain ⟨R, hR⟩ : ∃ R : Value × Value, R = (.string ⟨(kTxt cs vs).toArray⟩, errV 77 (kErr cs vs)) := ⟨_, rfl⟩
 have HR : Hid (R = (.string ⟨(kTxt cs vs).toArray⟩, errV 77 (kErr cs vs))) := hR
 rw [show (Value.string ⟨(kTxt cs vs).toArray⟩) = R.1 by rw [hR], show errV 77 (kErr cs vs) = R.2 by rw [hR]]
 by_cases h0 : chkR cs vs = 0
 · have hlc := (chkR_zero h0).1
   have HQ1 : Hid ((keyI cs).length ≤ 1048576) := Nat.le_trans (keyT_len cs _) hcl
   have HQ2 : Hid (∀ j, j < (keyI cs).length → (keyI cs).getD j 0 < vs.length) := fun j hj2 => by
    have hm : (keyI cs).getD j 0 ∈ keyI cs := by
     rw [List.getD_eq_getElem?_getD, List.getElem?_eq_getElem hj2]
     exact List.getElem_mem hj2
    rw [hlc]
    exact keyT_lt hm
   have HQ3 : Hid (∀ x ∈ pickV vs (keyI cs), inI x.n) := fun x hx => hw x (keyV_mem hlc hx)
   clear hlc
   have HR2 : Hid (R = (.string ⟨(txtL (keyV cs vs)).toArray⟩, errV 77 (errL (keyV cs vs)))) := by
    show _ = _
    rw [hR, kTxt, kErr, if_neg (by simp [h0]), if_neg (by simp [h0])]
   have h0' : errV 77 (chkR cs vs) = .nilIface := by rw [errV, if_pos h0]
   rw [h0'] at HK
   generalize cs.length = C at *
   clear h0 h0' hL h hw hc hR HR
   have HT0 := Lib.hid (inT_new w nm at_ C ct 44)
   obtain ⟨t0, t1⟩ := HT0.out
   have HB0 : Hid (Below w.heap.size w (w.alloc (.cells #[.string nm, .slice at_ C ct] 44))) := below_alloc1 _ _
   go_enter Tryz.func45, Tryz.ntmps45
   go_wp2_with fail
   refine (HK.out _ HB0.out).mono ?_
   rintro e w1 ⟨rfl, hb1⟩
   have HB1 := Lib.hid (below_step HB0.out hb1)
   obtain ⟨s0, s1⟩ := HT0.out.on hb1
   clear hb1 HB0 HK t0 t1 HT0
   go_wp2_with fail
   refine (HP.out _ HB1.out).mono ?_
   rintro e w2 ⟨pv, rfl, ho2, hb2⟩
   obtain ⟨pa, pc, rfl, hpi, _⟩ := ho2.ints
   have HPI := Lib.hid hpi
   have HB2 := Lib.hid (below_step HB1.out hb2)
   obtain ⟨M, hM⟩ : ∃ M, (keyI cs).length = M := ⟨_, rfl⟩
   have HM := Lib.hid hM
   rw [hM]
   have hMl : M ≤ 1048576 := by rw [← hM]; exact HQ1.out
   clear hb2 HB1 HP ho2 hpi s0 s1 hM
   go_wp2_with fail
   go_loopw [7, 19] (fun ov jv wr => ∃ j : Nat, j ≤ M ∧ jv = .int .i64 j ∧ Hid (OwnV wr w2.heap.size ov (pickV vs ((keyI cs).take j))) ∧ Hid (Below w2.heap.size w2 wr)) (fun _ jv _ => M - (intOf jv).toNat)
   case atStart => exact ⟨0, Nat.zero_le _, rfl, ownV_nil _ _, Below.refl _ _⟩
   case round =>
    obtain ⟨j, hj, rfl, HO, HBx⟩ := hrel
    by_cases hjl : j < M
    · have hjl2 : (j : Int) < (M : Int) := by omega
      have hj2 : j < (keyI cs).length := by rw [HM.out]; exact hjl
      obtain ⟨b1, o1, rfl, hpc⟩ := (HPI.out.on HBx.out) j hj2
      obtain ⟨pp, hpg⟩ : ∃ pp, (keyI cs).getD j 0 = pp := ⟨_, rfl⟩
      have hpl2 : pp < vs.length := by rw [← hpg]; exact HQ2.out j hj2
      have hpk := pickV_take hj2 hpg hpl2
      rw [hpg] at hpc
      obtain ⟨b, o, rfl, k, n, t, bb, hvi, hin⟩ := ValsIn.get (HI.out.on (below_step HB2.out HBx.out)) _ hpl2
      rw [hvi] at hpk
      have HPK := Lib.hid hpk
      have hroom : ((pickV vs ((keyI cs).take j)).length + 1) * 40 ≤ 140737488355328 := by
       have : (pickV vs ((keyI cs).take j)).length ≤ M := by
        unfold pickV
        rw [List.length_map, ← HM.out]
        exact List.length_take_le' _ _
       omega
      have HO1 := Lib.hid (HO.out.on (below_alloc1 wr (.cells #[.int .i64 k, .int .i64 n, .string t, .bool bb] 73)))
      have HB1 := Lib.hid (below_step HBx.out (below_alloc1 wr (.cells #[.int .i64 k, .int .i64 n, .string t, .bool bb] 73)))
      have HIn := Lib.hid (one_inV (v := ⟨k, n, t, bb⟩) (in4_new wr k n t bb 73))
      obtain ⟨p0, p1, p2, p3⟩ := hin
      have hpl4 : pp < L := by rw [← HL.out]; exact hpl2
      have hpl3 : (pp : Int) < (L : Int) := by omega
      clear hvi hpk hj2 hpl2 HO HBx hpg
      generalize hxs : pickV vs ((keyI cs).take j) = XS at *
      clear hxs
      go_wp2_with (first
       | (at_builtin; refine wpList_append_vals w2.heap.size _ w2 rfl _ _ rfl _ XS [⟨k, n, t, bb⟩] rfl HO1.out wr.heap.size 0 1 1 rfl rfl HIn.out hroom (Nat.le_refl _) HB1.out ?_
          intro v' w3 hown hb3
          have HO3 := Lib.hid hown
          have HB3 := Lib.hid hb3
          clear hown hb3 HO1)
       | fail)
      refine ⟨⟨j + 1, by omega, by go_num, by rw [HPK.out]; exact HO3, HB3⟩, by simp [intOf]; omega⟩
    · obtain rfl : j = M := by omega
      have e1 : (keyI cs).take j = keyI cs := List.take_of_length_le (by rw [HM.out]; exact Nat.le_refl _)
      rw [e1] at HO
      obtain ⟨a', c', rfl, hvin, _⟩ := HO.out.vals
      have hkl : (pickV vs (keyI cs)).length ≤ 140737488355328 := by
       unfold pickV; rw [List.length_map, HM.out]; omega
      have HE := Lib.hid (encode_ a' c' (pickV vs (keyI cs)) wr hvin HQ3.out hkl)
      have HR3 : Hid (R = (.string ⟨(txtL (pickV vs (keyI cs))).toArray⟩, errV 77 (errL (pickV vs (keyI cs))))) := HR2
      generalize (pickV vs (keyI cs)).length = kl at *
      generalize txtL (pickV vs (keyI cs)) = TX at *
      generalize errV 77 (errL (pickV vs (keyI cs))) = EV at *
      clear HO hvin hkl e1 HR2
      go_wp2_with fail
      refine HE.out.mono ?_
      rintro e w4 ⟨rfl, hb4⟩
      have HB4 := Lib.hid (below_step (below_step HB2.out HBx.out) hb4)
      clear hb4 HE
      go_wp2_with fail
      exact bodyPost_ret (v := .tuple #[.string ⟨TX.toArray⟩, EV]) (by simp [results, Tryz.results45, go_sem]) rfl ⟨by rw [HR3.out], HB4.out⟩
 · obtain ⟨E, hE⟩ : ∃ E, chkR cs vs = E := ⟨_, rfl⟩
   have h0' : errV 77 (chkR cs vs) = .iface 77 (.int .i64 E) := by rw [errV, if_neg h0, hE]
   have HR2 : Hid (R = (.string ⟨#[]⟩, .iface 77 (.int .i64 E))) := by
    show _ = _
    rw [hR, kTxt, kErr, if_pos h0, if_pos h0, h0']
   rw [h0'] at HK
   generalize cs.length = C at *
   clear h0 h0' hL h hw hc hR HR hE
   obtain ⟨t0, t1⟩ := inT_new w nm at_ C ct 44
   have HB0 : Hid (Below w.heap.size w (w.alloc (.cells #[.string nm, .slice at_ C ct] 44))) := below_alloc1 _ _
   go_enter Tryz.func45, Tryz.ntmps45
   go_wp2_with fail
   refine (HK.out _ HB0.out).mono ?_
   rintro e w1 ⟨rfl, hb1⟩
   have HB1 := Lib.hid (below_step HB0.out hb1)
   clear hb1 HB0 HK t0 t1
   go_wp2_with fail
   exact bodyPost_ret (v := .tuple #[.string ⟨#[]⟩, .iface 77 (.int .i64 E)]) (by simp [results, Tryz.results45, go_sem]) rfl ⟨by rw [HR2.out], HB1.out⟩
end Go.Proofs.YtalmanfjiblhcaaGreat.Rw
namespace Go.Proofs.YtalmanfjiblhcaaGreat.Rw
open Go.RowKit Go.Sort
theorem Own.full {w : World} {base : Nat} {v : Value} {xs : List Nat} (h : Own w base v xs) : ∃ a c, v = .slice a xs.length c ∧ BytesIn w a xs ∧ xs.length ≤ c := by
 rcases h.2 with ⟨rfl, e⟩ | ⟨g, cap, cur, rfl, _, _, h3, _, _, _⟩
 · have : xs = [] := List.eq_nil_of_length_eq_zero e
   subst this
   exact ⟨none, 0, rfl, bytesIn_nil _ _, Nat.le_refl _⟩
 · obtain ⟨a, c', e, hb, _⟩ := h.bytes
   simp only [Value.slice.injEq] at e
   obtain ⟨rfl, _, rfl⟩ := e
   exact ⟨_, _, rfl, hb, h3⟩
def DecOk (V : World) (L : Nat) (xs : List Val) (e : Ending) (w' : World) : Prop :=
 ∃ a2 c2, e = .returned (.tuple #[.slice a2 L c2, .nilIface]) ∧ (ValsIn w' a2 xs ∧ ∀ b o, a2 = some ⟨b, o, none⟩ → V.heap.size ≤ b) ∧ Below V.heap.size V w'
theorem decOk {nm : ByteArray} {at_ : Option Addr} {ct : Nat} {cs : List Col} {a1 : Option Addr} {c1 : Nat} {xs : List Val} {W1 V : World} (hc : ColsIn W1 at_ cs) (hb : Below W1.heap.size W1 V) (h : BytesIn V a1 (rowB xs)) (hw : ∀ x ∈ xs, inI x.n) (hcl : cs.length ≤ 1048576) (hwt : wtV xs ≤ 1048576) (h0 : chkR cs xs = 0) (hcp : (rowB xs).length ≤ c1) :
 Calls Tryz.prog 52 #[.agg #[.string nm, .slice at_ cs.length ct], .slice a1 (rowB xs).length c1] V (DecOk V xs.length xs) := by
 have hlen : (rowB xs).length ≤ 3145728 := by
  have := rowB_lim hw hwt xs.length
  rwa [List.take_length] at this
 have hR : IsRow cs (rowB xs) xs := ⟨h0, hw, rfl⟩
 refine (rdecode_ nm at_ ct cs a1 c1 (rowB xs) V (hc.on hb) h (rowB_byte xs) hcl (by omega) hcp).mono ?_
 rintro e w' ⟨⟨l, a2, c2, hl, he, hi⟩ | ⟨hno, _⟩, hb⟩
 · obtain rfl := isRow_one hl hR
   exact ⟨a2, c2, he, hi, hb⟩
 · exact absurd hR (hno _)
theorem kErr_chk {cs : List Col} {vs : List Val} (h : kErr cs vs = 0) : chkR cs vs = 0 := by
 unfold kErr at h
 split at h
 · rename_i h0; exact absurd h h0
 · rename_i h0; simpa using h0
end Go.Proofs.YtalmanfjiblhcaaGreat.Rw
namespace Go.Proofs.YtalmanfjiblhcaaGreat.Rw
open Go.Lib
def fitK (c : Col) (v : Val) : Int := if validN v ≠ 0 then validN v else if v.k = 0 ∨ v.k ≠ c.k then 7 else 0
def koZ : List Col → List Val → Int
 | c :: cs, v :: vs => if fitK c v ≠ 0 then fitK c v else koZ cs vs
 | _, _ => 0
def koR (cs : List Col) (vs : List Val) : Int := if vs.length ≠ cs.length then 1 else koZ cs vs
theorem koZ_at : ∀ (i : Nat) (cs : List Col) (vs : List Val), (∀ j (h : j < cs.length) (h' : j < vs.length), j < i → fitK cs[j] vs[j] = 0) → koZ cs vs = koZ (cs.drop i) (vs.drop i)
 | 0, _, _, _ => rfl
 | i + 1, [], vs, _ => by simp [koZ]
 | i + 1, c :: cs, [], _ => by rw [List.drop_nil]; cases (c :: cs).drop (i + 1) <;> simp [koZ]
 | i + 1, c :: cs, v :: vs, h => by
   have h0 : fitK c v = 0 := h 0 (by simp) (by simp) (by omega)
   rw [koZ, h0, if_neg (by simp), List.drop_succ_cons, List.drop_succ_cons]
   exact koZ_at i cs vs fun j hj hj' hji => h (j + 1) (by simp; omega) (by simp; omega) (by omega)
theorem koR_bad {cs : List Col} {vs : List Val} (hl : vs.length = cs.length) {i : Nat} (hi : i < cs.length) (hi' : i < vs.length) (h : ∀ j (h : j < cs.length) (h' : j < vs.length), j < i → fitK cs[j] vs[j] = 0) {E : Int} (hE : fitK cs[i] vs[i] = E) (h0 : E ≠ 0) : koR cs vs = E := by
 rw [koR, if_neg (by simp [hl]), koZ_at i cs vs h, List.drop_eq_getElem_cons hi, List.drop_eq_getElem_cons hi', koZ, hE, if_pos h0]
theorem koR_ok {cs : List Col} {vs : List Val} (hl : vs.length = cs.length) (h : ∀ j (h : j < cs.length) (h' : j < vs.length), fitK cs[j] vs[j] = 0) : koR cs vs = 0 := by
 rw [koR, if_neg (by simp [hl]), koZ_at cs.length cs vs (fun j hj hj' _ => h j hj hj'), List.drop_length]; rfl
def cZ : Col := ⟨⟨#[]⟩, 0, false, false⟩
def kcols (cs : List Col) : List Col := (keyI cs).map fun p => cs.getD p cZ
theorem kcols_len (cs : List Col) : (kcols cs).length = (keyI cs).length := by simp [kcols]
theorem kcols_at {cs : List Col} {j p : Nat} (h : j < (kcols cs).length) (e : (keyI cs).getD j 0 = p) (hp : p < cs.length) : (kcols cs)[j] = cs[p] := by
 have hj : j < (keyI cs).length := by rw [← kcols_len]; exact h
 have e2 : (keyI cs)[j] = p := by rw [← e]; simp [List.getD_eq_getElem?_getD, List.getElem?_eq_getElem hj]
 have hs : (kcols cs)[j]? = some cs[p] := by
  unfold kcols
  rw [List.getElem?_map, List.getElem?_eq_getElem hj, e2]
  simp [List.getD_eq_getElem?_getD, List.getElem?_eq_getElem hp]
 exact (List.getElem?_eq_some_iff.1 hs).2
theorem keyI_lt {cs : List Col} {j : Nat} (h : j < (keyI cs).length) : (keyI cs).getD j 0 < cs.length := by
 have hm : (keyI cs).getD j 0 ∈ keyI cs := by
  rw [List.getD_eq_getElem?_getD, List.getElem?_eq_getElem h]
  exact List.getElem_mem h
 exact keyT_lt hm
def kofErr (cs : List Col) (vs : List Val) : Int := if koR (kcols cs) vs ≠ 0 then koR (kcols cs) vs else errL vs
def kofTxt (cs : List Col) (vs : List Val) : List UInt8 := if koR (kcols cs) vs ≠ 0 then [] else txtL vs
end Go.Proofs.YtalmanfjiblhcaaGreat.Rw
namespace Go.Proofs.YtalmanfjiblhcaaGreat.Rw
open Go.RowKit Go.Sort
set_option maxRecDepth 100000 in
set_option maxHeartbeats 1000000 in
theorem fitsKey_ (nm : ByteArray) (kc : Int) (key nul : Bool) (k n : Int) (t : ByteArray) (b : Bool) (w : World) :
 Calls Tryz.prog 73 #[.agg #[.string nm, .int .i64 kc, .bool key, .bool nul], .agg #[.int .i64 k, .int .i64 n, .string t, .bool b]] w fun e w' => e = .returned (errV 77 (fitK ⟨nm, kc, key, nul⟩ ⟨k, n, t, b⟩)) ∧ Below w.heap.size w w' := by
 have HV : Hid (∀ W, Calls Tryz.prog 108 #[.agg #[.int .i64 k, .int .i64 n, .string t, .bool b]] W fun e w' => e = .returned (errV 77 (validN ⟨k, n, t, b⟩)) ∧ Below W.heap.size W w') := fun W => valid_ k n t b W
 have HX := Lib.hid (fits_two w nm kc key nul k n t b)
 obtain ⟨R, hR⟩ : ∃ R, R = errV 77 (fitK ⟨nm, kc, key, nul⟩ ⟨k, n, t, b⟩) := ⟨_, rfl⟩
 rw [← hR]
 by_cases h0 : validN ⟨k, n, t, b⟩ = 0
 · have h0' : errV 77 (validN ⟨k, n, t, b⟩) = .nilIface := by rw [errV, if_pos h0]
   rw [h0'] at HV
   by_cases hk : k = 0
   · subst hk
     have HR : Hid (R = .iface 77 (.int .i64 7)) := by
      show _ = _
      rw [hR, fitK, if_neg (by simp [h0]), if_pos (.inl rfl)]; rfl
     clear h0 h0' hR
     go_enter Tryz.func73, Tryz.ntmps73
     go_wp2_with fail
     refine (HV.out _).mono ?_
     rintro e w1 ⟨rfl, hb1⟩
     obtain ⟨⟨c0, c1, c2, c3⟩, ⟨d0, d1, d2, d3⟩, hB⟩ := HX.out _ hb1
     have HB := Lib.hid hB
     clear hb1 hB HX HV
     go_wp2_with fail
     go_ret
     exact ⟨by rw [HR.out]; rfl, HB.out⟩
   · have hk' : ((k : Int) == 0) = false := by simpa using hk
     by_cases hkc : k = kc
     · subst hkc
       have HR : Hid (R = .nilIface) := by
        show _ = _
        rw [hR, fitK, if_neg (by simp [h0]), if_neg (by simp [hk])]; rfl
       clear h0 h0' hR
       go_enter Tryz.func73, Tryz.ntmps73
       go_wp2_with fail
       refine (HV.out _).mono ?_
       rintro e w1 ⟨rfl, hb1⟩
       obtain ⟨⟨c0, c1, c2, c3⟩, ⟨d0, d1, d2, d3⟩, hB⟩ := HX.out _ hb1
       have HB := Lib.hid hB
       clear hb1 hB HX HV
       go_wp2_with fail
       go_ret
       exact ⟨by rw [HR.out]; rfl, HB.out⟩
     · have HR : Hid (R = .iface 77 (.int .i64 7)) := by
        show _ = _
        rw [hR, fitK, if_neg (by simp [h0]), if_pos (.inr hkc)]; rfl
       have hkc' : ((k : Int) != kc) = true := by simpa using hkc
       have hkc2 : ((k : Int) == kc) = false := by simpa using hkc
       clear h0 h0' hR
       go_enter Tryz.func73, Tryz.ntmps73
       go_wp2_with fail
       refine (HV.out _).mono ?_
       rintro e w1 ⟨rfl, hb1⟩
       obtain ⟨⟨c0, c1, c2, c3⟩, ⟨d0, d1, d2, d3⟩, hB⟩ := HX.out _ hb1
       have HB := Lib.hid hB
       clear hb1 hB HX HV
       go_wp2_with fail
       go_ret
       exact ⟨by rw [HR.out]; rfl, HB.out⟩
 · obtain ⟨E, hE⟩ : ∃ E, validN ⟨k, n, t, b⟩ = E := ⟨_, rfl⟩
   have h0' : errV 77 (validN ⟨k, n, t, b⟩) = .iface 77 (.int .i64 E) := by rw [errV, if_neg h0, hE]
   have HR : Hid (R = .iface 77 (.int .i64 E)) := by
    show _ = _
    rw [hR, fitK, if_pos h0, ← h0']
   rw [h0'] at HV
   clear h0 h0' hR hE
   go_enter Tryz.func73, Tryz.ntmps73
   go_wp2_with fail
   refine (HV.out _).mono ?_
   rintro e w1 ⟨rfl, hb1⟩
   obtain ⟨_, _, hB⟩ := HX.out _ hb1
   have HB := Lib.hid hB
   clear hb1 hB HX HV
   go_wp2_with fail
   go_ret
   exact ⟨by rw [HR.out]; rfl, HB.out⟩
end Go.Proofs.YtalmanfjiblhcaaGreat.Rw
namespace Go.Proofs.YtalmanfjiblhcaaGreat.Rw
open Go.RowKit Go.Sort
set_option maxRecDepth 100000 in
set_option maxHeartbeats 1000000 in
theorem keyOf_ (nm : ByteArray) (at_ : Option Addr) (ct : Nat) (cs : List Col) (a : Option Addr) (c : Nat) (vs : List Val) (w : World) (hc : ColsIn w at_ cs) (h : ValsIn w a vs) (hw : ∀ x ∈ vs, inI x.n) (hcl : cs.length ≤ 1048576) (hvl : vs.length ≤ 1048576) :
 Calls Tryz.prog 44 #[.agg #[.string nm, .slice at_ cs.length ct], .slice a vs.length c] w fun e w' => e = .returned (.tuple #[.string ⟨(kofTxt cs vs).toArray⟩, errV 77 (kofErr cs vs)]) ∧ Below w.heap.size w w' := by
 have HP : Hid (∀ W, Below w.heap.size w W → Calls Tryz.prog 72 #[.agg #[.string nm, .slice at_ cs.length ct]] W fun e w' => ∃ v, e = .returned v ∧ OwnP w' W.heap.size v (keyI cs) ∧ Below W.heap.size W w') := fun W hW => keys_ nm at_ ct cs W (hc.on hW) hcl
 have HEn : Hid (∀ W, Below w.heap.size w W → Calls Tryz.prog 74 #[.slice a vs.length c] W fun e w' => e = .returned (.tuple #[.string ⟨(txtL vs).toArray⟩, errV 77 (errL vs)]) ∧ Below W.heap.size W w') := fun W hW => encode_ a c vs W (h.on hW) hw (by omega)
 have HQ1 : Hid ((keyI cs).length ≤ 1048576) := Nat.le_trans (keyT_len cs _) hcl
 have HI := Lib.hid h
 have HJ := Lib.hid hc
 obtain ⟨L, hL⟩ : ∃ L, vs.length = L := ⟨_, rfl⟩
 obtain ⟨C, hC⟩ : ∃ C, cs.length = C := ⟨_, rfl⟩
 obtain ⟨M, hM⟩ : ∃ M, (keyI cs).length = M := ⟨_, rfl⟩
 have HL := Lib.hid hL
 have HC := Lib.hid hC
 have HM := Lib.hid hM
 rw [hL] at hvl HEn
 rw [hC] at HP hcl
 rw [hL, hC]
 have hMl : M ≤ 1048576 := by rw [← hM]; exact HQ1.out
 obtain ⟨R, hR⟩ : ∃ R : Value × Value, R = (.string ⟨(kofTxt cs vs).toArray⟩, errV 77 (kofErr cs vs)) := ⟨_, rfl⟩
 have HR : Hid (R = (.string ⟨(kofTxt cs vs).toArray⟩, errV 77 (kofErr cs vs))) := hR
 rw [show (Value.string ⟨(kofTxt cs vs).toArray⟩) = R.1 by rw [hR], show errV 77 (kofErr cs vs) = R.2 by rw [hR]]
 have HBad : Hid (∀ E : Int, koR (kcols cs) vs = E → E ≠ 0 → R = (.string ⟨#[]⟩, .iface 77 (.int .i64 E))) := fun E hE h0 => by
  rw [hR, kofTxt, kofErr, if_pos (by rw [hE]; exact h0), if_pos (by rw [hE]; exact h0), hE, errV, if_neg h0]
 have HOk : Hid (koR (kcols cs) vs = 0 → R = (.string ⟨(txtL vs).toArray⟩, errV 77 (errL vs))) := fun h0 => by
  rw [hR, kofTxt, kofErr, if_neg (by simp [h0]), if_neg (by simp [h0])]
 clear h hw hc hR HR hL hC hM HQ1
 have HT0 := Lib.hid (inT_new w nm at_ C ct 44)
 obtain ⟨t0, t1⟩ := HT0.out
 have HB0 : Hid (Below w.heap.size w (w.alloc (.cells #[.string nm, .slice at_ C ct] 44))) := below_alloc1 _ _
 go_enter Tryz.func44, Tryz.ntmps44
 go_wp2_with fail
 refine (HP.out _ HB0.out).mono ?_
 rintro e w2 ⟨pv, rfl, ho2, hb2⟩
 obtain ⟨pa, pc, rfl, hpi, _⟩ := ho2.ints
 have HPI := Lib.hid hpi
 have HB2 := Lib.hid (below_step HB0.out hb2)
 have HT2 := Lib.hid (HT0.out.on hb2)
 rw [HM.out]
 clear hb2 HB0 HP ho2 hpi t0 t1 HT0
 by_cases hlm : L = M
 · subst hlm
   have hne : ((L : Int) != L) = false := by simp
   go_wp2_with fail
   go_loopw [20] (fun jv wr => ∃ j : Nat, j ≤ L ∧ jv = .int .i64 j ∧ Hid (∀ i (h : i < (kcols cs).length) (h' : i < vs.length), i < j → fitK (kcols cs)[i] vs[i] = 0) ∧ Hid (Below w2.heap.size w2 wr)) (fun jv _ => L - (intOf jv).toNat)
   case atStart => exact ⟨0, Nat.zero_le _, rfl, fun i _ _ hi => by omega, Below.refl _ _⟩
   case round =>
    obtain ⟨j, hj, rfl, HV, HBx⟩ := hrel
    by_cases hjl : j < L
    · have hjl2 : (j : Int) < (L : Int) := by omega
      have hj2 : j < (keyI cs).length := by rw [HM.out]; exact hjl
      have hj3 : j < (kcols cs).length := by rw [kcols_len]; exact hj2
      have hj4 : j < vs.length := by rw [HL.out]; exact hjl
      obtain ⟨b1, o1, rfl, hpc⟩ := (HPI.out.on HBx.out) j hj2
      obtain ⟨pp, hpg⟩ : ∃ pp, (keyI cs).getD j 0 = pp := ⟨_, rfl⟩
      have hpl : pp < cs.length := by rw [← hpg]; exact keyI_lt hj2
      have hkc := kcols_at hj3 hpg hpl
      rw [hpg] at hpc
      obtain ⟨b3, o3, rfl, cn, kc, ky, nl, hci, q0, q1, q2, q3⟩ := ColsIn.get ((HJ.out.on HB2.out).on HBx.out) pp hpl
      obtain ⟨b, o, rfl, k, n, t, bb, hvi, p0, p1, p2, p3⟩ := ValsIn.get ((HI.out.on HB2.out).on HBx.out) j hj4
      obtain ⟨t0, t1⟩ := HT2.out.on HBx.out
      have hfit : fitK (kcols cs)[j] vs[j] = fitK ⟨cn, kc, ky, nl⟩ ⟨k, n, t, bb⟩ := by rw [hkc, hci, hvi]
      have HF : Hid (∀ W, Calls Tryz.prog 73 #[.agg #[.string cn, .int .i64 kc, .bool ky, .bool nl], .agg #[.int .i64 k, .int .i64 n, .string t, .bool bb]] W fun e w' => e = .returned (errV 77 (fitK ⟨cn, kc, ky, nl⟩ ⟨k, n, t, bb⟩)) ∧ Below W.heap.size W w') := fun W => fitsKey_ cn kc ky nl k n t bb W
      have hppC : pp < C := by rw [← HC.out]; exact hpl
      have hd0 : decide (0 ≤ (pp : Int)) = true := by simp
      have hd1 : decide ((pp : Int) < (C : Int)) = true := by simpa using hppC
      have hd2 : decide (0 ≤ (j : Int)) = true := by simp
      have hd3 : decide ((j : Int) < (L : Int)) = true := by simpa using hjl
      have hppC2 : (pp : Int) < (C : Int) := by omega
      have HFT := Lib.hid hfit
      have HLK : Hid (vs.length = (kcols cs).length) := by show _ = _; rw [HL.out, kcols_len, HM.out]
      clear hkc hci hvi hfit hpg hpl hj2
      go_wp2_with fail
      have k0 := cell_regrown p0
      have k1 := cell_regrown p1
      have k2 := cell_regrown p2
      have k3 := cell_regrown p3
      have l0 := cell_regrown q0
      have l1 := cell_regrown q1
      have l2 := cell_regrown q2
      have l3 := cell_regrown q3
      have m0 := cell_regrown t0
      have m1 := cell_regrown t1
      clear p0 p1 p2 p3 q0 q1 q2 q3 t0 t1 hpc
      by_cases h0 : fitK ⟨cn, kc, ky, nl⟩ ⟨k, n, t, bb⟩ = 0
      · have h0' : errV 77 (fitK ⟨cn, kc, ky, nl⟩ ⟨k, n, t, bb⟩) = .nilIface := by rw [errV, if_pos h0]
        rw [h0'] at HF
        have HV2 : Hid (∀ i (h : i < (kcols cs).length) (h' : i < vs.length), i < j + 1 → fitK (kcols cs)[i] vs[i] = 0) := fun i hi hi' hji => by
         rcases Nat.lt_or_ge i j with hh | hh
         · exact HV.out i hi hi' hh
         · obtain rfl : i = j := by omega
           rw [HFT.out]; exact h0
        clear h0 h0' HFT HV hj3 hj4
        refine wp_region_quiet_below (by kernel_rfl) (by kernel_rfl) ?_
        repeat (go_big_quiet_step (first | (go_at_call 73; exact Calls.regrown_of (HF.out _))))
        refine wpQuiet_nil ?_
        intro _ hw'
        obtain ⟨⟨dq, osq⟩, hw''⟩ := hw'
        subst hw''
        have HB3 := Lib.hid (below_step HBx.out (below_regrown wr dq osq))
        generalize grow (redrawn wr dq) osq = W3 at *
        clear k0 k1 k2 k3 l0 l1 l2 l3 m0 m1 HF HBx
        go_wp2_with fail
        go_roundw
        case rel => exact ⟨j + 1, by omega, by go_num, HV2, HB3⟩
        case measure => simp [intOf]; omega
      · obtain ⟨E, hE⟩ : ∃ E, fitK ⟨cn, kc, ky, nl⟩ ⟨k, n, t, bb⟩ = E := ⟨_, rfl⟩
        have h0' : errV 77 (fitK ⟨cn, kc, ky, nl⟩ ⟨k, n, t, bb⟩) = .iface 77 (.int .i64 E) := by rw [errV, if_neg h0, hE]
        have HR2 := Lib.hid (HBad.out E (koR_bad HLK.out hj3 hj4 HV.out (E := E) (by rw [HFT.out]; exact hE) (by rw [← hE]; exact h0)) (by rw [← hE]; exact h0))
        rw [h0'] at HF
        clear h0 h0' HFT HV hE hj3 hj4
        refine wp_region_quiet_below (by kernel_rfl) (by kernel_rfl) ?_
        repeat (go_big_quiet_step (first | (go_at_call 73; exact Calls.regrown_of (HF.out _))))
        refine wpQuiet_nil ?_
        intro _ hw'
        obtain ⟨⟨dq, osq⟩, hw''⟩ := hw'
        subst hw''
        have HB3 := Lib.hid (below_step HBx.out (below_regrown wr dq osq))
        generalize grow (redrawn wr dq) osq = W3 at *
        clear k0 k1 k2 k3 l0 l1 l2 l3 m0 m1 HF HBx
        go_wp2_with fail
        exact bodyPost_ret (v := .tuple #[.string ⟨#[]⟩, .iface 77 (.int .i64 E)]) (by simp [results, Tryz.results44, go_sem]) rfl ⟨by rw [HR2.out], below_step HB2.out HB3.out⟩
    · obtain rfl : j = L := by omega
      have HR2 := Lib.hid (HOk.out (koR_ok (by rw [HL.out, kcols_len, HM.out]) (fun i hi hi' => HV.out i hi hi' (by rw [← HL.out]; exact hi'))))
      have HE := Lib.hid (HEn.out wr (below_step HB2.out HBx.out))
      generalize txtL vs = TX at *
      generalize errV 77 (errL vs) = EV at *
      clear HV HOk HBad HEn
      go_wp2_with fail
      refine HE.out.mono ?_
      rintro e w4 ⟨rfl, hb4⟩
      have HB4 := Lib.hid (below_step (below_step HB2.out HBx.out) hb4)
      clear hb4 HE
      go_wp2_with fail
      exact bodyPost_ret (v := .tuple #[.string ⟨TX.toArray⟩, EV]) (by simp [results, Tryz.results44, go_sem]) rfl ⟨by rw [HR2.out], HB4.out⟩
 · have hne : ((L : Int) != M) = true := by simp; omega
   have hne2 : ((L : Int) == M) = false := by simp; omega
   have HR2 := Lib.hid (HBad.out 1 (by rw [koR, if_pos (by rw [HL.out, kcols_len, HM.out]; exact hlm)]) (by decide))
   clear HBad HOk HEn
   go_wp2_with fail
   exact bodyPost_ret (v := .tuple #[.string ⟨#[]⟩, .iface 77 (.int .i64 1)]) (by simp [results, Tryz.results44, go_sem]) rfl ⟨by rw [HR2.out], HB2.out⟩
end Go.Proofs.YtalmanfjiblhcaaGreat.Rw
