/- The walk of the document's Encode. -/
import Derived.Test.YtlldamgnfaikhaaDoorRwRCheck
import Derived.Test.YtlldamgnfaikhaaDoorRwPRef
import Derived.Test.YtlldamgnfaikhaaDoorOLay
import Derived.Deep.RegionHeld3
namespace Go.Proofs.YtlldamgnfaikhaaDoor
open Go.RowKit Go.Sort

theorem layV_len2 {v : Val} (hn : inI v.n) (hv : validN v = 0) : (layV v).length ≤ 4110 := by
  have h : v.t.size ≤ 4096 := by
    rcases fit_cases hv with rfl | ⟨n, rfl⟩ | ⟨t, rfl, ht⟩ | ⟨b, rfl⟩
    · decide
    · show 0 ≤ _; omega
    · exact ht
    · show 0 ≤ _; omega
  have := layV_len hn (by omega)
  omega
theorem rowB_len2 : ∀ vs : List Val, (∀ v ∈ vs, inI v.n) → (∀ v ∈ vs, validN v = 0) → (rowB vs).length ≤ vs.length * 4110
  | [], _, _ => by simp [rowB]
  | v :: vs, h1, h2 => by
    have := rowB_len2 vs (fun x hx => h1 x (List.mem_cons_of_mem _ hx)) (fun x hx => h2 x (List.mem_cons_of_mem _ hx))
    have := layV_len2 (h1 v List.mem_cons_self) (h2 v List.mem_cons_self)
    rw [rowB_cons, List.length_append, List.length_cons]
    omega
theorem rowB_lim2 {vs : List Val} (h1 : ∀ v ∈ vs, inI v.n) (h2 : ∀ v ∈ vs, validN v = 0) (hl : vs.length ≤ 1048576) (i : Nat) : (rowB (vs.take i)).length ≤ 4400000000 := by
  have := rowB_len2 (vs.take i) (fun v hv => h1 v (List.mem_of_mem_take hv)) (fun v hv => h2 v (List.mem_of_mem_take hv))
  have h3 : (vs.take i).length ≤ vs.length := List.length_take_le' _ _
  omega
/-- append(row, bytes...), at a step of a region that draws its order. -/
theorem step_append_any (N : Nat) (w w0 : World) {ops : Array Oper} {o : Oper} {act : Act} {K : Act → World → Prop} {Q : Exit → Act → World → Prop} {E : Prop} (hgd : o.guard = none) (s x : Operand)
    (ho : o.op = .call { callee := .builtin .append, args := #[s, x], argTypes := #[26, 26] }) (v : Value) (es ys : List Nat) (hs : act.eval s = v) (hown : Own w N v es)
    (B m c' : Nat) (hx : act.eval x = .slice (some ⟨B, 0, none⟩) m c') (hm : ys.length = m) (hin : BytesIn w (some ⟨B, 0, none⟩) ys) (hlen : es.length + ys.length ≤ 140737488355328) (hN : N ≤ w0.heap.size) (hb : Below N w0 w)
    (hK : ∀ v' w', Own w' N v' (es ++ ys) → Below N w0 w' → K (act.put o.dst v') w') : if Region.wanted o (yielded ops act.tmps) = true then Oper.wp Tryd.prog o act w K Q else E := by
  have hw : Region.wanted o (yielded ops act.tmps) = true := by simp [Region.wanted, hgd]
  rw [if_pos hw]
  exact wp_append_bytes w s x ho N v es ys hs hown (some ⟨B, 0, none⟩) m c' hx hm (fun h => by cases h) hin hlen (Nat.le_trans hN hb.size) fun v' w' h1 h2 => hK v' w' h1 (below_grow hN hb hown h2)
/-- What the document's Encode hands back. -/
def DEncTo (w : World) (cs : List Col) (vs : List Val) (e : Ending) (w' : World) : Prop :=
  ∃ v, e = .returned (.tuple #[v, .int .i64 (chkR cs vs)]) ∧ Own w' w.heap.size v (if chkR cs vs = 0 then rowB vs else []) ∧ Below w.heap.size w w'
set_option maxRecDepth 100000 in
set_option maxHeartbeats 1000000 in
theorem dencode_ (nm : ByteArray) (at_ : Option Addr) (ct : Nat) (cs : List Col) (a : Option Addr) (c : Nat) (vs : List Val) (w : World) (hc : ColsIn w at_ cs) (h : ValsIn w a vs) (hw : ∀ x ∈ vs, inI x.n) (hcl : cs.length ≤ 1048576) (hvl : vs.length ≤ 1048576) :
    Calls Tryd.prog 8 #[.agg #[.string nm, .slice at_ cs.length ct], .slice a vs.length c] w (DEncTo w cs vs) := by
  have HK : Hid (∀ W, Below w.heap.size w W → Calls Tryd.prog 18 #[.agg #[.string nm, .slice at_ cs.length ct], .slice a vs.length c] W fun e w' => e = .returned (.int .i64 (chkR cs vs)) ∧ Below W.heap.size W w') := fun W hW => rcheck_ nm at_ ct cs a c vs W (hc.on hW) (h.on hW) (by omega) (by omega)
  have HI := Lib.hid h
  have HW := Lib.hid hw
  obtain ⟨L, hL⟩ : ∃ L, vs.length = L := ⟨_, rfl⟩
  have HL := Lib.hid hL
  rw [hL] at hvl HK
  rw [hL]
  generalize cs.length = C at *
  unfold DEncTo
  clear h hc
  by_cases h0 : chkR cs vs = 0
  · have HV := Lib.hid (chkR_valid h0)
    have HLn := Lib.hid (rowB_lim2 hw HV.out (by omega))
    rw [if_pos h0]
    rw [h0] at HK
    rw [h0]
    clear h0 hL hw
    obtain ⟨t0, t1⟩ := inT_new w nm at_ C ct 24
    have HB0 : Hid (Below w.heap.size w (w.alloc (.cells #[.string nm, .slice at_ C ct] 24))) := below_alloc1 _ _
    go_enter Tryd.func8, Tryd.ntmps8
    go_wp2_with fail
    refine (HK.out _ HB0.out).mono ?_
    rintro e w1 ⟨rfl, hb1⟩
    have HB1 := Lib.hid (below_step HB0.out hb1)
    clear hb1 HB0 HK t0 t1
    go_wp2_with fail
    go_loopw [7, 8] (fun ov iv wr => ∃ i : Nat, i ≤ L ∧ iv = .int .i64 i ∧ Hid (Own wr w.heap.size ov (rowB (vs.take i))) ∧ Hid (Below w.heap.size w wr)) (fun _ iv _ => L - (intOf iv).toNat)
    case atStart => exact ⟨0, Nat.zero_le _, rfl, own_nil _ _, HB1⟩
    case round =>
      clear HB1
      obtain ⟨i, hi, rfl, HO, HBx⟩ := hrel
      by_cases hjl : i < L
      · have hjl2 : (i : Int) < (L : Int) := by omega
        have hj2 : i < vs.length := by rw [HL.out]; exact hjl
        obtain ⟨b, o, rfl, k, n, t, bb, hvi, hin⟩ := ValsIn.get (HI.out.on HBx.out) i hj2
        obtain ⟨p0, p1, p2, p3⟩ := hin
        have HIi : Hid (∀ W, Below w.heap.size w W → In4 W b (o + i * 4) k n t bb) := fun W hW => by
          obtain ⟨b', o', e', hh⟩ := (HI.out.on hW) i hj2
          cases e'
          rw [hvi] at hh
          exact hh
        have hv0 : validN ⟨k, n, t, bb⟩ = 0 := by rw [← hvi]; exact HV.out _ (List.getElem_mem hj2)
        have hn0 : inI n := by have := HW.out vs[i] (List.getElem_mem hj2); rw [hvi] at this; exact this
        obtain ⟨XS, hXS⟩ : ∃ XS, XS = rowB (vs.take i) := ⟨_, rfl⟩
        have hxl : XS.length ≤ 4400000000 := by rw [hXS]; exact HLn.out i
        have HNx : Hid (∀ W v, Own W w.heap.size v (XS ++ layV ⟨k, n, t, bb⟩) → Own W w.heap.size v (rowB (vs.take (i + 1)))) := fun W v hh => by rw [rowB_take hj2, ← hXS, hvi]; exact hh
        rw [← hXS] at HO
        clear hvi hXS
        rcases fit_cases hv0 with e | ⟨n', e⟩ | ⟨t', e, ht'⟩ | ⟨b', e⟩
        · simp only [vZ, Val.mk.injEq] at e
          obtain ⟨rfl, rfl, rfl, rfl⟩ := e
          have hly : layV ⟨0, 0, ⟨#[]⟩, false⟩ = [0] := by simp [layV]
          rw [hly] at HNx
          clear hly hv0 hn0
          go_wp2_with (first
            | (at_builtin; refine wpList_append_bytes _ rfl _ _ rfl w.heap.size _ XS [0] rfl (HO.out.on (below_alloc1 wr _)) (some ⟨wr.heap.size, 0, none⟩) 1 1 rfl rfl (fun hh => by cases hh) (one_new wr 0 0 rfl) (by simp; omega) (below_step HBx.out (below_alloc1 wr _)).size ?_
               intro v2 w2 hown hg
               have HO2 := Lib.hid (HNx.out _ _ hown)
               have HB2 := Lib.hid (below_grow (Nat.le_refl _) (below_step HBx.out (below_alloc1 wr (.cells #[.int .u8 0] 5))) (HO.out.on (below_alloc1 wr (.cells #[.int .u8 0] 5))) hg)
               clear hown hg HO HNx)
            | fail)
          go_roundw
          case rel => exact ⟨i + 1, by omega, by go_num, HO2, HB2⟩
          case measure => simp [intOf]; omega
        · simp only [Val.mk.injEq] at e
          obtain ⟨rfl, rfl, rfl, rfl⟩ := e
          have hly : layV ⟨1, n, ⟨#[]⟩, false⟩ = [1] ++ enc (zz n) := by simp [layV]
          rw [hly] at HNx
          clear hly hv0
          have HU : Hid (∀ W, Calls Tryd.prog 19 #[.int .i64 n] W (Laid W (enc (zz n)))) := fun W => rints_ n W hn0.1 hn0.2
          have hesl : (enc (zz n)).length ≤ 10 := enc_le10 _ (zz_lt n hn0.1 hn0.2)
          have HKc : Hid (∀ W, Below w.heap.size w W → W.cell? ⟨b, o + i * 4 + 1, none⟩ = some (.int .i64 n) ∧ Below w.heap.size w W) := fun W hW => ⟨(HIi.out W hW).2.1, hW⟩
          obtain ⟨ES, hES⟩ : ∃ ES, ES = enc (zz n) := ⟨_, rfl⟩
          rw [← hES] at HU HNx hesl
          obtain ⟨el, hel⟩ : ∃ el, ES.length = el := ⟨_, rfl⟩
          unfold Laid at HU
          rw [hel] at HU
          have hroom : (XS ++ [1]).length + ES.length ≤ 140737488355328 := by rw [List.length_append]; simp; omega
          clear hES hesl
          go_wp2_with fail
          refine wp_region_noPanic ?_
          go_region_held_law (fun W => W.cell? ⟨b, o + i * 4 + 1, none⟩ = some (.int .i64 n) ∧ Below w.heap.size w W)
            (first | (exact HKc.out _ HBx.out) | (exact HKc.out _ (by assumption)) | (exact HKc.out _ (below_step HBx.out (below_drew _))) | (exact HKc.out _ (below_step HBx.out (below_alloc1 _ _))) | (exact HKc.out _ (below_step HBx.out ((Below.refl _ _).drew.alloc (Nat.le_refl _) _))) | (exact HKc.out _ (below_step HBx.out ((Below.refl _ _).alloc (Nat.le_refl _) _).drew)))
            (first
              | (refine step_append_any w.heap.size _ w rfl _ _ rfl _ XS [1] rfl (HO.out.on (by first | exact (Below.refl _ _).drew.alloc (Nat.le_refl _) _ | exact ((Below.refl _ _).alloc (Nat.le_refl _) _).drew | exact below_alloc1 _ _)) _ 1 1 rfl rfl (one_new _ 1 1 rfl) (by simp; omega) (Nat.le_refl _) (below_step HBx.out (by first | exact (Below.refl _ _).drew.alloc (Nat.le_refl _) _ | exact ((Below.refl _ _).alloc (Nat.le_refl _) _).drew | exact below_alloc1 _ _)) ?_
                 intro v2 w2 hown hb2
                 have HO2 := Lib.hid hown
                 clear hown HO)
              | (go_simp; go_at_call 19; refine (HU.out _).mono ?_; rintro e w3 ⟨g, c3, rfl, ho3, hb3⟩
                 have HO3 := Lib.hid (HO2.out.on hb3)
                 have HI3 := Lib.hid ho3.cells.2.1
                 have hbw3 := below_step (by assumption : Below w.heap.size w w2) hb3
                 clear ho3 hb3 HO2)
              | (refine step_append_any w.heap.size _ w rfl _ _ rfl _ (XS ++ [1]) ES rfl HO3.out g el c3 rfl hel HI3.out hroom (Nat.le_refl _) hbw3 ?_
                 intro v4 w4 hown4 hb4
                 have HO4 := Lib.hid (HNx.out _ _ (by rw [← List.append_assoc]; exact hown4))
                 clear hown4 HO3 HI3)
              | fail)
          refine NoPanic.normal ?_
          have HB4 := Lib.hid hb4
          clear hb4
          go_wp2_with fail
          go_roundw
          case rel => exact ⟨i + 1, by omega, by go_num, HO4, HB4⟩
          case measure => simp [intOf]; omega
        · simp only [Val.mk.injEq] at e
          obtain ⟨rfl, rfl, rfl, rfl⟩ := e
          have hly : layV ⟨2, 0, t, false⟩ = [1] ++ (enc t.size ++ sb t) := by simp [layV]
          rw [hly] at HNx
          clear hly hv0
          have HU : Hid (∀ W, Calls Tryd.prog 20 #[.string t] W (Laid W (enc t.size ++ sb t))) := fun W => texts_ t W (by omega)
          have hesl : (enc t.size ++ sb t).length ≤ 5000 := by
            have := enc_le10 t.size (by omega)
            rw [List.length_append, sb_length]; omega
          clear ht'
          have HKc : Hid (∀ W, Below w.heap.size w W → W.cell? ⟨b, o + i * 4 + 2, none⟩ = some (.string t) ∧ Below w.heap.size w W) := fun W hW => ⟨(HIi.out W hW).2.2.1, hW⟩
          obtain ⟨ES, hES⟩ : ∃ ES, ES = enc t.size ++ sb t := ⟨_, rfl⟩
          rw [← hES] at HU HNx hesl
          obtain ⟨el, hel⟩ : ∃ el, ES.length = el := ⟨_, rfl⟩
          unfold Laid at HU
          rw [hel] at HU
          have hroom : (XS ++ [1]).length + ES.length ≤ 140737488355328 := by rw [List.length_append]; simp; omega
          clear hES hesl
          go_wp2_with fail
          refine wp_region_noPanic ?_
          go_region_held_law (fun W => W.cell? ⟨b, o + i * 4 + 2, none⟩ = some (.string t) ∧ Below w.heap.size w W)
            (first | (exact HKc.out _ HBx.out) | (exact HKc.out _ (by assumption)) | (exact HKc.out _ (below_step HBx.out (below_drew _))) | (exact HKc.out _ (below_step HBx.out (below_alloc1 _ _))) | (exact HKc.out _ (below_step HBx.out ((Below.refl _ _).drew.alloc (Nat.le_refl _) _))) | (exact HKc.out _ (below_step HBx.out ((Below.refl _ _).alloc (Nat.le_refl _) _).drew)))
            (first
              | (refine step_append_any w.heap.size _ w rfl _ _ rfl _ XS [1] rfl (HO.out.on (by first | exact (Below.refl _ _).drew.alloc (Nat.le_refl _) _ | exact ((Below.refl _ _).alloc (Nat.le_refl _) _).drew | exact below_alloc1 _ _)) _ 1 1 rfl rfl (one_new _ 1 1 rfl) (by simp; omega) (Nat.le_refl _) (below_step HBx.out (by first | exact (Below.refl _ _).drew.alloc (Nat.le_refl _) _ | exact ((Below.refl _ _).alloc (Nat.le_refl _) _).drew | exact below_alloc1 _ _)) ?_
                 intro v2 w2 hown hb2
                 have HO2 := Lib.hid hown
                 clear hown HO)
              | (go_simp; go_at_call 20; refine (HU.out _).mono ?_; rintro e w3 ⟨g, c3, rfl, ho3, hb3⟩
                 have HO3 := Lib.hid (HO2.out.on hb3)
                 have HI3 := Lib.hid ho3.cells.2.1
                 have hbw3 := below_step (by assumption : Below w.heap.size w w2) hb3
                 clear ho3 hb3 HO2)
              | (refine step_append_any w.heap.size _ w rfl _ _ rfl _ (XS ++ [1]) ES rfl HO3.out g el c3 rfl hel HI3.out hroom (Nat.le_refl _) hbw3 ?_
                 intro v4 w4 hown4 hb4
                 have HO4 := Lib.hid (HNx.out _ _ (by rw [← List.append_assoc]; exact hown4))
                 clear hown4 HO3 HI3)
              | fail)
          refine NoPanic.normal ?_
          have HB4 := Lib.hid hb4
          clear hb4
          go_wp2_with fail
          go_roundw
          case rel => exact ⟨i + 1, by omega, by go_num, HO4, HB4⟩
          case measure => simp [intOf]; omega
        · simp only [Val.mk.injEq] at e
          obtain ⟨rfl, rfl, rfl, rfl⟩ := e
          obtain ⟨x, hx, hly⟩ : ∃ x : Nat, x = (if bb = true then 1 else 0) ∧ layV ⟨3, 0, ⟨#[]⟩, bb⟩ = [1, x] := ⟨_, rfl, by simp [layV]⟩
          rw [hly] at HNx
          clear hly hv0 hn0
          cases bb
          all_goals
            simp only [Bool.false_eq_true, if_false, if_true] at hx
            subst hx
            go_wp2_with (first
              | (at_builtin; refine wpList_append_bytes _ rfl _ _ rfl w.heap.size _ XS [1, _] rfl (HO.out.on (below_alloc1 wr _)) (some ⟨wr.heap.size, 0, none⟩) 2 2 rfl rfl (fun hh => by cases hh) (two_new wr 1 _) (by simp; omega) (below_step HBx.out (below_alloc1 wr _)).size ?_
                 intro v2 w2 hown hg
                 have HO2 := Lib.hid (HNx.out _ _ hown)
                 have HB2 := Lib.hid (below_grow (Nat.le_refl _) (below_step HBx.out (below_alloc1 wr _)) (HO.out.on (below_alloc1 wr _)) hg)
                 clear hown hg HO HNx)
              | fail)
            go_roundw
            case rel => exact ⟨i + 1, by omega, by go_num, HO2, HB2⟩
            case measure => simp [intOf]; omega
      · obtain rfl : i = L := by omega
        have e1 : vs.take i = vs := List.take_of_length_le (by rw [HL.out]; exact Nat.le_refl _)
        rw [e1] at HO
        clear e1 HLn HI HW HV
        go_wp2_with fail
        exact bodyPost_ret (by simp [results, Tryd.results8, go_sem]) rfl ⟨_, rfl, HO.out, HBx.out⟩
  · rw [if_neg h0]
    obtain ⟨E, hE⟩ : ∃ E, chkR cs vs = E := ⟨_, rfl⟩
    rw [hE] at HK h0
    rw [hE]
    have h0' : (E != 0) = true := by simpa using h0
    clear hL hE hw
    obtain ⟨t0, t1⟩ := inT_new w nm at_ C ct 24
    have HB0 : Hid (Below w.heap.size w (w.alloc (.cells #[.string nm, .slice at_ C ct] 24))) := below_alloc1 _ _
    go_enter Tryd.func8, Tryd.ntmps8
    go_wp2_with fail
    refine (HK.out _ HB0.out).mono ?_
    rintro e w1 ⟨rfl, hb1⟩
    have HB1 := Lib.hid (below_step HB0.out hb1)
    clear hb1 HB0 HK t0 t1
    go_wp2_with fail
    exact bodyPost_ret (v := .tuple #[.slice none 0 0, .int .i64 E]) (by simp [results, Tryd.results8, go_sem]) rfl ⟨_, rfl, own_nil _ _, HB1.out⟩
end Go.Proofs.YtlldamgnfaikhaaDoor
