/- rows' iterator. -/
import Derived.Test.YtagamkahfiackaaGreatDoorVnRows
namespace Go.Proofs.YtagamkahfiackaaGreatDoor
open Go.RowKit Go.Sort Go.Shelf

attribute [local go_sem] Oper.semAt_some
set_option maxRecDepth 100000 in
set_option maxHeartbeats 4000000 in
theorem rows1_ {W w0 w : World} {ps p : Nat} {M : Nat → Option Nd} {F : Nat → Prop} {l : List It} {rd : Nat → List MV} (hd : VnD W w0 ps p M F l rd) (hok : OkM (mdl rd l)) (hm : nVer (mdl rd l) ≤ 1000000) (r : Rg) (t : Int) {ob D bs br bt : Nat}
    (h0 : Below w0.heap.size w0 w) (hb : RowsB w ps bs br bt r t) (ho : w0.heap.size ≤ ob ∧ ob < bs ∧ ob < br ∧ ob < bt) :
    SeqN Tryz.prog 47 #[.pointer (some ⟨bs, 0, none⟩), .pointer (some ⟨br, 0, none⟩), .pointer (some ⟨bt, 0, none⟩)] (encR (l := l) rd t) (KpR ob) (fun ys => ys.map (·.1) = (selR r l).filter (hvI rd t)) (fun _ => True) l.length D w := by
  intro ly J Jx W1 hW1 hD hJ hJx hY hj0
  have h01 := below_step h0 hW1
  have hd1 := hd.on h01
  have hb1 := hb.on hW1
  have hlow : ∀ k, k < w0.heap.size → k ≠ ob := fun k hk => by omega
  have hbz : bs < W1.heap.size ∧ br < W1.heap.size ∧ bt < W1.heap.size := ⟨blk_lt hb1.b1, blk_lt hb1.b2, blk_lt hb1.b3⟩
  obtain ⟨W2, hW2⟩ : ∃ W2, W2 = W1.alloc (.cells #[.func (.yield ly) #[] #[]] 110) := ⟨_, rfl⟩
  have b2 : Below W1.heap.size W1 W2 := by rw [hW2]; exact below_alloc _ _
  have hyb : W2.heap[W1.heap.size]? = some (.cells #[.func (.yield ly) #[] #[]] 110 (0, 0)) := by rw [hW2]; exact new_blk _ _
  have hs2 : W2.heap.size = W1.heap.size + 1 := by rw [hW2]; simp [go_sem]
  have HB2 := Lib.hid (And.intro b2 (And.intro hyb hs2))
  have hb2 := hb1.on b2
  have hd2 := hd1.on b2
  have HK : Hid (∀ V, Below W2.heap.size W2 V → Calls Tryz.prog 22 #[.pointer (some ⟨ps, 0, none⟩)] V fun e w' => e = .returned (.pointer (some ⟨p, 0, none⟩)) ∧ w' = V) := fun V hV => kept_ (hd2.on hV).bs
  have HA : Hid (∀ V, Calls Tryz.prog 27 #[.pointer (some ⟨p, 0, none⟩), rgV r] V (AllTo p r V)) := fun V => allB_ p r V
  have HCells : Hid (∀ V, Below W2.heap.size W2 V → ((V.cell? ⟨bs, 0, none⟩ = some (.pointer (some ⟨ps, 0, none⟩)) ∧ V.cell? ⟨br, 0, none⟩ = some (.string r.f) ∧ V.cell? ⟨br, 1, none⟩ = some (.string r.t) ∧ V.cell? ⟨br, 2, none⟩ = some (.bool r.hf) ∧ V.cell? ⟨br, 3, none⟩ = some (.bool r.ht) ∧ V.cell? ⟨br, 4, none⟩ = some (.bool r.pf) ∧ V.cell? ⟨br, 5, none⟩ = some (.bool r.pt)) ∧ Below W2.heap.size W2 V)) := fun V hV => by
    have h := hb2.on hV
    exact ⟨⟨cell_of h.b1 rfl, cell_of h.b2 rfl, cell_of h.b2 rfl, cell_of h.b2 rfl, cell_of h.b2 rfl, cell_of h.b2 rfl, cell_of h.b2 rfl⟩, hV⟩
  have HC := Lib.hid (fun V (hV : KpR ob w0 V) x hx => chain_row hd hok hm t hlow hV x hx)
  have HD := Lib.hid (And.intro hd2 (And.intro hb2 (below_step h01 b2)))
  have HJ := Lib.hid (And.intro hJ hJx)
  have HJ0 : Hid (J [] W1) := hj0
  have HY := Lib.hid hY
  have HLow := Lib.hid hlow
  have HLt : Hid ((∀ k, Own M k → k < w0.heap.size) ∧ p < w0.heap.size) := ⟨fun k hk => hd.wk.st.lt hk, hd.tr.lt⟩
  have HO := Lib.hid (And.intro ho (And.intro hbz hD))
  clear hd hok hm h0 hb hW1 hJ hJx hY hj0 h01 hd1 hb1 b2 hyb hs2 hb2 hd2 ho hlow hbz hD
  unfold rgV at *
  refine callsIn_wide.2 (callsIn_wide.1 (callsIn_of_wp_marks (n := 9) Tryz.func47 rfl (wide_fn _) (wpIn_wide.2 ?_) wide_round))
  simp only [Tryz.ntmps47, List.size_toArray, List.length_cons, List.length_nil, Nat.reduceAdd, Nat.reduceSub, Array.replicate_succ, Array.replicate_zero, List.push_toArray, List.append_toArray, List.nil_append, List.cons_append]
  go_upto_region 1 with fail
  rw [← hW2]
  clear hW2
  refine wp_region_noPanic ?_
  go_region_held (fun V => (V.cell? ⟨bs, 0, none⟩ = some (.pointer (some ⟨ps, 0, none⟩)) ∧ V.cell? ⟨br, 0, none⟩ = some (.string r.f) ∧ V.cell? ⟨br, 1, none⟩ = some (.string r.t) ∧ V.cell? ⟨br, 2, none⟩ = some (.bool r.hf) ∧ V.cell? ⟨br, 3, none⟩ = some (.bool r.ht) ∧ V.cell? ⟨br, 4, none⟩ = some (.bool r.pf) ∧ V.cell? ⟨br, 5, none⟩ = some (.bool r.pt)) ∧ Below W2.heap.size W2 V)
    (first | (exact HCells.out _ (below_drew _)) | (exact HCells.out _ (below_step (by assumption : (_ ∧ _) ∧ Below W2.heap.size W2 _).2 (by assumption))) | assumption)
    (first
      | (go_at_call 22; refine (HK.out _ (by assumption : (_ ∧ _) ∧ Below W2.heap.size W2 _).2).mono ?_; rintro e w1 ⟨rfl, rfl⟩; clear HK)
      | (go_at_call 27; refine (HA.out _).mono ?_; rintro e W3 ⟨ct, cr, rfl, HX⟩; have hb := HX.out.1; clear HA)
      | fail)
  refine NoPanic.normal ?_
  go_wp2_with fail
  have hW23 := (by assumption : (_ ∧ _) ∧ Below W2.heap.size W2 W3).2
  obtain ⟨x1, x2, x3, x4, x5⟩ := HX.out
  obtain ⟨y1, y2, y3⟩ := HB2.out
  obtain ⟨⟨o1, o2, o3, o4⟩, ⟨z1, z2, z3⟩, hDW⟩ := HO.out
  have hct : W2.heap.size ≤ ct := x4
  have hcr : W2.heap.size ≤ cr := x5
  have h03 : Below w0.heap.size w0 W3 := below_step HD.out.2.2 hW23
  have hd3 := HD.out.1.on hW23
  have hb3 := HD.out.2.1.on hW23
  have hT := hd3.seq x2 x3
  have hyb3 : W3.heap[W1.heap.size]? = some (.cells #[.func (.yield ly) #[] #[]] 110 (0, 0)) := blkKeep hW23 y2
  have hsz3 : W1.heap.size < W3.heap.size := by have := hW23.size; omega
  have hcells : ∀ k, (Own M k ∨ k = p ∨ k = ct ∨ k = cr) → k ≠ ob ∧ ∃ (c : Array Value) (ty : TypeId), ty ≠ 74 ∧ W3.heap[k]? = some (.cells c ty (0, 0)) := fun k hk => by
    rcases hk with h | h | h | h
    · obtain ⟨c, ty, h1, h2⟩ := own_cells hd3.wk.st h
      exact ⟨HLow.out k (HLt.out.1 k h), c, ty, h1, h2⟩
    · obtain ⟨c, ty, h1, h2⟩ := root_cells hd3.tr
      exact ⟨by rw [h]; exact HLow.out p HLt.out.2, c, ty, h1, by rw [h]; exact h2⟩
    · exact ⟨by omega, #[.pointer (some ⟨p, 0, none⟩)], 49, by decide, by rw [h]; exact x2⟩
    · exact ⟨by omega, #[.string r.f, .string r.t, .bool r.hf, .bool r.ht, .bool r.pf, .bool r.pt], 28, by decide, by rw [h]; exact x3⟩
  have hseq := all_stopsS 8 (by omega) hT
  have hkb : ∀ (W : World) (ll : Nat) (o o' : Obj), W3.heap.size ≤ ll → W.heap[ll]? = some o → o.isCells = false → o.isWalk = false → KpT M p ct cr W (W.putObj ll o') := fun W ll o o' h1 _ _ _ k hk => World.putObj_heap_other (by have := hT.lts k hk; omega)
  have hI0 : J (([] : List (Inl l)).filter fun x => hvI rd t x.1) W3 ∧ KpR ob W3 W3 := ⟨own_below HJ.out.1 HJ0.out (below_step y1 hW23), Nat.le_refl _, fun _ _ _ _ _ hk => hk⟩
  have HR3 := Lib.hid (And.intro hyb3 (And.intro hb3 hcells))
  have HKpT : Hid (∀ A B, KpR ob W3 A → KpR ob W3 B → KpT M p ct cr A B) := fun A B hA hB k hk => by
    obtain ⟨hne, c, ty, h1, h2⟩ := hcells k hk
    exact (hB.2 k c ty hne h1 h2).trans (hA.2 k c ty hne h1 h2).symm
  have HK03 : Hid (KpR ob w0 W3) := kpR_below h03
  have HS := Lib.hid (And.intro hsz3 (And.intro hDW o2))
  clear x1 x2 x3 x4 x5 y1 y2 y3 hT HX HB2 hW23 HD h03 hd3 hb3 hyb3 hcells HJ0 HCells o1 o2 o3 o4 z1 z2 z3 hct hcr
  rw [← wpIn_wide (n := 9)]
  apply wpIn_rangeFunc_ownG (encs := encS (l := l)) (Kp := KpT M p ct cr) (S := fun ys => ys.map (·.1) = selR r l) (Sp := fun pre => pre.map (·.1) <+: selR r l) (N := l.length) (w0 := W3) wide_round (by omega) (gf := 43) (lb := #[.pointer (some ⟨ct, 0, none⟩), .pointer (some ⟨cr, 0, none⟩)]) rfl (wide_fn _) (enters_of Tryz.func43 (by kernel_rfl) rfl) hseq kpT_t hkb (Below.refl _ _) (fun _ => rfl)
    (fun pre V => J (pre.filter fun x => hvI rd t x.1) V ∧ KpR ob W3 V) (fun cc pre V => cc = .ret ∧ Jx (pre.filter fun x => hvI rd t x.1) V)
    (fun pre V V' row hi hg hr => ⟨(own_mono HJ.out.1 (by have := HS.out.1; omega)) _ V V' row hi.1 hg hr, kpR_own (β := Unit) ob W3.heap.size W3 () V V' row hi.2 hg hr⟩) (fun cc pre V V' row hi hg hr => ⟨hi.1, (own_mono HJ.out.2 (by have := HS.out.1; omega)) _ V V' row hi.2 hg hr⟩) hI0
  case hassign =>
    intro ll x W KK hK
    unfold encS encI
    rw [fold2]
    simp only [List.setIfInBounds_toArray, List.set_cons_zero, List.set_cons_succ]
    gi_wp2
    exact hK
  case hbody =>
    rintro ll pre ⟨x, hx⟩ V ⟨hj, hk⟩ hlen
    have c3 := cell_of (o := 0) (hk.2 bt _ _ (by have := HS.out; have := HO.out; omega) (by decide) HR3.out.2.1.b3) rfl
    have HCr := Lib.hid (HC.out V (kpR_t HK03.out hk) x hx)
    have HJV := Lib.hid hj
    have HKV := Lib.hid hk
    have hlen' : (pre.filter fun x => hvI rd t x.1).length < l.length := Nat.lt_of_le_of_lt (List.length_filter_le _ _) hlen
    have hfil : (pre ++ [(⟨x, hx⟩ : Inl l)]).filter (fun x => hvI rd t x.1) = if hvI rd t x = true then (pre.filter fun x => hvI rd t x.1) ++ [(⟨x, hx⟩ : Inl l)] else pre.filter fun x => hvI rd t x.1 := by
      rw [List.filter_append]
      by_cases q : hvI rd t x = true
      · rw [if_pos q]; simp [q]
      · rw [if_neg q]; simp [q]
    have HF := Lib.hid hfil
    have HYx := Lib.hid (fun V' (hV' : J (pre.filter fun x => hvI rd t x.1) V') => HY.out (pre.filter fun x => hvI rd t x.1) (⟨x, hx⟩ : Inl l) V' hV' hlen')
    unfold encR at HYx
    clear hj hk hlen hlen' hfil
    dsimp only at HYx
    generalize rwV (asL (ctV rd x.2) t) = q at *
    generalize hhv : hvI rd t x = hv at *
    dsimp only
    gi_wp2
    refine ⟨wide_fn _, (CallsIn.inRound ll (callsIn_wide.2 HCr.out)).mono ?_⟩
    rintro e V' ⟨rfl, hV'⟩
    have hj' := own_below HJ.out.1 HJV.out hV'
    have hk' := kpR_t HKV.out (kpR_below hV')
    have HKF : Hid (KeepsFrom W3.heap.size V V') := ⟨hV'.size, fun k o _ hko _ => (hV'.block k (blk_lt hko)).trans hko⟩
    have HK' := Lib.hid hk'
    have HJ' := Lib.hid hj'
    have c9 := cell_of (o := 0) (hk'.2 W1.heap.size _ _ (by have := HO.out; omega) (by decide) HR3.out.1) rfl
    clear hV' c3 HCr
    cases hv with
    | false =>
      rw [if_neg (by simp)] at HF
      clear hj' hk'
      gi_wp2
      refine ⟨fun f _ => wide_fn f, ?_⟩
      gi_wp2
      exact ⟨HKF.out, HKpT.out V V' HKV.out HK'.out, (by show J (List.filter _ _) V'; rw [HF.out]; exact HJ'.out), HK'.out⟩
    | true =>
      rw [if_pos rfl] at HF
      obtain ⟨fn, tmps, assign, body, hy, hR⟩ := HYx.out V' hj'
      have HR := Lib.hid hR
      clear hj' hk' hR
      gi_wp2
      refine (round_any HR.out).mono ?_
      rintro e V2 (⟨rfl, hJ3, hk3, hkd⟩ | ⟨rfl, hJx3, hkd⟩)
      · have HE : Hid (KeepsFrom W3.heap.size V V2 ∧ KpR ob W3 V2) := ⟨HKF.out.trans ⟨hkd.size, fun k o hk hko ho => hkd.same k o (by have := HS.out; omega) hko ho⟩, kpR_t HK'.out hk3⟩
        have HJ3 := Lib.hid hJ3
        clear hJ3 hk3 hkd hy HR
        gi_wp2
        exact ⟨HE.out.1, HKpT.out V V2 HKV.out HE.out.2, (by show J (List.filter _ _) V2; rw [HF.out]; exact HJ3.out), HE.out.2⟩
      · have HE : Hid (KeepsFrom W3.heap.size V V2) := HKF.out.trans ⟨hkd.size, fun k o hk hko ho => hkd.same k o (by have := HS.out; omega) hko ho⟩
        have HJ3 := Lib.hid hJx3
        clear hJx3 hkd hy HR
        gi_wp2
        exact ⟨HE.out, rfl, (by show Jx (List.filter _ _) V2; rw [HF.out]; exact HJ3.out)⟩
  case hstop =>
    rintro D1 cc pre V hD1 hsp ⟨rfl, hj⟩ hK
    have HI := Lib.hid (And.intro hj hK)
    clear hj hK hseq hkb hsp
    gi_wp2
    obtain ⟨hj, hK⟩ := HI.out
    refine ⟨by simp, .inl ⟨_, _, rfl, run_takeDeferred hK, ?_⟩⟩
    exact ⟨.tuple #[], by simp [results, Tryz.results47, go_sem], ⟨_, rfl⟩, .inr ⟨_, trivial, HJ.out.2.putObj _ hj (by have := HS.out; omega) hK rfl⟩⟩
  case hdone =>
    rintro D1 ys V hD1 hys ⟨hj, _⟩ hK1
    have HYs : Hid ((ys.filter fun x => hvI rd t x.1).map (·.1) = (selR r l).filter (hvI rd t)) := by
      show _ = _
      rw [← hys, List.filter_map]; rfl
    have HI := Lib.hid (And.intro hj hK1)
    clear hj hK1 hseq hkb hys
    go_wp2_with fail
    obtain ⟨hj, hK⟩ := HI.out
    refine ⟨by simp, .inl ⟨_, _, rfl, run_takeDeferred hK, ?_⟩⟩
    exact ⟨.tuple #[], by simp [results, Tryz.results47, go_sem], ⟨_, rfl⟩, .inl ⟨_, HYs.out, HJ.out.1.putObj _ hj (by have := HS.out; omega) hK rfl⟩⟩
end Go.Proofs.YtagamkahfiackaaGreatDoor
