/- change: what a write comes to; A store behind a change of one of its fragments, and behind a commit's start. -/
import Derived.Test.YtalmanfjiblhcaaGreatJ22
import Derived.Test.YtalmanfjiblhcaaGreatJ27
namespace Go.Proofs.YtalmanfjiblhcaaGreat
open Go.RowKit Go.Sort
structure WV where
 nm : ByteArray
 gn : Bool
 a : Option Addr
 c : Nat
 vs : List Rw.Val
def WV.val (x : WV) : Value := .agg #[.string x.nm, .bool x.gn, .slice x.a x.vs.length x.c]
def WV.In (w : World) (x : WV) : Prop := Rw.ValsIn w x.a x.vs
def WV.Ok (x : WV) : Prop := (∀ v ∈ x.vs, Rw.inI v.n) ∧ Rw.wtV x.vs ≤ 1048576
def colsAt (us : List Tb.TV) (i : Nat) : List Rw.Col := (us[i]?.map Tb.TV.cs).getD []
theorem colsAt_lt {us : List Tb.TV} {i : Nat} (h : i < us.length) : colsAt us i = us[i].cs := by simp [colsAt, List.getElem?_eq_getElem h]
def wE (us : List Tb.TV) (x : WV) : Int := match tabN x.nm us with
 | none => 30
 | some i => if x.gn then Rw.kofErr (colsAt us i) x.vs else Rw.kErr (colsAt us i) x.vs
def wC (us : List Tb.TV) (x : WV) : Chg := match tabN x.nm us with
 | none => ⟨0, ⟨#[]⟩, ⟨#[]⟩, false⟩
 | some i => if x.gn then ⟨i, ⟨(Rw.kofTxt (colsAt us i) x.vs).toArray⟩, ⟨#[]⟩, true⟩ else ⟨i, ⟨(Rw.kTxt (colsAt us i) x.vs).toArray⟩, bs (Rw.rowB x.vs), false⟩
def ChgTo (w : World) (us : List Tb.TV) (x : WV) (e : Ending) (w' : World) : Prop :=
 ∃ (t : Nat) (k : ByteArray) (r : Vl) (g : Bool), e = .returned (.tuple #[.agg #[.int .i64 t, .string k, .slice r.a r.n r.c, .bool g], Rw.errV 77 (wE us x)]) ∧ (wE us x = 0 → t = (wC us x).t ∧ k = (wC us x).k ∧ g = (wC us x).gn ∧ RowAt w' r (wC us x).tx) ∧ Below w.heap.size w w'
theorem ns_bs {xs : List Nat} (h : ∀ x ∈ xs, x < 256) : bsN (bs xs) = xs := by
 unfold bsN bs ns
 simp only [List.map_map]
 conv => rhs; rw [← List.map_id xs]
 refine List.map_congr_left fun x hx => ?_
 have := h x hx
 simp [UInt8.toNat_ofNat', Nat.mod_eq_of_lt this]
theorem rowAt_of {w : World} {B : Nat} {a : Option Addr} {n c : Nat} {xs : List Nat} (h : Rw.Own w B (.slice a n c) xs) (hb : ∀ x ∈ xs, x < 256) (hl : xs.length ≤ 140737488355328) : RowAt w ⟨a, n, c⟩ (bs xs) := by
 refine ⟨?_, by rw [← bsN_len, ns_bs hb]; exact hl⟩
 rw [ns_bs hb]
 exact OwnB.lower (show OwnB w B (.slice a n c) xs from h) (Nat.zero_le _)
theorem wE_none {us : List Tb.TV} {x : WV} (h : tabN x.nm us = none) : wE us x = 30 := by unfold wE; rw [h]
theorem wE_at {us : List Tb.TV} {x : WV} {i : Nat} (h : tabN x.nm us = some i) (hi : i < us.length) : wE us x = if x.gn then Rw.kofErr us[i].cs x.vs else Rw.kErr us[i].cs x.vs := by unfold wE; rw [h]; simp only [colsAt_lt hi]
theorem wC_at {us : List Tb.TV} {x : WV} {i : Nat} (h : tabN x.nm us = some i) (hi : i < us.length) : wC us x = if x.gn then ⟨i, ⟨(Rw.kofTxt us[i].cs x.vs).toArray⟩, ⟨#[]⟩, true⟩ else ⟨i, ⟨(Rw.kTxt us[i].cs x.vs).toArray⟩, bs (Rw.rowB x.vs), false⟩ := by unfold wC; rw [h]; simp only [colsAt_lt hi]
theorem errV_ne {t : TypeId} {e : Int} (h : e ≠ 0) : Rw.errV t e = .iface t (.int .i64 e) := by unfold Rw.errV; rw [if_neg h]
theorem errV_zero {t : TypeId} : Rw.errV t 0 = .nilIface := rfl
def CgB (W : World) (b : Nat) (t : Int) (k : ByteArray) (r : Vl) (g : Bool) : Prop := W.heap[b]? = some (.cells #[.int .i64 t, .string k, .slice r.a r.n r.c, .bool g] 81 (0, 0))
theorem CgB.cells {W : World} {b : Nat} {t : Int} {k : ByteArray} {r : Vl} {g : Bool} (h : CgB W b t k r g) : W.cell? ⟨b, 0, none⟩ = some (.int .i64 t) ∧ W.cell? ⟨b, 1, none⟩ = some (.string k) ∧ W.cell? ⟨b, 2, none⟩ = some (.slice r.a r.n r.c) ∧ W.cell? ⟨b, 3, none⟩ = some (.bool g) ∧ W.frozen? ⟨b, 0, none⟩ = false ∧ W.frozen? ⟨b, 1, none⟩ = false ∧ W.frozen? ⟨b, 2, none⟩ = false ∧ W.frozen? ⟨b, 3, none⟩ = false :=
 ⟨cell_of h rfl, cell_of h rfl, cell_of h rfl, cell_of h rfl, frozen_of h, frozen_of h, frozen_of h, frozen_of h⟩
theorem CgB.on {W W' : World} {b : Nat} {t : Int} {k : ByteArray} {r : Vl} {g : Bool} (h : CgB W b t k r g) (hb : Below W.heap.size W W') : CgB W' b t k r g := (hb.block b (blk_lt h)).trans h
set_option maxRecDepth 100000 in
set_option maxHeartbeats 2000000 in
theorem fchange_ {w : World} {ps gl n cl BC m N : Nat} {us : List Tb.TV} (h : FsB w ps gl n cl BC m) (hc : Tb.CatIn w N BC us) (hl : ∀ u ∈ us, u.cs.length ≤ 16) {x : WV} (hx : x.In w) (ho : x.Ok) :
 Calls Tryz.prog 21 #[.pointer (some ⟨ps, 0, none⟩), x.val] w (ChgTo w us x) := by
 obtain ⟨xn, xg, xa, xc, vs⟩ := x
 simp only [WV.In, WV.Ok, WV.val] at hx ho ⊢
 obtain ⟨L, hL⟩ : ∃ L, vs.length = L := ⟨_, rfl⟩
 rw [hL]
 obtain ⟨W1, hW1⟩ : ∃ W1, W1 = (w.alloc (.cells #[.string xn, .bool xg, .slice xa L xc] 75)).alloc (.cells #[.int .i64 0, .string ⟨#[]⟩, .slice none 0 0, .bool false] 81) := ⟨_, rfl⟩
 have hB1 : Below w.heap.size w W1 := by rw [hW1]; exact below_step (below_alloc _ _) (below_alloc _ _)
 have hsz : W1.heap.size = w.heap.size + 2 := by rw [hW1]; simp [go_sem]
 have k0 : W1.heap[w.heap.size]? = some (.cells #[.string xn, .bool xg, .slice xa L xc] 75 (0, 0)) := by
  rw [hW1]
  have h1 := new_blk w (.cells #[.string xn, .bool xg, .slice xa L xc] 75)
  exact ((below_alloc (w.alloc (.cells #[.string xn, .bool xg, .slice xa L xc] 75)) _).block _ (blk_lt h1)).trans h1
 have k1 : CgB W1 (w.heap.size + 1) 0 ⟨#[]⟩ vz false := by
  rw [hW1]
  have := new_blk (w.alloc (.cells #[.string xn, .bool xg, .slice xa L xc] 75)) (.cells #[.int .i64 0, .string ⟨#[]⟩, .slice none 0 0, .bool false] 81)
  rw [show (w.alloc (.cells #[.string xn, .bool xg, .slice xa L xc] 75)).heap.size = w.heap.size + 1 by simp [go_sem]] at this
  exact this
 have HF := Lib.hid (ffind_ (h.on hB1) (hc.on hB1) hl xn)
 have HW1 := Lib.hid hW1.symm
 have HB1 := Lib.hid hB1
 have HC1 := Lib.hid k1
 have HK0 := Lib.hid k0
 have HV := Lib.hid hx
 have a0 : W1.cell? ⟨w.heap.size, 0, none⟩ = some (.string xn) := cell_of k0 rfl
 clear h hc hW1 k0 k1 hx
 go_enter Tryz.func21, Tryz.ntmps21
 go_upto_region 1 with fail
 rw [HW1.out]
 go_wp2_with fail
 refine HF.out.mono ?_
 rintro e w2 (⟨g1, rfl, g2⟩ | ⟨j, hj, a2, c2, g1, rfl, g2, g3, g4, g5, g6⟩)
 · have HR : Hid (∀ w', Below w.heap.size w w' → ChgTo w us ⟨xn, xg, xa, xc, vs⟩ (.returned (.tuple #[.agg #[.int .i64 0, .string ⟨#[]⟩, .slice none 0 0, .bool false], .iface 77 (.int .i64 30)])) w') := fun w' hw => by
    have e30 : wE us ⟨xn, xg, xa, xc, vs⟩ = 30 := wE_none g1
    exact ⟨0, ⟨#[]⟩, vz, false, by rw [e30]; rfl, fun h => by rw [e30] at h; omega, hw⟩
   have HC2 := Lib.hid ((HC1.out.on g2).on (below_alloc w2 (.cells #[.string ⟨#[]⟩, .slice none 0 0] 44)))
   have HB3 := Lib.hid (below_step (below_step HB1.out g2) (below_alloc w2 (.cells #[.string ⟨#[]⟩, .slice none 0 0] 44)))
   clear g1 g2 HF
   generalize ChgTo w us ⟨xn, xg, xa, xc, vs⟩ = Q at *
   go_upto_region 2 with fail
   obtain ⟨W3, hW3⟩ : ∃ W3, w2.alloc (.cells #[.string ⟨#[]⟩, .slice none 0 0] 44) = W3 := ⟨_, rfl⟩
   rw [hW3] at HC2 HB3 ⊢
   have HQ : Hid (∀ u0 u1 u2 u3, Q (.returned (.tuple #[.agg #[.int .i64 0, .string ⟨#[]⟩, .slice none 0 0, .bool false], .iface 77 (.int .i64 30)])) ((((W3.setCell ⟨w.heap.size + 1, 0, none⟩ u0).setCell ⟨w.heap.size + 1, 1, none⟩ u1).setCell ⟨w.heap.size + 1, 2, none⟩ u2).setCell ⟨w.heap.size + 1, 3, none⟩ u3)) := fun u0 u1 u2 u3 => HR.out _ ((((HB3.out.setCell (Nat.le_succ _) _).setCell (Nat.le_succ _) _).setCell (Nat.le_succ _) _).setCell (Nat.le_succ _) _)
   obtain ⟨c0, c1, c2, c3, f0, f1, f2, f3⟩ := HC2.out.cells
   go_wp2_with fail
   refine bodyPost_ret (v := .tuple #[.agg #[.int .i64 0, .string ⟨#[]⟩, .slice none 0 0, .bool false], .iface 77 (.int .i64 30)]) ?_ rfl (HQ.out _ _ _ _)
   simp [results, Tryz.results21, go_sem, c0, c1, c2, c3]
 · have hwe := wE_at (x := ⟨xn, xg, xa, xc, vs⟩) g1 hj
   have hwc := wC_at (x := ⟨xn, xg, xa, xc, vs⟩) g1 hj
   simp only at hwe hwc
   have hcl := hl _ (List.getElem_mem hj)
   have HG : Hid (∀ (t : Nat) (k : ByteArray) (r : Vl) (g : Bool) w', (wE us ⟨xn, xg, xa, xc, vs⟩ = 0 → t = (wC us ⟨xn, xg, xa, xc, vs⟩).t ∧ k = (wC us ⟨xn, xg, xa, xc, vs⟩).k ∧ g = (wC us ⟨xn, xg, xa, xc, vs⟩).gn ∧ RowAt w' r (wC us ⟨xn, xg, xa, xc, vs⟩).tx) → Below w.heap.size w w' → ChgTo w us ⟨xn, xg, xa, xc, vs⟩ (.returned (.tuple #[.agg #[.int .i64 t, .string k, .slice r.a r.n r.c, .bool g], Rw.errV 77 (wE us ⟨xn, xg, xa, xc, vs⟩)])) w') := fun t k r g w' h1 h2 => ⟨t, k, r, g, rfl, h1, h2⟩
   generalize ChgTo w us ⟨xn, xg, xa, xc, vs⟩ = Q at *
   generalize wE us ⟨xn, xg, xa, xc, vs⟩ = E at *
   generalize wC us ⟨xn, xg, xa, xc, vs⟩ = C at *
   generalize us[j].nm = nm at *
   generalize us[j].cs = cs at *
   obtain ⟨M, hM⟩ : ∃ M, cs.length = M := ⟨_, rfl⟩
   rw [hM] at g3 hcl ⊢
   obtain ⟨W3, hW3⟩ : ∃ W3, W3 = w2.alloc (.cells #[.string nm, .slice a2 M c2] 44) := ⟨_, rfl⟩
   have hb23 : Below w2.heap.size w2 W3 := by rw [hW3]; exact below_alloc _ _
   have hB3 : Below w.heap.size w W3 := below_step (below_step HB1.out g6) hb23
   have hC3 := (HC1.out.on g6).on hb23
   have s0 : W3.heap[w2.heap.size]? = some (.cells #[.string nm, .slice a2 M c2] 44 (0, 0)) := by rw [hW3]; exact new_blk _ _
   have s1 : W3.heap[w.heap.size]? = some (.cells #[.string xn, .bool xg, .slice xa L xc] 75 (0, 0)) := by
    have h1 := (g6.block _ (blk_lt HK0.out)).trans HK0.out
    exact (hb23.block _ (blk_lt h1)).trans h1
   have HCo : Hid (∀ V, Below W3.heap.size W3 V → Rw.ColsIn V a2 cs) := fun V hV => (show Rw.ColsIn W3 a2 cs from g2.on hb23).on hV
   have HVa : Hid (∀ V, Below W3.heap.size W3 V → Rw.ValsIn V xa vs) := fun V hV => (HV.out.on hB3).on hV
   have HB3 := Lib.hid hB3
   have HC3 := Lib.hid hC3
   have HS0 := Lib.hid s0
   have HS1 := Lib.hid s1
   have z0 : W3.cell? ⟨w2.heap.size, 0, none⟩ = some (.string nm) := cell_of s0 rfl
   have z1 : W3.cell? ⟨w2.heap.size, 1, none⟩ = some (.slice a2 M c2) := cell_of s0 rfl
   have y1 : W3.cell? ⟨w.heap.size, 1, none⟩ = some (.bool xg) := cell_of s1 rfl
   have y2 : W3.cell? ⟨w.heap.size, 2, none⟩ = some (.slice xa L xc) := cell_of s1 rfl
   have HW3 := Lib.hid hW3.symm
   have HO := Lib.hid (And.intro ho (And.intro hcl (And.intro hM hL)))
   have hvl : vs.length ≤ 1048576 := Nat.le_trans (Rw.wtV_len vs) ho.2
   cases xg with
   | true =>
     simp only [if_true] at hwe hwc
     have HK : Hid (Calls Tryz.prog 44 #[.agg #[.string nm, .slice a2 M c2], .slice xa L xc] W3 fun e w' => e = .returned (.tuple #[.string ⟨(Rw.kofTxt cs vs).toArray⟩, Rw.errV 77 E]) ∧ Below W3.heap.size W3 w') := by
      have := Rw.keyOf_ nm a2 c2 cs xa xc vs W3 (HCo.out _ (Below.refl _ _)) (HVa.out _ (Below.refl _ _)) ho.1 (by omega) hvl
      rw [hM, hL, ← hwe] at this
      exact this
     have HC := Lib.hid hwc
     generalize (⟨(Rw.kofTxt cs vs).toArray⟩ : ByteArray) = k at *
     clear g1 g2 g3 g4 g5 g6 HF hwe hwc hl hcl hb23 hB3 hC3 s0 s1 hW3 HCo HVa ho hM hL hvl
     go_upto_region 2 with fail
     rw [HW3.out]
     go_wp2_with fail
     refine HK.out.mono ?_
     rintro e w4 ⟨rfl, hb4⟩
     have HB4 := Lib.hid (below_step HB3.out hb4)
     have HC4 := Lib.hid (HC3.out.on hb4)
     obtain ⟨c0, c1, c2, c3, f0, f1, f2, f3⟩ := HC4.out.cells
     have HQ : Hid (∀ u0 u1 u2 u3, Q (.returned (.tuple #[.agg #[.int .i64 j, .string k, .slice none 0 0, .bool true], Rw.errV 77 E])) ((((w4.setCell ⟨w.heap.size + 1, 0, none⟩ u0).setCell ⟨w.heap.size + 1, 1, none⟩ u1).setCell ⟨w.heap.size + 1, 2, none⟩ u2).setCell ⟨w.heap.size + 1, 3, none⟩ u3)) := fun u0 u1 u2 u3 => HG.out j k vz true _ (fun _ => by rw [HC.out]; exact ⟨rfl, rfl, rfl, rowAt_nil _⟩) ((((HB4.out.setCell (Nat.le_succ _) _).setCell (Nat.le_succ _) _).setCell (Nat.le_succ _) _).setCell (Nat.le_succ _) _)
     clear hb4 HK y1 y2 z0 z1
     go_wp2_with fail
     refine bodyPost_ret (v := .tuple #[.agg #[.int .i64 j, .string k, .slice none 0 0, .bool true], Rw.errV 77 E]) ?_ rfl (HQ.out _ _ _ _)
     simp [results, Tryz.results21, go_sem, c0, c1, c2, c3]
   | false =>
     simp only [Bool.false_eq_true, if_false] at hwe hwc
     have HK : Hid (Calls Tryz.prog 45 #[.agg #[.string nm, .slice a2 M c2], .slice xa L xc] W3 fun e w' => e = .returned (.tuple #[.string ⟨(Rw.kTxt cs vs).toArray⟩, Rw.errV 77 E]) ∧ Below W3.heap.size W3 w') := by
      have := Rw.key_ nm a2 c2 cs xa xc vs W3 (HCo.out _ (Below.refl _ _)) (HVa.out _ (Below.refl _ _)) ho.1 (by omega) hvl
      rw [hM, hL, ← hwe] at this
      exact this
     have HC := Lib.hid hwc
     by_cases hE : E = 0
     · have h0 : Rw.chkR cs vs = 0 := Rw.kErr_chk (hwe ▸ hE)
       have HE : Hid (∀ V, Below W3.heap.size W3 V → Calls Tryz.prog 46 #[.agg #[.string nm, .slice a2 M c2], .slice xa L xc] V fun e w' => ∃ (r : Vl), e = .returned (.tuple #[.slice r.a r.n r.c, .nilIface]) ∧ RowAt w' r (bs (Rw.rowB vs)) ∧ Below V.heap.size V w') := fun V hV => by
        have := Rw.rencode_ nm a2 c2 cs xa xc vs V (HCo.out _ hV) (HVa.out _ hV) ho.1 (by omega) ho.2
        rw [hM, hL] at this
        refine this.mono fun e w' ⟨v, e1, e2, e3⟩ => ?_
        rw [if_pos h0] at e2
        rw [h0] at e1
        obtain ⟨a, c, rfl, _⟩ := e2.full
        have hlen : (Rw.rowB vs).length ≤ 3145728 := by
         have := Rw.rowB_lim ho.1 ho.2 vs.length
         rwa [List.take_length] at this
        exact ⟨⟨a, _, c⟩, e1, rowAt_of e2 (Rw.rowB_byte vs) (by omega), e3⟩
       rw [hE, errV_zero] at HK
       rw [hE, errV_zero] at HG
       generalize (⟨(Rw.kTxt cs vs).toArray⟩ : ByteArray) = k at *
       generalize bs (Rw.rowB vs) = tx at *
       clear g1 g2 g3 g4 g5 g6 HF hwe hwc hl hcl hb23 hB3 hC3 s0 s1 hW3 HCo HVa ho hM hL hvl h0
       go_upto_region 2 with fail
       rw [HW3.out]
       go_wp2_with fail
       refine HK.out.mono ?_
       rintro e w4 ⟨rfl, hb4⟩
       have z0 : w4.cell? ⟨w2.heap.size, 0, none⟩ = some (.string nm) := cell_of ((hb4.block _ (blk_lt HS0.out)).trans HS0.out) rfl
       have z1 : w4.cell? ⟨w2.heap.size, 1, none⟩ = some (.slice a2 M c2) := cell_of ((hb4.block _ (blk_lt HS0.out)).trans HS0.out) rfl
       have y2 : w4.cell? ⟨w.heap.size, 2, none⟩ = some (.slice xa L xc) := cell_of ((hb4.block _ (blk_lt HS1.out)).trans HS1.out) rfl
       have HB3' := Lib.hid hb4
       clear hb4 HK
       go_wp2_with fail
       refine (HE.out _ HB3'.out).mono ?_
       rintro e w5 ⟨r, rfl, hr, hb5⟩
       have HB4 := Lib.hid (below_step HB3.out (below_step HB3'.out hb5))
       have HC4 := Lib.hid (HC3.out.on (below_step HB3'.out hb5))
       have HRo := Lib.hid hr
       obtain ⟨c0, c1, c2, c3, f0, f1, f2, f3⟩ := HC4.out.cells
       have HQ : Hid (∀ u0 u1 u2 u3, Q (.returned (.tuple #[.agg #[.int .i64 j, .string k, .slice r.a r.n r.c, .bool false], .nilIface])) ((((w5.setCell ⟨w.heap.size + 1, 0, none⟩ u0).setCell ⟨w.heap.size + 1, 1, none⟩ u1).setCell ⟨w.heap.size + 1, 2, none⟩ u2).setCell ⟨w.heap.size + 1, 3, none⟩ u3)) := fun u0 u1 u2 u3 => HG.out j k r false _ (fun _ => by
        rw [HC.out]
        refine ⟨rfl, rfl, rfl, HRo.out.keep fun g hg => ?_⟩
        obtain ⟨cur, hcur⟩ := HRo.out.blk hg
        have hne : g ≠ w.heap.size + 1 := fun e => by
         have := HC4.out
         unfold CgB at this
         rw [← e, hcur] at this
         simp at this
        exact (heap_far _ hne).trans ((heap_far _ hne).trans ((heap_far _ hne).trans (heap_far _ hne)))) ((((HB4.out.setCell (Nat.le_succ _) _).setCell (Nat.le_succ _) _).setCell (Nat.le_succ _) _).setCell (Nat.le_succ _) _)
       obtain ⟨ra, rn, rc⟩ := r
       clear hb5 hr HE y2 z0 z1
       go_wp2_with fail
       refine bodyPost_ret (v := .tuple #[.agg #[.int .i64 j, .string k, .slice ra rn rc, .bool false], .nilIface]) ?_ rfl (HQ.out _ _ _ _)
       simp [results, Tryz.results21, go_sem, c0, c1, c2, c3]
     · rw [errV_ne hE] at HK
       rw [errV_ne hE] at HG
       generalize (⟨(Rw.kTxt cs vs).toArray⟩ : ByteArray) = k at *
       clear g1 g2 g3 g4 g5 g6 HF hwe hwc hl hcl hb23 hB3 hC3 s0 s1 hW3 HCo HVa ho hM hL hvl
       go_upto_region 2 with fail
       rw [HW3.out]
       go_wp2_with fail
       refine HK.out.mono ?_
       rintro e w4 ⟨rfl, hb4⟩
       have HB4 := Lib.hid (below_step HB3.out hb4)
       have HC4 := Lib.hid (HC3.out.on hb4)
       obtain ⟨c0, c1, c2, c3, f0, f1, f2, f3⟩ := HC4.out.cells
       have HQ : Hid (∀ u0 u1 u2 u3, Q (.returned (.tuple #[.agg #[.int .i64 0, .string ⟨#[]⟩, .slice none 0 0, .bool false], .iface 77 (.int .i64 E)])) ((((w4.setCell ⟨w.heap.size + 1, 0, none⟩ u0).setCell ⟨w.heap.size + 1, 1, none⟩ u1).setCell ⟨w.heap.size + 1, 2, none⟩ u2).setCell ⟨w.heap.size + 1, 3, none⟩ u3)) := fun u0 u1 u2 u3 => HG.out 0 ⟨#[]⟩ vz false _ (fun h => absurd h hE) ((((HB4.out.setCell (Nat.le_succ _) _).setCell (Nat.le_succ _) _).setCell (Nat.le_succ _) _).setCell (Nat.le_succ _) _)
       clear hb4 HK y1 y2 z0 z1
       go_wp2_with fail
       refine bodyPost_ret (v := .tuple #[.agg #[.int .i64 0, .string ⟨#[]⟩, .slice none 0 0, .bool false], .iface 77 (.int .i64 E)]) ?_ rfl (HQ.out _ _ _ _)
       simp [results, Tryz.results21, go_sem, c0, c1, c2, c3]
end Go.Proofs.YtalmanfjiblhcaaGreat
namespace Go.Proofs.YtalmanfjiblhcaaGreat
open Go.RowKit Go.Sort Go.Maps
def grown (S : Nat → Prop) (w w' : World) (k : Nat) : Prop := S k ∨ (w.heap.size ≤ k ∧ k < w'.heap.size)
theorem FgD.fs {w : World} {S : Nat → Prop} {K ps : Nat} {bl : Nat → List Nat} {us : List Tb.TV} {x : FgM} {gl cl m BC : Nat} {ca : Option Addr} {cc : Nat} {L : List LvV} {D : DataW Unit} {pt : Nat → Nat → Option Nat} {Ft : Nat → Nat → Nat → Prop}
 (h : FgD w S K ps bl us x gl cl m BC ca cc L D pt Ft) : FsB w ps gl L.length cl BC m := h.blk
theorem FgD.put {w w' : World} {S : Nat → Prop} {K ps : Nat} {bl : Nat → List Nat} {us : List Tb.TV} {x : FgM} {gl cl m BC : Nat} {ca : Option Addr} {cc : Nat} {L : List LvV} {D : DataW Unit} {pt : Nat → Nat → Option Nat} {Ft : Nat → Nat → Nat → Prop}
 (h : FgD w S K ps bl us x gl cl m BC ca cc L D pt Ft) {a : Nat} (ha : a < L.length) (c : Chg) {q : Nat} {F' : Nat → Prop} {D' : DataW Unit} {z : Int}
 (hf : Frame (fun k => k = gl ∨ k = m ∨ Ft a c.t k) w w') (hy : ByK w w')
 (hl : LevB w' gl cl (L.set a ⟨L[a].a, L[a].n, L[a].c, L[a].cm, z⟩)) (hz : z = rwPut (x.rw a) (rowC (chM c.k (x.fr a c.t)) (x.cm a)).isSome c.gn)
 (hm : w'.ownsMap Tryz.prog 99 ptE m (K + 1) D') (hp : PtIs D' (ptPut pt a c.t q))
 (hv : VnF w' F' q (putM c.k (pvOf (x.cm a) c) (x.fr a c.t))) (hF : ∀ k, F' k → (Ft a c.t k ∨ w.heap.size ≤ k) ∧ k < w'.heap.size) :
 FgD w' (grown S w w') (K + 1) ps bl us (putF a c x) gl cl m BC ca cc (L.set a ⟨L[a].a, L[a].n, L[a].c, L[a].cm, z⟩) D' (ptPut pt a c.t q) (fun i j k => if i = a ∧ j = c.t then F' k else Ft i j k) := by
 have hB : ∀ k, k < w.heap.size → k ≠ gl → k ≠ m → ¬ Ft a c.t k → w'.heap[k]? = w.heap[k]? := fun k hk h1 h2 h3 => hf.block k hk fun q => by rcases q with q | q | q <;> contradiction
 have hpl := blk_lt h.blk
 have hpm : ps ≠ m := fun e => by obtain ⟨es, cl, k1, _⟩ := h.map; rw [← e, h.blk] at k1; cases k1
 have hgm : gl ≠ m := fun e => by obtain ⟨es, cl, k1, _⟩ := h.map; obtain ⟨cur, k2, _⟩ := h.lev.blk; rw [← e, k2] at k1; cases k1
 have hlen : (L.set a ⟨L[a].a, L[a].n, L[a].c, L[a].cm, z⟩).length = L.length := List.length_set ..
 have hat : ∀ i (hi : i < L.length), ∀ (h' : i < (L.set a ⟨L[a].a, L[a].n, L[a].c, L[a].cm, z⟩).length), (L.set a ⟨L[a].a, L[a].n, L[a].c, L[a].cm, z⟩)[i].a = L[i].a ∧ (L.set a ⟨L[a].a, L[a].n, L[a].c, L[a].cm, z⟩)[i].n = L[i].n ∧ (L.set a ⟨L[a].a, L[a].n, L[a].c, L[a].cm, z⟩)[i].cm = L[i].cm ∧ (i ≠ a → (L.set a ⟨L[a].a, L[a].n, L[a].c, L[a].cm, z⟩)[i].rw = L[i].rw) ∧ (i = a → (L.set a ⟨L[a].a, L[a].n, L[a].c, L[a].cm, z⟩)[i].rw = z) := fun i hi h' => by
  rw [List.getElem_set]
  split
  · rename_i e; subst e; exact ⟨rfl, rfl, rfl, fun h => absurd rfl h, fun _ => rfl⟩
  · rename_i e; exact ⟨rfl, rfl, rfl, fun _ => rfl, fun h => absurd h.symm e⟩
 refine ⟨?_, hl, fun i hi => ?_, by rw [hlen]; exact h.num, fun i hi => ?_, h.cat.keep fun k hk => ?_, hm, hp, fun i j => ?_, ?_, fun i j k hk => ?_, fun i j i' j' k h1 h2 => ?_, fun k hk => ?_, fun i hi b o e => ?_⟩
 · rw [hlen]
   exact (hB ps hpl h.own.2.2.2 hpm fun q => (h.fts a c.t ps q).2.2.1 rfl).trans h.blk
 · rw [hlen] at hi
   obtain ⟨h1, h2, h3, h4⟩ := h.lvl i hi
   obtain ⟨g1, g2, g3, g4, g5⟩ := hat i hi (by rw [hlen]; exact hi)
   refine ⟨by rw [g3, h1]; rfl, ?_, by rw [g2, h3], ?_⟩
   · by_cases e : i = a
     · rw [g5 e, hz]; subst e; simp [putF]
     · rw [g4 e, h2]; simp [putF, e]
   · rw [g1]
     refine ints_keep h4 fun b o e => ?_
     obtain ⟨c1, c2, c3, c4, c5, c6⟩ := h.conL i hi b o e
     exact hB b c2 c3 c4 (c6 _ _)
 · rw [hlen] at hi ⊢; exact h.bin i hi
 · obtain ⟨c1, c2, c3, c4, c5⟩ := h.conC k hk
   exact hB k (h.cat.lt k hk) c2 c3 (c5 _ _)
 · by_cases e : i = a ∧ j = c.t
   · obtain ⟨rfl, rfl⟩ := e
     refine ⟨fun hn => by simp [ptPut] at hn, fun q' hq => ?_⟩
     simp only [ptPut, and_self, if_true, Option.some.injEq] at hq
     subst hq
     rw [putF_at]
     simp only [and_self, if_true]
     exact hv
   · have e1 : ptPut pt a c.t q i j = pt i j := by unfold ptPut; rw [if_neg e]
     rw [e1, putF_other c x e]
     have e2 : (fun k => if i = a ∧ j = c.t then F' k else Ft i j k) = Ft i j := by funext k; rw [if_neg e]
     refine ⟨fun hn => ⟨((h.fam i j).1 hn).1, fun k => by rw [if_neg e]; exact ((h.fam i j).1 hn).2 k⟩, fun q' hq => ?_⟩
     show VnF w' (fun k => if i = a ∧ j = c.t then F' k else Ft i j k) q' _
     rw [e2]
     refine ((h.fam i j).2 q' hq).keep hf (fun k hk hA hBk => ?_) hy
     obtain ⟨c1, c2, c3, c4, c5⟩ := h.fts i j k hA
     rcases hBk with q | q | q
     · exact c4 q
     · exact c5 q
     · exact e (h.apart i j a c.t k hA q)
 · exact ⟨.inl h.own.1, .inl h.own.2.1, .inl h.own.2.2.1, h.own.2.2.2⟩
 · have hgl := h.lev.lt
   have hml := h.map.lt
   by_cases e : i = a ∧ j = c.t
   · rw [if_pos e] at hk
     obtain ⟨h1, h2⟩ := hF k hk
     rcases h1 with h1 | h1
     · obtain ⟨c1, c2, c3, c4, c5⟩ := h.fts a c.t k h1
       exact ⟨.inl c1, h2, c3, c4, c5⟩
     · exact ⟨.inr ⟨h1, h2⟩, h2, by omega, by omega, by omega⟩
   · rw [if_neg e] at hk
     obtain ⟨c1, c2, c3, c4, c5⟩ := h.fts i j k hk
     exact ⟨.inl c1, Nat.lt_of_lt_of_le c2 hf.size, c3, c4, c5⟩
 · by_cases e : i = a ∧ j = c.t <;> by_cases e' : i' = a ∧ j' = c.t
   · exact ⟨e.1.trans e'.1.symm, e.2.trans e'.2.symm⟩
   · rw [if_pos e] at h1; rw [if_neg e'] at h2
     rcases (hF k h1).1 with q | q
     · exact absurd (h.apart i' j' a c.t k h2 q) e'
     · have := (h.fts i' j' k h2).2.1; omega
   · rw [if_neg e] at h1; rw [if_pos e'] at h2
     rcases (hF k h2).1 with q | q
     · exact absurd (h.apart i j a c.t k h1 q) e
     · have := (h.fts i j k h1).2.1; omega
   · rw [if_neg e] at h1; rw [if_neg e'] at h2
     exact h.apart i j i' j' k h1 h2
 · obtain ⟨c1, c2, c3, c4, c5⟩ := h.conC k hk
   refine ⟨.inl c1, c2, c3, c4, fun i j => ?_⟩
   by_cases e : i = a ∧ j = c.t
   · rw [if_pos e]
     intro hk'
     rcases (hF k hk').1 with q | q
     · exact c5 _ _ q
     · have := h.cat.lt k hk; omega
   · rw [if_neg e]; exact c5 i j
 · rw [hlen] at hi
   obtain ⟨g1, _⟩ := hat i hi (by rw [hlen]; exact hi)
   rw [g1] at e
   obtain ⟨c1, c2, c3, c4, c5, c6⟩ := h.conL i hi b o e
   refine ⟨.inl c1, Nat.lt_of_lt_of_le c2 hf.size, c3, c4, c5, fun i' j' => ?_⟩
   by_cases e' : i' = a ∧ j' = c.t
   · rw [if_pos e']
     intro hk'
     rcases (hF b hk').1 with q | q
     · exact c6 _ _ q
     · omega
   · rw [if_neg e']; exact c6 i' j'
theorem FgD.frame {w w' : World} {S : Nat → Prop} {K ps : Nat} {bl : Nat → List Nat} {us : List Tb.TV} {x : FgM} {gl cl m BC : Nat} {ca : Option Addr} {cc : Nat} {L : List LvV} {D : DataW Unit} {pt : Nat → Nat → Option Nat} {Ft : Nat → Nat → Nat → Prop}
 (h : FgD w S K ps bl us x gl cl m BC ca cc L D pt Ft) {a t : Nat} (hf : Frame (fun k => k = gl ∨ k = m ∨ Ft a t k) w w') : Frame S w w' :=
 hf.mono fun k hk => by
  rcases hk with rfl | rfl | hk
  · exact h.own.2.1
  · exact h.own.2.2.1
  · exact (h.fts a t k hk).1
theorem FgD.bump {w : World} {S : Nat → Prop} {K ps : Nat} {bl : Nat → List Nat} {us : List Tb.TV} {x : FgM} {gl cl m BC : Nat} {ca : Option Addr} {cc : Nat} {L : List LvV} {D : DataW Unit} {pt : Nat → Nat → Option Nat} {Ft : Nat → Nat → Nat → Prop}
 (h : FgD w S K ps bl us x gl cl m BC ca cc L D pt Ft) {a : Nat} (ha : a < L.length) :
 FgD (w.setCell ⟨gl, a * 3 + 1, none⟩ (.int .i64 ((x.cm a + 1 : Nat) : Int))) S K ps bl us (bumpF a x) gl cl m BC ca cc (L.set a ⟨L[a].a, L[a].n, L[a].c, x.cm a + 1, L[a].rw⟩) D pt Ft ∧ Frame S w (w.setCell ⟨gl, a * 3 + 1, none⟩ (.int .i64 ((x.cm a + 1 : Nat) : Int))) ∧ ByK w (w.setCell ⟨gl, a * 3 + 1, none⟩ (.int .i64 ((x.cm a + 1 : Nat) : Int))) := by
 have hff : Frame (fun k => k = gl) w (w.setCell ⟨gl, a * 3 + 1, none⟩ (.int .i64 ((x.cm a + 1 : Nat) : Int))) := ⟨rfl, rfl, rfl, by simp [World.setCell], fun k _ hn => heap_far _ hn⟩
 have hy : ByK w (w.setCell ⟨gl, a * 3 + 1, none⟩ (.int .i64 ((x.cm a + 1 : Nat) : Int))) := fun g cur hg => heap_far _ fun e => by
  obtain ⟨cur2, k2, _⟩ := h.lev.blk
  rw [e, k2] at hg
  simp at hg
 have hpm : gl ≠ m := fun e => by obtain ⟨es, cl, k1, _⟩ := h.map; obtain ⟨cur, k2, _⟩ := h.lev.blk; rw [← e, k2] at k1; cases k1
 have hlen : (L.set a ⟨L[a].a, L[a].n, L[a].c, x.cm a + 1, L[a].rw⟩).length = L.length := List.length_set ..
 have hat : ∀ i (hi : i < L.length), ∀ (h' : i < (L.set a ⟨L[a].a, L[a].n, L[a].c, x.cm a + 1, L[a].rw⟩).length), (L.set a ⟨L[a].a, L[a].n, L[a].c, x.cm a + 1, L[a].rw⟩)[i].a = L[i].a ∧ (L.set a ⟨L[a].a, L[a].n, L[a].c, x.cm a + 1, L[a].rw⟩)[i].n = L[i].n ∧ (L.set a ⟨L[a].a, L[a].n, L[a].c, x.cm a + 1, L[a].rw⟩)[i].rw = L[i].rw ∧ (i ≠ a → (L.set a ⟨L[a].a, L[a].n, L[a].c, x.cm a + 1, L[a].rw⟩)[i].cm = L[i].cm) ∧ (i = a → (L.set a ⟨L[a].a, L[a].n, L[a].c, x.cm a + 1, L[a].rw⟩)[i].cm = x.cm a + 1) := fun i hi h' => by
  rw [List.getElem_set]
  split
  · rename_i e; subst e; exact ⟨rfl, rfl, rfl, fun h => absurd rfl h, fun _ => rfl⟩
  · rename_i e; exact ⟨rfl, rfl, rfl, fun _ => rfl, fun h => absurd h.symm e⟩
 refine ⟨⟨by rw [hlen]; exact (heap_far _ h.own.2.2.2).trans h.blk, ?_, fun i hi => ?_, by rw [hlen]; exact h.num, fun i hi => ?_, h.cat.keep fun k hk => heap_far _ (h.conC k hk).2.1, owns_keepF h.map (heap_far _ fun e => hpm e.symm), h.pts, fun i j => ⟨(h.fam i j).1, fun q hq => ((h.fam i j).2 q hq).keep hff (fun k _ hA e => (h.fts i j k hA).2.2.2.1 e) hy⟩, h.own, fun i j k hk => ?_, h.apart, h.conC, fun i hi b o e => ?_⟩, hff.mono fun k e => by rw [e]; exact h.own.2.1, hy⟩
 · refine h.lev.set ha _ _ (by omega) fun k hk => ?_
   match k, hk with
   | 0, _ => rfl
   | 1, _ => rfl
   | 2, _ => rfl
   | k + 3, hk => omega
 · rw [hlen] at hi
   obtain ⟨h1, h2, h3, h4⟩ := h.lvl i hi
   obtain ⟨g1, g2, g3, g4, g5⟩ := hat i hi (by rw [hlen]; exact hi)
   refine ⟨?_, by rw [g3, h2]; rfl, by rw [g2, h3], ?_⟩
   · by_cases e : i = a
     · rw [g5 e]; simp [bumpF, e]
     · rw [g4 e, h1]; simp [bumpF, e]
   · rw [g1]
     exact ints_keep h4 fun b o e => heap_far _ (h.conL i hi b o e).2.2.1
 · rw [hlen] at hi ⊢; exact h.bin i hi
 · obtain ⟨c1, c2, c3⟩ := h.fts i j k hk
   exact ⟨c1, Nat.lt_of_lt_of_le c2 hff.size, c3⟩
 · rw [hlen] at hi
   obtain ⟨g1, _⟩ := hat i hi (by rw [hlen]; exact hi)
   rw [g1] at e
   obtain ⟨c1, c2, c3⟩ := h.conL i hi b o e
   exact ⟨c1, Nat.lt_of_lt_of_le c2 hff.size, c3⟩
end Go.Proofs.YtalmanfjiblhcaaGreat
