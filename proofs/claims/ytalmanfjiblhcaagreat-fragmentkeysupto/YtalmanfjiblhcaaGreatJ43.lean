/- Own, where the key has a row of this label's own; What FragmentKeys asks of the rows that are seen. -/
import Derived.Test.YtalmanfjiblhcaaGreatJ38
import Derived.Test.YtalmanfjiblhcaaGreatJ41
import Derived.Test.YtalmanfjiblhcaaGreatJ42
namespace Go.Proofs.YtalmanfjiblhcaaGreat
open Go.RowKit Go.Sort Go.Maps
def OwnTo (w : World) (vs : List Rw.Val) (e : Ending) (w' : World) : Prop := ∃ a c, e = .returned (.tuple #[.slice a vs.length c, .bool true, .nilIface]) ∧ Rw.ValsIn w' a vs ∧ Below w.heap.size w w'
set_option maxRecDepth 100000 in
set_option maxHeartbeats 4000000 in
theorem fown_ {w : World} {S : Nat → Prop} {K n ps : Nat} {bl : Nat → List Nat} {us : List Tb.TV} {x : FgM} (h : Fg w S K n ps bl us x) {A : Nat} (hA : A < n) {sa : Option Addr} {sc : Nat} {zs : List Int} (hz : ZsIn w sa zs) (hzb : snapB n zs = true) {name : ByteArray} {j : Nat} (hj : tabN name us = some j) (key : ByteArray) {vs : List Rw.Val}
 (hr : rowC (chM key (x.fr A j)) (snapF zs A) = some (bs (Rw.rowB vs))) (hg : Rw.kErr (colsAt us j) vs = 0 ∧ (∀ y ∈ vs, Rw.inI y.n) ∧ Rw.wtV vs ≤ 1048576) (hK : K ≤ 900000) :
 Calls Tryz.prog 14 #[.pointer (some ⟨ps, 0, none⟩), .int .i64 (A : Int), .slice sa zs.length sc, .string name, .string key] w (OwnTo w vs) := by
 obtain ⟨gl, cl, m, BC, ca, cc, L, D, pt, Ft, hd, rfl⟩ := h.at'
 have hzl : zs.length = L.length := by
  unfold snapB at hzb
  simp at hzb
  exact hzb.1
 have hok : (hasB L.length (A : Int) && snapB L.length zs) = true := by
  rw [hzb, Bool.and_true]
  unfold hasB
  rw [decide_eq_true (by omega), decide_eq_true (by omega)]; rfl
 have h16 := hd.num.2
 have HA := Lib.hid (fasked_ hd.fs hd.cat.cat h.cl (A : Int) (c := sc) hz (by omega) hd.num.2 name)
 have HFg := Lib.hid h
 have HD := Lib.hid hd
 have HZ := Lib.hid hz
 have HG := Lib.hid (And.intro hr (And.intro hg hK))
 unfold AskTo FFindTo at HA
 rw [hok] at HA
 have HA3 := Lib.hid (And.intro hA hzl)
 unfold OwnTo
 generalize hQ : (fun (e : Ending) (w' : World) => ∃ a c, e = .returned (.tuple #[.slice a vs.length c, .bool true, .nilIface]) ∧ Rw.ValsIn w' a vs ∧ Below w.heap.size w w') = Q
 have HQ := Lib.hid hQ
 obtain ⟨N, hN⟩ : ∃ N, zs.length = N := ⟨_, rfl⟩
 have HN := Lib.hid hN
 rw [hN] at HA ⊢
 have hAI : (A : Int) < (N : Int) := by rw [← hN, hzl]; omega
 clear h hd hz hzb hok hQ hN hr hg hK hzl hA
 go_enter Tryz.func14, Tryz.ntmps14
 go_wp2_with fail
 refine HA.out.mono ?_
 rintro e w2 (⟨hf, _⟩ | ⟨_, (⟨g1, _⟩ | ⟨j', hj', ta, tc, g1, rfl, g2, g3, g4, g5, hb2⟩)⟩)
 · cases hf
 · rw [hj] at g1; cases g1
 obtain rfl : j' = j := by rw [hj] at g1; exact (Option.some.inj g1).symm
 have hcs : us[j'].cs.length ≤ 16 := HFg.out.cl _ (List.getElem_mem hj')
 have hcat : colsAt us j' = us[j'].cs := colsAt_lt hj'
 obtain ⟨nm, hnm⟩ : ∃ nm, us[j'].nm = nm := ⟨_, rfl⟩
 obtain ⟨cs, hcs2⟩ : ∃ cs, us[j'].cs = cs := ⟨_, rfl⟩
 rw [hcs2] at g2 g3 hcs hcat
 rw [hnm, hcs2]
 obtain ⟨hr, ⟨hg1, hg2, hg3⟩, hK⟩ := HG.out
 rw [hcat] at hg1
 obtain ⟨W3, hW3⟩ : ∃ W3, w2.alloc (.cells #[.string nm, .slice ta cs.length tc] 44) = W3 := ⟨_, rfl⟩
 have hb3 : Below w2.heap.size w2 W3 := by rw [← hW3]; exact below_alloc _ _
 have hk3 : W3.heap[w2.heap.size]? = some (.cells #[.string nm, .slice ta cs.length tc] 44 (0, 0)) := by rw [← hW3]; exact new_blk _ _
 have hb13 := below_step hb2 hb3
 have HB3 := Lib.hid (And.intro hb13 (And.intro (g2.on hb3) (And.intro hcs (And.intro hk3 (And.intro hg2 (And.intro hg3 (Rw.kErr_chk hg1)))))))
 have hfar : far A j' := ⟨by have := HD.out.num.2; have := HA3.out.1; omega, by have := HD.out.cat.len; omega⟩
 have hlA : A < zs.length := by rw [HA3.out.2]; exact HA3.out.1
 obtain ⟨sb, so, hsa, hsc⟩ := HZ.out A hlA
 subst hsa
 obtain ⟨T, hT⟩ : ∃ T, T = zs[A] := ⟨_, rfl⟩
 rw [snapF_at hlA, ← hT] at hr
 have hsc2 : W3.cell? ⟨sb, so + A, none⟩ = some (.int .i64 T) := by rw [hT]; exact (hb13.cell (block_lt_of_cell hsc)).trans hsc
 have hd3 := HD.out.on hb13
 have F3 : Hid (∀ V, Below W3.heap.size W3 V → V.cell? ⟨ps, 2, none⟩ = some (.map (some m))) := fun V hV => (hd3.on hV).fs.cells.2.2
 have F7 : Hid (∀ V, Below W3.heap.size W3 V → (Instr.lookup 87 (.map (some m)) (.agg #[.int .i64 (A : Int), .int .i64 (j' : Int)]) false).run Tryz.prog V = .ok (ptO (pt A j')) V) := fun V hV => look_pt (hd3.on hV).map (hd3.on hV).pts hfar
 have F12 : Hid (∀ V, Below W3.heap.size W3 V → V.cell? ⟨sb, so + A, none⟩ = some (.int .i64 T)) := fun V hV => (hV.cell (block_lt_of_cell hsc2)).trans hsc2
 have HR : Hid (Calls Tryz.prog 34 #[ptO (pt A j'), .string key, .int .i64 T] W3.drew (fun e w' => ∃ r : Vl, e = .returned (.tuple #[.slice r.a r.n r.c, .bool true]) ∧ RowAt w' r (bs (Rw.rowB vs)) ∧ (∀ g, r.a = some ⟨g, 0, none⟩ → W3.drew.heap.size ≤ g) ∧ Below W3.drew.heap.size W3.drew w')) := by
  have hd4 := hd3.on (below_drew W3)
  cases e : pt A j' with
  | none =>
    rw [((hd4.fam A j').1 e).1] at hr
    cases hr
  | some q =>
    have := vget_ ((hd4.fam A j').2 q e) (by have := HFg.out.ok.num A j'; omega) key T
    rw [hr] at this
    exact this
 have hN2 : N = L.length := by rw [← HN.out]; exact HA3.out.2
 obtain ⟨p0, _, p2⟩ := hd3.fs.cells
 have hAI2 : (A : Int) < (N : Int) := hAI
 obtain ⟨C, hC⟩ : ∃ C, cs.length = C := ⟨_, rfl⟩
 have HC := Lib.hid hC
 rw [hC] at hW3 ⊢
 clear g1 g2 g3 g4 g5 hb2 hb3 hb13 HA hcs hcat hj hj' hC hcs2 hnm hr hg1 hg2 hg3 hK hk3 hfar hlA hsc hT hd3 hN2
 generalize ptO (pt A j') = pv at *
 go_upto_region 2 with fail
 try rw [hW3]
 clear hW3
 go_upto_region 4 with fail
 refine wp_region_noPanic ?_
 refine region_ph (A := (fun V => Below W3.heap.size W3 V)) (e1 := 9999) (B := fun _ => True) (e2 := 9999) (C := fun _ => True) (by kernel_rfl) ⟨(below_drew W3), fun _ => trivial, fun _ => trivial⟩ (fun hSt => ?_)
 refine take_ph 0 (.pointer (some ⟨ps, 0, none⟩)) [] rfl (by kernel_rfl) (fun _ _ _ h => h) (Or.inl ⟨by rfl, ?_⟩) hSt (fun hSn => ?_)
 · intro V _; go_simp
 clear hSt; rename Ph _ _ _ _ _ _ _ => hSt; simp only [Act.put, prw]
 refine take_ph 1 (.pointer (some ⟨ps, 0, none⟩)) [] rfl (by kernel_rfl) (fun _ _ _ h => h) (Or.inl ⟨by rfl, ?_⟩) hSt (fun hSn => ?_)
 · intro V _; go_simp
 clear hSt; rename Ph _ _ _ _ _ _ _ => hSt; simp only [Act.put, prw]
 refine take_ph 2 (.pointer (some ⟨ps, 2, none⟩)) [] rfl (by kernel_rfl) (fun _ _ _ h => h) (Or.inl ⟨by rfl, ?_⟩) hSt (fun hSn => ?_)
 · intro V _; go_simp
 clear hSt; rename Ph _ _ _ _ _ _ _ => hSt; simp only [Act.put, prw]
 refine take_ph 3 (.map (some m)) [] rfl (by kernel_rfl) (fun _ _ _ h => h) (Or.inl ⟨by rfl, ?_⟩) hSt (fun hSn => ?_)
 · rintro V ⟨hh, _, _⟩; have e0 := F3.out V hh; clear hh; go_simp
 clear hSt; rename Ph _ _ _ _ _ _ _ => hSt; simp only [Act.put, prw]
 refine take_ph 4 (.int .i64 (A : Int)) [] rfl (by kernel_rfl) (fun _ _ _ h => h) (Or.inl ⟨by rfl, ?_⟩) hSt (fun hSn => ?_)
 · intro V _; go_simp
 clear hSt; rename Ph _ _ _ _ _ _ _ => hSt; simp only [Act.put, prw]
 refine take_ph 5 (.int .i64 (j' : Int)) [] rfl (by kernel_rfl) (fun _ _ _ h => h) (Or.inl ⟨by rfl, ?_⟩) hSt (fun hSn => ?_)
 · intro V _; go_simp
 clear hSt; rename Ph _ _ _ _ _ _ _ => hSt; simp only [Act.put, prw]
 refine take_ph 6 (.agg #[.int .i64 (A : Int), .int .i64 (j' : Int)]) [] rfl (by kernel_rfl) (fun _ _ _ h => h) (Or.inl ⟨by rfl, ?_⟩) hSt (fun hSn => ?_)
 · intro V _; go_simp
 clear hSt; rename Ph _ _ _ _ _ _ _ => hSt; simp only [Act.put, prw]
 refine take_ph 7 (pv) [] rfl (by kernel_rfl) (fun _ _ _ h => h) (Or.inl ⟨by rfl, ?_⟩) hSt (fun hSn => ?_)
 · rintro V ⟨hh, _, _⟩; have e0 := F7.out V hh; clear hh; go_simp
 clear hSt; rename Ph _ _ _ _ _ _ _ => hSt; simp only [Act.put, prw]
 refine take_ph 8 (.string key) [] rfl (by kernel_rfl) (fun _ _ _ h => h) (Or.inl ⟨by rfl, ?_⟩) hSt (fun hSn => ?_)
 · intro V _; go_simp
 clear hSt; rename Ph _ _ _ _ _ _ _ => hSt; simp only [Act.put, prw]
 refine take_ph 9 (.slice (some ⟨sb, so, none⟩) N sc) [] rfl (by kernel_rfl) (fun _ _ _ h => h) (Or.inl ⟨by rfl, ?_⟩) hSt (fun hSn => ?_)
 · intro V _; go_simp
 clear hSt; rename Ph _ _ _ _ _ _ _ => hSt; simp only [Act.put, prw]
 refine take_ph 10 (.int .i64 (A : Int)) [] rfl (by kernel_rfl) (fun _ _ _ h => h) (Or.inl ⟨by rfl, ?_⟩) hSt (fun hSn => ?_)
 · intro V _; go_simp
 clear hSt; rename Ph _ _ _ _ _ _ _ => hSt; simp only [Act.put, prw]
 refine take_ph 11 (.pointer (some ⟨sb, so + A, none⟩)) [] rfl (by kernel_rfl) (fun _ _ _ h => h) (Or.inl ⟨by rfl, ?_⟩) hSt (fun hSn => ?_)
 · intro V _; go_simp
 clear hSt; rename Ph _ _ _ _ _ _ _ => hSt; simp only [Act.put, prw]
 refine take_ph 12 (.int .i64 T) [] rfl (by kernel_rfl) (fun _ _ _ h => h) (Or.inl ⟨by rfl, ?_⟩) hSt (fun hSn => ?_)
 · rintro V ⟨hh, _, _⟩; have e0 := F12.out V hh; clear hh; go_simp
 clear hSt; rename Ph _ _ _ _ _ _ _ => hSt; simp only [Act.put, prw]
 refine ready_call_ph 13 rfl (by kernel_rfl) (fun KK hK => ?_)
 go_simp
 go_wp2_with (first | (go_at_call 34; refine HR.out.mono ?_; rintro e V1 ⟨rr, rfl, hri⟩))
 refine hK.out _ _ ?_ (fun hSn => ?_)
 · exact ⟨below_step (below_drew W3) hri.2.2, fun _ => trivial, fun _ => trivial⟩
 clear hK KK hSt; rename Ph _ _ _ _ _ _ _ => hSt
 refine take_ph 14 (.tuple #[.slice rr.a rr.n rr.c, .bool true]) [] rfl (by kernel_rfl) (fun _ _ _ h => h) (Or.inl ⟨by rfl, ?_⟩) hSt (fun hSn => ?_)
 · intro V _; go_simp
 clear hSt; rename Ph _ _ _ _ _ _ _ => hSt; simp only [Act.put, prw]
 refine take_ph 15 (.slice rr.a rr.n rr.c) [] rfl (by kernel_rfl) (fun _ _ _ h => h) (Or.inl ⟨by rfl, ?_⟩) hSt (fun hSn => ?_)
 · intro V _; go_simp
 clear hSt; rename Ph _ _ _ _ _ _ _ => hSt; simp only [Act.put, prw]
 refine take_ph 16 (.bool true) [] rfl (by kernel_rfl) (fun _ _ _ h => h) (Or.inl ⟨by rfl, ?_⟩) hSt (fun hSn => ?_)
 · intro V _; go_simp
 clear hSt; rename Ph _ _ _ _ _ _ _ => hSt; simp only [Act.put, prw]
 refine take_ph 17 (.slice rr.a rr.n rr.c) [] rfl (by kernel_rfl) (fun _ _ _ h => h) (Or.inl ⟨by rfl, ?_⟩) hSt (fun hSn => ?_)
 · intro V _; go_simp
 clear hSt; rename Ph _ _ _ _ _ _ _ => hSt; simp only [Act.put, prw]
 refine take_ph 18 (.bool true) [] rfl (by kernel_rfl) (fun _ _ _ h => h) (Or.inl ⟨by rfl, ?_⟩) hSt (fun hSn => ?_)
 · intro V _; go_simp
 clear hSt; rename Ph _ _ _ _ _ _ _ => hSt; simp only [Act.put, prw]
 refine done_ph (by kernel_rfl) ?_ _
 clear hSt
 refine NoPanic.normal ?_
 have hb31 := below_step (below_drew W3) hri.2.2
 have hk1 : V1.heap[w2.heap.size]? = some (.cells #[.string nm, .slice ta cs.length tc] 44 (0, 0)) := (hb31.block _ (blk_lt HB3.out.2.2.2.1)).trans HB3.out.2.2.2.1
 have k0 : V1.cell? ⟨w2.heap.size, 0, none⟩ = some (.string nm) := cell_of hk1 rfl
 have k1 : V1.cell? ⟨w2.heap.size, 1, none⟩ = some (.slice ta C tc) := by rw [← HC.out]; exact cell_of hk1 rfl
 have HVal := Lib.hid (fvalues_ (nm := nm) (c := tc) (HB3.out.2.1.on hb31) HB3.out.2.2.1 hri.1 HB3.out.2.2.2.2.1 HB3.out.2.2.2.2.2.1 HB3.out.2.2.2.2.2.2)
 have HBx := Lib.hid (below_step HB3.out.1 hb31)
 unfold ValTo at HVal
 rw [HC.out] at HVal
 clear hri hb31 hk1 HR F3 F7 F12
 go_wp2_with fail
 refine HVal.out.mono ?_
 rintro e w5 ⟨a, c, rfl, ⟨hv, _⟩, hb5⟩
 have HF : Hid (Q (.returned (.tuple #[.slice a vs.length c, .bool true, .nilIface])) w5) := by
  rw [← HQ.out]
  exact ⟨a, c, rfl, hv, below_step HBx.out hb5⟩
 clear hv hb5 HVal
 go_wp2_with fail
 exact bodyPost_ret (v := .tuple #[.slice a vs.length c, .bool true, .nilIface]) (by simp [results, Tryz.results14, go_sem]) rfl HF.out
end Go.Proofs.YtalmanfjiblhcaaGreat
namespace Go.Proofs.YtalmanfjiblhcaaGreat
open Go.RowKit Go.Sort Go.Maps
theorem keys_row {Q : Nat → ByteArray → ByteArray → Prop} {K : Nat} {x : FgM} (hok : OkF Q K x) {j : Nat} {t : Nat → Int} {r : Rg} {B : List Nat} {Zs : List Zr} (hs : SeenIs (fun a => x.fr a j) t r B (Zs.map toS)) {z : Zr} (hz : z ∈ Zs) :
 z.1.p ∈ B ∧ rowC (chM z.1.k (x.fr z.1.p j)) (t z.1.p) = some (bs (Rw.rowB z.2)) := by
 have hm : toS z ∈ seenB (fun a => x.fr a j) t r B := hs.2.mem_iff.1 (List.mem_map_of_mem hz)
 obtain ⟨h1, _, h3⟩ := seen_row hok hm
 exact ⟨h1, h3⟩
theorem keys_next {fr : Nat → List Ct} {t : Nat → Int} {r : Rg} {B : List Nat} {Zs : List Zr} (hs : SeenIs fr t r B (Zs.map toS)) {i : Nat} (h : i + 1 < Zs.length) :
 ltb Zs[i].1.k Zs[i + 1].1.k = true ∨ (Zs[i].1.k = Zs[i + 1].1.k ∧ Zs[i].1.p < Zs[i + 1].1.p) := by
 have h1 := List.pairwise_iff_getElem.1 hs.1 i (i + 1) (by rw [List.length_map]; omega) (by rw [List.length_map]; omega) (Nat.lt_succ_self i)
 rw [List.getElem_map, List.getElem_map] at h1
 exact h1
theorem keys_not {fr : Nat → List Ct} {t : Nat → Int} {r : Rg} {B : List Nat} {Zs : List Zr} (hs : SeenIs fr t r B (Zs.map toS)) {i : Nat} (h : i + 1 < Zs.length) :
 ltb Zs[i + 1].1.k Zs[i].1.k = false ∧ (Zs[i + 1].1.k = Zs[i].1.k → Zs[i].1.p < Zs[i + 1].1.p) := by
 rcases keys_next hs h with h1 | ⟨h1, h2⟩
 · refine ⟨?_, fun e => ?_⟩
   · cases hb : ltb Zs[i + 1].1.k Zs[i].1.k with
     | false => rfl
     | true => have := ltb_trans h1 hb; rw [ltb_irrefl] at this; cases this
   · rw [e, ltb_irrefl] at h1; cases h1
 · refine ⟨?_, fun _ => h2⟩
   rw [h1, ltb_irrefl]
end Go.Proofs.YtalmanfjiblhcaaGreat
