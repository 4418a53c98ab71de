/- The walk of View. -/
import Derived.Test.YtalmanfjiblhcaaGreatJ37
namespace Go.Proofs.YtalmanfjiblhcaaGreat
open Go.RowKit Go.Sort Go.Maps
structure RowF (W : World) (bt bi : Nat) (nm : ByteArray) (ta : Option Addr) (tn tc : Nat) (k : ByteArray) (r : Vl) : Prop where
 t0 : W.cell? ⟨bt, 0, none⟩ = some (.string nm)
 t1 : W.cell? ⟨bt, 1, none⟩ = some (.slice ta tn tc)
 i0 : W.cell? ⟨bi, 0, none⟩ = some (.string k)
 i1 : W.cell? ⟨bi, 1, none⟩ = some (.slice r.a r.n r.c)
theorem RowF.on {W W' : World} {bt bi : Nat} {nm : ByteArray} {ta : Option Addr} {tn tc : Nat} {k : ByteArray} {r : Vl} (h : RowF W bt bi nm ta tn tc k r) (hb : Below W.heap.size W W') : RowF W' bt bi nm ta tn tc k r :=
 ⟨(hb.cell (block_lt_of_cell h.t0)).trans h.t0, (hb.cell (block_lt_of_cell h.t1)).trans h.t1, (hb.cell (block_lt_of_cell h.i0)).trans h.i0, (hb.cell (block_lt_of_cell h.i1)).trans h.i1⟩
structure VwAt (w : World) (S : Nat → Prop) (K ps : Nat) (bl : Nat → List Nat) (us : List Tb.TV) (x : FgM) (gl cl m BC : Nat) (ca : Option Addr) (cc : Nat) (L : List LvV) (D : DataW Unit) (pt : Nat → Nat → Option Nat) (Ft : Nat → Nat → Nat → Prop) (bt br : Nat) (nm : ByteArray) (ta : Option Addr) (tc : Nat) (cs : List Rw.Col) (r : Rg) (sa : Option Addr) (zs : List Int) : Prop where
 fg : FgD w S K ps bl us x gl cl m BC ca cc L D pt Ft
 tb : w.heap[bt]? = some (.cells #[.string nm, .slice ta cs.length tc] 44 (0, 0))
 co : Tb.ColsIn w ta cs
 rg : w.heap[br]? = some (.cells #[.string r.f, .string r.t, .bool r.hf, .bool r.ht, .bool r.pf, .bool r.pt] 46 (0, 0))
 zs : ZsIn w sa zs
theorem VwAt.on {w w' : World} {S : Nat → Prop} {K ps : Nat} {bl : Nat → List Nat} {us : List Tb.TV} {x : FgM} {gl cl m BC : Nat} {ca : Option Addr} {cc : Nat} {L : List LvV} {D : DataW Unit} {pt : Nat → Nat → Option Nat} {Ft : Nat → Nat → Nat → Prop} {bt br : Nat} {nm : ByteArray} {ta : Option Addr} {tc : Nat} {cs : List Rw.Col} {r : Rg} {sa : Option Addr} {zs : List Int}
 (h : VwAt w S K ps bl us x gl cl m BC ca cc L D pt Ft bt br nm ta tc cs r sa zs) (hb : Below w.heap.size w w') : VwAt w' S K ps bl us x gl cl m BC ca cc L D pt Ft bt br nm ta tc cs r sa zs :=
 ⟨h.fg.on hb, (hb.block _ (blk_lt h.tb)).trans h.tb, h.co.on hb, (hb.block _ (blk_lt h.rg)).trans h.rg, h.zs.on hb⟩
set_option maxRecDepth 100000 in
set_option maxHeartbeats 8000000 in
theorem fview_ {w : World} {S : Nat → Prop} {K n ps : Nat} {bl : Nat → List Nat} {us : List Tb.TV} {x : FgM} (h : Fg w S K n ps bl us x) (hbn : ∀ a, (bl a).Nodup) (hbl : ∀ a, (bl a).length ≤ 16) (i : Int) {sa : Option Addr} {sc : Nat} {zs : List Int} (hz : ZsIn w sa zs) (hzl : zs.length ≤ 140737488355328) (name : ByteArray) (r : Rg) (hK : K ≤ 900000) :
 Calls Tryz.prog 10 #[.pointer (some ⟨ps, 0, none⟩), .int .i64 i, .slice sa zs.length sc, .string name, rgV r] w (ViewTo w us x r (bl i.toNat) zs name (hasB n i && snapB n zs)) := by
 obtain ⟨gl, cl, m, BC, ca, cc, L, D, pt, Ft, hd, rfl⟩ := h.at'
 obtain ⟨W1, hW1⟩ : ∃ W1, w.alloc (.cells #[.string r.f, .string r.t, .bool r.hf, .bool r.ht, .bool r.pf, .bool r.pt] 46) = W1 := ⟨_, rfl⟩
 have hb1 : Below w.heap.size w W1 := by rw [← hW1]; exact below_alloc _ _
 have hr1 : W1.heap[w.heap.size]? = some (.cells #[.string r.f, .string r.t, .bool r.hf, .bool r.ht, .bool r.pf, .bool r.pt] 46 (0, 0)) := by rw [← hW1]; exact new_blk _ _
 have hd1 := hd.on hb1
 have HA := Lib.hid (fasked_ hd1.fs hd1.cat.cat h.cl i (c := sc) (hz.on hb1) hzl hd.num.2 name)
 have HFg := Lib.hid h
 have HD1 := Lib.hid hd1
 have HZ1 := Lib.hid (hz.on hb1)
 have HB1 := Lib.hid (And.intro hb1 hr1)
 have HG := Lib.hid (And.intro hbn (And.intro hbl hK))
 unfold AskTo FFindTo at HA
 obtain ⟨ok, hok⟩ : ∃ ok, (hasB L.length i && snapB L.length zs) = ok := ⟨_, rfl⟩
 rw [hok] at HA ⊢
 have HOk := Lib.hid hok
 have HV : Hid (∀ e w', ViewTo w us x r (bl i.toNat) zs name ok e w' → ViewTo w us x r (bl i.toNat) zs name ok e w') := fun _ _ h => h
 generalize hQ : ViewTo w us x r (bl i.toNat) zs name ok = Q
 rw [hQ] at HV
 have HQ := Lib.hid hQ
 obtain ⟨N, hN⟩ : ∃ N, zs.length = N := ⟨_, rfl⟩
 have HN := Lib.hid hN
 rw [hN] at HA ⊢
 clear h hd hz hzl hb1 hr1 hd1 hbn hbl hK hok hQ hN HV
 unfold rgV
 go_enter Tryz.func10, Tryz.ntmps10
 go_upto_region 1 with fail
 try rw [hW1]
 clear hW1
 go_wp2_with fail
 refine HA.out.mono ?_
 rintro e w2 (⟨hf, rfl, hb2⟩ | ⟨ht, (⟨g1, rfl, hb2⟩ | ⟨j, hj, ta, tc, g1, rfl, g2, g3, g4, g5, hb2⟩)⟩)
 · have HE : Hid (∀ w', Below w2.heap.size w2 w' → Q (.returned (.tuple #[.slice none 0 0, .iface 77 (.int .i64 1)])) w') := fun w' hw => by
    rw [← HQ.out]
    exact .inl ⟨hf, rfl, below_step (below_step HB1.out.1 hb2) hw⟩
   have HE2 := Lib.hid (HE.out _ (below_alloc w2 (.cells #[.string ⟨#[]⟩, .slice none 0 0] 44)))
   clear hb2 HA HE
   go_wp2_with fail
   exact HE2.out
 · have HE : Hid (∀ w', Below w2.heap.size w2 w' → Q (.returned (.tuple #[.slice none 0 0, .iface 77 (.int .i64 30)])) w') := fun w' hw => by
    rw [← HQ.out]
    exact .inr (.inl ⟨ht, g1, rfl, below_step (below_step HB1.out.1 hb2) hw⟩)
   have HE2 := Lib.hid (HE.out _ (below_alloc w2 (.cells #[.string ⟨#[]⟩, .slice none 0 0] 44)))
   clear hb2 HA HE g1
   go_wp2_with fail
   exact HE2.out
 · subst ht
   obtain ⟨A, rfl, hA⟩ : ∃ A : Nat, i = A ∧ A < L.length := by
    have := HOk.out
    unfold hasB at this
    simp at this
    exact ⟨i.toNat, by omega, by omega⟩
   have hNL : N = L.length := by
    have := HOk.out
    unfold snapB at this
    simp at this
    rw [← HN.out]; exact this.2.1
   have hcs : us[j].cs.length ≤ 16 := HFg.out.cl _ (List.getElem_mem hj)
   have hcat : colsAt us j = us[j].cs := colsAt_lt hj
   rw [Int.toNat_natCast] at HQ
   obtain ⟨nm, hnm⟩ : ∃ nm, us[j].nm = nm := ⟨_, rfl⟩
   obtain ⟨cs, hcs2⟩ : ∃ cs, us[j].cs = cs := ⟨_, rfl⟩
   rw [hcs2] at g2 g3 hcs hcat
   rw [hnm, hcs2]
   have HCs := Lib.hid (And.intro hcs (And.intro hcat (And.intro hj g1)))
   obtain ⟨W3, hW3⟩ : ∃ W3, w2.alloc (.cells #[.string nm, .slice ta cs.length tc] 44) = W3 := ⟨_, rfl⟩
   have hb3 : Below w2.heap.size w2 W3 := by rw [← hW3]; exact below_alloc _ _
   have hb13 := below_step hb2 hb3
   have HVw : Hid (VwAt W3 S K ps bl us x gl cl m BC ca cc L D pt Ft w2.heap.size w.heap.size nm ta tc cs r sa zs) :=
    ⟨HD1.out.on hb13, by rw [← hW3]; exact new_blk _ _, g2.on hb3, (hb13.block _ (blk_lt HB1.out.2)).trans HB1.out.2, HZ1.out.on hb13⟩
   have HB3 := Lib.hid (below_step HB1.out.1 hb13)
   obtain ⟨lv1, lv2, lv3, lv4⟩ := HVw.out.fg.lvl A hA
   obtain ⟨l0, _, _⟩ := HVw.out.fg.lev.cells hA
   obtain ⟨p0, _, _⟩ := HVw.out.fg.fs.cells
   have hle := HVw.out.fg.lev.le
   have hA2 : (A : Int) < (L.length : Int) := by omega
   rw [lv3] at l0
   have HI := Lib.hid lv4
   have HBin := Lib.hid (HVw.out.fg.bin A hA)
   have HA3 := Lib.hid (And.intro hA hNL)
   obtain ⟨M, hM⟩ : ∃ M, (bl A).length = M := ⟨_, rfl⟩
   have HM := Lib.hid hM
   have hMb : M ≤ 16 := by rw [← hM]; exact HG.out.2.1 A
   obtain ⟨C, hC⟩ : ∃ C, cs.length = C := ⟨_, rfl⟩
   have HC := Lib.hid hC
   rw [hM] at l0
   rw [hC] at hW3 ⊢
   generalize L[A].a = la at *
   generalize L[A].c = lc at *
   have HS0 : Hid (SeenAt W3 cs [] (.slice none 0 0) [] W3) := ⟨World.ownsRow_nil _ _ _ _, fun z hz => (by cases hz), fun z hz => (by cases hz), fun z hz => (by cases hz), rfl, Below.refl _ _, fun _ => rfl, fun z hz => (by cases hz)⟩
   clear g1 g2 g3 g4 g5 hb2 hb3 hb13 HA HD1 HZ1 HB1 lv1 lv2 lv3 lv4 hcs hcat hj hM hC hcs2 hnm HOk hNL
   go_upto_region 2 with fail
   try rw [hW3]
   clear hW3
   go_wp2_with fail
   go_loopw [15, 41] (fun av iv wr => ∃ (k : Nat) (Zs : List Zr), k ≤ M ∧ iv = .int .i64 k ∧ Hid (SeenAt W3 cs (seenB (fun a => x.fr a j) (snapF zs) r ((bl A).take k)) av Zs wr)) (fun _ iv _ => M - (intOf iv).toNat)
   case atStart => exact ⟨0, [], Nat.zero_le _, rfl, HS0.out⟩
   case round =>
    obtain ⟨k, Zs, hk, rfl, HS⟩ := hrel
    rename World => wr0
    by_cases hlt : k < M
    · have hkB : k < (bl A).length := by rw [HM.out]; exact hlt
      obtain ⟨b, o, hla, hi0⟩ := HI.out.on HS.out.bw k hkB
      obtain ⟨at_, hat⟩ : ∃ at_, at_ = (bl A)[k] := ⟨_, rfl⟩
      have hatd : (bl A).getD k 0 = at_ := by rw [List.getD_eq_getElem?_getD, List.getElem?_eq_getElem hkB, hat]; rfl
      rw [hatd] at hi0
      have hmem : at_ ∈ bl A := by rw [hat]; exact List.getElem_mem hkB
      have haL : at_ < L.length := HBin.out _ hmem
      have haN : at_ < zs.length := by rw [HN.out, HA3.out.2]; exact haL
      obtain ⟨sb, so, hsa, hsc⟩ := HVw.out.zs at_ haN
      have hkI : (k : Int) < (M : Int) := by omega
      have haI : (at_ : Int) < (N : Int) := by have := HA3.out.2; omega
      have hfar : far at_ j := ⟨by have := HVw.out.fg.num.2; omega, by have := HVw.out.fg.cat.len; have := HCs.out.2.2.1; omega⟩
      have HAt := Lib.hid (And.intro hat (And.intro hmem (And.intro haL haN)))
      obtain ⟨T, hT⟩ : ∃ T, T = zs[at_] := ⟨_, rfl⟩
      have HT : Hid (snapF zs at_ = T) := by show _ = _; rw [hT]; exact snapF_at haN
      subst hla hsa
      have hVr : Hid (VwAt wr0 S K ps bl us x gl cl m BC ca cc L D pt Ft w2.heap.size w.heap.size nm ta tc cs r (some ⟨sb, so, none⟩) zs) := HVw.out.on HS.out.bw
      have F3 : Hid (∀ V, Below wr0.heap.size wr0 V → V.cell? ⟨ps, 2, none⟩ = some (.map (some m))) := fun V hV => (hVr.out.on hV).fg.fs.cells.2.2
      have F7 : Hid (∀ V, Below wr0.heap.size wr0 V → (Instr.lookup 87 (.map (some m)) (.agg #[.int .i64 (at_ : Int), .int .i64 (j : Int)]) false).run Tryz.prog V = .ok (ptO (pt at_ j)) V) := fun V hV => look_pt (hVr.out.on hV).fg.map (hVr.out.on hV).fg.pts hfar
      have R0 : Hid (∀ V, Below wr0.heap.size wr0 V → V.cell? ⟨w.heap.size, 0, none⟩ = some (.string r.f)) := fun V hV => cell_of (hVr.out.on hV).rg rfl
      have R1 : Hid (∀ V, Below wr0.heap.size wr0 V → V.cell? ⟨w.heap.size, 1, none⟩ = some (.string r.t)) := fun V hV => cell_of (hVr.out.on hV).rg rfl
      have R2 : Hid (∀ V, Below wr0.heap.size wr0 V → V.cell? ⟨w.heap.size, 2, none⟩ = some (.bool r.hf)) := fun V hV => cell_of (hVr.out.on hV).rg rfl
      have R3 : Hid (∀ V, Below wr0.heap.size wr0 V → V.cell? ⟨w.heap.size, 3, none⟩ = some (.bool r.ht)) := fun V hV => cell_of (hVr.out.on hV).rg rfl
      have R4 : Hid (∀ V, Below wr0.heap.size wr0 V → V.cell? ⟨w.heap.size, 4, none⟩ = some (.bool r.pf)) := fun V hV => cell_of (hVr.out.on hV).rg rfl
      have R5 : Hid (∀ V, Below wr0.heap.size wr0 V → V.cell? ⟨w.heap.size, 5, none⟩ = some (.bool r.pt)) := fun V hV => cell_of (hVr.out.on hV).rg rfl
      have F12 : Hid (∀ V, Below wr0.heap.size wr0 V → V.cell? ⟨sb, so + at_, none⟩ = some (.int .i64 T)) := fun V hV => by
       obtain ⟨sb', so', e, h1⟩ := (hVr.out.on hV).zs at_ haN
       simp only [Option.some.injEq, Addr.mk.injEq, and_true] at e
       obtain ⟨rfl, rfl⟩ := e
       rw [h1, hT]
      have HR : Hid (Calls Tryz.prog 26 #[ptO (pt at_ j), .agg #[.string r.f, .string r.t, .bool r.hf, .bool r.ht, .bool r.pf, .bool r.pt], .int .i64 T] wr0.drew (RangeTo wr0.drew (rowsM r T (x.fr at_ j)))) :=
       frange_ (hVr.out.on (below_drew wr0)).fg at_ j (by have := HFg.out.ok.num at_ j; have := HG.out.2.2; omega) r T
      unfold RangeTo at HR
      clear hsc hat hatd hmem haL haN hT hfar
      generalize ptO (pt at_ j) = pv at *
      go_upto_region 8 with fail
      refine wp_region_noPanic ?_
      refine region_ph (A := (fun V => Below wr0.heap.size wr0 V)) (e1 := 9999) (B := fun _ => True) (e2 := 9999) (C := fun _ => True) (by kernel_rfl) ⟨(below_drew wr0), fun _ => trivial, fun _ => trivial⟩ (fun hSt => ?_)
      refine take_ph 0 (.pointer (some ⟨ps, 0, none⟩)) [] rfl (by kernel_rfl) (fun _ _ _ h => h) (Or.inl ⟨by rfl, ?_⟩) hSt (fun hSn => ?_)
      · intro V _; go_simp
      clear hSt; rename Ph _ _ _ _ _ _ _ => hSt; simp only [Act.put, prw]
      refine take_ph 1 (.pointer (some ⟨ps, 0, none⟩)) [] rfl (by kernel_rfl) (fun _ _ _ h => h) (Or.inl ⟨by rfl, ?_⟩) hSt (fun hSn => ?_)
      · intro V _; go_simp
      clear hSt; rename Ph _ _ _ _ _ _ _ => hSt; simp only [Act.put, prw]
      refine take_ph 2 (.pointer (some ⟨ps, 2, none⟩)) [] rfl (by kernel_rfl) (fun _ _ _ h => h) (Or.inl ⟨by rfl, ?_⟩) hSt (fun hSn => ?_)
      · intro V _; go_simp
      clear hSt; rename Ph _ _ _ _ _ _ _ => hSt; simp only [Act.put, prw]
      refine take_ph 3 (.map (some m)) [] rfl (by kernel_rfl) (fun _ _ _ h => h) (Or.inl ⟨by rfl, ?_⟩) hSt (fun hSn => ?_)
      · rintro V ⟨hh, _, _⟩; have e0 := F3.out V hh; clear hh; go_simp
      clear hSt; rename Ph _ _ _ _ _ _ _ => hSt; simp only [Act.put, prw]
      refine take_ph 4 (.int .i64 (at_ : Int)) [] rfl (by kernel_rfl) (fun _ _ _ h => h) (Or.inl ⟨by rfl, ?_⟩) hSt (fun hSn => ?_)
      · intro V _; go_simp
      clear hSt; rename Ph _ _ _ _ _ _ _ => hSt; simp only [Act.put, prw]
      refine take_ph 5 (.int .i64 (j : Int)) [] rfl (by kernel_rfl) (fun _ _ _ h => h) (Or.inl ⟨by rfl, ?_⟩) hSt (fun hSn => ?_)
      · intro V _; go_simp
      clear hSt; rename Ph _ _ _ _ _ _ _ => hSt; simp only [Act.put, prw]
      refine take_ph 6 (.agg #[.int .i64 (at_ : Int), .int .i64 (j : Int)]) [] rfl (by kernel_rfl) (fun _ _ _ h => h) (Or.inl ⟨by rfl, ?_⟩) hSt (fun hSn => ?_)
      · intro V _; go_simp
      clear hSt; rename Ph _ _ _ _ _ _ _ => hSt; simp only [Act.put, prw]
      refine take_ph 7 (pv) [] rfl (by kernel_rfl) (fun _ _ _ h => h) (Or.inl ⟨by rfl, ?_⟩) hSt (fun hSn => ?_)
      · rintro V ⟨hh, _, _⟩; have e0 := F7.out V hh; clear hh; go_simp
      clear hSt; rename Ph _ _ _ _ _ _ _ => hSt; simp only [Act.put, prw]
      refine take_ph 8 (.agg #[.string r.f, .string r.t, .bool r.hf, .bool r.ht, .bool r.pf, .bool r.pt]) [] rfl (by kernel_rfl) (fun _ _ _ h => h) (Or.inl ⟨by rfl, ?_⟩) hSt (fun hSn => ?_)
      · rintro V ⟨hh, _, _⟩; have e0 := R0.out V hh; have e1 := R1.out V hh; have e2 := R2.out V hh; have e3 := R3.out V hh; have e4 := R4.out V hh; have e5 := R5.out V hh; clear hh; go_simp
      clear hSt; rename Ph _ _ _ _ _ _ _ => hSt; simp only [Act.put, prw]
      refine take_ph 9 (.slice (some ⟨sb, so, none⟩) N sc) [] rfl (by kernel_rfl) (fun _ _ _ h => h) (Or.inl ⟨by rfl, ?_⟩) hSt (fun hSn => ?_)
      · intro V _; go_simp
      clear hSt; rename Ph _ _ _ _ _ _ _ => hSt; simp only [Act.put, prw]
      refine take_ph 10 (.int .i64 (at_ : Int)) [] rfl (by kernel_rfl) (fun _ _ _ h => h) (Or.inl ⟨by rfl, ?_⟩) hSt (fun hSn => ?_)
      · intro V _; go_simp
      clear hSt; rename Ph _ _ _ _ _ _ _ => hSt; simp only [Act.put, prw]
      refine take_ph 11 (.pointer (some ⟨sb, so + at_, none⟩)) [] rfl (by kernel_rfl) (fun _ _ _ h => h) (Or.inl ⟨by rfl, ?_⟩) hSt (fun hSn => ?_)
      · intro V _; go_simp
      clear hSt; rename Ph _ _ _ _ _ _ _ => hSt; simp only [Act.put, prw]
      refine take_ph 12 (.int .i64 T) [] rfl (by kernel_rfl) (fun _ _ _ h => h) (Or.inl ⟨by rfl, ?_⟩) hSt (fun hSn => ?_)
      · rintro V ⟨hh, _, _⟩; have e0 := F12.out V hh; clear hh; go_simp
      clear hSt; rename Ph _ _ _ _ _ _ _ => hSt; simp only [Act.put, prw]
      refine take_ph 15 (.int .i64 0) [] rfl (by kernel_rfl) (fun _ _ _ h => h) (Or.inl ⟨by rfl, ?_⟩) hSt (fun hSn => ?_)
      · intro V _; go_simp
      clear hSt; rename Ph _ _ _ _ _ _ _ => hSt; simp only [Act.put, prw]
      refine ready_call_ph 13 rfl (by kernel_rfl) (fun KK hK => ?_)
      go_simp
      go_wp2_with (first | (go_at_call 26; refine HR.out.mono ?_; rintro e V1 ⟨ia, ic, Zi, rfl, hri⟩))
      refine hK.out _ _ ?_ (fun hSn => ?_)
      · exact ⟨below_step (below_drew wr0) hri.out.2.2.2, fun _ => trivial, fun _ => trivial⟩
      clear hK KK hSt; rename Ph _ _ _ _ _ _ _ => hSt
      refine take_ph 14 (.int .i64 (Zi.length : Int)) [] rfl (by kernel_rfl) (fun _ _ _ h => h) (Or.inl ⟨by rfl, ?_⟩) hSt (fun hSn => ?_)
      · intro V _; go_simp
      clear hSt; rename Ph _ _ _ _ _ _ _ => hSt; simp only [Act.put, prw]
      refine done_ph (by kernel_rfl) ?_ _
      clear hSt
      refine NoPanic.normal ?_
      obtain ⟨hro, hmi, hrw, hbi⟩ := hri.out
      have HIt := Lib.hid (And.intro hro (And.intro hmi hrw))
      have HV1 := Lib.hid (hVr.out.on (below_step (below_drew wr0) hbi))
      have HS1 : Hid (SeenAt W3 cs (seenB (fun a => x.fr a j) (snapF zs) r ((bl A).take k)) u15 Zs V1) := HS.out.on (below_step (below_drew wr0) hbi)
      have HRn := Lib.hid HS.out.row
      have hbi1 := Lib.hid (below_step (below_drew wr0) hbi)
      have HItQ : Hid (∀ (i : Nat) (hi : i < Zi.length), ∃ vs : List Rw.Val, (Zi[i]).2 = bs (Rw.rowB vs) ∧ Rw.kErr cs vs = 0 ∧ (Zi[i]).1.1 = ⟨(Rw.kTxt cs vs).toArray⟩ ∧ (∀ y ∈ vs, Rw.inI y.n) ∧ Rw.wtV vs ≤ 1048576) := fun i hi => by
       have hm : mi Zi[i] ∈ rowsM r T (x.fr at_ j) := by rw [← HIt.out.2.1]; exact List.mem_map_of_mem (List.getElem_mem hi)
       have hs : (⟨(mi Zi[i]).1, at_, (mi Zi[i]).2⟩ : Sn) ∈ seenB (fun a => x.fr a j) (fun _ => T) r [at_] := by
        simp only [seenB, List.flatMap_cons, List.flatMap_nil, List.append_nil]
        exact List.mem_map_of_mem hm
       obtain ⟨_, hq, _⟩ := seen_row HFg.out.ok (b := j) (t := fun _ => T) hs
       obtain ⟨vs, q1, q2, q3, q4, q5⟩ := hq
       rw [HCs.out.2.1] at q2 q3
       exact ⟨vs, q1, q2, q3, q4, q5⟩
      have HNz : Hid (Zi.length ≤ 900000) := by
       have h1 := congrArg List.length HIt.out.2.1
       rw [List.length_map] at h1
       have h2 := HFg.out.ok.num at_ j
       have h3 := (HFg.out.ok.ok at_ j).len
       have h4 := List.length_filter_le (fun y : PIt ByteArray => hasR r y.1) (asM T (x.fr at_ j))
       have h5 : (asM T (x.fr at_ j)).length ≤ (x.fr at_ j).length := List.length_filterMap_le _ _
       rw [rowsM_as] at h1
       have := HG.out.2.2
       show Zi.length ≤ 900000
       omega
      obtain ⟨N2, hN2⟩ : ∃ N2, Zi.length = N2 := ⟨_, rfl⟩
      have HN2 := Lib.hid hN2
      rw [hN2]
      have hN2b : N2 ≤ 900000 := by rw [← HN2.out]; exact HNz.out
      clear hro hmi hrw hbi hri hVr HS HR F3 F7 R0 R1 R2 R3 R4 R5 F12 hN2
      go_wp2_with fail
      go_loopw [15, 60] (fun av iv wq => ∃ (q : Nat) (Zs : List Zr), q ≤ N2 ∧ iv = .int .i64 q ∧ Hid (SeenAt W3 cs (seenB (fun a => x.fr a j) (snapF zs) r ((bl A).take k) ++ (Zi.take q).map fun z => (⟨z.1.1, at_, z.2⟩ : Sn)) av Zs wq ∧ KIn wr0 V1 av wq)) (fun _ iv _ => N2 - (intOf iv).toNat)
      case atStart => exact ⟨0, Zs, Nat.zero_le _, rfl, by rw [List.take_zero, List.map_nil, List.append_nil]; exact HS1.out, KIn.start HRn.out⟩
      case round =>
       obtain ⟨q, Zt, hq, rfl, HQs⟩ := hrel
       by_cases hlq : q < N2
       · have hqZ : q < Zi.length := by rw [HN2.out]; exact hlq
         obtain ⟨g, hia, y0, y1⟩ := rowO_at HIt.out.1 (i := q) (by rw [List.length_map]; exact hqZ)
         simp only [List.getElem_map] at y0 y1
         have hgb : wr0.heap.size ≤ g := (World.ownsRow.lt HIt.out.1 g (by rw [hia]; rfl)).1
         have hgs := HQs.out.2.keep g hgb (block_lt_of_cell y0)
         have y0 := (cell_same hgs).trans y0
         have y1 := (cell_same hgs).trans y1
         obtain ⟨vs, q1, q2, q3, q4, q5⟩ := HItQ.out q hqZ
         have hrw := (HIt.out.2.2 _ (List.getElem_mem hqZ)).byK HQs.out.2.by'
         rw [q1] at hrw
         have hqI : (q : Int) < (N2 : Int) := by omega
         have HZq : Hid ((Zi.take (q + 1)).map (fun z => (⟨z.1.1, at_, z.2⟩ : Sn)) = (Zi.take q).map (fun z => (⟨z.1.1, at_, z.2⟩ : Sn)) ++ [⟨Zi[q].1.1, at_, bs (Rw.rowB vs)⟩]) := by
          show _ = _
          rw [List.take_succ_eq_append_getElem hqZ, List.map_append, ← q1]; rfl
         subst hia
         generalize Zi[q].1.1 = ky at *
         generalize Zi[q].1.2 = rv at *
         obtain ⟨ra, rn, rc⟩ := rv
         simp only at y0 y1
         obtain ⟨W5, hW5⟩ : ∃ W5, wr.alloc (.cells #[.string ky, .slice ra rn rc] 102) = W5 := ⟨_, rfl⟩
         have hb5 : Below wr.heap.size wr W5 := by rw [← hW5]; exact below_alloc _ _
         have hi5 : W5.heap[wr.heap.size]? = some (.cells #[.string ky, .slice ra rn rc] 102 (0, 0)) := by rw [← hW5]; exact new_blk _ _
         have HVw5 := Lib.hid (HVw.out.on (below_step HQs.out.1.bw hb5))
         have HRF : Hid (RowF W5 w2.heap.size wr.heap.size nm ta C tc ky ⟨ra, rn, rc⟩) := ⟨cell_of HVw5.out.tb rfl, by have := cell_of (o := 1) HVw5.out.tb rfl; rw [← HC.out]; exact this, cell_of hi5 rfl, cell_of hi5 rfl⟩
         have G2 : Hid (∀ V, Below W5.heap.size W5 V → V.cell? ⟨wr.heap.size, 0, none⟩ = some (.string ky)) := fun V hV => (HRF.out.on hV).i0
         have G4 : Hid (∀ V, Below W5.heap.size W5 V → V.cell? ⟨w2.heap.size, 0, none⟩ = some (.string nm)) := fun V hV => (HRF.out.on hV).t0
         have G5 : Hid (∀ V, Below W5.heap.size W5 V → V.cell? ⟨w2.heap.size, 1, none⟩ = some (.slice ta C tc)) := fun V hV => (HRF.out.on hV).t1
         have G6 : Hid (∀ V, Below W5.heap.size W5 V → V.cell? ⟨wr.heap.size, 1, none⟩ = some (.slice ra rn rc)) := fun V hV => (HRF.out.on hV).i1
         have HVal : Hid (Calls Tryz.prog 27 #[.agg #[.string nm, .slice ta C tc], .slice ra rn rc] W5.drew (ValTo W5.drew vs)) := by
          have := fvalues_ (nm := nm) (c := tc) (HVw5.out.co.on (below_drew W5)) HCs.out.1 ((hrw.on hb5).on (below_drew W5)) q4 q5 (Rw.kErr_chk q2)
          rw [HC.out] at this
          exact this
         have HSt := Lib.hid (HQs.out.1.on (below_step hb5 (below_drew W5)))
         have HKi := Lib.hid HQs.out.2
         have HbK := Lib.hid (below_step hb5 (below_drew W5))
         have HGd := Lib.hid (And.intro q2 (And.intro q3 (And.intro q4 q5)))
         have HLen : Hid (Zt.length ≤ 100000000) := by
          have h1 := congrArg List.length HQs.out.1.eq
          rw [List.length_map, List.length_append, List.length_map, List.length_take] at h1
          have h2 := seenB_len (fr := fun a => x.fr a j) (t := snapF zs) (r := r) (K := K) (fun a => HFg.out.ok.num a j) (fun a => HFg.out.ok.ok a j) (B := (bl A).take k)
          have h3 : ((bl A).take k).length ≤ 16 := Nat.le_trans (List.length_take_le' _ _) (HG.out.2.1 A)
          have h4 := HG.out.2.2
          have h5 := HNz.out
          have h6 := Nat.mul_le_mul h3 h4
          have h7 : ((bl A).take k).length * K ≤ 16 * 900000 := h6
          show Zt.length ≤ 100000000
          have h8 : min q Zi.length ≤ 900000 := Nat.le_trans (Nat.min_le_right _ _) h5
          omega
         clear hb5 hi5 hrw q1 q2 q3 q4 q5 HVw5 HRF HQs hgb hgs
         unfold ValTo at HVal
         obtain ⟨nv, hnv⟩ : ∃ nv, vs.length = nv := ⟨_, rfl⟩
         have HNv := Lib.hid hnv
         rw [hnv] at HVal
         clear hnv
         go_upto_region 11 with fail
         try rw [hW5]
         clear hW5 y0 y1
         refine wp_region_noPanic ?_
         refine region_ph (A := fun _ => True) (e1 := 10) (B := (fun V => Below W5.heap.size W5 V)) (e2 := 10) (C := (fun _ => True)) (by kernel_rfl) (⟨trivial, fun _ => below_drew W5, fun _ => trivial⟩) (fun hSt => ?_)
         refine take_ph 0 (u15) [] rfl (by kernel_rfl) (fun _ _ _ h => h) (Or.inl ⟨by rfl, ?_⟩) hSt (fun hSn => ?_)
         · intro V _; go_simp
         clear hSt; rename Ph _ _ _ _ _ _ _ => hSt; simp only [Act.put, prw]
         refine take_ph 1 (.pointer (some ⟨wr.heap.size, 0, none⟩)) [] rfl (by kernel_rfl) (fun _ _ _ h => h) (Or.inl ⟨by rfl, ?_⟩) hSt (fun hSn => ?_)
         · intro V _; go_simp
         clear hSt; rename Ph _ _ _ _ _ _ _ => hSt; simp only [Act.put, prw]
         refine take_ph 2 (.string ky) [9, 10] rfl (by kernel_rfl) (fun _ _ _ h => h) (Or.inl ⟨by rfl, ?_⟩) hSt (fun hSn => ?_)
         · rintro V ⟨_, hB, hC⟩; have hh := hB (by decide); have e0 := G2.out V hh; clear hB hC; go_simp
         clear hSt; rename Ph _ _ _ _ _ _ _ => hSt; simp only [Act.put, prw]
         refine take_ph 3 (.int .i64 (at_ : Int)) [] rfl (by kernel_rfl) (fun _ _ _ h => h) (Or.inl ⟨by rfl, ?_⟩) hSt (fun hSn => ?_)
         · intro V _; go_simp
         clear hSt; rename Ph _ _ _ _ _ _ _ => hSt; simp only [Act.put, prw]
         refine take_ph 4 (.agg #[.string nm, .slice ta C tc]) [7, 8, 9, 10] rfl (by kernel_rfl) (fun _ _ _ h => h) (Or.inl ⟨by rfl, ?_⟩) hSt (fun hSn => ?_)
         · rintro V ⟨_, hB, hC⟩; have hh := hB (by decide); have e0 := G4.out V hh; have e1 := G5.out V hh; clear hB hC; go_simp
         clear hSt; rename Ph _ _ _ _ _ _ _ => hSt; simp only [Act.put, prw]
         refine take_ph 5 (.pointer (some ⟨wr.heap.size, 1, none⟩)) [] rfl (by kernel_rfl) (fun _ _ _ h => h) (Or.inl ⟨by rfl, ?_⟩) hSt (fun hSn => ?_)
         · intro V _; go_simp
         clear hSt; rename Ph _ _ _ _ _ _ _ => hSt; simp only [Act.put, prw]
         refine take_ph 6 (.slice ra rn rc) [7, 8, 9, 10] rfl (by kernel_rfl) (fun _ _ _ h => h) (Or.inl ⟨by rfl, ?_⟩) hSt (fun hSn => ?_)
         · rintro V ⟨_, hB, hC⟩; have hh := hB (by decide); have e0 := G6.out V hh; clear hB hC; go_simp
         clear hSt; rename Ph _ _ _ _ _ _ _ => hSt; simp only [Act.put, prw]
         refine ready_call_ph 7 rfl (by kernel_rfl) (fun KK hK => ?_)
         go_simp
         go_wp2_with (first | (go_at_call 27; refine HVal.out.mono ?_; rintro e V2 ⟨va, vc, rfl, hvi, hvb⟩))
         refine hK.out _ _ ?_ (fun hSn => ?_)
         · exact ⟨trivial, fun _ => below_step (below_drew W5) hvb, fun _ => trivial⟩
         clear hK KK hSt; rename Ph _ _ _ _ _ _ _ => hSt
         have hU := below_alloc V2 (.cells #[.string ky, .int .i64 (at_ : Int), .slice va nv vc] 105)
         have hrb : Hid (∀ (ac : Act) (o : Oper) (z : Operand), o.op = .buildSlice 95 1 #[(0, z)] → ac.eval z = .agg #[.string ky, .int .i64 (at_ : Int), .slice va nv vc] → (execOp ac.eval o).run Tryz.prog V2 = .ok (.value (.slice (some ⟨V2.heap.size, 0, none⟩) 1 1)) (V2.alloc (.cells #[.string ky, .int .i64 (at_ : Int), .slice va nv vc] 105))) := fun ac o z h1 h2 => run_buildSn V2 ⟨ky, at_, ⟨va, nv, vc⟩⟩ ac o z h1 h2
         have hrN : RowN (V2.alloc (.cells #[.string ky, .int .i64 (at_ : Int), .slice va nv vc] 105)) W3.heap.size u15 (Zt.map (·.1)) := row_on HSt.out.row (below_step hvb hU)
         obtain ⟨a9, n9, c9, w9, hap, ho9, hg9, h59⟩ := app_sn (x := ⟨ky, at_, ⟨va, nv, vc⟩⟩) hrN (new_blk V2 _) (by rw [List.length_map]; exact HLen.out) (below_step HSt.out.bw (below_step hvb hU)).size
         have HNx := Lib.hid (HSt.out.add hvb hU (z := (⟨ky, at_, ⟨va, nv, vc⟩⟩, vs)) hvi.1 HNv.out.symm hvi.2 HGd.out ho9 hg9 h59)
         have hB9 : Hid (KIn wr0 V1 (.slice a9 n9 c9) w9) := HKi.out.step hrN (below_step HbK.out (below_step hvb hU)) hg9 h59
         clear hrN ho9 hg9 h59 hvi hvb
         refine take_ph 8 (.agg #[.int .i64 (at_ : Int), .slice va nv vc]) [] rfl (by kernel_rfl) (fun _ _ _ h => h) (Or.inl ⟨by rfl, ?_⟩) hSt (fun hSn => ?_)
         · intro V _; go_simp
         clear hSt; rename Ph _ _ _ _ _ _ _ => hSt; simp only [Act.put, prw]
         refine take_ph 9 (.agg #[.string ky, .int .i64 (at_ : Int), .slice va nv vc]) [] rfl (by kernel_rfl) (fun _ _ _ h => h) (Or.inl ⟨by rfl, ?_⟩) hSt (fun hSn => ?_)
         · intro V _; go_simp
         clear hSt; rename Ph _ _ _ _ _ _ _ => hSt; simp only [Act.put, prw]
         refine ready_ph 10 rfl (by kernel_rfl) rfl (.inl (hrb.out _ _ _ rfl rfl)) (⟨trivial, fun h => absurd (show true = false from h) (by decide), fun _ => trivial⟩) (fun hSn => ?_)
         clear hSt; rename Ph _ _ _ _ _ _ _ => hSt; simp only [Act.put, prw]
         refine ready_ph 11 rfl (by kernel_rfl) rfl (.inl (exec_append rfl rfl rfl hap)) (⟨trivial, fun h => absurd (show true = false from h) (by decide), fun _ => trivial⟩) (fun hSn => ?_)
         clear hSt; rename Ph _ _ _ _ _ _ _ => hSt; simp only [Act.put, prw]
         refine take_ph 12 (.slice a9 n9 c9) [] rfl (by kernel_rfl) (fun _ _ _ h => h) (Or.inl ⟨by rfl, ?_⟩) hSt (fun hSn => ?_)
         · intro V _; go_simp
         clear hSt; rename Ph _ _ _ _ _ _ _ => hSt; simp only [Act.put, prw]
         refine done_ph (by kernel_rfl) ?_ _
         clear hSt
         refine NoPanic.normal ?_
         clear hrb hap HVal G2 G4 G5 G6
         go_wp2_with fail
         go_roundw
         case rel => exact ⟨q + 1, Zt ++ [(⟨ky, at_, ⟨va, nv, vc⟩⟩, vs)], by omega, by go_num, by rw [HZq.out, ← List.append_assoc]; exact HNx.out, hB9.out⟩
         case measure => simp [intOf]; omega
       · obtain rfl : q = N2 := by omega
         have HNo : Hid (SeenAt W3 cs (seenB (fun a => x.fr a j) (snapF zs) r ((bl A).take (k + 1))) u15 Zt wr) := by
          have := HQs.out.1
          have e : (Zi.take q).map (fun z => (⟨z.1.1, at_, z.2⟩ : Sn)) = (rowsM r (snapF zs (bl A)[k]) (x.fr (bl A)[k] j)).map fun p => (⟨p.1, (bl A)[k], p.2⟩ : Sn) := by
           rw [← HAt.out.1, HT.out, ← HIt.out.2.1, List.map_map, show Zi.take q = Zi by rw [← HN2.out, List.take_length]]
           rfl
          rw [e, ← seenB_take (fr := fun a => x.fr a j) (t := snapF zs) (r := r) hkB] at this
          exact this
         clear HQs HIt HV1 HS1 HItQ HNz HRn hbi1
         go_wp2_with fail
         go_roundw
         case rel => exact ⟨k + 1, Zt, by omega, by go_num, HNo.out⟩
         case measure => simp [intOf]; omega
    · obtain rfl : k = M := by omega
      have hall : (bl A).take k = bl A := by rw [← HM.out, List.take_length]
      rw [hall] at HS
      obtain ⟨l, hl1, hl2⟩ := seen_some (fr := fun a => x.fr a j) (fun a => (HFg.out.ok.ok a j).srt) (snapF zs) r (HG.out.1 A)
      have hlen : Zs.length ≤ 100000000 := by
       have h1 := congrArg List.length HS.out.eq
       have h2 := seenB_len (fr := fun a => x.fr a j) (t := snapF zs) (r := r) (K := K) (fun a => HFg.out.ok.num a j) (fun a => HFg.out.ok.ok a j) (B := bl A)
       have h3 : (bl A).length * K ≤ 16 * 900000 := Nat.mul_le_mul (HG.out.2.1 A) HG.out.2.2
       rw [List.length_map] at h1
       omega
      obtain ⟨Zk, hk2, hkm, hso⟩ := seen_sort HS.out hl1 hl2 hlen
      have HSo := Lib.hid hso
      have HRes : Hid (∀ v w', RowA w' W3.heap.size v (Zk.map (·.1)) → (∀ z ∈ Zk, Rw.ValsIn w' z.1.r.a z.2) → Below W3.heap.size W3 w' → Q (.returned (.tuple #[v, .nilIface])) w') := fun v w' h1 h2 h3 => by
       rw [← HQ.out]
       refine .inr (.inr ⟨rfl, j, v, Zk, HCs.out.2.2.2, rfl, rowA_lower h1 HB3.out.size, fun z hz => ⟨h2 z hz, (HS.out.val z (hkm z hz)).2, fun b o e => Nat.le_trans HB3.out.size (HS.out.new z (hkm z hz) b o e)⟩, fun z hz => ?_, ⟨by rw [hk2]; exact hl1, by rw [hk2]; exact hl2⟩, below_step HB3.out h3⟩)
       rw [HCs.out.2.1]
       exact HS.out.good z (hkm z hz)
      clear hl1 hl2 hk2 hkm hso hlen HS hall
      go_wp2_with (first
       | (go_at_call 28; refine HSo.out.mono ?_; rintro e w1 ⟨rfl, hro⟩; have HRo := Lib.hid hro; clear HSo hro)
       | (go_at_call 30; refine HRo.out.mono ?_; rintro e w8 ⟨v8, rfl, h81, h82, h83⟩; have HE := Lib.hid (HRes.out v8 w8 h81 h82 h83); clear h81 h82 h83 HRo HRes)
       | fail)
      exact HE.out
end Go.Proofs.YtalmanfjiblhcaaGreat
