/- put: a change of a fragment. -/
import Derived.Test.YtalmanfjiblhcaaGreatJ28
namespace Go.Proofs.YtalmanfjiblhcaaGreat
open Go.RowKit Go.Sort Go.Maps
def FPutTo (w : World) (S : Nat → Prop) (K n ps : Nat) (bl : Nat → List Nat) (us : List Tb.TV) (x : FgM) (e : Ending) (w' : World) : Prop :=
 e = .returned (.tuple #[]) ∧ FgAt w' (grown S w w') (K + 1) n ps bl us x ∧ Frame S w w' ∧ ByK w w'
theorem VnF.widen {w : World} {A B : Nat → Prop} {ps : Nat} {m : List Ct} (h : VnF w A ps m) (hs : ∀ k, k < w.heap.size → A k → B k) : VnF w B ps m :=
 VnAt.keepZ h (Zn.but w B) (fun k hk q => ⟨hk, fun hA => q.2 (hs k hk hA)⟩) (Since.refl _) (fun _ _ _ => rfl) (fun _ _ _ => rfl)
theorem AlienV.byK {w w' : World} (h : AlienV w w') : ByK w w' := fun g cur hg => by
 rw [hg]
 exact h.1 g cur 5 hg (by decide) (by decide) (by decide) (by decide) (by decide)
structure PutAt (w : World) (K gl cl m : Nat) (L : List LvV) (pt : Nat → Nat → Option Nat) (Ft : Nat → Nat → Nat → Prop) (a t q : Nat) (mq : List Ct) (D' : DataW Unit) (Fq : Nat → Prop) (W : World) : Prop where
 fr : Frame (fun k => k = gl ∨ k = m ∨ Ft a t k) w W
 by' : ByK w W
 lv : LevB W gl cl L
 mp : W.ownsMap Tryz.prog 99 ptE m (K + 1) D'
 ps : PtIs D' (ptPut pt a t q)
 fq : ∀ k, Fq k → (Ft a t k ∨ w.heap.size ≤ k) ∧ k ≠ gl ∧ k ≠ m
 vn : VnF W Fq q mq
theorem PutAt.on {w : World} {K gl cl m : Nat} {L : List LvV} {pt : Nat → Nat → Option Nat} {Ft : Nat → Nat → Nat → Prop} {a t q : Nat} {mq : List Ct} {D' : DataW Unit} {Fq : Nat → Prop} {W W' : World} (h : PutAt w K gl cl m L pt Ft a t q mq D' Fq W) (hb : Below W.heap.size W W') : PutAt w K gl cl m L pt Ft a t q mq D' Fq W' :=
 ⟨⟨hb.os.trans h.fr.os, hb.tape.trans h.fr.tape, hb.output.trans h.fr.output, Nat.le_trans h.fr.size hb.size, fun k hk hn => (hb.block k (Nat.lt_of_lt_of_le hk h.fr.size)).trans (h.fr.block k hk hn)⟩, h.by'.trans (ByK.below hb), h.lv.keep (hb.block gl h.lv.lt), owns_keepF h.mp (hb.block m h.mp.lt), h.ps, h.fq, h.vn.keep (Frame.below (Ft := fun _ => False) hb) (fun _ _ _ q => q) (ByK.below hb)⟩
theorem PutAt.set {w : World} {K gl cl m : Nat} {L : List LvV} {pt : Nat → Nat → Option Nat} {Ft : Nat → Nat → Nat → Prop} {a t q : Nat} {mq : List Ct} {D' : DataW Unit} {Fq : Nat → Prop} {W : World} (h : PutAt w K gl cl m L pt Ft a t q mq D' Fq W) (ha : a < L.length) (z : Int) : PutAt w K gl cl m (L.set a ⟨L[a].a, L[a].n, L[a].c, L[a].cm, z⟩) pt Ft a t q mq D' Fq (W.setCell ⟨gl, a * 3 + 2, none⟩ (.int .i64 z)) := by
 have hb : ∀ k, k ≠ gl → (W.setCell ⟨gl, a * 3 + 2, none⟩ (.int .i64 z)).heap[k]? = W.heap[k]? := fun k hk => heap_far _ hk
 have hsz : (W.setCell ⟨gl, a * 3 + 2, none⟩ (.int .i64 z)).heap.size = W.heap.size := by simp [World.setCell]
 have hff : Frame (fun k => k = gl) W (W.setCell ⟨gl, a * 3 + 2, none⟩ (.int .i64 z)) := ⟨rfl, rfl, rfl, by rw [hsz]; exact Nat.le_refl _, fun k _ hn => hb k hn⟩
 have hy : ByK W (W.setCell ⟨gl, a * 3 + 2, none⟩ (.int .i64 z)) := fun g cur hg => hb g fun e => by
  obtain ⟨cur2, k2, _⟩ := h.lv.blk
  rw [e, k2] at hg
  simp at hg
 have hgm : m ≠ gl := fun e => by obtain ⟨es, cl, k1, _⟩ := h.mp; obtain ⟨cur, k2, _⟩ := h.lv.blk; rw [e, k2] at k1; cases k1
 refine ⟨⟨h.fr.os, h.fr.tape, h.fr.output, by rw [hsz]; exact h.fr.size, fun k hk hn => (hb k fun e => hn (.inl e)).trans (h.fr.block k hk hn)⟩, h.by'.trans hy, ?_, owns_keepF h.mp (hb m hgm), h.ps, h.fq, h.vn.keep hff (fun k _ hA e => (h.fq k hA).2.1 e) hy⟩
 refine h.lv.set ha _ _ (by omega) fun k hk => ?_
 match k, hk with
 | 0, _ => rfl
 | 1, _ => rfl
 | 2, _ => rfl
 | k + 3, hk => omega
theorem PutAt.set2 {w : World} {K gl cl m : Nat} {L : List LvV} {pt : Nat → Nat → Option Nat} {Ft : Nat → Nat → Nat → Prop} {a t q : Nat} {mq : List Ct} {D' : DataW Unit} {Fq : Nat → Prop} {W : World} (ha : a < L.length) {z : Int} (h : PutAt w K gl cl m (L.set a ⟨L[a].a, L[a].n, L[a].c, L[a].cm, z⟩) pt Ft a t q mq D' Fq W) (z' : Int) : PutAt w K gl cl m (L.set a ⟨L[a].a, L[a].n, L[a].c, L[a].cm, z'⟩) pt Ft a t q mq D' Fq (W.setCell ⟨gl, a * 3 + 2, none⟩ (.int .i64 z')) := by
 have := h.set (by rw [List.length_set]; exact ha) z'
 simpa [List.set_set] using this
theorem PutAt.same {w : World} {K gl cl m : Nat} {L : List LvV} {pt : Nat → Nat → Option Nat} {Ft : Nat → Nat → Nat → Prop} {a t q : Nat} {mq : List Ct} {D' : DataW Unit} {Fq : Nat → Prop} {W : World} (h : PutAt w K gl cl m L pt Ft a t q mq D' Fq W) (ha : a < L.length) : PutAt w K gl cl m (L.set a ⟨L[a].a, L[a].n, L[a].c, L[a].cm, L[a].rw⟩) pt Ft a t q mq D' Fq W := by
 have e : L.set a ⟨L[a].a, L[a].n, L[a].c, L[a].cm, L[a].rw⟩ = L := List.set_getElem_self ha
 rw [e]; exact h
theorem RowAt.byK {w w' : World} {r : Vl} {s : ByteArray} (h : RowAt w r s) (hy : ByK w w') : RowAt w' r s := h.keep fun g hg => by
 obtain ⟨cur, hc⟩ := h.blk hg
 exact hy g cur hc
theorem set_byK {w : World} {gl o : Nat} {cur : Array Value} {v : Value} (h : w.heap[gl]? = some (.cells cur 85 (0, 0))) : ByK w (w.setCell ⟨gl, o, none⟩ v) := fun g cur2 hg => heap_far _ fun e => by
 rw [e, h] at hg
 simp at hg
theorem put_end {w : World} {S : Nat → Prop} {K ps : Nat} {bl : Nat → List Nat} {us : List Tb.TV} {x : FgM} {gl cl m BC : Nat} {ca : Option Addr} {cc : Nat} {L : List LvV} {D : DataW Unit} {pt : Nat → Nat → Option Nat} {Ft : Nat → Nat → Nat → Prop}
 (h : FgD w S K ps bl us x gl cl m BC ca cc L D pt Ft) {a : Nat} (ha : a < L.length) (c : Chg) {q : Nat} {D' : DataW Unit} {Fq : Nat → Prop} {z : Int} {W w' : World}
 (hp : PutAt w K gl cl m (L.set a ⟨L[a].a, L[a].n, L[a].c, L[a].cm, z⟩) pt Ft a c.t q (x.fr a c.t) D' Fq W) (hz : z = rwPut (x.rw a) (rowC (chM c.k (x.fr a c.t)) (x.cm a)).isSome c.gn)
 (hv : VnAt (Zn.but W Fq) w' q (putM c.k (pvOf (x.cm a) c) (x.fr a c.t))) (hal : AlienV W w') : FPutTo w S K L.length ps bl us (putF a c x) (.returned (.tuple #[])) w' := by
 obtain ⟨hv1, hv2⟩ := hv.vnF
 have hgl := hp.lv.lt
 have hml := hp.mp.lt
 have hf : Frame (fun k => k = gl ∨ k = m ∨ Ft a c.t k) w w' := ⟨hv2.os.trans hp.fr.os, hv2.tape.trans hp.fr.tape, hv2.output.trans hp.fr.output, Nat.le_trans hp.fr.size hv2.size, fun k hk hn => (hv2.block k (Nat.lt_of_lt_of_le hk hp.fr.size) fun hq => by
  rcases (hp.fq k hq).1 with q | q
  · exact hn (.inr (.inr q))
  · omega).trans (hp.fr.block k hk hn)⟩
 have hy := hp.by'.trans hal.byK
 have hd := h.put ha c (F' := fun k => (Ft a c.t k ∨ w.heap.size ≤ k) ∧ k < w'.heap.size) hf hy (hp.lv.keep (hv2.block gl hgl fun q => (hp.fq gl q).2.1 rfl)) hz (owns_keepF hp.mp (hv2.block m hml fun q => (hp.fq m q).2.2 rfl)) hp.ps (hv1.widen fun k hk q => ⟨q.elim (fun q => (hp.fq k q).1) fun q => .inr (Nat.le_trans hp.fr.size q), hk⟩) fun k q => q
 exact ⟨rfl, ⟨_, _, _, _, _, _, _, _, _, _, hd, by rw [List.length_set]⟩, h.frame hf, hy⟩
theorem vput_any {V : World} {Fq : Nat → Prop} {q : Nat} {m : List Ct} (h : VnF V Fq q m) (hm : nVer m ≤ 900000) (c : Chg) (t : Int) (h1 : 1 ≤ t) (hl : lastC (chM c.k m) ≤ t) {r : Vl} (hr : c.gn = false → RowAt V r c.tx) :
 Calls Tryz.prog 48 #[.pointer (some ⟨q, 0, none⟩), .string c.k, .int .i64 t, .slice r.a r.n r.c, .bool c.gn] V fun e w' => e = .returned .nilIface ∧ Hid (VnAt (Zn.but V Fq) w' q (putM c.k (pvOf t c) m) ∧ AlienV V w') := by
 obtain ⟨ct, ck, ctx, cg⟩ := c
 cases cg with
 | true => exact vput_gone h hm ck t h1 hl r.a r.n r.c
 | false =>
   obtain ⟨e1, e2, e3⟩ := (hr rfl).bytes
   exact vput_row h hm ck t h1 hl e1 e2 e3 (hr rfl).le
set_option maxRecDepth 100000 in
set_option maxHeartbeats 4000000 in
theorem fput_some {w : World} {S : Nat → Prop} {K ps : Nat} {bl : Nat → List Nat} {us : List Tb.TV} {x : FgM} {gl cl m BC : Nat} {ca : Option Addr} {cc : Nat} {L : List LvV} {D : DataW Unit} {pt : Nat → Nat → Option Nat} {Ft : Nat → Nat → Nat → Prop}
 (h : FgD w S K ps bl us x gl cl m BC ca cc L D pt Ft) {a : Nat} (ha : a < L.length) (c : Chg) (hfar : far a c.t) {r : Vl} (hr : c.gn = false → RowAt w r c.tx) (hn : nVer (x.fr a c.t) ≤ 900000) (h1 : 1 ≤ x.cm a) (hla : lastC (chM c.k (x.fr a c.t)) ≤ x.cm a) (hK : K + 1 ≤ 1000000) {q : Nat} (hpt : pt a c.t = some q) :
 Calls Tryz.prog 22 #[.pointer (some ⟨ps, 0, none⟩), .int .i64 a, .agg #[.int .i64 c.t, .string c.k, .slice r.a r.n r.c, .bool c.gn]] w (FPutTo w S K L.length ps bl us (putF a c x)) := by
 obtain ⟨W1, hW1⟩ : ∃ W1, w.alloc (.cells #[.int .i64 c.t, .string c.k, .slice r.a r.n r.c, .bool c.gn] 81) = W1 := ⟨_, rfl⟩
 have hB1 : Below w.heap.size w W1 := by rw [← hW1]; exact below_alloc _ _
 have hC1 : CgB W1 w.heap.size c.t c.k r c.gn := by rw [← hW1]; exact new_blk _ _
 have hs1 : W1.heap.size = w.heap.size + 1 := by rw [← hW1]; simp [go_sem]
 have HB1 := Lib.hid hB1
 have HC1 := Lib.hid hC1
 have HD := Lib.hid h
 have HR := Lib.hid hr
 have HN := Lib.hid (And.intro hn (And.intro h1 (And.intro hla (And.intro hK (And.intro ha hfar)))))
 obtain ⟨p0, _, p2⟩ := (h.fs.on hB1).cells
 obtain ⟨b0, b1, b2, b3, _⟩ := hC1.cells
 have hZ := below_alloc W1 (.cells #[.int .i64 0, .int .i64 0] 99)
 have hZ2 := below_alloc W1 (.cells #[.int .i64 (a : Int), .int .i64 (c.t : Int)] 99)
 obtain ⟨p0', _, _⟩ := ((h.fs.on hB1).on hZ).cells
 obtain ⟨p0'', _, _⟩ := ((h.fs.on hB1).on hZ2).cells
 obtain ⟨b0', _⟩ := (hC1.on hZ).cells
 have HZ2 := Lib.hid hZ2
 have HSp := Lib.hid (new_blk W1 (.cells #[.int .i64 (a : Int), .int .i64 (c.t : Int)] 99))
 have ha2 : (a : Int) < (L.length : Int) := by omega
 have ha3 := h.lev.le
 have HPt := Lib.hid hpt
 clear h hr hn h1 hla hK hfar hpt ha hZ hZ2 hB1 hC1
 generalize hQ : FPutTo w S K L.length ps bl us (putF a c x) = Q
 have HQ := Lib.hid hQ
 clear hQ
 go_enter Tryz.func22, Tryz.ntmps22
 go_upto_region 1 with fail
 try rw [hW1]
 go_region
 go_upto_region 2 with fail
 obtain ⟨W2, hW2⟩ : ∃ W2, W2 = (W1.alloc (.cells #[.int .i64 (a : Int), .int .i64 (c.t : Int)] 99)).drew := ⟨_, rfl⟩
 have hb2 : Below W1.heap.size W1 W2 := by rw [hW2]; exact below_step HZ2.out (below_drew _)
 have hsp2 : W2.heap[w.heap.size + 1]? = some (.cells #[.int .i64 (a : Int), .int .i64 (c.t : Int)] 99 (0, 0)) := by
  rw [hW2, ← hs1]; exact HSp.out
 rw [← hW2]
 clear p0 p0' p0'' b0 b0' b1 b2 b3 p2 hW2 HZ2 HSp
 have HB2 := Lib.hid (below_step HB1.out hb2)
 have HC2 := Lib.hid (HC1.out.on hb2)
 have HS2 := Lib.hid hsp2
 obtain ⟨_, _, p2⟩ := (HD.out.fs.on HB2.out).cells
 have s0 : W2.cell? ⟨w.heap.size + 1, 0, none⟩ = some (.int .i64 (a : Int)) := cell_of hsp2 rfl
 have s1 : W2.cell? ⟨w.heap.size + 1, 1, none⟩ = some (.int .i64 (c.t : Int)) := cell_of hsp2 rfl
 have hlk := look_pt (W := W2.drew) ((owns_keepF HD.out.map (HB2.out.block m HD.out.map.lt)).drew) HD.out.pts HN.out.2.2.2.2.2
 rw [HPt.out] at hlk
 unfold spV ptO at hlk
 clear hb2 hsp2 HB1 HC1 hW1 hs1
 go_region
 go_upto_region 6 with fail
 have HP : Hid (PutAt w K gl cl m L pt Ft a c.t q (x.fr a c.t) D (Ft a c.t) W2.drew) :=
  PutAt.on ⟨(Frame.below HB2.out), ByK.below HB2.out, HD.out.lev.keep (HB2.out.block gl HD.out.lev.lt), (owns_keepF HD.out.map (HB2.out.block m HD.out.map.lt)).mono (Nat.le_succ K), fun i j hij => by
   unfold ptPut
   by_cases e : i = a ∧ j = c.t
   · obtain ⟨rfl, rfl⟩ := e
     rw [if_pos ⟨rfl, rfl⟩]
     have := HD.out.pts i c.t hij
     rw [HPt.out] at this
     exact this
   · rw [if_neg e]; exact HD.out.pts i j hij, fun k hk => ⟨.inl hk, (HD.out.fts a c.t k hk).2.2.2⟩, ((HD.out.fam a c.t).2 q HPt.out).keep (Frame.below (Ft := fun _ => False) HB2.out) (fun _ _ _ q => q) (ByK.below HB2.out)⟩ (below_drew W2)
 have HC3 := Lib.hid (HC2.out.on (below_drew W2))
 have HR3 : Hid (c.gn = false → RowAt W2.drew r c.tx) := fun e => (HR.out e).on (below_step HB2.out (below_drew W2))
 generalize Ft a c.t = Fq at HP
 generalize D = D' at HP
 generalize W2.drew = W3 at *
 clear hlk p2 s0 s1 HB2 HC2 HS2
 have hmx : Tryz.prog.follows .mixedOrders = true := by kernel_rfl
 have F2 : Hid (∀ V, Below W3.heap.size W3 V → V.cell? ⟨w.heap.size, 1, none⟩ = some (.string c.k)) := fun V hV => (HC3.out.on hV).cells.2.1
 have F6 : Hid (∀ V, Below W3.heap.size W3 V → V.cell? ⟨gl, a * 3 + 1, none⟩ = some (.int .i64 (x.cm a : Int))) := fun V hV => by
  have := ((HP.out.on hV).lv.cells HN.out.2.2.2.2.1).2.1
  rw [(HD.out.lvl a HN.out.2.2.2.2.1).1] at this
  exact this
 have HG : Hid (Calls Tryz.prog 34 #[.pointer (some ⟨q, 0, none⟩), .string c.k, .int .i64 (x.cm a : Int)] W3.drew (GotTo W3.drew (rowC (chM c.k (x.fr a c.t)) (x.cm a)))) := by
  have hv := (HP.out.on (below_drew W3)).vn
  exact vget_ hv (by have := HN.out.1; omega) c.k _
 obtain ⟨ob, hob⟩ : ∃ ob, rowC (chM c.k (x.fr a c.t)) (x.cm a) = ob := ⟨_, rfl⟩
 rw [hob] at HG
 have HOb := Lib.hid hob
 clear hob
 refine wp_region_noPanic ?_
 refine region_ph (A := (fun V => Below W3.heap.size W3 V)) (e1 := 9999) (B := fun _ => True) (e2 := 9999) (C := fun _ => True) (by kernel_rfl) ⟨(below_drew W3), fun _ => trivial, fun _ => trivial⟩ (fun hSt => ?_)
 refine take_ph 0 (.pointer (some ⟨q, 0, none⟩)) [] rfl (by kernel_rfl) (fun _ _ _ h => h) (Or.inl ⟨by rfl, ?_⟩) hSt (fun hSn => ?_)
 · intro V _; go_simp
 clear hSt; rename Ph _ _ _ _ _ _ _ => hSt; simp only [Act.put, prw]
 refine take_ph 1 (.pointer (some ⟨w.heap.size, 1, none⟩)) [] rfl (by kernel_rfl) (fun _ _ _ h => h) (Or.inl ⟨by rfl, ?_⟩) hSt (fun hSn => ?_)
 · intro V _; go_simp
 clear hSt; rename Ph _ _ _ _ _ _ _ => hSt; simp only [Act.put, prw]
 refine take_ph 2 (.string c.k) [] rfl (by kernel_rfl) (fun _ _ _ h => h) (Or.inl ⟨by rfl, ?_⟩) hSt (fun hSn => ?_)
 · rintro V ⟨hh, _, _⟩; have e0 := F2.out V hh; clear hh; go_simp
 clear hSt; rename Ph _ _ _ _ _ _ _ => hSt; simp only [Act.put, prw]
 refine take_ph 3 (.pointer (some ⟨gl, a * 3, none⟩)) [] rfl (by kernel_rfl) (fun _ _ _ h => h) (Or.inl ⟨by rfl, ?_⟩) hSt (fun hSn => ?_)
 · intro V _; go_simp
 clear hSt; rename Ph _ _ _ _ _ _ _ => hSt; simp only [Act.put, prw]
 refine take_ph 4 (.pointer (some ⟨gl, a * 3, none⟩)) [] rfl (by kernel_rfl) (fun _ _ _ h => h) (Or.inl ⟨by rfl, ?_⟩) hSt (fun hSn => ?_)
 · intro V _; go_simp
 clear hSt; rename Ph _ _ _ _ _ _ _ => hSt; simp only [Act.put, prw]
 refine take_ph 5 (.pointer (some ⟨gl, a * 3 + 1, none⟩)) [] rfl (by kernel_rfl) (fun _ _ _ h => h) (Or.inl ⟨by rfl, ?_⟩) hSt (fun hSn => ?_)
 · intro V _; go_simp
 clear hSt; rename Ph _ _ _ _ _ _ _ => hSt; simp only [Act.put, prw]
 refine take_ph 6 (.int .i64 (x.cm a : Int)) [] rfl (by kernel_rfl) (fun _ _ _ h => h) (Or.inl ⟨by rfl, ?_⟩) hSt (fun hSn => ?_)
 · rintro V ⟨hh, _, _⟩; have e0 := F6.out V hh; clear hh; go_simp
 clear hSt; rename Ph _ _ _ _ _ _ _ => hSt; simp only [Act.put, prw]
 refine ready_call_ph 7 rfl (by kernel_rfl) (fun KK hK => ?_)
 go_simp
 go_wp2_with (first | (go_at_call 34; refine HG.out.mono ?_; rintro e W4 ⟨rr, rfl, hq1, hq2, hb4⟩))
 refine hK.out _ _ ?_ (fun hSn => ?_)
 · exact ⟨below_step (below_drew W3) hb4, fun _ => trivial, fun _ => trivial⟩
 clear hK KK hSt; rename Ph _ _ _ _ _ _ _ => hSt
 refine take_ph 8 (.tuple #[.slice rr.a rr.n rr.c, .bool ob.isSome]) [] rfl (by kernel_rfl) (fun _ _ _ h => h) (Or.inl ⟨by rfl, ?_⟩) hSt (fun hSn => ?_)
 · intro V _; go_simp
 clear hSt; rename Ph _ _ _ _ _ _ _ => hSt; simp only [Act.put, prw]
 refine take_ph 9 (.slice rr.a rr.n rr.c) [] rfl (by kernel_rfl) (fun _ _ _ h => h) (Or.inl ⟨by rfl, ?_⟩) hSt (fun hSn => ?_)
 · intro V _; go_simp
 clear hSt; rename Ph _ _ _ _ _ _ _ => hSt; simp only [Act.put, prw]
 refine take_ph 10 (.bool ob.isSome) [] rfl (by kernel_rfl) (fun _ _ _ h => h) (Or.inl ⟨by rfl, ?_⟩) hSt (fun hSn => ?_)
 · intro V _; go_simp
 clear hSt; rename Ph _ _ _ _ _ _ _ => hSt; simp only [Act.put, prw]
 refine take_ph 11 (.slice rr.a rr.n rr.c) [] rfl (by kernel_rfl) (fun _ _ _ h => h) (Or.inl ⟨by rfl, ?_⟩) hSt (fun hSn => ?_)
 · intro V _; go_simp
 clear hSt; rename Ph _ _ _ _ _ _ _ => hSt; simp only [Act.put, prw]
 refine take_ph 12 (.bool ob.isSome) [] rfl (by kernel_rfl) (fun _ _ _ h => h) (Or.inl ⟨by rfl, ?_⟩) hSt (fun hSn => ?_)
 · intro V _; go_simp
 clear hSt; rename Ph _ _ _ _ _ _ _ => hSt; simp only [Act.put, prw]
 refine done_ph (by kernel_rfl) ?_ _
 clear hSt
 refine NoPanic.normal ?_
 have HP4 := Lib.hid (HP.out.on (below_step (below_drew W3) hb4))
 have HC4 := Lib.hid (HC3.out.on (below_step (below_drew W3) hb4))
 have HR4 : Hid (c.gn = false → RowAt W4 r c.tx) := fun e => (HR3.out e).on (below_step (below_drew W3) hb4)
 clear HP HC3 HR3 F2 F6 HG hq1 hq2 hb4
 obtain ⟨was, hwas⟩ : ∃ was, ob.isSome = was := ⟨_, rfl⟩
 have HWas : Hid ((rowC (chM c.k (x.fr a c.t)) (x.cm a)).isSome = was) := by rw [HOb.out]; exact hwas
 rw [hwas]
 obtain ⟨gn, hgn⟩ : ∃ gn, c.gn = gn := ⟨_, rfl⟩
 have HGn := Lib.hid hgn
 have b3 := HC4.out.cells.2.2.2.1
 rw [hgn] at b3
 clear hwas hgn HOb
 have u0 := (HP4.out.lv.cells HN.out.2.2.2.2.1).2.2
 rw [(HD.out.lvl a HN.out.2.2.2.2.1).2.1] at u0
 have f0 := HP4.out.lv.free (a * 3 + 2)
 cases was with
 | true =>
   go_upto_region 9 with fail
   obtain ⟨W5, hW5⟩ : ∃ X, X = W4.setCell ⟨gl, a * 3 + 2, none⟩ (.int .i64 (wrap64 (x.rw a - 1))) := ⟨_, rfl⟩
   rw [← hW5]
   have hby : ByK W4 W5 := by
    obtain ⟨cur, k2, _⟩ := HP4.out.lv.blk
    rw [hW5]; exact set_byK k2
   have HC5 : Hid (CgB W5 w.heap.size c.t c.k r c.gn) := by
    have hne : w.heap.size ≠ gl := fun e => by have := HD.out.lev.lt; omega
    rw [hW5]; exact (heap_far _ hne).trans HC4.out
   have HR5 : Hid (c.gn = false → RowAt W5 r c.tx) := fun e => (HR4.out e).byK hby
   have HP5 : Hid (PutAt w K gl cl m (L.set a ⟨(L[a]'(HN.out.2.2.2.2.1)).a, (L[a]'(HN.out.2.2.2.2.1)).n, (L[a]'(HN.out.2.2.2.2.1)).c, (L[a]'(HN.out.2.2.2.2.1)).cm, wrap64 (x.rw a - 1)⟩) pt Ft a c.t q (x.fr a c.t) D' Fq W5) := by rw [hW5]; exact HP4.out.set HN.out.2.2.2.2.1 _
   clear hW5 hby HP4 HC4 HR4 u0 f0 b3
   have b3 := HC5.out.cells.2.2.2.1
   rw [HGn.out] at b3
   have u0 := (HP5.out.lv.cells (by rw [List.length_set]; exact HN.out.2.2.2.2.1 : a < (L.set a _).length)).2.2
   rw [List.getElem_set_self] at u0
   have f0 := HP5.out.lv.free (a * 3 + 2)
   cases gn with
   | true =>
     go_upto_region 11 with fail
     clear u0 f0 b3
     have HCX := HC5
     have HRX := HR5
     have HPX := Lib.hid HP5.out
     have HPut : Hid (Calls Tryz.prog 48 #[.pointer (some ⟨q, 0, none⟩), .string c.k, .int .i64 (x.cm a : Int), .slice r.a r.n r.c, .bool true] (W5).drew fun e w' => e = .returned .nilIface ∧ Hid (VnAt (Zn.but (W5).drew Fq) w' q (putM c.k (pvOf (x.cm a) c) (x.fr a c.t)) ∧ AlienV (W5).drew w')) := by
      have := vput_any (HPX.out.on (below_drew (W5))).vn HN.out.1 c (x.cm a) (by have := HN.out.2.1; omega) HN.out.2.2.1 (r := r) (fun e => (HRX.out e).on (below_drew _))
      rw [HGn.out] at this
      exact this
     have F2 : Hid (∀ V, Below (W5).heap.size (W5) V → V.cell? ⟨w.heap.size, 1, none⟩ = some (.string c.k)) := fun V hV => (HCX.out.on hV).cells.2.1
     have F8 : Hid (∀ V, Below (W5).heap.size (W5) V → V.cell? ⟨w.heap.size, 2, none⟩ = some (.slice r.a r.n r.c)) := fun V hV => (HCX.out.on hV).cells.2.2.1
     have F10 : Hid (∀ V, Below (W5).heap.size (W5) V → V.cell? ⟨w.heap.size, 3, none⟩ = some (.bool true)) := fun V hV => by
      have := (HCX.out.on hV).cells.2.2.2.1
      rwa [HGn.out] at this
     have F6 : Hid (∀ V, Below (W5).heap.size (W5) V → V.cell? ⟨gl, a * 3 + 1, none⟩ = some (.int .i64 (x.cm a : Int))) := fun V hV => by
      have hl : a < (L.set a ⟨L[a]'(HN.out.2.2.2.2.1) |>.a, (L[a]'(HN.out.2.2.2.2.1)).n, (L[a]'(HN.out.2.2.2.2.1)).c, (L[a]'(HN.out.2.2.2.2.1)).cm, wrap64 (x.rw a - 1)⟩).length := by rw [List.length_set]; exact HN.out.2.2.2.2.1
      have := ((HPX.out.on hV).lv.cells hl).2.1
      rw [List.getElem_set_self] at this
      rw [← (HD.out.lvl a HN.out.2.2.2.2.1).1]
      exact this
     refine wp_region_noPanic ?_
     refine region_ph (A := fun _ => True) (e1 := 11) (B := (fun V => Below (W5).heap.size (W5) V)) (e2 := 11) (C := (fun _ => True)) (by kernel_rfl) (⟨trivial, fun _ => below_drew (W5), fun _ => trivial⟩) (fun hSt => ?_)
     refine take_ph 0 (.pointer (some ⟨q, 0, none⟩)) [] rfl (by kernel_rfl) (fun _ _ _ h => h) (Or.inl ⟨by rfl, ?_⟩) hSt (fun hSn => ?_)
     · intro V _; go_simp
     clear hSt; rename Ph _ _ _ _ _ _ _ => hSt; simp only [Act.put, prw]
     refine take_ph 1 (.pointer (some ⟨w.heap.size, 1, none⟩)) [] rfl (by kernel_rfl) (fun _ _ _ h => h) (Or.inl ⟨by rfl, ?_⟩) hSt (fun hSn => ?_)
     · intro V _; go_simp
     clear hSt; rename Ph _ _ _ _ _ _ _ => hSt; simp only [Act.put, prw]
     refine take_ph 2 (.string c.k) [11] rfl (by kernel_rfl) (fun _ _ _ h => h) (Or.inl ⟨by rfl, ?_⟩) hSt (fun hSn => ?_)
     · rintro V ⟨_, hB, hC⟩; have hh := hB (by decide); have e0 := F2.out V hh; clear hB hC; go_simp
     clear hSt; rename Ph _ _ _ _ _ _ _ => hSt; simp only [Act.put, prw]
     refine take_ph 3 (.pointer (some ⟨gl, a * 3, none⟩)) [] rfl (by kernel_rfl) (fun _ _ _ h => h) (Or.inl ⟨by rfl, ?_⟩) hSt (fun hSn => ?_)
     · intro V _; go_simp
     clear hSt; rename Ph _ _ _ _ _ _ _ => hSt; simp only [Act.put, prw]
     refine take_ph 4 (.pointer (some ⟨gl, a * 3, none⟩)) [] rfl (by kernel_rfl) (fun _ _ _ h => h) (Or.inl ⟨by rfl, ?_⟩) hSt (fun hSn => ?_)
     · intro V _; go_simp
     clear hSt; rename Ph _ _ _ _ _ _ _ => hSt; simp only [Act.put, prw]
     refine take_ph 5 (.pointer (some ⟨gl, a * 3 + 1, none⟩)) [] rfl (by kernel_rfl) (fun _ _ _ h => h) (Or.inl ⟨by rfl, ?_⟩) hSt (fun hSn => ?_)
     · intro V _; go_simp
     clear hSt; rename Ph _ _ _ _ _ _ _ => hSt; simp only [Act.put, prw]
     refine take_ph 6 (.int .i64 (x.cm a : Int)) [11] rfl (by kernel_rfl) (fun _ _ _ h => h) (Or.inl ⟨by rfl, ?_⟩) hSt (fun hSn => ?_)
     · rintro V ⟨_, hB, hC⟩; have hh := hB (by decide); have e0 := F6.out V hh; clear hB hC; go_simp
     clear hSt; rename Ph _ _ _ _ _ _ _ => hSt; simp only [Act.put, prw]
     refine take_ph 7 (.pointer (some ⟨w.heap.size, 2, none⟩)) [] rfl (by kernel_rfl) (fun _ _ _ h => h) (Or.inl ⟨by rfl, ?_⟩) hSt (fun hSn => ?_)
     · intro V _; go_simp
     clear hSt; rename Ph _ _ _ _ _ _ _ => hSt; simp only [Act.put, prw]
     refine take_ph 8 (.slice r.a r.n r.c) [11] rfl (by kernel_rfl) (fun _ _ _ h => h) (Or.inl ⟨by rfl, ?_⟩) hSt (fun hSn => ?_)
     · rintro V ⟨_, hB, hC⟩; have hh := hB (by decide); have e0 := F8.out V hh; clear hB hC; go_simp
     clear hSt; rename Ph _ _ _ _ _ _ _ => hSt; simp only [Act.put, prw]
     refine take_ph 9 (.pointer (some ⟨w.heap.size, 3, none⟩)) [] rfl (by kernel_rfl) (fun _ _ _ h => h) (Or.inl ⟨by rfl, ?_⟩) hSt (fun hSn => ?_)
     · intro V _; go_simp
     clear hSt; rename Ph _ _ _ _ _ _ _ => hSt; simp only [Act.put, prw]
     refine take_ph 10 (.bool true) [11] rfl (by kernel_rfl) (fun _ _ _ h => h) (Or.inl ⟨by rfl, ?_⟩) hSt (fun hSn => ?_)
     · rintro V ⟨_, hB, hC⟩; have hh := hB (by decide); have e0 := F10.out V hh; clear hB hC; go_simp
     clear hSt; rename Ph _ _ _ _ _ _ _ => hSt; simp only [Act.put, prw]
     refine ready_call_ph 11 rfl (by kernel_rfl) (fun KK hK => ?_)
     go_simp
     go_wp2_with (first | (go_at_call 48; refine HPut.out.mono ?_; rintro e w9 ⟨rfl, hv9⟩))
     refine hK.out _ _ ?_ (fun hSn => ?_)
     · exact ⟨trivial, fun h => absurd (show true = false from h) (by decide), fun _ => trivial⟩
     clear hK KK hSt; rename Ph _ _ _ _ _ _ _ => hSt
     refine done_ph (by kernel_rfl) ?_ _
     clear hSt
     refine NoPanic.normal ?_
     have HE : Hid (Q (.returned (.tuple #[])) w9) := by
      rw [← HQ.out]
      exact put_end HD.out HN.out.2.2.2.2.1 c (HPX.out.on (below_drew _)) (by rw [HWas.out, HGn.out]; simp [rwPut, w64, wrap64]) hv9.out.1 hv9.out.2
     clear HPut F2 F6 F8 F10 hv9 HPX HCX HRX
     go_wp2_with fail
     exact bodyPost_ret (results_none rfl _ _ _) rfl HE.out
   | false =>
     go_upto_region 11 with fail
     obtain ⟨W6, hW6⟩ : ∃ X, X = W5.setCell ⟨gl, a * 3 + 2, none⟩ (.int .i64 (wrap64 (wrap64 (x.rw a - 1) + 1))) := ⟨_, rfl⟩
     rw [← hW6]
     have hby : ByK W5 W6 := by
      obtain ⟨cur, k2, _⟩ := HP5.out.lv.blk
      rw [hW6]; exact set_byK k2
     have HC6 : Hid (CgB W6 w.heap.size c.t c.k r c.gn) := by
      have hne : w.heap.size ≠ gl := fun e => by have := HD.out.lev.lt; omega
      rw [hW6]; exact (heap_far _ hne).trans HC5.out
     have HR6 : Hid (c.gn = false → RowAt W6 r c.tx) := fun e => (HR5.out e).byK hby
     have HP6 : Hid (PutAt w K gl cl m (L.set a ⟨(L[a]'(HN.out.2.2.2.2.1)).a, (L[a]'(HN.out.2.2.2.2.1)).n, (L[a]'(HN.out.2.2.2.2.1)).c, (L[a]'(HN.out.2.2.2.2.1)).cm, wrap64 (wrap64 (x.rw a - 1) + 1)⟩) pt Ft a c.t q (x.fr a c.t) D' Fq W6) := by rw [hW6]; exact HP5.out.set2 HN.out.2.2.2.2.1 _
     clear hW6 hby HP5 HC5 HR5 u0 f0 b3
     have HCX := HC6
     have HRX := HR6
     have HPX := Lib.hid HP6.out
     have HPut : Hid (Calls Tryz.prog 48 #[.pointer (some ⟨q, 0, none⟩), .string c.k, .int .i64 (x.cm a : Int), .slice r.a r.n r.c, .bool false] (W6).drew fun e w' => e = .returned .nilIface ∧ Hid (VnAt (Zn.but (W6).drew Fq) w' q (putM c.k (pvOf (x.cm a) c) (x.fr a c.t)) ∧ AlienV (W6).drew w')) := by
      have := vput_any (HPX.out.on (below_drew (W6))).vn HN.out.1 c (x.cm a) (by have := HN.out.2.1; omega) HN.out.2.2.1 (r := r) (fun e => (HRX.out e).on (below_drew _))
      rw [HGn.out] at this
      exact this
     have F2 : Hid (∀ V, Below (W6).heap.size (W6) V → V.cell? ⟨w.heap.size, 1, none⟩ = some (.string c.k)) := fun V hV => (HCX.out.on hV).cells.2.1
     have F8 : Hid (∀ V, Below (W6).heap.size (W6) V → V.cell? ⟨w.heap.size, 2, none⟩ = some (.slice r.a r.n r.c)) := fun V hV => (HCX.out.on hV).cells.2.2.1
     have F10 : Hid (∀ V, Below (W6).heap.size (W6) V → V.cell? ⟨w.heap.size, 3, none⟩ = some (.bool false)) := fun V hV => by
      have := (HCX.out.on hV).cells.2.2.2.1
      rwa [HGn.out] at this
     have F6 : Hid (∀ V, Below (W6).heap.size (W6) V → V.cell? ⟨gl, a * 3 + 1, none⟩ = some (.int .i64 (x.cm a : Int))) := fun V hV => by
      have hl : a < (L.set a ⟨L[a]'(HN.out.2.2.2.2.1) |>.a, (L[a]'(HN.out.2.2.2.2.1)).n, (L[a]'(HN.out.2.2.2.2.1)).c, (L[a]'(HN.out.2.2.2.2.1)).cm, wrap64 (wrap64 (x.rw a - 1) + 1)⟩).length := by rw [List.length_set]; exact HN.out.2.2.2.2.1
      have := ((HPX.out.on hV).lv.cells hl).2.1
      rw [List.getElem_set_self] at this
      rw [← (HD.out.lvl a HN.out.2.2.2.2.1).1]
      exact this
     refine wp_region_noPanic ?_
     refine region_ph (A := fun _ => True) (e1 := 11) (B := (fun V => Below (W6).heap.size (W6) V)) (e2 := 11) (C := (fun _ => True)) (by kernel_rfl) (⟨trivial, fun _ => below_drew (W6), fun _ => trivial⟩) (fun hSt => ?_)
     refine take_ph 0 (.pointer (some ⟨q, 0, none⟩)) [] rfl (by kernel_rfl) (fun _ _ _ h => h) (Or.inl ⟨by rfl, ?_⟩) hSt (fun hSn => ?_)
     · intro V _; go_simp
     clear hSt; rename Ph _ _ _ _ _ _ _ => hSt; simp only [Act.put, prw]
     refine take_ph 1 (.pointer (some ⟨w.heap.size, 1, none⟩)) [] rfl (by kernel_rfl) (fun _ _ _ h => h) (Or.inl ⟨by rfl, ?_⟩) hSt (fun hSn => ?_)
     · intro V _; go_simp
     clear hSt; rename Ph _ _ _ _ _ _ _ => hSt; simp only [Act.put, prw]
     refine take_ph 2 (.string c.k) [11] rfl (by kernel_rfl) (fun _ _ _ h => h) (Or.inl ⟨by rfl, ?_⟩) hSt (fun hSn => ?_)
     · rintro V ⟨_, hB, hC⟩; have hh := hB (by decide); have e0 := F2.out V hh; clear hB hC; go_simp
     clear hSt; rename Ph _ _ _ _ _ _ _ => hSt; simp only [Act.put, prw]
     refine take_ph 3 (.pointer (some ⟨gl, a * 3, none⟩)) [] rfl (by kernel_rfl) (fun _ _ _ h => h) (Or.inl ⟨by rfl, ?_⟩) hSt (fun hSn => ?_)
     · intro V _; go_simp
     clear hSt; rename Ph _ _ _ _ _ _ _ => hSt; simp only [Act.put, prw]
     refine take_ph 4 (.pointer (some ⟨gl, a * 3, none⟩)) [] rfl (by kernel_rfl) (fun _ _ _ h => h) (Or.inl ⟨by rfl, ?_⟩) hSt (fun hSn => ?_)
     · intro V _; go_simp
     clear hSt; rename Ph _ _ _ _ _ _ _ => hSt; simp only [Act.put, prw]
     refine take_ph 5 (.pointer (some ⟨gl, a * 3 + 1, none⟩)) [] rfl (by kernel_rfl) (fun _ _ _ h => h) (Or.inl ⟨by rfl, ?_⟩) hSt (fun hSn => ?_)
     · intro V _; go_simp
     clear hSt; rename Ph _ _ _ _ _ _ _ => hSt; simp only [Act.put, prw]
     refine take_ph 6 (.int .i64 (x.cm a : Int)) [11] rfl (by kernel_rfl) (fun _ _ _ h => h) (Or.inl ⟨by rfl, ?_⟩) hSt (fun hSn => ?_)
     · rintro V ⟨_, hB, hC⟩; have hh := hB (by decide); have e0 := F6.out V hh; clear hB hC; go_simp
     clear hSt; rename Ph _ _ _ _ _ _ _ => hSt; simp only [Act.put, prw]
     refine take_ph 7 (.pointer (some ⟨w.heap.size, 2, none⟩)) [] rfl (by kernel_rfl) (fun _ _ _ h => h) (Or.inl ⟨by rfl, ?_⟩) hSt (fun hSn => ?_)
     · intro V _; go_simp
     clear hSt; rename Ph _ _ _ _ _ _ _ => hSt; simp only [Act.put, prw]
     refine take_ph 8 (.slice r.a r.n r.c) [11] rfl (by kernel_rfl) (fun _ _ _ h => h) (Or.inl ⟨by rfl, ?_⟩) hSt (fun hSn => ?_)
     · rintro V ⟨_, hB, hC⟩; have hh := hB (by decide); have e0 := F8.out V hh; clear hB hC; go_simp
     clear hSt; rename Ph _ _ _ _ _ _ _ => hSt; simp only [Act.put, prw]
     refine take_ph 9 (.pointer (some ⟨w.heap.size, 3, none⟩)) [] rfl (by kernel_rfl) (fun _ _ _ h => h) (Or.inl ⟨by rfl, ?_⟩) hSt (fun hSn => ?_)
     · intro V _; go_simp
     clear hSt; rename Ph _ _ _ _ _ _ _ => hSt; simp only [Act.put, prw]
     refine take_ph 10 (.bool false) [11] rfl (by kernel_rfl) (fun _ _ _ h => h) (Or.inl ⟨by rfl, ?_⟩) hSt (fun hSn => ?_)
     · rintro V ⟨_, hB, hC⟩; have hh := hB (by decide); have e0 := F10.out V hh; clear hB hC; go_simp
     clear hSt; rename Ph _ _ _ _ _ _ _ => hSt; simp only [Act.put, prw]
     refine ready_call_ph 11 rfl (by kernel_rfl) (fun KK hK => ?_)
     go_simp
     go_wp2_with (first | (go_at_call 48; refine HPut.out.mono ?_; rintro e w9 ⟨rfl, hv9⟩))
     refine hK.out _ _ ?_ (fun hSn => ?_)
     · exact ⟨trivial, fun h => absurd (show true = false from h) (by decide), fun _ => trivial⟩
     clear hK KK hSt; rename Ph _ _ _ _ _ _ _ => hSt
     refine done_ph (by kernel_rfl) ?_ _
     clear hSt
     refine NoPanic.normal ?_
     have HE : Hid (Q (.returned (.tuple #[])) w9) := by
      rw [← HQ.out]
      exact put_end HD.out HN.out.2.2.2.2.1 c (HPX.out.on (below_drew _)) (by rw [HWas.out, HGn.out]; simp [rwPut, w64, wrap64]) hv9.out.1 hv9.out.2
     clear HPut F2 F6 F8 F10 hv9 HPX HCX HRX
     go_wp2_with fail
     exact bodyPost_ret (results_none rfl _ _ _) rfl HE.out
 | false =>
   cases gn with
   | true =>
     go_upto_region 11 with fail
     clear u0 f0 b3
     have HCX := HC4
     have HRX := HR4
     have HPX := Lib.hid (HP4.out.same HN.out.2.2.2.2.1)
     have HPut : Hid (Calls Tryz.prog 48 #[.pointer (some ⟨q, 0, none⟩), .string c.k, .int .i64 (x.cm a : Int), .slice r.a r.n r.c, .bool true] (W4).drew fun e w' => e = .returned .nilIface ∧ Hid (VnAt (Zn.but (W4).drew Fq) w' q (putM c.k (pvOf (x.cm a) c) (x.fr a c.t)) ∧ AlienV (W4).drew w')) := by
      have := vput_any (HPX.out.on (below_drew (W4))).vn HN.out.1 c (x.cm a) (by have := HN.out.2.1; omega) HN.out.2.2.1 (r := r) (fun e => (HRX.out e).on (below_drew _))
      rw [HGn.out] at this
      exact this
     have F2 : Hid (∀ V, Below (W4).heap.size (W4) V → V.cell? ⟨w.heap.size, 1, none⟩ = some (.string c.k)) := fun V hV => (HCX.out.on hV).cells.2.1
     have F8 : Hid (∀ V, Below (W4).heap.size (W4) V → V.cell? ⟨w.heap.size, 2, none⟩ = some (.slice r.a r.n r.c)) := fun V hV => (HCX.out.on hV).cells.2.2.1
     have F10 : Hid (∀ V, Below (W4).heap.size (W4) V → V.cell? ⟨w.heap.size, 3, none⟩ = some (.bool true)) := fun V hV => by
      have := (HCX.out.on hV).cells.2.2.2.1
      rwa [HGn.out] at this
     have F6 : Hid (∀ V, Below (W4).heap.size (W4) V → V.cell? ⟨gl, a * 3 + 1, none⟩ = some (.int .i64 (x.cm a : Int))) := fun V hV => by
      have hl : a < (L.set a ⟨L[a]'(HN.out.2.2.2.2.1) |>.a, (L[a]'(HN.out.2.2.2.2.1)).n, (L[a]'(HN.out.2.2.2.2.1)).c, (L[a]'(HN.out.2.2.2.2.1)).cm, (L[a]'(HN.out.2.2.2.2.1)).rw⟩).length := by rw [List.length_set]; exact HN.out.2.2.2.2.1
      have := ((HPX.out.on hV).lv.cells hl).2.1
      rw [List.getElem_set_self] at this
      rw [← (HD.out.lvl a HN.out.2.2.2.2.1).1]
      exact this
     refine wp_region_noPanic ?_
     refine region_ph (A := fun _ => True) (e1 := 11) (B := (fun V => Below (W4).heap.size (W4) V)) (e2 := 11) (C := (fun _ => True)) (by kernel_rfl) (⟨trivial, fun _ => below_drew (W4), fun _ => trivial⟩) (fun hSt => ?_)
     refine take_ph 0 (.pointer (some ⟨q, 0, none⟩)) [] rfl (by kernel_rfl) (fun _ _ _ h => h) (Or.inl ⟨by rfl, ?_⟩) hSt (fun hSn => ?_)
     · intro V _; go_simp
     clear hSt; rename Ph _ _ _ _ _ _ _ => hSt; simp only [Act.put, prw]
     refine take_ph 1 (.pointer (some ⟨w.heap.size, 1, none⟩)) [] rfl (by kernel_rfl) (fun _ _ _ h => h) (Or.inl ⟨by rfl, ?_⟩) hSt (fun hSn => ?_)
     · intro V _; go_simp
     clear hSt; rename Ph _ _ _ _ _ _ _ => hSt; simp only [Act.put, prw]
     refine take_ph 2 (.string c.k) [11] rfl (by kernel_rfl) (fun _ _ _ h => h) (Or.inl ⟨by rfl, ?_⟩) hSt (fun hSn => ?_)
     · rintro V ⟨_, hB, hC⟩; have hh := hB (by decide); have e0 := F2.out V hh; clear hB hC; go_simp
     clear hSt; rename Ph _ _ _ _ _ _ _ => hSt; simp only [Act.put, prw]
     refine take_ph 3 (.pointer (some ⟨gl, a * 3, none⟩)) [] rfl (by kernel_rfl) (fun _ _ _ h => h) (Or.inl ⟨by rfl, ?_⟩) hSt (fun hSn => ?_)
     · intro V _; go_simp
     clear hSt; rename Ph _ _ _ _ _ _ _ => hSt; simp only [Act.put, prw]
     refine take_ph 4 (.pointer (some ⟨gl, a * 3, none⟩)) [] rfl (by kernel_rfl) (fun _ _ _ h => h) (Or.inl ⟨by rfl, ?_⟩) hSt (fun hSn => ?_)
     · intro V _; go_simp
     clear hSt; rename Ph _ _ _ _ _ _ _ => hSt; simp only [Act.put, prw]
     refine take_ph 5 (.pointer (some ⟨gl, a * 3 + 1, none⟩)) [] rfl (by kernel_rfl) (fun _ _ _ h => h) (Or.inl ⟨by rfl, ?_⟩) hSt (fun hSn => ?_)
     · intro V _; go_simp
     clear hSt; rename Ph _ _ _ _ _ _ _ => hSt; simp only [Act.put, prw]
     refine take_ph 6 (.int .i64 (x.cm a : Int)) [11] rfl (by kernel_rfl) (fun _ _ _ h => h) (Or.inl ⟨by rfl, ?_⟩) hSt (fun hSn => ?_)
     · rintro V ⟨_, hB, hC⟩; have hh := hB (by decide); have e0 := F6.out V hh; clear hB hC; go_simp
     clear hSt; rename Ph _ _ _ _ _ _ _ => hSt; simp only [Act.put, prw]
     refine take_ph 7 (.pointer (some ⟨w.heap.size, 2, none⟩)) [] rfl (by kernel_rfl) (fun _ _ _ h => h) (Or.inl ⟨by rfl, ?_⟩) hSt (fun hSn => ?_)
     · intro V _; go_simp
     clear hSt; rename Ph _ _ _ _ _ _ _ => hSt; simp only [Act.put, prw]
     refine take_ph 8 (.slice r.a r.n r.c) [11] rfl (by kernel_rfl) (fun _ _ _ h => h) (Or.inl ⟨by rfl, ?_⟩) hSt (fun hSn => ?_)
     · rintro V ⟨_, hB, hC⟩; have hh := hB (by decide); have e0 := F8.out V hh; clear hB hC; go_simp
     clear hSt; rename Ph _ _ _ _ _ _ _ => hSt; simp only [Act.put, prw]
     refine take_ph 9 (.pointer (some ⟨w.heap.size, 3, none⟩)) [] rfl (by kernel_rfl) (fun _ _ _ h => h) (Or.inl ⟨by rfl, ?_⟩) hSt (fun hSn => ?_)
     · intro V _; go_simp
     clear hSt; rename Ph _ _ _ _ _ _ _ => hSt; simp only [Act.put, prw]
     refine take_ph 10 (.bool true) [11] rfl (by kernel_rfl) (fun _ _ _ h => h) (Or.inl ⟨by rfl, ?_⟩) hSt (fun hSn => ?_)
     · rintro V ⟨_, hB, hC⟩; have hh := hB (by decide); have e0 := F10.out V hh; clear hB hC; go_simp
     clear hSt; rename Ph _ _ _ _ _ _ _ => hSt; simp only [Act.put, prw]
     refine ready_call_ph 11 rfl (by kernel_rfl) (fun KK hK => ?_)
     go_simp
     go_wp2_with (first | (go_at_call 48; refine HPut.out.mono ?_; rintro e w9 ⟨rfl, hv9⟩))
     refine hK.out _ _ ?_ (fun hSn => ?_)
     · exact ⟨trivial, fun h => absurd (show true = false from h) (by decide), fun _ => trivial⟩
     clear hK KK hSt; rename Ph _ _ _ _ _ _ _ => hSt
     refine done_ph (by kernel_rfl) ?_ _
     clear hSt
     refine NoPanic.normal ?_
     have HE : Hid (Q (.returned (.tuple #[])) w9) := by
      rw [← HQ.out]
      exact put_end HD.out HN.out.2.2.2.2.1 c (HPX.out.on (below_drew _)) (by rw [HWas.out, HGn.out]; rw [(HD.out.lvl a HN.out.2.2.2.2.1).2.1]; rfl) hv9.out.1 hv9.out.2
     clear HPut F2 F6 F8 F10 hv9 HPX HCX HRX
     go_wp2_with fail
     exact bodyPost_ret (results_none rfl _ _ _) rfl HE.out
   | false =>
     go_upto_region 11 with fail
     obtain ⟨W5, hW5⟩ : ∃ X, X = W4.setCell ⟨gl, a * 3 + 2, none⟩ (.int .i64 (wrap64 (x.rw a + 1))) := ⟨_, rfl⟩
     rw [← hW5]
     have hby : ByK W4 W5 := by
      obtain ⟨cur, k2, _⟩ := HP4.out.lv.blk
      rw [hW5]; exact set_byK k2
     have HC5 : Hid (CgB W5 w.heap.size c.t c.k r c.gn) := by
      have hne : w.heap.size ≠ gl := fun e => by have := HD.out.lev.lt; omega
      rw [hW5]; exact (heap_far _ hne).trans HC4.out
     have HR5 : Hid (c.gn = false → RowAt W5 r c.tx) := fun e => (HR4.out e).byK hby
     have HP5 : Hid (PutAt w K gl cl m (L.set a ⟨(L[a]'(HN.out.2.2.2.2.1)).a, (L[a]'(HN.out.2.2.2.2.1)).n, (L[a]'(HN.out.2.2.2.2.1)).c, (L[a]'(HN.out.2.2.2.2.1)).cm, wrap64 (x.rw a + 1)⟩) pt Ft a c.t q (x.fr a c.t) D' Fq W5) := by rw [hW5]; exact HP4.out.set HN.out.2.2.2.2.1 _
     clear hW5 hby HP4 HC4 HR4 u0 f0 b3
     have HCX := HC5
     have HRX := HR5
     have HPX := Lib.hid HP5.out
     have HPut : Hid (Calls Tryz.prog 48 #[.pointer (some ⟨q, 0, none⟩), .string c.k, .int .i64 (x.cm a : Int), .slice r.a r.n r.c, .bool false] (W5).drew fun e w' => e = .returned .nilIface ∧ Hid (VnAt (Zn.but (W5).drew Fq) w' q (putM c.k (pvOf (x.cm a) c) (x.fr a c.t)) ∧ AlienV (W5).drew w')) := by
      have := vput_any (HPX.out.on (below_drew (W5))).vn HN.out.1 c (x.cm a) (by have := HN.out.2.1; omega) HN.out.2.2.1 (r := r) (fun e => (HRX.out e).on (below_drew _))
      rw [HGn.out] at this
      exact this
     have F2 : Hid (∀ V, Below (W5).heap.size (W5) V → V.cell? ⟨w.heap.size, 1, none⟩ = some (.string c.k)) := fun V hV => (HCX.out.on hV).cells.2.1
     have F8 : Hid (∀ V, Below (W5).heap.size (W5) V → V.cell? ⟨w.heap.size, 2, none⟩ = some (.slice r.a r.n r.c)) := fun V hV => (HCX.out.on hV).cells.2.2.1
     have F10 : Hid (∀ V, Below (W5).heap.size (W5) V → V.cell? ⟨w.heap.size, 3, none⟩ = some (.bool false)) := fun V hV => by
      have := (HCX.out.on hV).cells.2.2.2.1
      rwa [HGn.out] at this
     have F6 : Hid (∀ V, Below (W5).heap.size (W5) V → V.cell? ⟨gl, a * 3 + 1, none⟩ = some (.int .i64 (x.cm a : Int))) := fun V hV => by
      have hl : a < (L.set a ⟨L[a]'(HN.out.2.2.2.2.1) |>.a, (L[a]'(HN.out.2.2.2.2.1)).n, (L[a]'(HN.out.2.2.2.2.1)).c, (L[a]'(HN.out.2.2.2.2.1)).cm, wrap64 (x.rw a + 1)⟩).length := by rw [List.length_set]; exact HN.out.2.2.2.2.1
      have := ((HPX.out.on hV).lv.cells hl).2.1
      rw [List.getElem_set_self] at this
      rw [← (HD.out.lvl a HN.out.2.2.2.2.1).1]
      exact this
     refine wp_region_noPanic ?_
     refine region_ph (A := fun _ => True) (e1 := 11) (B := (fun V => Below (W5).heap.size (W5) V)) (e2 := 11) (C := (fun _ => True)) (by kernel_rfl) (⟨trivial, fun _ => below_drew (W5), fun _ => trivial⟩) (fun hSt => ?_)
     refine take_ph 0 (.pointer (some ⟨q, 0, none⟩)) [] rfl (by kernel_rfl) (fun _ _ _ h => h) (Or.inl ⟨by rfl, ?_⟩) hSt (fun hSn => ?_)
     · intro V _; go_simp
     clear hSt; rename Ph _ _ _ _ _ _ _ => hSt; simp only [Act.put, prw]
     refine take_ph 1 (.pointer (some ⟨w.heap.size, 1, none⟩)) [] rfl (by kernel_rfl) (fun _ _ _ h => h) (Or.inl ⟨by rfl, ?_⟩) hSt (fun hSn => ?_)
     · intro V _; go_simp
     clear hSt; rename Ph _ _ _ _ _ _ _ => hSt; simp only [Act.put, prw]
     refine take_ph 2 (.string c.k) [11] rfl (by kernel_rfl) (fun _ _ _ h => h) (Or.inl ⟨by rfl, ?_⟩) hSt (fun hSn => ?_)
     · rintro V ⟨_, hB, hC⟩; have hh := hB (by decide); have e0 := F2.out V hh; clear hB hC; go_simp
     clear hSt; rename Ph _ _ _ _ _ _ _ => hSt; simp only [Act.put, prw]
     refine take_ph 3 (.pointer (some ⟨gl, a * 3, none⟩)) [] rfl (by kernel_rfl) (fun _ _ _ h => h) (Or.inl ⟨by rfl, ?_⟩) hSt (fun hSn => ?_)
     · intro V _; go_simp
     clear hSt; rename Ph _ _ _ _ _ _ _ => hSt; simp only [Act.put, prw]
     refine take_ph 4 (.pointer (some ⟨gl, a * 3, none⟩)) [] rfl (by kernel_rfl) (fun _ _ _ h => h) (Or.inl ⟨by rfl, ?_⟩) hSt (fun hSn => ?_)
     · intro V _; go_simp
     clear hSt; rename Ph _ _ _ _ _ _ _ => hSt; simp only [Act.put, prw]
     refine take_ph 5 (.pointer (some ⟨gl, a * 3 + 1, none⟩)) [] rfl (by kernel_rfl) (fun _ _ _ h => h) (Or.inl ⟨by rfl, ?_⟩) hSt (fun hSn => ?_)
     · intro V _; go_simp
     clear hSt; rename Ph _ _ _ _ _ _ _ => hSt; simp only [Act.put, prw]
     refine take_ph 6 (.int .i64 (x.cm a : Int)) [11] rfl (by kernel_rfl) (fun _ _ _ h => h) (Or.inl ⟨by rfl, ?_⟩) hSt (fun hSn => ?_)
     · rintro V ⟨_, hB, hC⟩; have hh := hB (by decide); have e0 := F6.out V hh; clear hB hC; go_simp
     clear hSt; rename Ph _ _ _ _ _ _ _ => hSt; simp only [Act.put, prw]
     refine take_ph 7 (.pointer (some ⟨w.heap.size, 2, none⟩)) [] rfl (by kernel_rfl) (fun _ _ _ h => h) (Or.inl ⟨by rfl, ?_⟩) hSt (fun hSn => ?_)
     · intro V _; go_simp
     clear hSt; rename Ph _ _ _ _ _ _ _ => hSt; simp only [Act.put, prw]
     refine take_ph 8 (.slice r.a r.n r.c) [11] rfl (by kernel_rfl) (fun _ _ _ h => h) (Or.inl ⟨by rfl, ?_⟩) hSt (fun hSn => ?_)
     · rintro V ⟨_, hB, hC⟩; have hh := hB (by decide); have e0 := F8.out V hh; clear hB hC; go_simp
     clear hSt; rename Ph _ _ _ _ _ _ _ => hSt; simp only [Act.put, prw]
     refine take_ph 9 (.pointer (some ⟨w.heap.size, 3, none⟩)) [] rfl (by kernel_rfl) (fun _ _ _ h => h) (Or.inl ⟨by rfl, ?_⟩) hSt (fun hSn => ?_)
     · intro V _; go_simp
     clear hSt; rename Ph _ _ _ _ _ _ _ => hSt; simp only [Act.put, prw]
     refine take_ph 10 (.bool false) [11] rfl (by kernel_rfl) (fun _ _ _ h => h) (Or.inl ⟨by rfl, ?_⟩) hSt (fun hSn => ?_)
     · rintro V ⟨_, hB, hC⟩; have hh := hB (by decide); have e0 := F10.out V hh; clear hB hC; go_simp
     clear hSt; rename Ph _ _ _ _ _ _ _ => hSt; simp only [Act.put, prw]
     refine ready_call_ph 11 rfl (by kernel_rfl) (fun KK hK => ?_)
     go_simp
     go_wp2_with (first | (go_at_call 48; refine HPut.out.mono ?_; rintro e w9 ⟨rfl, hv9⟩))
     refine hK.out _ _ ?_ (fun hSn => ?_)
     · exact ⟨trivial, fun h => absurd (show true = false from h) (by decide), fun _ => trivial⟩
     clear hK KK hSt; rename Ph _ _ _ _ _ _ _ => hSt
     refine done_ph (by kernel_rfl) ?_ _
     clear hSt
     refine NoPanic.normal ?_
     have HE : Hid (Q (.returned (.tuple #[])) w9) := by
      rw [← HQ.out]
      exact put_end HD.out HN.out.2.2.2.2.1 c (HPX.out.on (below_drew _)) (by rw [HWas.out, HGn.out]; simp [rwPut, w64, wrap64]) hv9.out.1 hv9.out.2
     clear HPut F2 F6 F8 F10 hv9 HPX HCX HRX
     go_wp2_with fail
     exact bodyPost_ret (results_none rfl _ _ _) rfl HE.out
set_option maxRecDepth 100000 in
set_option maxHeartbeats 4000000 in
theorem fput_none {w : World} {S : Nat → Prop} {K ps : Nat} {bl : Nat → List Nat} {us : List Tb.TV} {x : FgM} {gl cl m BC : Nat} {ca : Option Addr} {cc : Nat} {L : List LvV} {D : DataW Unit} {pt : Nat → Nat → Option Nat} {Ft : Nat → Nat → Nat → Prop}
 (h : FgD w S K ps bl us x gl cl m BC ca cc L D pt Ft) {a : Nat} (ha : a < L.length) (c : Chg) (hfar : far a c.t) {r : Vl} (hr : c.gn = false → RowAt w r c.tx) (hn : nVer (x.fr a c.t) ≤ 900000) (h1 : 1 ≤ x.cm a) (hla : lastC (chM c.k (x.fr a c.t)) ≤ x.cm a) (hK : K + 1 ≤ 1000000) (hpt : pt a c.t = none) :
 Calls Tryz.prog 22 #[.pointer (some ⟨ps, 0, none⟩), .int .i64 a, .agg #[.int .i64 c.t, .string c.k, .slice r.a r.n r.c, .bool c.gn]] w (FPutTo w S K L.length ps bl us (putF a c x)) := by
 obtain ⟨W1, hW1⟩ : ∃ W1, w.alloc (.cells #[.int .i64 c.t, .string c.k, .slice r.a r.n r.c, .bool c.gn] 81) = W1 := ⟨_, rfl⟩
 have hB1 : Below w.heap.size w W1 := by rw [← hW1]; exact below_alloc _ _
 have hC1 : CgB W1 w.heap.size c.t c.k r c.gn := by rw [← hW1]; exact new_blk _ _
 have hs1 : W1.heap.size = w.heap.size + 1 := by rw [← hW1]; simp [go_sem]
 have HB1 := Lib.hid hB1
 have HC1 := Lib.hid hC1
 have HD := Lib.hid h
 have HR := Lib.hid hr
 have HN := Lib.hid (And.intro hn (And.intro h1 (And.intro hla (And.intro hK (And.intro ha hfar)))))
 obtain ⟨p0, _, p2⟩ := (h.fs.on hB1).cells
 obtain ⟨b0, b1, b2, b3, _⟩ := hC1.cells
 have hZ := below_alloc W1 (.cells #[.int .i64 0, .int .i64 0] 99)
 have hZ2 := below_alloc W1 (.cells #[.int .i64 (a : Int), .int .i64 (c.t : Int)] 99)
 obtain ⟨p0', _, _⟩ := ((h.fs.on hB1).on hZ).cells
 obtain ⟨p0'', _, _⟩ := ((h.fs.on hB1).on hZ2).cells
 obtain ⟨b0', _⟩ := (hC1.on hZ).cells
 have HZ2 := Lib.hid hZ2
 have HSp := Lib.hid (new_blk W1 (.cells #[.int .i64 (a : Int), .int .i64 (c.t : Int)] 99))
 have ha2 : (a : Int) < (L.length : Int) := by omega
 have ha3 := h.lev.le
 have HPt := Lib.hid hpt
 clear h hr hn h1 hla hK hfar hpt ha hZ hZ2 hB1 hC1
 generalize hQ : FPutTo w S K L.length ps bl us (putF a c x) = Q
 have HQ := Lib.hid hQ
 clear hQ
 go_enter Tryz.func22, Tryz.ntmps22
 go_upto_region 1 with fail
 try rw [hW1]
 go_region
 go_upto_region 2 with fail
 obtain ⟨W2, hW2⟩ : ∃ W2, W2 = (W1.alloc (.cells #[.int .i64 (a : Int), .int .i64 (c.t : Int)] 99)).drew := ⟨_, rfl⟩
 have hb2 : Below W1.heap.size W1 W2 := by rw [hW2]; exact below_step HZ2.out (below_drew _)
 have hsp2 : W2.heap[w.heap.size + 1]? = some (.cells #[.int .i64 (a : Int), .int .i64 (c.t : Int)] 99 (0, 0)) := by
  rw [hW2, ← hs1]; exact HSp.out
 rw [← hW2]
 clear p0 p0' p0'' b0 b0' b1 b2 b3 p2 hW2 HZ2 HSp
 have HB2 := Lib.hid (below_step HB1.out hb2)
 have HC2 := Lib.hid (HC1.out.on hb2)
 have HS2 := Lib.hid hsp2
 obtain ⟨_, _, p2⟩ := (HD.out.fs.on HB2.out).cells
 have s0 : W2.cell? ⟨w.heap.size + 1, 0, none⟩ = some (.int .i64 (a : Int)) := cell_of hsp2 rfl
 have s1 : W2.cell? ⟨w.heap.size + 1, 1, none⟩ = some (.int .i64 (c.t : Int)) := cell_of hsp2 rfl
 have hlk := look_pt (W := W2.drew) ((owns_keepF HD.out.map (HB2.out.block m HD.out.map.lt)).drew) HD.out.pts HN.out.2.2.2.2.2
 rw [HPt.out] at hlk
 unfold spV ptO at hlk
 clear hb2 hsp2 HB1 HC1 hW1 hs1
 go_region
 go_upto_region 4 with fail
 have HC3' := Lib.hid (HC2.out.on (below_drew W2))
 have HR3' : Hid (c.gn = false → RowAt W2.drew r c.tx) := fun e => (HR.out e).on (below_step HB2.out (below_drew W2))
 have HB3 := Lib.hid (below_step HB2.out (below_drew W2))
 have HS3 := Lib.hid (show W2.drew.heap[w.heap.size + 1]? = some (.cells #[.int .i64 (a : Int), .int .i64 (c.t : Int)] 99 (0, 0)) from HS2.out)
 generalize W2.drew = X2 at *
 clear hlk p2 s0 s1 HB2 HC2 HS2
 go_wp2_with (first | (go_at_call 47; refine (vnew_ _).mono ?_; rintro e Wn ⟨q, rfl, hv⟩; have HV0 := Lib.hid hv.out; clear hv) | fail)
 obtain ⟨hv1, hv2⟩ := HV0.out.1.allF
 have HVn := Lib.hid hv1
 have HB4 := Lib.hid (below_step HB3.out hv2)
 have HC4' := Lib.hid (HC3'.out.on hv2)
 have HR4' : Hid (c.gn = false → RowAt Wn r c.tx) := fun e => (HR3'.out e).on hv2
 have hsp := (hv2.block _ (blk_lt HS3.out)).trans HS3.out
 obtain ⟨_, _, p2⟩ := (HD.out.fs.on HB4.out).cells
 have s0 : Wn.cell? ⟨w.heap.size + 1, 0, none⟩ = some (.int .i64 (a : Int)) := cell_of hsp rfl
 have s1 : Wn.cell? ⟨w.heap.size + 1, 1, none⟩ = some (.int .i64 (c.t : Int)) := cell_of hsp rfl
 have HOw := Lib.hid ((owns_keepF HD.out.map (HB4.out.block m HD.out.map.lt)).drew)
 obtain ⟨Wm, hrun, hown, hturn⟩ := HOw.out.store (t := 87) keyedS Tryz.underlying87 (by have := HN.out.2.2.2.1; unfold maxLen; omega) (key_spot HN.out.2.2.2.2.2) (show ptE (.pointer (some ⟨q, 0, none⟩)) = some (.lit (.int .i64 q), []) from rfl)
 unfold spV at hrun
 have HOm := Lib.hid (And.intro hown hturn)
 have HBx := Lib.hid hv2
 clear hv1 hv2 hsp hown hturn
 go_region
 go_upto_region 6 with fail
 obtain ⟨hown, hturn⟩ := HOm.out
 have hg := hturn.grown
 have hne : ∀ k, k ≠ m → Wm.heap[k]? = Wn.heap[k]? := fun k hk => by
  by_cases hk2 : k < Wn.heap.size
  · exact hg.block k hk2 (fun e => hk (Option.some.inj e))
  · obtain ⟨es, cl, es', cl', e1, e2⟩ := hturn
    have hsz : Wm.heap.size = Wn.heap.size := by rw [e2]; exact Array.size_setIfInBounds ..
    rw [Array.getElem?_eq_none (by omega), Array.getElem?_eq_none (by omega)]
 have hfm : Frame (fun k => k = m) Wn Wm := ⟨hg.os, hg.tape, hg.output, hg.size, fun k _ hn => hne k hn⟩
 have hym : ByK Wn Wm := fun g cur hgc => hne g fun e => by
  obtain ⟨es, cl, k1, _⟩ := HOw.out
  rw [e] at hgc
  exact absurd (hgc.symm.trans k1) (by simp)
 have hml := HD.out.map.lt
 have hgl := HD.out.lev.lt
 have hgm : gl ≠ m := fun e => by obtain ⟨es, cl, k1, _⟩ := HD.out.map; obtain ⟨cur, k2, _⟩ := HD.out.lev.blk; rw [← e, k2] at k1; cases k1
 have HP : Hid (PutAt w K gl cl m L pt Ft a c.t q (x.fr a c.t) (D.put (spK a c.t) (.lit (.int .i64 q))) (fun k => X2.heap.size ≤ k) Wm) :=
  ⟨⟨hfm.os.trans HB4.out.os, hfm.tape.trans HB4.out.tape, hfm.output.trans HB4.out.output, Nat.le_trans HB4.out.size hfm.size, fun k hk hn => (hne k fun e => hn (.inr (.inl e))).trans (HB4.out.block k hk)⟩, (ByK.below HB4.out).trans hym, HD.out.lev.keep ((hne gl hgm).trans (HB4.out.block gl hgl)), hown, HD.out.pts.put HD.out.map.isMap HN.out.2.2.2.2.2 q, fun k hk => ⟨.inr (Nat.le_trans HB3.out.size hk), by have := HB3.out.size; omega, by have := HB3.out.size; omega⟩, by
   rw [((HD.out.fam a c.t).1 HPt.out).1]
   exact HVn.out.keep hfm (fun k _ hA e => by have := HB3.out.size; omega) hym⟩
 have HC3 : Hid (CgB Wm w.heap.size c.t c.k r c.gn) := (hne _ (by omega)).trans HC4'.out
 have HR3 : Hid (c.gn = false → RowAt Wm r c.tx) := fun e => (HR4'.out e).byK hym
 generalize (fun k => X2.heap.size ≤ k) = Fq at HP
 generalize D.put (spK a c.t) (.lit (.int .i64 q)) = D' at HP
 generalize Wm = W3 at *
 clear p2 s0 s1 HOw hrun HOm HBx hown hturn hg hne hfm hym hml hgl hgm HC3' HR3' HB3 HS3 HVn HB4 HC4' HR4' HV0
 have hmx : Tryz.prog.follows .mixedOrders = true := by kernel_rfl
 have F2 : Hid (∀ V, Below W3.heap.size W3 V → V.cell? ⟨w.heap.size, 1, none⟩ = some (.string c.k)) := fun V hV => (HC3.out.on hV).cells.2.1
 have F6 : Hid (∀ V, Below W3.heap.size W3 V → V.cell? ⟨gl, a * 3 + 1, none⟩ = some (.int .i64 (x.cm a : Int))) := fun V hV => by
  have := ((HP.out.on hV).lv.cells HN.out.2.2.2.2.1).2.1
  rw [(HD.out.lvl a HN.out.2.2.2.2.1).1] at this
  exact this
 have HG : Hid (Calls Tryz.prog 34 #[.pointer (some ⟨q, 0, none⟩), .string c.k, .int .i64 (x.cm a : Int)] W3.drew (GotTo W3.drew (rowC (chM c.k (x.fr a c.t)) (x.cm a)))) := by
  have hv := (HP.out.on (below_drew W3)).vn
  exact vget_ hv (by have := HN.out.1; omega) c.k _
 obtain ⟨ob, hob⟩ : ∃ ob, rowC (chM c.k (x.fr a c.t)) (x.cm a) = ob := ⟨_, rfl⟩
 rw [hob] at HG
 have HOb := Lib.hid hob
 clear hob
 refine wp_region_noPanic ?_
 refine region_ph (A := (fun V => Below W3.heap.size W3 V)) (e1 := 9999) (B := fun _ => True) (e2 := 9999) (C := fun _ => True) (by kernel_rfl) ⟨(below_drew W3), fun _ => trivial, fun _ => trivial⟩ (fun hSt => ?_)
 refine take_ph 0 (.pointer (some ⟨q, 0, none⟩)) [] rfl (by kernel_rfl) (fun _ _ _ h => h) (Or.inl ⟨by rfl, ?_⟩) hSt (fun hSn => ?_)
 · intro V _; go_simp
 clear hSt; rename Ph _ _ _ _ _ _ _ => hSt; simp only [Act.put, prw]
 refine take_ph 1 (.pointer (some ⟨w.heap.size, 1, none⟩)) [] rfl (by kernel_rfl) (fun _ _ _ h => h) (Or.inl ⟨by rfl, ?_⟩) hSt (fun hSn => ?_)
 · intro V _; go_simp
 clear hSt; rename Ph _ _ _ _ _ _ _ => hSt; simp only [Act.put, prw]
 refine take_ph 2 (.string c.k) [] rfl (by kernel_rfl) (fun _ _ _ h => h) (Or.inl ⟨by rfl, ?_⟩) hSt (fun hSn => ?_)
 · rintro V ⟨hh, _, _⟩; have e0 := F2.out V hh; clear hh; go_simp
 clear hSt; rename Ph _ _ _ _ _ _ _ => hSt; simp only [Act.put, prw]
 refine take_ph 3 (.pointer (some ⟨gl, a * 3, none⟩)) [] rfl (by kernel_rfl) (fun _ _ _ h => h) (Or.inl ⟨by rfl, ?_⟩) hSt (fun hSn => ?_)
 · intro V _; go_simp
 clear hSt; rename Ph _ _ _ _ _ _ _ => hSt; simp only [Act.put, prw]
 refine take_ph 4 (.pointer (some ⟨gl, a * 3, none⟩)) [] rfl (by kernel_rfl) (fun _ _ _ h => h) (Or.inl ⟨by rfl, ?_⟩) hSt (fun hSn => ?_)
 · intro V _; go_simp
 clear hSt; rename Ph _ _ _ _ _ _ _ => hSt; simp only [Act.put, prw]
 refine take_ph 5 (.pointer (some ⟨gl, a * 3 + 1, none⟩)) [] rfl (by kernel_rfl) (fun _ _ _ h => h) (Or.inl ⟨by rfl, ?_⟩) hSt (fun hSn => ?_)
 · intro V _; go_simp
 clear hSt; rename Ph _ _ _ _ _ _ _ => hSt; simp only [Act.put, prw]
 refine take_ph 6 (.int .i64 (x.cm a : Int)) [] rfl (by kernel_rfl) (fun _ _ _ h => h) (Or.inl ⟨by rfl, ?_⟩) hSt (fun hSn => ?_)
 · rintro V ⟨hh, _, _⟩; have e0 := F6.out V hh; clear hh; go_simp
 clear hSt; rename Ph _ _ _ _ _ _ _ => hSt; simp only [Act.put, prw]
 refine ready_call_ph 7 rfl (by kernel_rfl) (fun KK hK => ?_)
 go_simp
 go_wp2_with (first | (go_at_call 34; refine HG.out.mono ?_; rintro e W4 ⟨rr, rfl, hq1, hq2, hb4⟩))
 refine hK.out _ _ ?_ (fun hSn => ?_)
 · exact ⟨below_step (below_drew W3) hb4, fun _ => trivial, fun _ => trivial⟩
 clear hK KK hSt; rename Ph _ _ _ _ _ _ _ => hSt
 refine take_ph 8 (.tuple #[.slice rr.a rr.n rr.c, .bool ob.isSome]) [] rfl (by kernel_rfl) (fun _ _ _ h => h) (Or.inl ⟨by rfl, ?_⟩) hSt (fun hSn => ?_)
 · intro V _; go_simp
 clear hSt; rename Ph _ _ _ _ _ _ _ => hSt; simp only [Act.put, prw]
 refine take_ph 9 (.slice rr.a rr.n rr.c) [] rfl (by kernel_rfl) (fun _ _ _ h => h) (Or.inl ⟨by rfl, ?_⟩) hSt (fun hSn => ?_)
 · intro V _; go_simp
 clear hSt; rename Ph _ _ _ _ _ _ _ => hSt; simp only [Act.put, prw]
 refine take_ph 10 (.bool ob.isSome) [] rfl (by kernel_rfl) (fun _ _ _ h => h) (Or.inl ⟨by rfl, ?_⟩) hSt (fun hSn => ?_)
 · intro V _; go_simp
 clear hSt; rename Ph _ _ _ _ _ _ _ => hSt; simp only [Act.put, prw]
 refine take_ph 11 (.slice rr.a rr.n rr.c) [] rfl (by kernel_rfl) (fun _ _ _ h => h) (Or.inl ⟨by rfl, ?_⟩) hSt (fun hSn => ?_)
 · intro V _; go_simp
 clear hSt; rename Ph _ _ _ _ _ _ _ => hSt; simp only [Act.put, prw]
 refine take_ph 12 (.bool ob.isSome) [] rfl (by kernel_rfl) (fun _ _ _ h => h) (Or.inl ⟨by rfl, ?_⟩) hSt (fun hSn => ?_)
 · intro V _; go_simp
 clear hSt; rename Ph _ _ _ _ _ _ _ => hSt; simp only [Act.put, prw]
 refine done_ph (by kernel_rfl) ?_ _
 clear hSt
 refine NoPanic.normal ?_
 have HP4 := Lib.hid (HP.out.on (below_step (below_drew W3) hb4))
 have HC4 := Lib.hid (HC3.out.on (below_step (below_drew W3) hb4))
 have HR4 : Hid (c.gn = false → RowAt W4 r c.tx) := fun e => (HR3.out e).on (below_step (below_drew W3) hb4)
 clear HP HC3 HR3 F2 F6 HG hq1 hq2 hb4
 obtain ⟨was, hwas⟩ : ∃ was, ob.isSome = was := ⟨_, rfl⟩
 have HWas : Hid ((rowC (chM c.k (x.fr a c.t)) (x.cm a)).isSome = was) := by rw [HOb.out]; exact hwas
 rw [hwas]
 obtain ⟨gn, hgn⟩ : ∃ gn, c.gn = gn := ⟨_, rfl⟩
 have HGn := Lib.hid hgn
 have b3 := HC4.out.cells.2.2.2.1
 rw [hgn] at b3
 clear hwas hgn HOb
 have u0 := (HP4.out.lv.cells HN.out.2.2.2.2.1).2.2
 rw [(HD.out.lvl a HN.out.2.2.2.2.1).2.1] at u0
 have f0 := HP4.out.lv.free (a * 3 + 2)
 cases was with
 | true =>
   go_upto_region 9 with fail
   obtain ⟨W5, hW5⟩ : ∃ X, X = W4.setCell ⟨gl, a * 3 + 2, none⟩ (.int .i64 (wrap64 (x.rw a - 1))) := ⟨_, rfl⟩
   rw [← hW5]
   have hby : ByK W4 W5 := by
    obtain ⟨cur, k2, _⟩ := HP4.out.lv.blk
    rw [hW5]; exact set_byK k2
   have HC5 : Hid (CgB W5 w.heap.size c.t c.k r c.gn) := by
    have hne : w.heap.size ≠ gl := fun e => by have := HD.out.lev.lt; omega
    rw [hW5]; exact (heap_far _ hne).trans HC4.out
   have HR5 : Hid (c.gn = false → RowAt W5 r c.tx) := fun e => (HR4.out e).byK hby
   have HP5 : Hid (PutAt w K gl cl m (L.set a ⟨(L[a]'(HN.out.2.2.2.2.1)).a, (L[a]'(HN.out.2.2.2.2.1)).n, (L[a]'(HN.out.2.2.2.2.1)).c, (L[a]'(HN.out.2.2.2.2.1)).cm, wrap64 (x.rw a - 1)⟩) pt Ft a c.t q (x.fr a c.t) D' Fq W5) := by rw [hW5]; exact HP4.out.set HN.out.2.2.2.2.1 _
   clear hW5 hby HP4 HC4 HR4 u0 f0 b3
   have b3 := HC5.out.cells.2.2.2.1
   rw [HGn.out] at b3
   have u0 := (HP5.out.lv.cells (by rw [List.length_set]; exact HN.out.2.2.2.2.1 : a < (L.set a _).length)).2.2
   rw [List.getElem_set_self] at u0
   have f0 := HP5.out.lv.free (a * 3 + 2)
   cases gn with
   | true =>
     go_upto_region 11 with fail
     clear u0 f0 b3
     have HCX := HC5
     have HRX := HR5
     have HPX := Lib.hid HP5.out
     have HPut : Hid (Calls Tryz.prog 48 #[.pointer (some ⟨q, 0, none⟩), .string c.k, .int .i64 (x.cm a : Int), .slice r.a r.n r.c, .bool true] (W5).drew fun e w' => e = .returned .nilIface ∧ Hid (VnAt (Zn.but (W5).drew Fq) w' q (putM c.k (pvOf (x.cm a) c) (x.fr a c.t)) ∧ AlienV (W5).drew w')) := by
      have := vput_any (HPX.out.on (below_drew (W5))).vn HN.out.1 c (x.cm a) (by have := HN.out.2.1; omega) HN.out.2.2.1 (r := r) (fun e => (HRX.out e).on (below_drew _))
      rw [HGn.out] at this
      exact this
     have F2 : Hid (∀ V, Below (W5).heap.size (W5) V → V.cell? ⟨w.heap.size, 1, none⟩ = some (.string c.k)) := fun V hV => (HCX.out.on hV).cells.2.1
     have F8 : Hid (∀ V, Below (W5).heap.size (W5) V → V.cell? ⟨w.heap.size, 2, none⟩ = some (.slice r.a r.n r.c)) := fun V hV => (HCX.out.on hV).cells.2.2.1
     have F10 : Hid (∀ V, Below (W5).heap.size (W5) V → V.cell? ⟨w.heap.size, 3, none⟩ = some (.bool true)) := fun V hV => by
      have := (HCX.out.on hV).cells.2.2.2.1
      rwa [HGn.out] at this
     have F6 : Hid (∀ V, Below (W5).heap.size (W5) V → V.cell? ⟨gl, a * 3 + 1, none⟩ = some (.int .i64 (x.cm a : Int))) := fun V hV => by
      have hl : a < (L.set a ⟨L[a]'(HN.out.2.2.2.2.1) |>.a, (L[a]'(HN.out.2.2.2.2.1)).n, (L[a]'(HN.out.2.2.2.2.1)).c, (L[a]'(HN.out.2.2.2.2.1)).cm, wrap64 (x.rw a - 1)⟩).length := by rw [List.length_set]; exact HN.out.2.2.2.2.1
      have := ((HPX.out.on hV).lv.cells hl).2.1
      rw [List.getElem_set_self] at this
      rw [← (HD.out.lvl a HN.out.2.2.2.2.1).1]
      exact this
     refine wp_region_noPanic ?_
     refine region_ph (A := fun _ => True) (e1 := 11) (B := (fun V => Below (W5).heap.size (W5) V)) (e2 := 11) (C := (fun _ => True)) (by kernel_rfl) (⟨trivial, fun _ => below_drew (W5), fun _ => trivial⟩) (fun hSt => ?_)
     refine take_ph 0 (.pointer (some ⟨q, 0, none⟩)) [] rfl (by kernel_rfl) (fun _ _ _ h => h) (Or.inl ⟨by rfl, ?_⟩) hSt (fun hSn => ?_)
     · intro V _; go_simp
     clear hSt; rename Ph _ _ _ _ _ _ _ => hSt; simp only [Act.put, prw]
     refine take_ph 1 (.pointer (some ⟨w.heap.size, 1, none⟩)) [] rfl (by kernel_rfl) (fun _ _ _ h => h) (Or.inl ⟨by rfl, ?_⟩) hSt (fun hSn => ?_)
     · intro V _; go_simp
     clear hSt; rename Ph _ _ _ _ _ _ _ => hSt; simp only [Act.put, prw]
     refine take_ph 2 (.string c.k) [11] rfl (by kernel_rfl) (fun _ _ _ h => h) (Or.inl ⟨by rfl, ?_⟩) hSt (fun hSn => ?_)
     · rintro V ⟨_, hB, hC⟩; have hh := hB (by decide); have e0 := F2.out V hh; clear hB hC; go_simp
     clear hSt; rename Ph _ _ _ _ _ _ _ => hSt; simp only [Act.put, prw]
     refine take_ph 3 (.pointer (some ⟨gl, a * 3, none⟩)) [] rfl (by kernel_rfl) (fun _ _ _ h => h) (Or.inl ⟨by rfl, ?_⟩) hSt (fun hSn => ?_)
     · intro V _; go_simp
     clear hSt; rename Ph _ _ _ _ _ _ _ => hSt; simp only [Act.put, prw]
     refine take_ph 4 (.pointer (some ⟨gl, a * 3, none⟩)) [] rfl (by kernel_rfl) (fun _ _ _ h => h) (Or.inl ⟨by rfl, ?_⟩) hSt (fun hSn => ?_)
     · intro V _; go_simp
     clear hSt; rename Ph _ _ _ _ _ _ _ => hSt; simp only [Act.put, prw]
     refine take_ph 5 (.pointer (some ⟨gl, a * 3 + 1, none⟩)) [] rfl (by kernel_rfl) (fun _ _ _ h => h) (Or.inl ⟨by rfl, ?_⟩) hSt (fun hSn => ?_)
     · intro V _; go_simp
     clear hSt; rename Ph _ _ _ _ _ _ _ => hSt; simp only [Act.put, prw]
     refine take_ph 6 (.int .i64 (x.cm a : Int)) [11] rfl (by kernel_rfl) (fun _ _ _ h => h) (Or.inl ⟨by rfl, ?_⟩) hSt (fun hSn => ?_)
     · rintro V ⟨_, hB, hC⟩; have hh := hB (by decide); have e0 := F6.out V hh; clear hB hC; go_simp
     clear hSt; rename Ph _ _ _ _ _ _ _ => hSt; simp only [Act.put, prw]
     refine take_ph 7 (.pointer (some ⟨w.heap.size, 2, none⟩)) [] rfl (by kernel_rfl) (fun _ _ _ h => h) (Or.inl ⟨by rfl, ?_⟩) hSt (fun hSn => ?_)
     · intro V _; go_simp
     clear hSt; rename Ph _ _ _ _ _ _ _ => hSt; simp only [Act.put, prw]
     refine take_ph 8 (.slice r.a r.n r.c) [11] rfl (by kernel_rfl) (fun _ _ _ h => h) (Or.inl ⟨by rfl, ?_⟩) hSt (fun hSn => ?_)
     · rintro V ⟨_, hB, hC⟩; have hh := hB (by decide); have e0 := F8.out V hh; clear hB hC; go_simp
     clear hSt; rename Ph _ _ _ _ _ _ _ => hSt; simp only [Act.put, prw]
     refine take_ph 9 (.pointer (some ⟨w.heap.size, 3, none⟩)) [] rfl (by kernel_rfl) (fun _ _ _ h => h) (Or.inl ⟨by rfl, ?_⟩) hSt (fun hSn => ?_)
     · intro V _; go_simp
     clear hSt; rename Ph _ _ _ _ _ _ _ => hSt; simp only [Act.put, prw]
     refine take_ph 10 (.bool true) [11] rfl (by kernel_rfl) (fun _ _ _ h => h) (Or.inl ⟨by rfl, ?_⟩) hSt (fun hSn => ?_)
     · rintro V ⟨_, hB, hC⟩; have hh := hB (by decide); have e0 := F10.out V hh; clear hB hC; go_simp
     clear hSt; rename Ph _ _ _ _ _ _ _ => hSt; simp only [Act.put, prw]
     refine ready_call_ph 11 rfl (by kernel_rfl) (fun KK hK => ?_)
     go_simp
     go_wp2_with (first | (go_at_call 48; refine HPut.out.mono ?_; rintro e w9 ⟨rfl, hv9⟩))
     refine hK.out _ _ ?_ (fun hSn => ?_)
     · exact ⟨trivial, fun h => absurd (show true = false from h) (by decide), fun _ => trivial⟩
     clear hK KK hSt; rename Ph _ _ _ _ _ _ _ => hSt
     refine done_ph (by kernel_rfl) ?_ _
     clear hSt
     refine NoPanic.normal ?_
     have HE : Hid (Q (.returned (.tuple #[])) w9) := by
      rw [← HQ.out]
      exact put_end HD.out HN.out.2.2.2.2.1 c (HPX.out.on (below_drew _)) (by rw [HWas.out, HGn.out]; simp [rwPut, w64, wrap64]) hv9.out.1 hv9.out.2
     clear HPut F2 F6 F8 F10 hv9 HPX HCX HRX
     go_wp2_with fail
     exact bodyPost_ret (results_none rfl _ _ _) rfl HE.out
   | false =>
     go_upto_region 11 with fail
     obtain ⟨W6, hW6⟩ : ∃ X, X = W5.setCell ⟨gl, a * 3 + 2, none⟩ (.int .i64 (wrap64 (wrap64 (x.rw a - 1) + 1))) := ⟨_, rfl⟩
     rw [← hW6]
     have hby : ByK W5 W6 := by
      obtain ⟨cur, k2, _⟩ := HP5.out.lv.blk
      rw [hW6]; exact set_byK k2
     have HC6 : Hid (CgB W6 w.heap.size c.t c.k r c.gn) := by
      have hne : w.heap.size ≠ gl := fun e => by have := HD.out.lev.lt; omega
      rw [hW6]; exact (heap_far _ hne).trans HC5.out
     have HR6 : Hid (c.gn = false → RowAt W6 r c.tx) := fun e => (HR5.out e).byK hby
     have HP6 : Hid (PutAt w K gl cl m (L.set a ⟨(L[a]'(HN.out.2.2.2.2.1)).a, (L[a]'(HN.out.2.2.2.2.1)).n, (L[a]'(HN.out.2.2.2.2.1)).c, (L[a]'(HN.out.2.2.2.2.1)).cm, wrap64 (wrap64 (x.rw a - 1) + 1)⟩) pt Ft a c.t q (x.fr a c.t) D' Fq W6) := by rw [hW6]; exact HP5.out.set2 HN.out.2.2.2.2.1 _
     clear hW6 hby HP5 HC5 HR5 u0 f0 b3
     have HCX := HC6
     have HRX := HR6
     have HPX := Lib.hid HP6.out
     have HPut : Hid (Calls Tryz.prog 48 #[.pointer (some ⟨q, 0, none⟩), .string c.k, .int .i64 (x.cm a : Int), .slice r.a r.n r.c, .bool false] (W6).drew fun e w' => e = .returned .nilIface ∧ Hid (VnAt (Zn.but (W6).drew Fq) w' q (putM c.k (pvOf (x.cm a) c) (x.fr a c.t)) ∧ AlienV (W6).drew w')) := by
      have := vput_any (HPX.out.on (below_drew (W6))).vn HN.out.1 c (x.cm a) (by have := HN.out.2.1; omega) HN.out.2.2.1 (r := r) (fun e => (HRX.out e).on (below_drew _))
      rw [HGn.out] at this
      exact this
     have F2 : Hid (∀ V, Below (W6).heap.size (W6) V → V.cell? ⟨w.heap.size, 1, none⟩ = some (.string c.k)) := fun V hV => (HCX.out.on hV).cells.2.1
     have F8 : Hid (∀ V, Below (W6).heap.size (W6) V → V.cell? ⟨w.heap.size, 2, none⟩ = some (.slice r.a r.n r.c)) := fun V hV => (HCX.out.on hV).cells.2.2.1
     have F10 : Hid (∀ V, Below (W6).heap.size (W6) V → V.cell? ⟨w.heap.size, 3, none⟩ = some (.bool false)) := fun V hV => by
      have := (HCX.out.on hV).cells.2.2.2.1
      rwa [HGn.out] at this
     have F6 : Hid (∀ V, Below (W6).heap.size (W6) V → V.cell? ⟨gl, a * 3 + 1, none⟩ = some (.int .i64 (x.cm a : Int))) := fun V hV => by
      have hl : a < (L.set a ⟨L[a]'(HN.out.2.2.2.2.1) |>.a, (L[a]'(HN.out.2.2.2.2.1)).n, (L[a]'(HN.out.2.2.2.2.1)).c, (L[a]'(HN.out.2.2.2.2.1)).cm, wrap64 (wrap64 (x.rw a - 1) + 1)⟩).length := by rw [List.length_set]; exact HN.out.2.2.2.2.1
      have := ((HPX.out.on hV).lv.cells hl).2.1
      rw [List.getElem_set_self] at this
      rw [← (HD.out.lvl a HN.out.2.2.2.2.1).1]
      exact this
     refine wp_region_noPanic ?_
     refine region_ph (A := fun _ => True) (e1 := 11) (B := (fun V => Below (W6).heap.size (W6) V)) (e2 := 11) (C := (fun _ => True)) (by kernel_rfl) (⟨trivial, fun _ => below_drew (W6), fun _ => trivial⟩) (fun hSt => ?_)
     refine take_ph 0 (.pointer (some ⟨q, 0, none⟩)) [] rfl (by kernel_rfl) (fun _ _ _ h => h) (Or.inl ⟨by rfl, ?_⟩) hSt (fun hSn => ?_)
     · intro V _; go_simp
     clear hSt; rename Ph _ _ _ _ _ _ _ => hSt; simp only [Act.put, prw]
     refine take_ph 1 (.pointer (some ⟨w.heap.size, 1, none⟩)) [] rfl (by kernel_rfl) (fun _ _ _ h => h) (Or.inl ⟨by rfl, ?_⟩) hSt (fun hSn => ?_)
     · intro V _; go_simp
     clear hSt; rename Ph _ _ _ _ _ _ _ => hSt; simp only [Act.put, prw]
     refine take_ph 2 (.string c.k) [11] rfl (by kernel_rfl) (fun _ _ _ h => h) (Or.inl ⟨by rfl, ?_⟩) hSt (fun hSn => ?_)
     · rintro V ⟨_, hB, hC⟩; have hh := hB (by decide); have e0 := F2.out V hh; clear hB hC; go_simp
     clear hSt; rename Ph _ _ _ _ _ _ _ => hSt; simp only [Act.put, prw]
     refine take_ph 3 (.pointer (some ⟨gl, a * 3, none⟩)) [] rfl (by kernel_rfl) (fun _ _ _ h => h) (Or.inl ⟨by rfl, ?_⟩) hSt (fun hSn => ?_)
     · intro V _; go_simp
     clear hSt; rename Ph _ _ _ _ _ _ _ => hSt; simp only [Act.put, prw]
     refine take_ph 4 (.pointer (some ⟨gl, a * 3, none⟩)) [] rfl (by kernel_rfl) (fun _ _ _ h => h) (Or.inl ⟨by rfl, ?_⟩) hSt (fun hSn => ?_)
     · intro V _; go_simp
     clear hSt; rename Ph _ _ _ _ _ _ _ => hSt; simp only [Act.put, prw]
     refine take_ph 5 (.pointer (some ⟨gl, a * 3 + 1, none⟩)) [] rfl (by kernel_rfl) (fun _ _ _ h => h) (Or.inl ⟨by rfl, ?_⟩) hSt (fun hSn => ?_)
     · intro V _; go_simp
     clear hSt; rename Ph _ _ _ _ _ _ _ => hSt; simp only [Act.put, prw]
     refine take_ph 6 (.int .i64 (x.cm a : Int)) [11] rfl (by kernel_rfl) (fun _ _ _ h => h) (Or.inl ⟨by rfl, ?_⟩) hSt (fun hSn => ?_)
     · rintro V ⟨_, hB, hC⟩; have hh := hB (by decide); have e0 := F6.out V hh; clear hB hC; go_simp
     clear hSt; rename Ph _ _ _ _ _ _ _ => hSt; simp only [Act.put, prw]
     refine take_ph 7 (.pointer (some ⟨w.heap.size, 2, none⟩)) [] rfl (by kernel_rfl) (fun _ _ _ h => h) (Or.inl ⟨by rfl, ?_⟩) hSt (fun hSn => ?_)
     · intro V _; go_simp
     clear hSt; rename Ph _ _ _ _ _ _ _ => hSt; simp only [Act.put, prw]
     refine take_ph 8 (.slice r.a r.n r.c) [11] rfl (by kernel_rfl) (fun _ _ _ h => h) (Or.inl ⟨by rfl, ?_⟩) hSt (fun hSn => ?_)
     · rintro V ⟨_, hB, hC⟩; have hh := hB (by decide); have e0 := F8.out V hh; clear hB hC; go_simp
     clear hSt; rename Ph _ _ _ _ _ _ _ => hSt; simp only [Act.put, prw]
     refine take_ph 9 (.pointer (some ⟨w.heap.size, 3, none⟩)) [] rfl (by kernel_rfl) (fun _ _ _ h => h) (Or.inl ⟨by rfl, ?_⟩) hSt (fun hSn => ?_)
     · intro V _; go_simp
     clear hSt; rename Ph _ _ _ _ _ _ _ => hSt; simp only [Act.put, prw]
     refine take_ph 10 (.bool false) [11] rfl (by kernel_rfl) (fun _ _ _ h => h) (Or.inl ⟨by rfl, ?_⟩) hSt (fun hSn => ?_)
     · rintro V ⟨_, hB, hC⟩; have hh := hB (by decide); have e0 := F10.out V hh; clear hB hC; go_simp
     clear hSt; rename Ph _ _ _ _ _ _ _ => hSt; simp only [Act.put, prw]
     refine ready_call_ph 11 rfl (by kernel_rfl) (fun KK hK => ?_)
     go_simp
     go_wp2_with (first | (go_at_call 48; refine HPut.out.mono ?_; rintro e w9 ⟨rfl, hv9⟩))
     refine hK.out _ _ ?_ (fun hSn => ?_)
     · exact ⟨trivial, fun h => absurd (show true = false from h) (by decide), fun _ => trivial⟩
     clear hK KK hSt; rename Ph _ _ _ _ _ _ _ => hSt
     refine done_ph (by kernel_rfl) ?_ _
     clear hSt
     refine NoPanic.normal ?_
     have HE : Hid (Q (.returned (.tuple #[])) w9) := by
      rw [← HQ.out]
      exact put_end HD.out HN.out.2.2.2.2.1 c (HPX.out.on (below_drew _)) (by rw [HWas.out, HGn.out]; simp [rwPut, w64, wrap64]) hv9.out.1 hv9.out.2
     clear HPut F2 F6 F8 F10 hv9 HPX HCX HRX
     go_wp2_with fail
     exact bodyPost_ret (results_none rfl _ _ _) rfl HE.out
 | false =>
   cases gn with
   | true =>
     go_upto_region 11 with fail
     clear u0 f0 b3
     have HCX := HC4
     have HRX := HR4
     have HPX := Lib.hid (HP4.out.same HN.out.2.2.2.2.1)
     have HPut : Hid (Calls Tryz.prog 48 #[.pointer (some ⟨q, 0, none⟩), .string c.k, .int .i64 (x.cm a : Int), .slice r.a r.n r.c, .bool true] (W4).drew fun e w' => e = .returned .nilIface ∧ Hid (VnAt (Zn.but (W4).drew Fq) w' q (putM c.k (pvOf (x.cm a) c) (x.fr a c.t)) ∧ AlienV (W4).drew w')) := by
      have := vput_any (HPX.out.on (below_drew (W4))).vn HN.out.1 c (x.cm a) (by have := HN.out.2.1; omega) HN.out.2.2.1 (r := r) (fun e => (HRX.out e).on (below_drew _))
      rw [HGn.out] at this
      exact this
     have F2 : Hid (∀ V, Below (W4).heap.size (W4) V → V.cell? ⟨w.heap.size, 1, none⟩ = some (.string c.k)) := fun V hV => (HCX.out.on hV).cells.2.1
     have F8 : Hid (∀ V, Below (W4).heap.size (W4) V → V.cell? ⟨w.heap.size, 2, none⟩ = some (.slice r.a r.n r.c)) := fun V hV => (HCX.out.on hV).cells.2.2.1
     have F10 : Hid (∀ V, Below (W4).heap.size (W4) V → V.cell? ⟨w.heap.size, 3, none⟩ = some (.bool true)) := fun V hV => by
      have := (HCX.out.on hV).cells.2.2.2.1
      rwa [HGn.out] at this
     have F6 : Hid (∀ V, Below (W4).heap.size (W4) V → V.cell? ⟨gl, a * 3 + 1, none⟩ = some (.int .i64 (x.cm a : Int))) := fun V hV => by
      have hl : a < (L.set a ⟨L[a]'(HN.out.2.2.2.2.1) |>.a, (L[a]'(HN.out.2.2.2.2.1)).n, (L[a]'(HN.out.2.2.2.2.1)).c, (L[a]'(HN.out.2.2.2.2.1)).cm, (L[a]'(HN.out.2.2.2.2.1)).rw⟩).length := by rw [List.length_set]; exact HN.out.2.2.2.2.1
      have := ((HPX.out.on hV).lv.cells hl).2.1
      rw [List.getElem_set_self] at this
      rw [← (HD.out.lvl a HN.out.2.2.2.2.1).1]
      exact this
     refine wp_region_noPanic ?_
     refine region_ph (A := fun _ => True) (e1 := 11) (B := (fun V => Below (W4).heap.size (W4) V)) (e2 := 11) (C := (fun _ => True)) (by kernel_rfl) (⟨trivial, fun _ => below_drew (W4), fun _ => trivial⟩) (fun hSt => ?_)
     refine take_ph 0 (.pointer (some ⟨q, 0, none⟩)) [] rfl (by kernel_rfl) (fun _ _ _ h => h) (Or.inl ⟨by rfl, ?_⟩) hSt (fun hSn => ?_)
     · intro V _; go_simp
     clear hSt; rename Ph _ _ _ _ _ _ _ => hSt; simp only [Act.put, prw]
     refine take_ph 1 (.pointer (some ⟨w.heap.size, 1, none⟩)) [] rfl (by kernel_rfl) (fun _ _ _ h => h) (Or.inl ⟨by rfl, ?_⟩) hSt (fun hSn => ?_)
     · intro V _; go_simp
     clear hSt; rename Ph _ _ _ _ _ _ _ => hSt; simp only [Act.put, prw]
     refine take_ph 2 (.string c.k) [11] rfl (by kernel_rfl) (fun _ _ _ h => h) (Or.inl ⟨by rfl, ?_⟩) hSt (fun hSn => ?_)
     · rintro V ⟨_, hB, hC⟩; have hh := hB (by decide); have e0 := F2.out V hh; clear hB hC; go_simp
     clear hSt; rename Ph _ _ _ _ _ _ _ => hSt; simp only [Act.put, prw]
     refine take_ph 3 (.pointer (some ⟨gl, a * 3, none⟩)) [] rfl (by kernel_rfl) (fun _ _ _ h => h) (Or.inl ⟨by rfl, ?_⟩) hSt (fun hSn => ?_)
     · intro V _; go_simp
     clear hSt; rename Ph _ _ _ _ _ _ _ => hSt; simp only [Act.put, prw]
     refine take_ph 4 (.pointer (some ⟨gl, a * 3, none⟩)) [] rfl (by kernel_rfl) (fun _ _ _ h => h) (Or.inl ⟨by rfl, ?_⟩) hSt (fun hSn => ?_)
     · intro V _; go_simp
     clear hSt; rename Ph _ _ _ _ _ _ _ => hSt; simp only [Act.put, prw]
     refine take_ph 5 (.pointer (some ⟨gl, a * 3 + 1, none⟩)) [] rfl (by kernel_rfl) (fun _ _ _ h => h) (Or.inl ⟨by rfl, ?_⟩) hSt (fun hSn => ?_)
     · intro V _; go_simp
     clear hSt; rename Ph _ _ _ _ _ _ _ => hSt; simp only [Act.put, prw]
     refine take_ph 6 (.int .i64 (x.cm a : Int)) [11] rfl (by kernel_rfl) (fun _ _ _ h => h) (Or.inl ⟨by rfl, ?_⟩) hSt (fun hSn => ?_)
     · rintro V ⟨_, hB, hC⟩; have hh := hB (by decide); have e0 := F6.out V hh; clear hB hC; go_simp
     clear hSt; rename Ph _ _ _ _ _ _ _ => hSt; simp only [Act.put, prw]
     refine take_ph 7 (.pointer (some ⟨w.heap.size, 2, none⟩)) [] rfl (by kernel_rfl) (fun _ _ _ h => h) (Or.inl ⟨by rfl, ?_⟩) hSt (fun hSn => ?_)
     · intro V _; go_simp
     clear hSt; rename Ph _ _ _ _ _ _ _ => hSt; simp only [Act.put, prw]
     refine take_ph 8 (.slice r.a r.n r.c) [11] rfl (by kernel_rfl) (fun _ _ _ h => h) (Or.inl ⟨by rfl, ?_⟩) hSt (fun hSn => ?_)
     · rintro V ⟨_, hB, hC⟩; have hh := hB (by decide); have e0 := F8.out V hh; clear hB hC; go_simp
     clear hSt; rename Ph _ _ _ _ _ _ _ => hSt; simp only [Act.put, prw]
     refine take_ph 9 (.pointer (some ⟨w.heap.size, 3, none⟩)) [] rfl (by kernel_rfl) (fun _ _ _ h => h) (Or.inl ⟨by rfl, ?_⟩) hSt (fun hSn => ?_)
     · intro V _; go_simp
     clear hSt; rename Ph _ _ _ _ _ _ _ => hSt; simp only [Act.put, prw]
     refine take_ph 10 (.bool true) [11] rfl (by kernel_rfl) (fun _ _ _ h => h) (Or.inl ⟨by rfl, ?_⟩) hSt (fun hSn => ?_)
     · rintro V ⟨_, hB, hC⟩; have hh := hB (by decide); have e0 := F10.out V hh; clear hB hC; go_simp
     clear hSt; rename Ph _ _ _ _ _ _ _ => hSt; simp only [Act.put, prw]
     refine ready_call_ph 11 rfl (by kernel_rfl) (fun KK hK => ?_)
     go_simp
     go_wp2_with (first | (go_at_call 48; refine HPut.out.mono ?_; rintro e w9 ⟨rfl, hv9⟩))
     refine hK.out _ _ ?_ (fun hSn => ?_)
     · exact ⟨trivial, fun h => absurd (show true = false from h) (by decide), fun _ => trivial⟩
     clear hK KK hSt; rename Ph _ _ _ _ _ _ _ => hSt
     refine done_ph (by kernel_rfl) ?_ _
     clear hSt
     refine NoPanic.normal ?_
     have HE : Hid (Q (.returned (.tuple #[])) w9) := by
      rw [← HQ.out]
      exact put_end HD.out HN.out.2.2.2.2.1 c (HPX.out.on (below_drew _)) (by rw [HWas.out, HGn.out]; rw [(HD.out.lvl a HN.out.2.2.2.2.1).2.1]; rfl) hv9.out.1 hv9.out.2
     clear HPut F2 F6 F8 F10 hv9 HPX HCX HRX
     go_wp2_with fail
     exact bodyPost_ret (results_none rfl _ _ _) rfl HE.out
   | false =>
     go_upto_region 11 with fail
     obtain ⟨W5, hW5⟩ : ∃ X, X = W4.setCell ⟨gl, a * 3 + 2, none⟩ (.int .i64 (wrap64 (x.rw a + 1))) := ⟨_, rfl⟩
     rw [← hW5]
     have hby : ByK W4 W5 := by
      obtain ⟨cur, k2, _⟩ := HP4.out.lv.blk
      rw [hW5]; exact set_byK k2
     have HC5 : Hid (CgB W5 w.heap.size c.t c.k r c.gn) := by
      have hne : w.heap.size ≠ gl := fun e => by have := HD.out.lev.lt; omega
      rw [hW5]; exact (heap_far _ hne).trans HC4.out
     have HR5 : Hid (c.gn = false → RowAt W5 r c.tx) := fun e => (HR4.out e).byK hby
     have HP5 : Hid (PutAt w K gl cl m (L.set a ⟨(L[a]'(HN.out.2.2.2.2.1)).a, (L[a]'(HN.out.2.2.2.2.1)).n, (L[a]'(HN.out.2.2.2.2.1)).c, (L[a]'(HN.out.2.2.2.2.1)).cm, wrap64 (x.rw a + 1)⟩) pt Ft a c.t q (x.fr a c.t) D' Fq W5) := by rw [hW5]; exact HP4.out.set HN.out.2.2.2.2.1 _
     clear hW5 hby HP4 HC4 HR4 u0 f0 b3
     have HCX := HC5
     have HRX := HR5
     have HPX := Lib.hid HP5.out
     have HPut : Hid (Calls Tryz.prog 48 #[.pointer (some ⟨q, 0, none⟩), .string c.k, .int .i64 (x.cm a : Int), .slice r.a r.n r.c, .bool false] (W5).drew fun e w' => e = .returned .nilIface ∧ Hid (VnAt (Zn.but (W5).drew Fq) w' q (putM c.k (pvOf (x.cm a) c) (x.fr a c.t)) ∧ AlienV (W5).drew w')) := by
      have := vput_any (HPX.out.on (below_drew (W5))).vn HN.out.1 c (x.cm a) (by have := HN.out.2.1; omega) HN.out.2.2.1 (r := r) (fun e => (HRX.out e).on (below_drew _))
      rw [HGn.out] at this
      exact this
     have F2 : Hid (∀ V, Below (W5).heap.size (W5) V → V.cell? ⟨w.heap.size, 1, none⟩ = some (.string c.k)) := fun V hV => (HCX.out.on hV).cells.2.1
     have F8 : Hid (∀ V, Below (W5).heap.size (W5) V → V.cell? ⟨w.heap.size, 2, none⟩ = some (.slice r.a r.n r.c)) := fun V hV => (HCX.out.on hV).cells.2.2.1
     have F10 : Hid (∀ V, Below (W5).heap.size (W5) V → V.cell? ⟨w.heap.size, 3, none⟩ = some (.bool false)) := fun V hV => by
      have := (HCX.out.on hV).cells.2.2.2.1
      rwa [HGn.out] at this
     have F6 : Hid (∀ V, Below (W5).heap.size (W5) V → V.cell? ⟨gl, a * 3 + 1, none⟩ = some (.int .i64 (x.cm a : Int))) := fun V hV => by
      have hl : a < (L.set a ⟨L[a]'(HN.out.2.2.2.2.1) |>.a, (L[a]'(HN.out.2.2.2.2.1)).n, (L[a]'(HN.out.2.2.2.2.1)).c, (L[a]'(HN.out.2.2.2.2.1)).cm, wrap64 (x.rw a + 1)⟩).length := by rw [List.length_set]; exact HN.out.2.2.2.2.1
      have := ((HPX.out.on hV).lv.cells hl).2.1
      rw [List.getElem_set_self] at this
      rw [← (HD.out.lvl a HN.out.2.2.2.2.1).1]
      exact this
     refine wp_region_noPanic ?_
     refine region_ph (A := fun _ => True) (e1 := 11) (B := (fun V => Below (W5).heap.size (W5) V)) (e2 := 11) (C := (fun _ => True)) (by kernel_rfl) (⟨trivial, fun _ => below_drew (W5), fun _ => trivial⟩) (fun hSt => ?_)
     refine take_ph 0 (.pointer (some ⟨q, 0, none⟩)) [] rfl (by kernel_rfl) (fun _ _ _ h => h) (Or.inl ⟨by rfl, ?_⟩) hSt (fun hSn => ?_)
     · intro V _; go_simp
     clear hSt; rename Ph _ _ _ _ _ _ _ => hSt; simp only [Act.put, prw]
     refine take_ph 1 (.pointer (some ⟨w.heap.size, 1, none⟩)) [] rfl (by kernel_rfl) (fun _ _ _ h => h) (Or.inl ⟨by rfl, ?_⟩) hSt (fun hSn => ?_)
     · intro V _; go_simp
     clear hSt; rename Ph _ _ _ _ _ _ _ => hSt; simp only [Act.put, prw]
     refine take_ph 2 (.string c.k) [11] rfl (by kernel_rfl) (fun _ _ _ h => h) (Or.inl ⟨by rfl, ?_⟩) hSt (fun hSn => ?_)
     · rintro V ⟨_, hB, hC⟩; have hh := hB (by decide); have e0 := F2.out V hh; clear hB hC; go_simp
     clear hSt; rename Ph _ _ _ _ _ _ _ => hSt; simp only [Act.put, prw]
     refine take_ph 3 (.pointer (some ⟨gl, a * 3, none⟩)) [] rfl (by kernel_rfl) (fun _ _ _ h => h) (Or.inl ⟨by rfl, ?_⟩) hSt (fun hSn => ?_)
     · intro V _; go_simp
     clear hSt; rename Ph _ _ _ _ _ _ _ => hSt; simp only [Act.put, prw]
     refine take_ph 4 (.pointer (some ⟨gl, a * 3, none⟩)) [] rfl (by kernel_rfl) (fun _ _ _ h => h) (Or.inl ⟨by rfl, ?_⟩) hSt (fun hSn => ?_)
     · intro V _; go_simp
     clear hSt; rename Ph _ _ _ _ _ _ _ => hSt; simp only [Act.put, prw]
     refine take_ph 5 (.pointer (some ⟨gl, a * 3 + 1, none⟩)) [] rfl (by kernel_rfl) (fun _ _ _ h => h) (Or.inl ⟨by rfl, ?_⟩) hSt (fun hSn => ?_)
     · intro V _; go_simp
     clear hSt; rename Ph _ _ _ _ _ _ _ => hSt; simp only [Act.put, prw]
     refine take_ph 6 (.int .i64 (x.cm a : Int)) [11] rfl (by kernel_rfl) (fun _ _ _ h => h) (Or.inl ⟨by rfl, ?_⟩) hSt (fun hSn => ?_)
     · rintro V ⟨_, hB, hC⟩; have hh := hB (by decide); have e0 := F6.out V hh; clear hB hC; go_simp
     clear hSt; rename Ph _ _ _ _ _ _ _ => hSt; simp only [Act.put, prw]
     refine take_ph 7 (.pointer (some ⟨w.heap.size, 2, none⟩)) [] rfl (by kernel_rfl) (fun _ _ _ h => h) (Or.inl ⟨by rfl, ?_⟩) hSt (fun hSn => ?_)
     · intro V _; go_simp
     clear hSt; rename Ph _ _ _ _ _ _ _ => hSt; simp only [Act.put, prw]
     refine take_ph 8 (.slice r.a r.n r.c) [11] rfl (by kernel_rfl) (fun _ _ _ h => h) (Or.inl ⟨by rfl, ?_⟩) hSt (fun hSn => ?_)
     · rintro V ⟨_, hB, hC⟩; have hh := hB (by decide); have e0 := F8.out V hh; clear hB hC; go_simp
     clear hSt; rename Ph _ _ _ _ _ _ _ => hSt; simp only [Act.put, prw]
     refine take_ph 9 (.pointer (some ⟨w.heap.size, 3, none⟩)) [] rfl (by kernel_rfl) (fun _ _ _ h => h) (Or.inl ⟨by rfl, ?_⟩) hSt (fun hSn => ?_)
     · intro V _; go_simp
     clear hSt; rename Ph _ _ _ _ _ _ _ => hSt; simp only [Act.put, prw]
     refine take_ph 10 (.bool false) [11] rfl (by kernel_rfl) (fun _ _ _ h => h) (Or.inl ⟨by rfl, ?_⟩) hSt (fun hSn => ?_)
     · rintro V ⟨_, hB, hC⟩; have hh := hB (by decide); have e0 := F10.out V hh; clear hB hC; go_simp
     clear hSt; rename Ph _ _ _ _ _ _ _ => hSt; simp only [Act.put, prw]
     refine ready_call_ph 11 rfl (by kernel_rfl) (fun KK hK => ?_)
     go_simp
     go_wp2_with (first | (go_at_call 48; refine HPut.out.mono ?_; rintro e w9 ⟨rfl, hv9⟩))
     refine hK.out _ _ ?_ (fun hSn => ?_)
     · exact ⟨trivial, fun h => absurd (show true = false from h) (by decide), fun _ => trivial⟩
     clear hK KK hSt; rename Ph _ _ _ _ _ _ _ => hSt
     refine done_ph (by kernel_rfl) ?_ _
     clear hSt
     refine NoPanic.normal ?_
     have HE : Hid (Q (.returned (.tuple #[])) w9) := by
      rw [← HQ.out]
      exact put_end HD.out HN.out.2.2.2.2.1 c (HPX.out.on (below_drew _)) (by rw [HWas.out, HGn.out]; simp [rwPut, w64, wrap64]) hv9.out.1 hv9.out.2
     clear HPut F2 F6 F8 F10 hv9 HPX HCX HRX
     go_wp2_with fail
     exact bodyPost_ret (results_none rfl _ _ _) rfl HE.out
end Go.Proofs.YtalmanfjiblhcaaGreat
