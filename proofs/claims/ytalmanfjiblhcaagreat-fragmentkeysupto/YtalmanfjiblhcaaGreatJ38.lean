/- The law's sure; Commits one behind the other: what a store keeps. -/
import Derived.Test.YtalmanfjiblhcaaGreatJ37
import Derived.Test.YtalmanfjiblhcaaGreatFgView
import Derived.Test.YtalmanfjiblhcaaGreatJ31
import Derived.Test.YtalmanfjiblhcaaGreatJ30
namespace Go.Proofs.YtalmanfjiblhcaaGreat
open Go.RowKit Go.Sort Go.Maps
theorem frame_below {S : Nat → Prop} {N : Nat} {w a b : World} (hb : Below N w a) (hf : Frame S a b) (hN : N ≤ w.heap.size) (hS : ∀ q, S q → N ≤ q) : Below N w b :=
 ⟨hf.os.trans hb.os, hf.tape.trans hb.tape, hf.output.trans hb.output, Nat.le_trans hb.size hf.size, fun q hq => (hf.block q (Nat.lt_of_lt_of_le hq (Nat.le_trans hN hb.size)) fun h => by have := hS q h; omega).trans (hb.block q hq)⟩
def vsT (b : UInt8) : List Rw.Val := [⟨1, 1, ⟨#[]⟩, false⟩, ⟨2, 0, ⟨#[b]⟩, false⟩]
theorem wrs_new {w Wa W : World} {b : UInt8} (h1 : w.alloc (.cells #[.int .i64 1, .int .i64 1, .string ⟨#[]⟩, .bool false, .int .i64 2, .int .i64 0, .string ⟨#[b]⟩, .bool false] 73) = Wa) (h2 : Wa.alloc (.cells #[.string ⟨#[116]⟩, .bool false, .slice (some ⟨w.heap.size, 0, none⟩) 2 2] 75) = W) :
 WrsIn W (some ⟨Wa.heap.size, 0, none⟩) [⟨nmT, false, some ⟨w.heap.size, 0, none⟩, 2, vsT b⟩] ∧ Below w.heap.size w W := by
 have hk1 : Wa.heap[w.heap.size]? = some (.cells #[.int .i64 1, .int .i64 1, .string ⟨#[]⟩, .bool false, .int .i64 2, .int .i64 0, .string ⟨#[b]⟩, .bool false] 73 (0, 0)) := by rw [← h1]; exact new_blk _ _
 have hk2 : W.heap[Wa.heap.size]? = some (.cells #[.string ⟨#[116]⟩, .bool false, .slice (some ⟨w.heap.size, 0, none⟩) 2 2] 75 (0, 0)) := by rw [← h2]; exact new_blk _ _
 have hb1 : Below w.heap.size w Wa := by rw [← h1]; exact below_alloc _ _
 have hb2 : Below Wa.heap.size Wa W := by rw [← h2]; exact below_alloc _ _
 have hk : W.heap[w.heap.size]? = _ := (hb2.block _ (blk_lt hk1)).trans hk1
 refine ⟨fun i hi => ?_, below_step hb1 hb2⟩
 obtain rfl : i = 0 := by simp at hi; omega
 refine ⟨⟨_, _, rfl, cell_of hk2 rfl, cell_of hk2 rfl, cell_of hk2 rfl⟩, fun j hj => ?_⟩
 have : j < 2 := hj
 rcases j with _ | _ | j
 · exact ⟨_, _, rfl, cell_of hk rfl, cell_of hk rfl, cell_of hk rfl, cell_of hk rfl⟩
 · exact ⟨_, _, rfl, cell_of hk rfl, cell_of hk rfl, cell_of hk rfl, cell_of hk rfl⟩
 · omega
theorem zs_new {w W : World} (h : w.alloc (.cells #[.int .i64 1, .int .i64 1] 3) = W) : ZsIn W (some ⟨w.heap.size, 0, none⟩) [1, 1] ∧ Below w.heap.size w W := by
 have hk : W.heap[w.heap.size]? = some (.cells #[.int .i64 1, .int .i64 1] 3 (0, 0)) := by rw [← h]; exact new_blk _ _
 refine ⟨fun i hi => ?_, by rw [← h]; exact below_alloc _ _⟩
 have : i < 2 := hi
 rcases i with _ | _ | i
 · exact ⟨_, _, rfl, cell_of hk rfl⟩
 · exact ⟨_, _, rfl, cell_of hk rfl⟩
 · omega
theorem wsE_A (a x : Option Addr) (c y : Nat) : (if hasB lsS.length 0 = true then wsE [⟨nmT, a, c, csT⟩] [⟨nmT, false, x, y, vsT 97⟩] else 1) = 0 := by
 rw [if_pos (by decide)]
 show (if wE [⟨nmT, a, c, csT⟩] ⟨nmT, false, x, y, vsA⟩ ≠ 0 then _ else (0 : Int)) = 0
 rw [if_neg (by rw [wE_A]; simp)]
theorem wsE_B (a x : Option Addr) (c y : Nat) : (if hasB lsS.length 1 = true then wsE [⟨nmT, a, c, csT⟩] [⟨nmT, false, x, y, vsT 98⟩] else 1) = 0 := by
 rw [if_pos (by decide)]
 show (if wE [⟨nmT, a, c, csT⟩] ⟨nmT, false, x, y, vsB⟩ ≠ 0 then _ else (0 : Int)) = 0
 rw [if_neg (by rw [wE_B]; simp)]
theorem cm_A : ∀ j, (applyF 0 [chA] fg0).cm j ≤ 1000000 := fun j => by
 show (if j = 0 then 0 + 1 else 0) ≤ 1000000
 split <;> omega
theorem view1 {w w' : World} {a : Option Addr} {c : Nat} {e : Ending} (h : ViewTo w [⟨nmT, a, c, csT⟩] fgS rg0 (Lt.belowL lsS 1) [1, 1] nmT true e w') :
 ∃ b o c, e = .returned (.tuple #[.slice (some ⟨b, o, none⟩) 2 c, .nilIface]) ∧ w'.cell? ⟨b, o, none⟩ = some (.int .i64 0) ∧ w'.cell? ⟨b, o + 2, none⟩ = some (.int .i64 1) ∧ Below w.heap.size w w' := by
 obtain ⟨a', c', Zs, rfl, hr, _, hs, hb⟩ := view_ok h (tab_T a c)
 have hr := hr.rws
 obtain ⟨x, y, hl, hx, hy⟩ := sees1 hs
 match Zs, hl with
 | [z, z'], hl =>
   simp only [List.map_cons, List.map_nil, List.cons.injEq, and_true] at hl
   obtain ⟨rfl, rfl⟩ := hl
   obtain ⟨b, o, xa, xc, rfl, k0, _⟩ := hr 0 (by simp)
   obtain ⟨b', o', xa', xc', e, k1, _⟩ := hr 1 (by simp)
   simp only [Option.some.injEq, Addr.mk.injEq, and_true] at e
   obtain ⟨rfl, rfl⟩ := e
   refine ⟨b, o, c', rfl, ?_, ?_, hb⟩
   · have : z.1.p = 0 := hx
     simpa [rvOf, this] using k0
   · have : z'.1.p = 1 := hy
     simpa [rvOf, this] using k1
theorem view0 {w w' : World} {a : Option Addr} {c : Nat} {e : Ending} (h : ViewTo w [⟨nmT, a, c, csT⟩] fgS rg0 (Lt.belowL lsS 0) [1, 1] nmT true e w') :
 ∃ a' c, e = .returned (.tuple #[.slice a' 1 c, .nilIface]) ∧ Below w.heap.size w w' := by
 obtain ⟨a', c', Zs, rfl, hr, _, hs, hb⟩ := view_ok h (tab_T a c)
 have hr := hr.rws
 have hl := sees0 hs
 rw [List.length_map] at hl
 exact ⟨a', c', by rw [List.length_map, hl], hb⟩
set_option maxRecDepth 100000 in
set_option maxHeartbeats 8000000 in
theorem sure_ (w : World) : Calls Tryz.prog 6 #[] w fun e w' => e = .returned (.bool true) ∧ Below w.heap.size w w' := by
 obtain ⟨W1, hW1⟩ : ∃ W1, w.alloc (.cells #[.int .i64 0, .int .u32 0, .int .i64 1, .int .u32 0] 70) = W1 := ⟨_, rfl⟩
 have hk1 : W1.heap[w.heap.size]? = some (.cells #[.int .i64 0, .int .u32 0, .int .i64 1, .int .u32 0] 70 (0, 0)) := by rw [← hW1]; exact new_blk _ _
 have HLb : Hid (Lt.LabsIn W1 (some ⟨w.heap.size, 0, none⟩) lsS) := by
  intro i hi
  have : i < 2 := hi
  rcases i with _ | _ | i
  · exact ⟨_, _, rfl, cell_of hk1 rfl, cell_of hk1 rfl⟩
  · exact ⟨_, _, rfl, cell_of hk1 rfl, cell_of hk1 rfl⟩
  · omega
 have HB1 : Hid (Below w.heap.size w W1) := by show Below _ _ _; rw [← hW1]; exact below_alloc _ _
 have HP := Lib.hid (plain_ W1)
 unfold PlainTo at HP
 clear hk1
 go_enter Tryz.func6, Tryz.ntmps6
 go_wp2_with fail
 refine HP.out.mono ?_
 rintro e w2 ⟨ta, tc, t, rfl, ht1, ht2, hti, hca, hb2⟩
 have HM := Lib.hid (made_ (lc := 2) (tc := tc) (HLb.out.on hb2) (fun e => by cases e) okS.w (by decide) hti hca (by simp) (by intro x hx; simp only [List.mem_cons, List.not_mem_nil, or_false] at hx; subst hx; rw [ht2]; decide))
 have HT := Lib.hid (And.intro ht1 ht2)
 have HB2 := Lib.hid (below_step HB1.out hb2)
 clear ht1 ht2 hti hca hb2 HP HLb
 go_wp2_with fail
 refine HM.out.mono ?_
 rintro e w3 ⟨hb3, ⟨ps, us, rfl, hfg, hus, _, _⟩ | ⟨_, hno⟩⟩
 rotate_left
 · exact absurd ⟨okS, newE_T HT.out.1 HT.out.2⟩ hno
 obtain ⟨ua, uc, rfl⟩ := tab_one hus HT.out.1 HT.out.2
 have HFg := Lib.hid hfg
 have HB3 := Lib.hid (below_step HB2.out hb3)
 clear hfg hus hb3 HM HT
 obtain ⟨Wa, hWa⟩ : ∃ W, w3.alloc (.cells #[.int .i64 1, .int .i64 1, .string ⟨#[]⟩, .bool false, .int .i64 2, .int .i64 0, .string ⟨#[97]⟩, .bool false] 73) = W := ⟨_, rfl⟩
 obtain ⟨W4, hW4⟩ : ∃ W, Wa.alloc (.cells #[.string ⟨#[116]⟩, .bool false, .slice (some ⟨w3.heap.size, 0, none⟩) 2 2] 75) = W := ⟨_, rfl⟩
 obtain ⟨hws, hb4⟩ := wrs_new hWa hW4
 have HB4 := Lib.hid (below_step HB3.out hb4)
 have HA := Lib.hid (fapply_ (HFg.out.on hb4) 0 (c := 1) hws (by intro y hy; simp only [List.mem_cons, List.not_mem_nil, or_false] at hy; subst hy; exact ok_A _ _) (by show 0 + 1 ≤ 800000; decide) (fun _ => Nat.zero_le _))
 clear hws hb4 HFg
 go_wp2_with fail
 refine HA.out.mono ?_
 rintro e w5 (⟨hno, _⟩ | ⟨_, rfl, hf5, hfr5, _⟩)
 · exact absurd (wsE_A ua (some ⟨w3.heap.size, 0, none⟩) uc 2) hno
 rw [show [(⟨nmT, false, some ⟨w3.heap.size, 0, none⟩, 2, vsT 97⟩ : WV)].map (wC [⟨nmT, ua, uc, csT⟩]) = [chA] from congrArg (· :: []) (wC_A ua _ uc 2)] at hf5
 have HF5 := Lib.hid hf5
 have HB5 := Lib.hid (frame_below HB4.out hfr5 (Nat.le_refl _) fun q hq => Nat.le_trans HB2.out.size hq.1)
 clear hfr5 hf5 hWa hW4 HA
 obtain ⟨Wb, hWb⟩ : ∃ W, w5.alloc (.cells #[.int .i64 1, .int .i64 1, .string ⟨#[]⟩, .bool false, .int .i64 2, .int .i64 0, .string ⟨#[98]⟩, .bool false] 73) = W := ⟨_, rfl⟩
 obtain ⟨W6, hW6⟩ : ∃ W, Wb.alloc (.cells #[.string ⟨#[116]⟩, .bool false, .slice (some ⟨w5.heap.size, 0, none⟩) 2 2] 75) = W := ⟨_, rfl⟩
 obtain ⟨hws, hb6⟩ := wrs_new hWb hW6
 have HB6 := Lib.hid (below_step HB5.out hb6)
 have HA := Lib.hid (fapply_ (HF5.out.on hb6) 1 (c := 1) hws (by intro y hy; simp only [List.mem_cons, List.not_mem_nil, or_false] at hy; subst hy; exact ok_B _ _) (by show 0 + 1 + 1 ≤ 800000; decide) cm_A)
 clear hws hb6 HF5
 go_wp2_with fail
 refine HA.out.mono ?_
 rintro e w7 (⟨hno, _⟩ | ⟨_, rfl, hf7, hfr7, _⟩)
 · exact absurd (wsE_B ua (some ⟨w5.heap.size, 0, none⟩) uc 2) hno
 rw [show [(⟨nmT, false, some ⟨w5.heap.size, 0, none⟩, 2, vsT 98⟩ : WV)].map (wC [⟨nmT, ua, uc, csT⟩]) = [chB] from congrArg (· :: []) (wC_B ua _ uc 2)] at hf7
 have HF7 : Hid (Fg w7 _ _ _ _ _ _ fgS) := hf7
 have HB7 := Lib.hid (frame_below HB6.out hfr7 (Nat.le_refl _) fun q hq => hq.elim (fun h => Nat.le_trans HB2.out.size h.1) fun h => Nat.le_trans HB4.out.size h.1)
 clear hfr7 hf7 hWb hW6 HA
 obtain ⟨W8, hW8⟩ : ∃ W, w7.alloc (.cells #[.int .i64 1, .int .i64 1] 3) = W := ⟨_, rfl⟩
 obtain ⟨hz8, hb8⟩ := zs_new hW8
 have HF8 := Lib.hid (HF7.out.on hb8)
 have HB8 := Lib.hid (below_step HB7.out hb8)
 have HV := Lib.hid (fview_ HF8.out (fun a => Lt.upTo_nodup _ _) (fun a => Nat.le_trans (Lt.upTo_len _ _) (by decide)) 1 (sc := 2) hz8 (by decide) nmT rg0 (by show 0 + 1 + 1 ≤ 900000; decide))
 clear hz8 hb8 HF7
 go_wp2_with fail
 refine HV.out.mono ?_
 intro e w9 hv
 obtain ⟨b, o, c9, rfl, k0, k1, hb9⟩ := view1 hv
 have HK := Lib.hid (And.intro k0 k1)
 have HF9 := Lib.hid (HF8.out.on hb9)
 have HB9 := Lib.hid (below_step HB8.out hb9)
 clear hv k0 k1 hb9 HV HF8 hW8
 obtain ⟨W10, hW10⟩ : ∃ W, w9.alloc (.cells #[.int .i64 1, .int .i64 1] 3) = W := ⟨_, rfl⟩
 obtain ⟨hz10, hb10⟩ := zs_new hW10
 have HV := Lib.hid (fview_ (HF9.out.on hb10) (fun a => Lt.upTo_nodup _ _) (fun a => Nat.le_trans (Lt.upTo_len _ _) (by decide)) 0 (sc := 2) hz10 (by decide) nmT rg0 (by show 0 + 1 + 1 ≤ 900000; decide))
 have HB10 := Lib.hid hb10
 clear hz10 hb10 HF9
 go_wp2_with fail
 refine HV.out.mono ?_
 intro e w11 hv
 obtain ⟨a11, c11, rfl, hb11⟩ := view0 hv
 have hbb := below_step HB10.out hb11
 have HB11 := Lib.hid (below_step HB9.out hbb)
 obtain ⟨k0, k1⟩ := HK.out
 have k0 := (hbb.cell (block_lt_of_cell k0)).trans k0
 have k1 := (hbb.cell (block_lt_of_cell k1)).trans k1
 clear hv hbb hb11 HB10 HK HV hW10
 go_wp2_with fail
 go_ret
 exact ⟨rfl, HB11.out⟩
end Go.Proofs.YtalmanfjiblhcaaGreat
namespace Go.Proofs.YtalmanfjiblhcaaGreat
open Go.RowKit Go.Sort Go.Maps
structure CmV where
 lab : Int
 a : Option Addr
 c : Nat
 ws : List WV
def CmsIn (w : World) (a : Option Addr) (cs : List CmV) : Prop :=
 ∀ i (h : i < cs.length), ∃ b o, a = some ⟨b, o, none⟩ ∧ w.cell? ⟨b, o + i * 2, none⟩ = some (.int .i64 cs[i].lab) ∧ w.cell? ⟨b, o + i * 2 + 1, none⟩ = some (.slice cs[i].a cs[i].ws.length cs[i].c) ∧ WrsIn w cs[i].a cs[i].ws
theorem CmsIn.on {w w' : World} {a : Option Addr} {cs : List CmV} (h : CmsIn w a cs) (hb : Below w.heap.size w w') : CmsIn w' a cs := fun i hi => by
 obtain ⟨b, o, e, h0, h1, h2⟩ := h i hi
 exact ⟨b, o, e, (hb.cell (block_lt_of_cell h0)).trans h0, (hb.cell (block_lt_of_cell h1)).trans h1, h2.on hb⟩
def CmV.Ok (y : CmV) : Prop := ∀ x ∈ y.ws, x.Ok ∧ (x.a = none → x.c = 0)
def wrN (cs : List CmV) : Nat := (cs.map fun y => y.ws.length).sum
theorem wrN_succ {cs : List CmV} {k : Nat} (h : k < cs.length) : wrN (cs.take (k + 1)) = wrN (cs.take k) + cs[k].ws.length := by
 unfold wrN
 rw [List.take_succ_eq_append_getElem h, List.map_append, List.sum_append]
 simp
theorem wrN_take (cs : List CmV) (k : Nat) : wrN (cs.take k) ≤ wrN cs := by
 have h : wrN cs = wrN (cs.take k) + wrN (cs.drop k) := by
  unfold wrN
  rw [← List.sum_append, ← List.map_append, List.take_append_drop]
 omega
theorem wtV_len5 : ∀ (vs : List Rw.Val), vs.length * 5 ≤ Rw.wtV vs
 | [] => Nat.le_refl _
 | v :: vs => by have := wtV_len5 vs; simp only [Rw.wtV, List.length_cons]; omega
theorem CmV.Ok.give {y : CmV} (h : y.Ok) : ∀ x ∈ y.ws, (x.a = none → x.c = 0) ∧ x.vs.length * 40 ≤ 140737488355328 := fun x hx => by
 have h1 := (h x hx).1.2
 have h2 := wtV_len5 x.vs
 exact ⟨(h x hx).2, by omega⟩
theorem sameW_ok {gs ws : List WV} (h : sameW gs ws) (hw : ∀ x ∈ ws, x.Ok) : ∀ x ∈ gs, x.Ok := fun x hx => by
 have h1 : (x.nm, x.gn, x.vs) ∈ gs.map fun x => (x.nm, x.gn, x.vs) := List.mem_map_of_mem hx
 rw [show gs.map (fun x => (x.nm, x.gn, x.vs)) = ws.map fun x => (x.nm, x.gn, x.vs) from h] at h1
 obtain ⟨y, hy, e⟩ := List.mem_map.1 h1
 simp only [Prod.mk.injEq] at e
 have := hw y hy
 unfold WV.Ok at *
 rw [← e.2.2]; exact this
theorem wsE_zero {us : List Tb.TV} : ∀ {ws : List WV}, wsE us ws = 0 → ∀ x ∈ ws, wE us x = 0
 | x :: r, h, y, hy => by
   unfold wsE at h
   by_cases e : wE us x = 0
   · rw [if_neg (by simp [e])] at h
     rcases List.mem_cons.1 hy with rfl | hy
     · exact e
     · exact wsE_zero h y hy
   · rw [if_pos e] at h; exact absurd h e
structure Ru (Wb : World) (Z : Nat → Prop) (n ps : Nat) (bl : Nat → List Nat) (us : List Tb.TV) (R : Nat → Nat → List (ByteArray × ByteArray)) (t : Nat → Int) (tot k : Nat) (wr : World) : Prop where
 ex : ∃ S K x, Fg wr S K n ps bl us x ∧ (∀ q, S q → Z q ∨ Wb.heap.size ≤ q) ∧ Frame Z Wb wr ∧ K ≤ tot ∧ (∀ j, x.cm j ≤ k) ∧ (∀ a, t a ≤ (x.cm a : Int)) ∧ ∀ a b, rowsM rg0 (t a) (x.fr a b) = R a b
theorem ru_step {Wb : World} {Z : Nat → Prop} {n ps : Nat} {bl : Nat → List Nat} {us : List Tb.TV} {R : Nat → Nat → List (ByteArray × ByteArray)} {t : Nat → Int} {tot k : Nat} {wr V1 : World} (h : Ru Wb Z n ps bl us R t tot k wr) (hb : Below wr.heap.size wr V1)
 (lab : Int) {ga : Option Addr} {gc : Nat} {gs : List WV} (hin : WrsIn V1 ga gs) (hok : ∀ y ∈ gs, y.Ok) (hK : tot + gs.length ≤ 800000) (hk : k ≤ 1000000) :
 Calls Tryz.prog 7 #[.pointer (some ⟨ps, 0, none⟩), .int .i64 lab, .slice ga gs.length gc] V1 fun e w' => ∃ v, e = .returned v ∧ Ru Wb Z n ps bl us R t (tot + gs.length) (k + 1) w' := by
 obtain ⟨S, K, x, hf, hS, hfr, hKt, hcm, ht, hR⟩ := h.ex
 have hw1 : Wb.heap.size ≤ V1.heap.size := Nat.le_trans hfr.size hb.size
 refine (fapply_ (hf.on hb) lab (c := gc) hin hok (by omega) (fun j => Nat.le_trans (hcm j) hk)).mono ?_
 rintro e w' (⟨_, rfl, hb2⟩ | ⟨h0, rfl, hf2, hfr2, _⟩)
 · have hb3 := below_step hb hb2
   exact ⟨_, rfl, ⟨S, K, x, hf.on hb3, hS, hfr.trans (Frame.below (Ft := Z) hb3) (fun _ _ h => h), by omega, fun j => Nat.le_trans (hcm j) (by omega), ht, hR⟩⟩
 · have hz : wsE us gs = 0 := by
    cases hh : hasB n lab with
    | true => rw [hh, if_pos rfl] at h0; exact h0
    | false => rw [hh, if_neg (by simp)] at h0; exact absurd h0 (by simp)
   have hq : ∀ c ∈ gs.map (wC us), c.gn = false → Qr us c.t c.k c.tx := fun c hc => by
    obtain ⟨y, hy, rfl⟩ := List.mem_map.1 hc
    exact (wC_q (wsE_zero hz y hy) (hok y hy)).2
   have hcmE : ∀ j, (applyF lab.toNat (gs.map (wC us)) x).cm j = if j = lab.toNat then x.cm lab.toNat + 1 else x.cm j := fun j => by
    unfold applyF; rw [putsF_cm]; rfl
   refine ⟨_, rfl, ⟨_, _, _, hf2, fun q hq => ?_, ?_, by omega, fun j => ?_, fun a => ?_, fun a b => ?_⟩⟩
   · rcases hq with hq | hq
     · exact hS q hq
     · exact .inr (Nat.le_trans hw1 hq.1)
   · have h1 : Frame Z Wb V1 := hfr.trans (Frame.below (Ft := Z) hb) (fun _ _ h => h)
     exact h1.trans hfr2 fun q hq hs => (hS q hs).elim id fun h => by omega
   · rw [hcmE]; have := hcm j; have := hcm lab.toNat; split <;> omega
   · rw [hcmE]; have := ht a; split
     · rename_i e; subst e; omega
     · exact this
   · rw [rowsF_apply hf.ok rg0 hq (ht a) b]; exact hR a b
theorem Ru.on {Wb : World} {Z : Nat → Prop} {n ps : Nat} {bl : Nat → List Nat} {us : List Tb.TV} {R : Nat → Nat → List (ByteArray × ByteArray)} {t : Nat → Int} {tot k : Nat} {wr V1 : World} (h : Ru Wb Z n ps bl us R t tot k wr) (hb : Below wr.heap.size wr V1) : Ru Wb Z n ps bl us R t tot k V1 := by
 obtain ⟨S, K, x, hf, hS, hfr, h1⟩ := h.ex
 exact ⟨S, K, x, hf.on hb, hS, hfr.trans (Frame.below (Ft := Z) hb) (fun _ _ h => h), h1⟩
theorem ru_made {Wb wr : World} {n ps : Nat} {bl : Nat → List Nat} {us : List Tb.TV} (hb : Below Wb.heap.size Wb wr) (h : Fg wr (fun k => Wb.heap.size ≤ k ∧ k < wr.heap.size) 0 n ps bl us fg0) : Ru Wb (fun _ => False) n ps bl us (fun _ _ => []) (fun _ => 0) 0 0 wr :=
 ⟨_, 0, fg0, h, fun _ hq => .inr hq.1, Frame.below hb, Nat.le_refl _, fun _ => Nat.le_refl _, fun _ => Int.le_refl _, fun _ _ => rfl⟩
theorem Ru.below {Wb wr : World} {n ps : Nat} {bl : Nat → List Nat} {us : List Tb.TV} {R : Nat → Nat → List (ByteArray × ByteArray)} {t : Nat → Int} {tot k : Nat} (h : Ru Wb (fun _ => False) n ps bl us R t tot k wr) : Below Wb.heap.size Wb wr := by
 obtain ⟨_, _, _, _, _, hf, _⟩ := h.ex
 exact hf.none
theorem give_at {w : World} {a : Option Addr} {c M : Nat} {ws : List WV} (h : WrsIn w a ws) (ho : ∀ x ∈ ws, x.Ok ∧ (x.a = none → x.c = 0)) (hM : ws.length = M) (hl : M ≤ 800000) :
 Calls Tryz.prog 8 #[.slice a M c] w fun e w' => ∃ a c gs, e = .returned (.slice a M c) ∧ gs.length = M ∧ (∀ x ∈ gs, x.Ok) ∧ WrsIn w' a gs ∧ Below w.heap.size w w' := by
 subst hM
 refine (give_ h (CmV.Ok.give (y := ⟨0, none, 0, ws⟩) ho) (by omega)).mono ?_
 rintro e w' ⟨a, c, gs, rfl, h1, h2, h3, h4⟩
 exact ⟨a, c, gs, rfl, h1, sameW_ok h2 fun x hx => (ho x hx).1, h3, h4⟩
theorem Ru.far {W Wb wr : World} {Z : Nat → Prop} {n ps : Nat} {bl : Nat → List Nat} {us : List Tb.TV} {R : Nat → Nat → List (ByteArray × ByteArray)} {t : Nat → Int} {tot k : Nat} (h : Ru Wb Z n ps bl us R t tot k wr) (hb : Below W.heap.size W Wb) (hZ : ∀ q, Z q → W.heap.size ≤ q) : Below W.heap.size W wr := by
 obtain ⟨_, _, _, _, _, hf, _⟩ := h.ex
 have h1 : Frame (fun _ => False) W wr := (Frame.below (Ft := fun _ => False) hb).trans hf fun q hq hz => absurd (hZ q hz) (by omega)
 exact h1.none
theorem ZsIn.keep {w w' : World} {N : Nat} {a : Option Addr} {zs : List Int} (h : ZsIn w a zs) {Z : Nat → Prop} (hf : Frame Z w w') (hZ : ∀ q, Z q → q < N) (ha : ∀ b o, a = some ⟨b, o, none⟩ → N ≤ b) : ZsIn w' a zs := fun i hi => by
 obtain ⟨b, o, e, h1⟩ := h i hi
 have hb := hf.block b (block_lt_of_cell h1) fun q => by have := hZ b q; have := ha b o e; omega
 exact ⟨b, o, e, (cell_same hb).trans h1⟩
theorem tab_first {us ts : List Tb.TV} (h : us.map Tb.TV.tab = ts.map Tb.TV.tab) (h0 : 0 < ts.length) : tabN ts[0].nm us = some 0 := by
 have hl := congrArg List.length h
 rw [List.length_map, List.length_map] at hl
 cases us with
 | nil => exact absurd hl (by simp only [List.length_nil]; omega)
 | cons u us =>
   cases ts with
   | nil => exact absurd h0 (by simp)
   | cons t ts =>
     simp only [List.map_cons, List.cons.injEq] at h
     have e : u.nm = t.nm := congrArg Tb.Tab.nm h.1
     unfold tabN
     rw [List.findIdx?_cons]
     simp only [List.getElem_cons_zero]
     rw [if_pos (by simp [Tb.isNT, e])]
theorem now_snap (n : Nat) (x : FgM) : snapB n (nowL n x) = true := by
 unfold snapB
 rw [nowL_len, decide_eq_true rfl, Bool.true_and, List.all_eq_true]
 intro z hz
 obtain ⟨i, _, rfl⟩ := List.mem_map.1 hz
 simp
theorem see_len {Q : Nat → ByteArray → ByteArray → Prop} {K : Nat} {x : FgM} (h : OkF Q K x) {j : Nat} {t : Nat → Int} {r : Rg} {B : List Nat} {Zs : List Zr} (hs : SeenIs (fun a => x.fr a j) t r B (Zs.map toS)) (hB : B.length ≤ 16) (hK : K ≤ 900000) : (Zs.map rvOf).length ≤ 1000000000 := by
 have h1 := hs.2.length_eq
 have h2 := seenB_len (fr := fun a => x.fr a j) (t := t) (r := r) (K := K) (fun a => h.num a j) (fun a => h.ok a j) (B := B)
 have h3 := Nat.mul_le_mul hB hK
 rw [List.length_map] at h1 ⊢
 omega
end Go.Proofs.YtalmanfjiblhcaaGreat
