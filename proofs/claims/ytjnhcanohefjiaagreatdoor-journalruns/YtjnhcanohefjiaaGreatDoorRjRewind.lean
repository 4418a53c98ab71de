/- The document's Rewind. -/
import Derived.Test.YtjnhcanohefjiaaGreatDoorRjJd
namespace Go.Proofs.YtjnhcanohefjiaaGreatDoor
open Go.RowKit Go.Sort Go.Maps

set_option maxRecDepth 100000 in
set_option maxHeartbeats 4000000 in
theorem rrewind_dead {w : World} {d : Dev} {x : RD} {al ea : Option Addr} {cl ec : Nat} {J : Jr} {M : Nat → Prop} (hs : RSt w d x al cl) (hEd : EdF w M ea ec J.ends) (ep' : Nat) (hd : J.dead ≠ 0) :
    Calls Tryz.prog 37 #[rjV J ea ec, rdV x al cl, .int .u64 ep'] w (RjdTo w M (rewD d J) (rewJ d J ep') (rewE d J)) := by
  have e1 : rewE d J = J.dead := if_pos hd
  have e2 : rewD d J = d := if_pos hd
  have e3 : rewJ d J ep' = J := if_pos hd
  rw [e1, e2, e3]
  clear e1 e2 e3

  have HF : Hid (∀ V', Below w.heap.size w V' → RjdTo w M d J J.dead (.returned (.tuple #[rjV J ea ec, rdV x al cl, .int .i64 (J.dead : Nat)])) V') := fun V' hb => rjd_same hs hEd hb
  clear hs hEd
  unfold rjV rdV rdC at *

  obtain ⟨W, hW⟩ : ∃ W, W = (((w.alloc (.cells #[.int .i64 J.a.g, .int .i64 J.a.f, .int .i64 J.a.s, .int .u64 J.ep, .string (bs J.row), .slice ea J.ends.length ec, .int .i64 (J.upto J.sf : Nat), .int .i64 (J.pss.length - J.sf : Nat), .int .i64 (J.dead : Nat)] 43)).alloc (.cells #[.int .i64 x.r, .int .i64 x.s, .slice al x.l.length cl, .bool x.crashed, .bool x.armed, .int .i64 x.left] 33)).alloc (.cells #[.int .i64 0, .int .i64 0, .int .i64 0, .int .u64 0, .string ⟨#[]⟩, .slice none 0 0, .int .i64 0, .int .i64 0, .int .i64 0] 43)).alloc (.cells #[.int .i64 0, .int .i64 0, .slice none 0 0, .bool false, .bool false, .int .i64 0] 33) := ⟨_, rfl⟩
  have hWf := four_at w (.cells #[.int .i64 J.a.g, .int .i64 J.a.f, .int .i64 J.a.s, .int .u64 J.ep, .string (bs J.row), .slice ea J.ends.length ec, .int .i64 (J.upto J.sf : Nat), .int .i64 (J.pss.length - J.sf : Nat), .int .i64 (J.dead : Nat)] 43) (.cells #[.int .i64 x.r, .int .i64 x.s, .slice al x.l.length cl, .bool x.crashed, .bool x.armed, .int .i64 x.left] 33) (.cells #[.int .i64 0, .int .i64 0, .int .i64 0, .int .u64 0, .string ⟨#[]⟩, .slice none 0 0, .int .i64 0, .int .i64 0, .int .i64 0] 43) (.cells #[.int .i64 0, .int .i64 0, .slice none 0 0, .bool false, .bool false, .int .i64 0] 33)
  rw [← hW] at hWf
  obtain ⟨q1, q2, q3, q4, q5⟩ := hWf
  have HX : Hid (Four w W #[.int .i64 J.a.g, .int .i64 J.a.f, .int .i64 J.a.s, .int .u64 J.ep, .string (bs J.row), .slice ea J.ends.length ec, .int .i64 (J.upto J.sf : Nat), .int .i64 (J.pss.length - J.sf : Nat), .int .i64 (J.dead : Nat)] #[.int .i64 x.r, .int .i64 x.s, .slice al x.l.length cl, .bool x.crashed, .bool x.armed, .int .i64 x.left]) := ⟨q1, q2, q3, q4, q5⟩
  have HW := Lib.hid hW
  clear hW q1 q2 q3 q4 q5

  generalize J.a.g = g at *
  generalize J.a.f = f at *
  generalize J.a.s = s at *
  generalize J.ep = ep at *
  generalize bs J.row = RR at *
  generalize J.ends.length = en at *
  generalize J.upto J.sf = sf at *
  generalize J.pss.length - J.sf = wt at *
  generalize J.dead = dd at *

  generalize x.l.length = L1 at *
  generalize x.r = r at *
  generalize x.s = s9 at *
  generalize x.crashed = cr at *
  generalize x.armed = ar at *
  generalize x.left = lf at *

  have hd1 : ((dd : Int) == 0) = false := by simpa using hd

  obtain ⟨y0, y1, y2, y3, y4, y5, y6, y7, y8⟩ := rj_cells HX.out.j
  have GL : Hid (∀ V, Two (w.heap.size + 1 + 1) (w.heap.size + 1 + 1 + 1) W V → (Instr.loadAt 43 (.pointer (some ⟨w.heap.size, 0, none⟩))).run Tryz.prog V = .ok (.agg #[.int .i64 g, .int .i64 f, .int .i64 s, .int .u64 ep, .string RR, .slice ea en ec, .int .i64 (sf : Nat), .int .i64 (wt : Nat), .int .i64 (dd : Nat)]) V) := fun V hV => load_rj (hV.at HX.out.j (by omega) (by omega)) rfl
  have GD : Hid (∀ V, Two (w.heap.size + 1 + 1) (w.heap.size + 1 + 1 + 1) W V → (Instr.loadAt 33 (.pointer (some ⟨w.heap.size + 1, 0, none⟩))).run Tryz.prog V = .ok (.agg #[.int .i64 r, .int .i64 s9, .slice al L1 cl, .bool cr, .bool ar, .int .i64 lf]) V) := fun V hV => load_rd (hV.at HX.out.d (by omega) (by omega)) rfl
  have G8 : Hid (∀ V, Two (w.heap.size + 1 + 1) (w.heap.size + 1 + 1 + 1) W V → V.cell? ⟨w.heap.size, 8, none⟩ = some (.int .i64 (dd : Nat))) := fun V hV => cell_of (hV.at HX.out.j (by omega) (by omega)) rfl

  obtain ⟨V1, hs1, hp1⟩ := put_rj (w := W.drew) (cs := #[.int .i64 g, .int .i64 f, .int .i64 s, .int .u64 ep, .string RR, .slice ea en ec, .int .i64 (sf : Nat), .int .i64 (wt : Nat), .int .i64 (dd : Nat)]) HX.out.oj rfl rfl (rj_one _ _ _ _ _ _ _ _ _ _ _)
  obtain ⟨V2, hs2, hp2⟩ := put_rd (w := V1) (cs := #[.int .i64 r, .int .i64 s9, .slice al L1 cl, .bool cr, .bool ar, .int .i64 lf]) ((hp1.far _ (by omega)).trans HX.out.od) rfl rfl (six_one _ _ _ _ _ _ _ _)
  have hS1 : Two (w.heap.size + 1 + 1) (w.heap.size + 1 + 1 + 1) W V1 := (Two.drew _ _ _).put hp1 (.inl rfl)
  have hS2 : Two (w.heap.size + 1 + 1) (w.heap.size + 1 + 1 + 1) W V2 := hS1.put hp2 (.inr rfl)
  have hBv : Below w.heap.size w V2 := hS2.below HX.out.bw HX.out.bw.size (by omega) (by omega)
  have HE := Lib.hid (And.intro ((hp2.far _ (by omega)).trans hp1.blk : V2.heap[w.heap.size + 1 + 1]? = some (.cells #[.int .i64 g, .int .i64 f, .int .i64 s, .int .u64 ep, .string RR, .slice ea en ec, .int .i64 (sf : Nat), .int .i64 (wt : Nat), .int .i64 (dd : Nat)] 43 (0, 0))) (And.intro hp2.blk (HF.out V2 hBv)))
  clear hp1 hp2 hBv

  clear HF
  go_enter Tryz.func37, Tryz.ntmps37
  go_wp2_with fail
  rw [← HW.out]
  go_wp2_with fail
  refine wp_region_noPanic ?_
  refine wp_region_held_drew (S := fun V => Two (w.heap.size + 1 + 1) (w.heap.size + 1 + 1 + 1) W V) (by kernel_rfl) (Two.drew _ _ _) (fun hHeld => ?_)
  refine tk 0 (.agg #[.int .i64 g, .int .i64 f, .int .i64 s, .int .u64 ep, .string RR, .slice ea en ec, .int .i64 (sf : Nat), .int .i64 (wt : Nat), .int .i64 (dd : Nat)]) (hy := (yields_load (by rfl) 43 _ (by rfl) _ _ (by rfl) (GL.out))) (h := ?_)
  refine tk 1 (.agg #[.int .i64 r, .int .i64 s9, .slice al L1 cl, .bool cr, .bool ar, .int .i64 lf]) (hy := (yields_load (by rfl) 33 _ (by rfl) _ _ (by rfl) (GD.out))) (h := ?_)
  refine tk 2 (.pointer (some ⟨w.heap.size, 8, none⟩)) (h := ?_)
  refine take_at 3 (.int .i64 (dd : Nat)) rfl (by kernel_rfl) (by kernel_rfl) (by kernel_rfl) (fun _ _ _ h => h) (Or.inl ⟨by rfl, ?_⟩) (by assumption) ?_
  · intro V hSV; have e0 := G8.out V hSV; go_simp
  simp only [Act.put, List.setIfInBounds_toArray, List.set_cons_zero, List.set_cons_succ]

  refine ready_store 4 rfl (by kernel_rfl) (by rfl) 43 _ _ (by rfl) _ _ (by rfl) (by rfl) hs1 hS1 ?_
  refine ready_store 5 rfl (by kernel_rfl) (by rfl) 33 _ _ (by rfl) _ _ (by rfl) (by rfl) hs2 hS2 ?_
  refine tk 6 (.int .i64 (dd : Nat)) (h := ?_)
  refine wpAnyH_done (by kernel_rfl) ?_ _
  refine NoPanic.normal ?_
  go_wp2_with fail
  exact bodyPost_ret (results_jd rfl _ _ (w.heap.size + 1 + 1) (w.heap.size + 1 + 1 + 1) _ _ (.int .i64 (dd : Nat)) rfl rfl rfl HE.out.1 rfl HE.out.2.1 rfl) rfl HE.out.2.2
set_option maxRecDepth 100000 in
set_option maxHeartbeats 4000000 in
theorem rrewind_ok {w : World} {d : Dev} {x : RD} {al ea : Option Addr} {cl ec : Nat} {J : Jr} {M : Nat → Prop} (hs : RSt w d x al cl) (hc : Calm d J) (ep' : Nat) :
    Calls Tryz.prog 37 #[rjV J ea ec, rdV x al cl, .int .u64 ep'] w (RjdTo w M (cleanD J.a [] d) ⟨J.a, ep', [], 0, cleanE J.a [] d⟩ (cleanE J.a [] d)) := by
  have hd := hc.alive
  have hre : rErr d (J.a.g, J.a.f) = 0 := by
    have q := inJ_has hc.inn (i := 0) (by have := hc.inn.2.2.2.1; omega)
    have e : atJ J.a 0 = (J.a.g, J.a.f) := by simp [atJ]
    rw [e] at q
    unfold rErr
    rw [if_neg (fun e => e q), if_neg (by simp [hc.cr])]
  have HRd : Hid (∀ V, Below w.heap.size w V → Calls Tryz.prog 29 #[rdV x al cl, .int .i64 J.a.g, .int .i64 J.a.f] V fun e w' => e = .returned (.tuple #[.string (bs (readD d (J.a.g, J.a.f))), .int .i64 0]) ∧ Below V.heap.size V w') := fun V hV => by
    have q := rreadT x d (J.a.g, J.a.f) (hs.ls.on hV) hs.tie hs.len
    rw [hre, if_pos rfl] at q
    exact q
  have HCl : Hid (∀ V, Below w.heap.size w V → Calls Tryz.prog 31 #[rdV x al cl, arV J.a, .string ⟨#[]⟩] V (RclTo V J.a [] d)) := fun V hV => rclean_ x al cl d J.a [] (hs.ls.on hV) hs.tie hs.ok hs.rs hs.lf hc.pend hc.cr hc.inn (fun y hy => by cases hy) (begins_nil _ _) (Nat.zero_le _)
  have HF : Hid (∀ (V' : World) x' a' c', LstS V' a' c' x'.l → Tie (cleanD J.a [] d) x' → Below w.heap.size w V' → RjdTo w M (cleanD J.a [] d) ⟨J.a, ep', [], 0, cleanE J.a [] d⟩ (cleanE J.a [] d) (.returned (.tuple #[.agg #[.int .i64 J.a.g, .int .i64 J.a.f, .int .i64 J.a.s, .int .u64 ep', .string ⟨#[]⟩, .slice none 0 0, .int .i64 0, .int .i64 0, .int .i64 (cleanE J.a [] d : Nat)], rdV x' a' c', .int .i64 (cleanE J.a [] d : Nat)])) V') := fun V' x' a' c' hl ht hb => ⟨x', a', c', none, 0, rfl, hl, ht, edF_nil _ _ _ _, hb⟩
  unfold RclTo arV at HCl
  clear hs hc hre
  unfold rjV
  generalize (⟨J.a, ep', [], 0, cleanE J.a [] d⟩ : Jr) = J2 at *
  generalize cleanE J.a [] d = E at *
  generalize cleanD J.a [] d = d1 at *
  generalize bs (readD d (J.a.g, J.a.f)) = ss at *
  unfold rdV rdC at *

  obtain ⟨W, hW⟩ : ∃ W, W = (((w.alloc (.cells #[.int .i64 J.a.g, .int .i64 J.a.f, .int .i64 J.a.s, .int .u64 J.ep, .string (bs J.row), .slice ea J.ends.length ec, .int .i64 (J.upto J.sf : Nat), .int .i64 (J.pss.length - J.sf : Nat), .int .i64 (J.dead : Nat)] 43)).alloc (.cells #[.int .i64 x.r, .int .i64 x.s, .slice al x.l.length cl, .bool x.crashed, .bool x.armed, .int .i64 x.left] 33)).alloc (.cells #[.int .i64 0, .int .i64 0, .int .i64 0, .int .u64 0, .string ⟨#[]⟩, .slice none 0 0, .int .i64 0, .int .i64 0, .int .i64 0] 43)).alloc (.cells #[.int .i64 0, .int .i64 0, .slice none 0 0, .bool false, .bool false, .int .i64 0] 33) := ⟨_, rfl⟩
  have hWf := four_at w (.cells #[.int .i64 J.a.g, .int .i64 J.a.f, .int .i64 J.a.s, .int .u64 J.ep, .string (bs J.row), .slice ea J.ends.length ec, .int .i64 (J.upto J.sf : Nat), .int .i64 (J.pss.length - J.sf : Nat), .int .i64 (J.dead : Nat)] 43) (.cells #[.int .i64 x.r, .int .i64 x.s, .slice al x.l.length cl, .bool x.crashed, .bool x.armed, .int .i64 x.left] 33) (.cells #[.int .i64 0, .int .i64 0, .int .i64 0, .int .u64 0, .string ⟨#[]⟩, .slice none 0 0, .int .i64 0, .int .i64 0, .int .i64 0] 43) (.cells #[.int .i64 0, .int .i64 0, .slice none 0 0, .bool false, .bool false, .int .i64 0] 33)
  rw [← hW] at hWf
  obtain ⟨q1, q2, q3, q4, q5⟩ := hWf
  have HX : Hid (Four w W #[.int .i64 J.a.g, .int .i64 J.a.f, .int .i64 J.a.s, .int .u64 J.ep, .string (bs J.row), .slice ea J.ends.length ec, .int .i64 (J.upto J.sf : Nat), .int .i64 (J.pss.length - J.sf : Nat), .int .i64 (J.dead : Nat)] #[.int .i64 x.r, .int .i64 x.s, .slice al x.l.length cl, .bool x.crashed, .bool x.armed, .int .i64 x.left]) := ⟨q1, q2, q3, q4, q5⟩
  have HW := Lib.hid hW
  clear hW q1 q2 q3 q4 q5

  generalize J.a.g = g at *
  generalize J.a.f = f at *
  generalize J.a.s = s at *
  generalize J.ep = ep at *
  generalize bs J.row = RR at *
  generalize J.ends.length = en at *
  generalize J.upto J.sf = sf at *
  generalize J.pss.length - J.sf = wt at *
  generalize J.dead = dd at *

  generalize x.l.length = L1 at *
  generalize x.r = r at *
  generalize x.s = s9 at *
  generalize x.crashed = cr at *
  generalize x.armed = ar at *
  generalize x.left = lf at *

  have hd1 : ((dd : Int) == 0) = true := by simp [hd]
  clear hd
  obtain ⟨y0, y1, y2, y3, y4, y5, y6, y7, y8⟩ := rj_cells HX.out.j
  have HLd := Lib.hid (load_rd HX.out.d rfl)
  go_enter Tryz.func37, Tryz.ntmps37
  go_wp2_with fail
  rw [← HW.out]
  go_wp2_with (first | (refine wpList_load_at rfl 33 _ rfl _ _ rfl HLd.out ?_) | fail)
  refine (HRd.out W HX.out.bw).mono ?_
  rintro e w2 ⟨rfl, hb2⟩
  have HX2 := Lib.hid (HX.out.on hb2)
  clear hb2 HRd HX HW HLd y0 y1 y2 y3 y4 y5 y6 y7 y8
  obtain ⟨y0, y1, y2, y3, y4, y5, y6, y7, y8⟩ := rj_cells HX2.out.j
  have HLd := Lib.hid (load_rd HX2.out.d rfl)
  have HLa := Lib.hid (load_ra HX2.out.j)
  go_wp2_with (first
    | (refine wpList_load_at rfl 33 _ rfl _ _ rfl HLd.out ?_)
    | (refine wpList_load_at rfl 23 _ rfl _ _ rfl HLa.out ?_)
    | fail)
  refine (HCl.out w2 HX2.out.bw).mono ?_
  rintro e U2 ⟨x', a', c', rfl, hL2, hT2, hb2⟩
  obtain ⟨U4, hst, hput⟩ := put_rd (cs := #[.int .i64 x'.r, .int .i64 x'.s, .slice a' x'.l.length c', .bool x'.crashed, .bool x'.armed, .int .i64 x'.left]) (alloc_at U2 (.cells #[.int .i64 0, .int .i64 0, .slice none 0 0, .bool false, .bool false, .int .i64 0] 33)) rfl rfl (six_one _ _ _ _ _ _ _ _)
  have hX2 := HX2.out.on (below_step hb2 (below_alloc U2 (.cells #[.int .i64 0, .int .i64 0, .slice none 0 0, .bool false, .bool false, .int .i64 0] 33)))
  have hBq : w.heap.size + 1 + 1 + 1 < U2.heap.size := by have := blk_lt HX2.out.od; have := hb2.size; omega
  have HX := Lib.hid (hX2.put hput hBq)
  have hL4 := (hL2.on (below_alloc U2 (.cells #[.int .i64 0, .int .i64 0, .slice none 0 0, .bool false, .bool false, .int .i64 0] 33))).put hput (by decide) ⟨_, _, alloc_at U2 _⟩
  have HSt := Lib.hid hst
  have hblk := hput.blk
  clear hst hput hX2 hL2 hb2 HX2 HCl HLd HLa y0 y1 y2 y3 y4 y5 y6 y7 y8

  obtain ⟨V1, hs1, hp1⟩ := put_rj (w := U4.drew) (cs := #[.int .i64 g, .int .i64 f, .int .i64 s, .int .u64 ep', .string ⟨#[]⟩, .slice none 0 0, .int .i64 0, .int .i64 0, .int .i64 (E : Nat)]) HX.out.oj rfl rfl (rj_one _ _ _ _ _ _ _ _ _ _ _)
  obtain ⟨V2, hs2, hp2⟩ := put_rd (w := V1) (cs := #[.int .i64 x'.r, .int .i64 x'.s, .slice a' x'.l.length c', .bool x'.crashed, .bool x'.armed, .int .i64 x'.left]) ((hp1.far _ (by omega)).trans HX.out.od) rfl rfl (six_one _ _ _ _ _ _ _ _)
  have hS1 : Two (w.heap.size + 1 + 1) (w.heap.size + 1 + 1 + 1) U4 V1 := (Two.drew _ _ _).put hp1 (.inl rfl)
  have hS2 : Two (w.heap.size + 1 + 1) (w.heap.size + 1 + 1 + 1) U4 V2 := hS1.put hp2 (.inr rfl)
  have hBv : Below w.heap.size w V2 := hS2.below HX.out.bw HX.out.bw.size (by omega) (by omega)
  have HE := Lib.hid (And.intro ((hp2.far _ (by omega)).trans hp1.blk : V2.heap[w.heap.size + 1 + 1]? = some (.cells #[.int .i64 g, .int .i64 f, .int .i64 s, .int .u64 ep', .string ⟨#[]⟩, .slice none 0 0, .int .i64 0, .int .i64 0, .int .i64 (E : Nat)] 43 (0, 0))) (And.intro hp2.blk (HF.out V2 x' a' c' (((hL4.on (below_drew _)).put hp1 (by decide) ⟨_, _, HX.out.oj⟩).put hp2 (by decide) ⟨_, _, (hp1.far _ (by omega)).trans HX.out.od⟩) hT2 hBv)))
  clear hp1 hp2 hBv

  obtain ⟨r', s', l', cr', ar', lf'⟩ := x'
  dsimp only at *
  generalize l'.length = L' at *
  have GA : Hid (∀ V, Two (w.heap.size + 1 + 1) (w.heap.size + 1 + 1 + 1) U4 V → (Instr.loadAt 23 (.pointer (some ⟨w.heap.size, 0, none⟩))).run Tryz.prog V = .ok (.agg #[.int .i64 g, .int .i64 f, .int .i64 s]) V) := fun V hV => load_ra (hV.at HX.out.j (by omega) (by omega))
  obtain ⟨BX, hBX⟩ : ∃ BX, BX = U2.heap.size := ⟨_, rfl⟩
  rw [← hBX] at hblk hBq
  have GD : Hid (∀ V, Two (w.heap.size + 1 + 1) (w.heap.size + 1 + 1 + 1) U4 V → (Instr.loadAt 33 (.pointer (some ⟨BX, 0, none⟩))).run Tryz.prog V = .ok (.agg #[.int .i64 r', .int .i64 s', .slice a' L' c', .bool cr', .bool ar', .int .i64 lf']) V) := fun V hV => load_rd (hV.at hblk (by omega) (by omega)) rfl
  clear HF hL4 hT2 hblk hBq
  go_wp2_with (first | (refine wpList_store_at rfl 33 _ _ rfl _ _ rfl rfl HSt.out ?_) | fail)
  rw [← hBX]
  clear hBX HSt
  refine wp_region_noPanic ?_
  refine wp_region_held_drew (S := fun V => Two (w.heap.size + 1 + 1) (w.heap.size + 1 + 1 + 1) U4 V) (by kernel_rfl) (Two.drew _ _ _) (fun hHeld => ?_)
  refine tk 0 (.pointer (some ⟨w.heap.size, 0, none⟩)) (h := ?_)
  refine tk 1 (.agg #[.int .i64 g, .int .i64 f, .int .i64 s]) (hy := (yields_load (by rfl) 23 _ (by rfl) _ _ (by rfl) (GA.out))) (h := ?_)
  refine tk 2 (.int .u64 ep') (h := ?_)
  refine tk 3 (.int .i64 (E : Nat)) (h := ?_)
  refine tk 4 (.agg #[.int .i64 g, .int .i64 f, .int .i64 s, .int .u64 ep', .string ⟨#[]⟩, .slice none 0 0, .int .i64 0, .int .i64 0, .int .i64 (E : Nat)]) (h := ?_)
  refine tk 5 (.agg #[.int .i64 r', .int .i64 s', .slice a' L' c', .bool cr', .bool ar', .int .i64 lf']) (hy := (yields_load (by rfl) 33 _ (by rfl) _ _ (by rfl) (GD.out))) (h := ?_)
  refine tk 6 (.int .i64 (E : Nat)) (h := ?_)

  refine ready_store 7 rfl (by kernel_rfl) (by rfl) 43 _ _ (by rfl) _ _ (by rfl) (by rfl) hs1 hS1 ?_
  refine ready_store 8 rfl (by kernel_rfl) (by rfl) 33 _ _ (by rfl) _ _ (by rfl) (by rfl) hs2 hS2 ?_
  refine tk 9 (.int .i64 (E : Nat)) (h := ?_)
  refine wpAnyH_done (by kernel_rfl) ?_ _
  refine NoPanic.normal ?_
  go_wp2_with fail
  exact bodyPost_ret (results_jd rfl _ _ (w.heap.size + 1 + 1) (w.heap.size + 1 + 1 + 1) _ _ (.int .i64 (E : Nat)) rfl rfl rfl HE.out.1 rfl HE.out.2.1 rfl) rfl HE.out.2.2
theorem rrewind_ {w : World} {d : Dev} {x : RD} {al ea : Option Addr} {cl ec : Nat} {J : Jr} {M : Nat → Prop} (hs : RSt w d x al cl) (hEd : EdF w M ea ec J.ends) (hc : J.dead = 0 → Calm d J) (ep' : Nat) :
    Calls Tryz.prog 37 #[rjV J ea ec, rdV x al cl, .int .u64 ep'] w (RjdTo w M (rewD d J) (rewJ d J ep') (rewE d J)) := by
  by_cases hd : J.dead = 0
  · have hd' : ¬ J.dead ≠ 0 := fun e => e hd
    have e1 : rewE d J = cleanE J.a [] d := if_neg hd'
    have e2 : rewD d J = cleanD J.a [] d := if_neg hd'
    have e3 : rewJ d J ep' = ⟨J.a, ep', [], 0, cleanE J.a [] d⟩ := if_neg hd'
    rw [e1, e2, e3]
    exact rrewind_ok hs (hc hd) ep'
  · exact rrewind_dead hs hEd ep' hd
end Go.Proofs.YtjnhcanohefjiaaGreatDoor
